/-
  step and UpTo where steps digest or look at a proof (Kinds 1 and 2), given what both Verifys answer.
-/
import Derived.Test.YtbjobbkgelipmaaGreatRows
import Derived.ProofKit
import Derived.SizedLaws
import Derived.Deep.Slices
import Derived.Test.YtbjobbkgelipmaaGreatIter
import Derived.Test.YtbjobbkgelipmaaGreatBkaj
import Derived.Test.YtbjobbkgelipmaaGreatBkaa
import Derived.Test.YtbjobbkgelipmaaGreatBkaq
import Derived.Test.YtbjobbkgelipmaaGreatBkal
import Derived.Test.YtbjobbkgelipmaaGreatBkap
import Derived.Test.YtbjobbkgelipmaaGreatBkah
namespace Go.Proofs.YtbjobbkgelipmaaGreat
open Go.RowKit

/-- Both Verifys answer alike, in new memory. -/
def VerOwes : Prop := ∀ (s t : ByteArray), s.size ≤ 140737488351232 → t.size ≤ 140737488351232 → ∃ (vn : ByteArray) (vb ve : Int),
    (∀ (w : World) (b1 b2 : Nat), b1 < w.heap.size → b2 < w.heap.size → BytesAt w b1 0 s.data.toList → BytesAt w b2 0 t.data.toList →
      Calls Tryz.prog 42 #[.slice (some ⟨b1, 0, none⟩) s.size (s.size + 8), .slice (some ⟨b2, 0, none⟩) t.size (t.size + 8)] w fun e w' => e = .returned (.tuple #[.string vn, .int .u64 vb, .int .i64 ve]) ∧ Below w.heap.size w w') ∧
    (∀ (w : World), Calls Tryz.prog 43 #[.string s, .string t] w fun e w' => e = .returned (.tuple #[.string vn, .int .u64 vb, .int .i64 ve]) ∧ Below w.heap.size w w')

set_option maxHeartbeats 400000 in
set_option maxRecDepth 100000 in
theorem step_ver (hV : VerOwes) (n h sd : Int) (s t : ByteArray) (la : Option Addr) (ll lc : Nat) (a : Int) {w : World} {B : Nat} {ps hv : Value} {hs : List HoldD} (hI : Inv w B ps hv hs) (hss : s.size ≤ 140737488351232) (hts : t.size ≤ 140737488351232) (hl : (hs.length + 8) * 8 ≤ 140737488355328) :
    Calls Tryz.prog 12 #[.pointer (some ⟨B, 0, none⟩), opV 2 n h sd s t la ll lc a] w fun e w' => e = .returned (.bool true) ∧ Below B w w' ∧ ∃ hv' hs', Inv w' B ps hv' hs' ∧ hs'.length = hs.length + 8 := by
  obtain ⟨vn, vb, ve, hT, hR⟩ := hV s t hss hts
  have hBl := hI.lt
  have HF := hide fun (w' : World) (hb : Below w.heap.size w w') => free_ver n h sd s t la ll lc a (hI.later hb) hss hts hl vn vb ve hT hR
  clear hI hT hR hV
  unfold opV at *
  go_enter Tryz.func12, Tryz.ntmps12
  go_wp2_with fail
  refine (unhide HF _ ((Below.refl w.heap.size w).alloc (Nat.le_refl _) _)).mono ?_
  rintro e w1 ⟨rfl, hb, hv', hs', hI', hl'⟩
  have HE := hide (And.intro ((((Below.refl w.heap.size w).alloc (Nat.le_refl _) _).mono (by omega : B ≤ w.heap.size)).trans hb) (And.intro hI' hl'))
  clear hb hI' hl' HF
  go_wp2
  go_ret
  exact ⟨rfl, (unhide HE).1, hv', hs', (unhide HE).2.1, (unhide HE).2.2⟩

theorem inv_new (w : World) (ps : Value) : Inv (w.alloc (.cells #[ps, .slice none 0 0] 43 (0, 0))) w.heap.size ps (.slice none 0 0) [] :=
  ⟨Array.getElem?_push_size, ⟨rfl, .inl ⟨rfl, rfl⟩⟩, fun _ hx => by cases hx⟩

set_option maxHeartbeats 400000 in
set_option maxRecDepth 100000 in
theorem upto_vers (hV : VerOwes) (b off cap : Nat) (xs : List OpD) (w : World) (hm : xs.length ≤ 1466015503701) (hS : ScriptAt w b off xs) :
    Calls Tryz.prog 9 #[.slice (some ⟨b, off, none⟩) xs.length cap, .int .i64 1, .int .i64 2] w fun e w' => e = .returned (.int .i64 (-1)) ∧ Below w.heap.size w w' := by
  have HS := hide hS
  have HV := hide hV
  have hlt := hS.lt
  clear hS hV
  go_enter Tryz.func9, Tryz.ntmps9
  go_wp2
  go_loopw [8] (fun i wr => ∃ k : Nat, k ≤ xs.length ∧ i = .int .i64 k ∧ (∃ ps hv hs, Inv wr w.heap.size ps hv hs ∧ hs.length ≤ 8 * k) ∧ Below w.heap.size w wr) (fun i _ => xs.length - (intOf i).toNat)
  case atStart => exact ⟨0, Nat.zero_le _, rfl, ⟨_, _, [], inv_new _ _, by simp⟩, (Below.refl _ _).alloc (Nat.le_refl _) _⟩
  case round =>
    obtain ⟨k, hk, rfl, ⟨ps, hv, hs, hI, hlen⟩, hbel⟩ := hrel
    have Hbel := hide hbel
    have HI := hide hI
    have hz := hI.lt
    clear hbel hI
    by_cases hlt' : k < xs.length
    · obtain ⟨h0, h1, h2, h3, h4, h5, h6, h7⟩ := ((unhide HS).cells k hlt').below (unhide Hbel) hlt
      have hsm := (unhide HS).small _ (List.getElem_mem hlt')
      generalize xs[k] = x at *
      obtain ⟨xk, xn, xh, xsd, xs', xt, xla, xll, xlc, xa⟩ := x
      simp only at h0 h1 h2 h3 h4 h5 h6 h7 hsm
      obtain ⟨hsm1, hsm2⟩ := hsm
      by_cases hk1 : xk < 1
      · clear h1 h2 h3 h4 h5 h6 h7 hsm1 hsm2
        go_wp2
        go_roundw
        case rel => exact ⟨k + 1, by omega, by go_num, ⟨ps, hv, hs, unhide HI, by omega⟩, unhide Hbel⟩
        case measure => simp [intOf]; omega
      · by_cases hk2 : 2 < xk
        · clear h1 h2 h3 h4 h5 h6 h7 hsm1 hsm2
          go_wp2
          go_roundw
          case rel => exact ⟨k + 1, by omega, by go_num, ⟨ps, hv, hs, unhide HI, by omega⟩, unhide Hbel⟩
          case measure => simp [intOf]; omega
        · have hcases : xk = 1 ∨ xk = 2 := by omega
          rcases hcases with rfl | rfl
          · have hst := step_sum (.pointer (some ⟨w.heap.size, 0, none⟩)) xn xh xsd xs' xt xla xll xlc xa
            unfold opV at hst
            have Hst : Hid _ := hide hst
            clear hst hsm2
            go_wp2_with fail
            refine (unhide Hst _ hsm1).mono ?_
            rintro e w1 ⟨rfl, hb⟩
            have hI1 := (unhide HI).later hb
            have Hb1 := hide ((unhide Hbel).trans (hb.mono (by omega)))
            clear hb Hbel hz Hst h0 h1 h2 h3 h4 h5 h6 h7 HI
            have HL := hide (looks_any hI1 (by omega))
            have HI1 := hide hI1
            clear hI1
            go_wp2_with fail
            refine (unhide HL).mono ?_
            rintro e w2 ⟨rfl, d2, rfl⟩
            go_wp2
            go_roundw
            case rel => exact ⟨k + 1, by omega, by go_num, ⟨ps, hv, hs, (unhide HI1).later (below_drewN (Below.refl _ _) _), by omega⟩, below_drewN (unhide Hb1) _⟩
            case measure => simp [intOf]; omega
          · have hst := step_ver (unhide HV) xn xh xsd xs' xt xla xll xlc xa (unhide HI) hsm1 hsm2 (by omega)
            unfold opV at hst
            have Hst : Hid _ := hide hst
            clear hst hsm2
            go_wp2_with fail
            refine (unhide Hst).mono ?_
            rintro e w1 ⟨rfl, hb, hv1, hs1, hI1, hl1⟩
            have Hb1 := hide ((unhide Hbel).trans hb)
            clear hb Hbel hz Hst h0 h1 h2 h3 h4 h5 h6 h7 HI
            have HL := hide (looks_any hI1 (by omega))
            have HI1 := hide hI1
            clear hI1
            go_wp2_with fail
            refine (unhide HL).mono ?_
            rintro e w2 ⟨rfl, d2, rfl⟩
            go_wp2
            go_roundw
            case rel => exact ⟨k + 1, by omega, by go_num, ⟨ps, hv1, hs1, (unhide HI1).later (below_drewN (Below.refl _ _) _), by omega⟩, below_drewN (unhide Hb1) _⟩
            case measure => simp [intOf]; omega
    · clear HI
      go_wp2
      go_ret
      exact ⟨rfl, unhide Hbel⟩

theorem owes_verifies (hV : VerOwes) : UpToOwes 1 2 := fun b off cap xs w hm hS => upto_vers hV b off cap xs w hm hS

end Go.Proofs.YtbjobbkgelipmaaGreat

/-
  UpTo where steps make and ask books (Kinds 4 to 12).
-/
namespace Go.Proofs.YtbjobbkgelipmaaGreat
open Go.RowKit Go.Maps

/-- What a step owes of the joint state. -/
def Goes (B n : Nat) (m : Nat) (w' : World) : Prop := ∃ c ps hv hs pl, Joint w' B n c ps hv hs pl ∧ hs.length ≤ m

theorem step_books (K : SortK) {w : World} {B n : Nat} {c : Nat → Nat} {ps hv : Value} {hs : List HoldD} {pl : List Nat} (J : Joint w B n c ps hv hs pl) (hn : n < 2000000000000) (hl : (hs.length + 4) * 8 ≤ 140737488355328) (k nn h sd : Int) (s t : ByteArray) (la : Option Addr) (ll lc : Nat) (a : Int) (hk : 4 ≤ k) (hk2 : k ≤ 12)
    (hr : OpRange ⟨k, nn, h, sd, s, t, la, ll, lc, a⟩) (hss : s.size ≤ 140737488351232) (hts : t.size ≤ 140737488351232) :
    Calls Tryz.prog 12 #[.pointer (some ⟨B, 0, none⟩), opV k nn h sd s t la ll lc a] w fun e w' => e = .returned (.bool true) ∧ Below B w w' ∧ Goes B (n + 1) (hs.length + 4) w' := by
  obtain ⟨r1, r2, r3, r4⟩ := hr
  simp only at r1 r2 r3 r4
  have up : ∀ {w' : World} {c' : Nat → Nat} {ps' hv' : Value} {hs' : List HoldD} {pl' : List Nat}, Joint w' B n c' ps' hv' hs' pl' → Joint w' B (n + 1) c' ps' hv' hs' pl' := fun J => J.later (Below.refl _ _) (Nat.le_succ n)
  by_cases h4 : k = 4
  · subst h4
    exact (step_new J nn h sd s t la ll lc a).mono fun e w' ⟨he, hb, c', ps', pl', hJ⟩ => ⟨he, hb, _, _, _, _, _, up hJ, by omega⟩
  · by_cases h0 : pl.length = 0
    · exact (step_nobook J h0 k nn h sd s t la ll lc a (by omega)).mono fun e w' ⟨he, hb, hJ⟩ => ⟨he, hb, _, _, _, _, _, up hJ, by omega⟩
    · have h0' : 0 < pl.length := by omega
      have hcs : k = 5 ∨ k = 6 ∨ k = 7 ∨ k = 8 ∨ k = 9 ∨ k = 10 ∨ k = 11 ∨ k = 12 := by omega
      rcases hcs with rfl | rfl | rfl | rfl | rfl | rfl | rfl | rfl
      · exact (step_open J h0' hn nn h sd s t la ll lc a r1 r2 hss).mono fun e w' ⟨he, hb, c', hJ⟩ => ⟨he, hb, _, _, _, _, _, hJ, by omega⟩
      · exact (step_close J h0' hn nn h sd s t la ll lc a r1 r2 hss).mono fun e w' ⟨he, hb, c', hJ⟩ => ⟨he, hb, _, _, _, _, _, hJ, by omega⟩
      · exact (step_pay J h0' hn nn h sd s t la ll lc a r1 r2 hss hts r3 r4).mono fun e w' ⟨he, hb, c', hJ⟩ => ⟨he, hb, _, _, _, _, _, hJ, by omega⟩
      · exact (step_draw J h0' hn nn h sd s t la ll lc a r1 r2 hss hts r3 r4).mono fun e w' ⟨he, hb, c', hJ⟩ => ⟨he, hb, _, _, _, _, _, hJ, by omega⟩
      · exact (step_move J h0' hn nn h sd s t la ll lc a r1 r2 hss hts r3 r4).mono fun e w' ⟨he, hb, c', hJ⟩ => ⟨he, hb, _, _, _, _, _, hJ, by omega⟩
      · exact (step_bal J h0' hn nn h sd s t la ll lc a r1 r2 hss).mono fun e w' ⟨he, hb, c', hJ⟩ => ⟨he, hb, _, _, _, _, _, hJ, by omega⟩
      · exact (step_pub K J h0' hn nn h sd s t la ll lc a r1 r2 hss hl).mono fun e w' ⟨he, hb, c', hv', hs', hJ, hlen⟩ => ⟨he, hb, _, _, _, _, _, hJ, by omega⟩
      · exact (step_proof J h0' hn nn h sd s t la ll lc a r1 r2 hss hl).mono fun e w' ⟨he, hb, c', hv', hs', hJ, hlen⟩ => ⟨he, hb, _, _, _, _, _, hJ, by omega⟩

theorem joint_new (w : World) : Joint (w.alloc (.cells #[.slice none 0 0, .slice none 0 0] 43 (0, 0))) w.heap.size 0 (fun _ => 0) (.slice none 0 0) (.slice none 0 0) [] [] :=
  ⟨inv_new w _, rfl, fun _ _ => rfl, fun x hx => (by cases hx), fun _ _ => rfl, fun _ h => absurd rfl h, ⟨rfl, .inl ⟨rfl, rfl⟩⟩, fun i hi => (by simp at hi), by simp⟩

set_option maxHeartbeats 1000000 in
set_option maxRecDepth 100000 in
/-- UpTo, whatever the least and the last kind, given what a step owes. -/
theorem upto_any (least last : Int) (b off cap : Nat) (xs : List OpD) (w : World) (hm : xs.length ≤ 1466015503701) (hS : ScriptAt w b off xs) (X : Nat → World → Prop) (hX0 : X 0 (w.alloc (.cells #[.slice none 0 0, .slice none 0 0] 43 (0, 0))))
    (hXn : ∀ k w1, k < xs.length → X k w1 → X (k + 1) w1) (hXI : ∀ k w1, k ≤ xs.length → X k w1 → ∃ ps hv hs, Inv w1 w.heap.size ps hv hs ∧ hs.length ≤ 140737488355328) (hXl : ∀ k w1 d, X k w1 → X k (w1.drewN d))
    (hXs : ∀ k (hk : k < xs.length) w1, Below w.heap.size w w1 → X k w1 → least ≤ xs[k].k → xs[k].k ≤ last → Calls Tryz.prog 12 #[.pointer (some ⟨w.heap.size, 0, none⟩), opV xs[k].k xs[k].n xs[k].h xs[k].sd xs[k].s xs[k].t xs[k].la xs[k].ll xs[k].lc xs[k].a] w1 fun e w' => e = .returned (.bool true) ∧ Below w.heap.size w1 w' ∧ X (k + 1) w') :
    Calls Tryz.prog 9 #[.slice (some ⟨b, off, none⟩) xs.length cap, .int .i64 least, .int .i64 last] w fun e w' => e = .returned (.int .i64 (-1)) ∧ Below w.heap.size w w' := by
  have HS := hide hS
  have hlt := hS.lt
  have HXn := hide hXn
  have HXI := hide hXI
  have HXl := hide hXl
  have HXs := hide hXs
  have HX0 := hide hX0
  clear hS hXn hXI hXl hXs hX0
  go_enter Tryz.func9, Tryz.ntmps9
  go_wp2
  go_loopw [8] (fun i wr => ∃ k : Nat, k ≤ xs.length ∧ i = .int .i64 k ∧ Hid (X k wr) ∧ Below w.heap.size w wr) (fun i _ => xs.length - (intOf i).toNat)
  case atStart => exact ⟨0, Nat.zero_le _, rfl, HX0, (Below.refl _ _).alloc (Nat.le_refl _) _⟩
  case round =>
    obtain ⟨k, hk, rfl, HX, hbel⟩ := hrel
    have Hbel := hide hbel
    clear hbel
    by_cases hlt' : k < xs.length
    · obtain ⟨h0, h1, h2, h3, h4, h5, h6, h7⟩ := ((unhide HS).cells k hlt').below (unhide Hbel) hlt
      have hst := hide (unhide HXs k hlt' wr (unhide Hbel) (unhide HX))
      have HNx := hide (unhide HXn k wr hlt' (unhide HX))
      generalize xs[k] = x at *
      obtain ⟨xk, xn, xh, xsd, xs', xt, xla, xll, xlc, xa⟩ := x
      simp only at h0 h1 h2 h3 h4 h5 h6 h7
      by_cases hk1 : xk < least
      · clear h1 h2 h3 h4 h5 h6 h7 hst
        go_wp2
        go_roundw
        case rel => exact ⟨k + 1, by omega, by go_num, HNx, unhide Hbel⟩
        case measure => simp [intOf]; omega
      · by_cases hk2 : last < xk
        · clear h1 h2 h3 h4 h5 h6 h7 hst
          go_wp2
          go_roundw
          case rel => exact ⟨k + 1, by omega, by go_num, HNx, unhide Hbel⟩
          case measure => simp [intOf]; omega
        · have hst2 := unhide hst (by simp only; omega) (by simp only; omega)
          unfold opV at hst2
          have Hst := hide hst2
          clear hst2 hst HNx HX
          go_wp2_with fail
          refine (unhide Hst).mono ?_
          rintro e w1 ⟨rfl, hb, hX1⟩
          obtain ⟨ps, hv, hs, hI1, hl1⟩ := unhide HXI (k + 1) w1 (by omega) hX1
          have Hb1 := hide ((unhide Hbel).trans hb)
          have HX1 := hide hX1
          have HL := hide (looks_any hI1 hl1)
          clear hb Hbel Hst h0 h1 h2 h3 h4 h5 h6 h7 hI1 hX1 hl1
          go_wp2_with fail
          refine (unhide HL).mono ?_
          rintro e w2 ⟨rfl, d2, rfl⟩
          clear HL
          go_wp2
          go_roundw
          case rel => exact ⟨k + 1, by omega, by go_num, unhide HXl (k + 1) w1 d2 (unhide HX1), below_drewN (unhide Hb1) _⟩
          case measure => simp [intOf]; omega
    · clear HX
      go_wp2
      go_ret
      exact ⟨rfl, unhide Hbel⟩

theorem upto_books (K : SortK) (b off cap : Nat) (xs : List OpD) (w : World) (hm : xs.length ≤ 1466015503701) (hS : ScriptAt w b off xs) (hR : ∀ x ∈ xs, OpRange x) :
    Calls Tryz.prog 9 #[.slice (some ⟨b, off, none⟩) xs.length cap, .int .i64 4, .int .i64 12] w fun e w' => e = .returned (.int .i64 (-1)) ∧ Below w.heap.size w w' := by
  refine upto_any 4 12 b off cap xs w hm hS (fun k w1 => Goes w.heap.size k (4 * k) w1) ⟨_, _, _, _, _, joint_new w, by simp⟩ ?_ ?_ ?_ ?_
  · rintro k w1 _ ⟨c, ps, hv, hs, pl, J, hl⟩
    exact ⟨c, ps, hv, hs, pl, J.later (Below.refl _ _) (Nat.le_succ k), by omega⟩
  · rintro k w1 hk ⟨c, ps, hv, hs, pl, J, hl⟩
    exact ⟨ps, hv, hs, J.inv, by omega⟩
  · rintro k w1 d ⟨c, ps, hv, hs, pl, J, hl⟩
    exact ⟨c, ps, hv, hs, pl, J.later (below_drewN (Below.refl _ _) _) (Nat.le_refl _), hl⟩
  · rintro k hk w1 _ ⟨c, ps, hv, hs, pl, J, hl⟩ hk1 hk2
    have hx := List.getElem_mem hk
    have hr := hR _ hx
    have hsm := hS.small _ hx
    refine (step_books K J (by omega) (by omega) _ _ _ _ _ _ _ _ _ _ hk1 hk2 hr hsm.1 hsm.2).mono ?_
    rintro e w' ⟨he, hb, c', ps', hv', hs', pl', hJ, hl'⟩
    exact ⟨he, hb, c', ps', hv', hs', pl', hJ, by omega⟩

theorem owes_books (K : SortK) : UpToOwesR 4 12 := fun b off cap xs w hm hS hR => upto_books K b off cap xs w hm hS (fun x hx => (hR x hx).1)

end Go.Proofs.YtbjobbkgelipmaaGreat

/-
  The argument opened: a script that was handed in lies in memory.
-/
namespace Go.Proofs.YtbjobbkgelipmaaGreat
open Go.ChangeShapes Go.WideShapes Go.ChangeAt Go.RowKit

theorem Tryz.own : ownKnob Tryz.prog.godebug = none := by kernel_rfl
theorem Tryz.laidOut : laidOutB Tryz.prog = true := by kernel_rfl
theorem Tryz.cellsOp : Tryz.prog.cellsOf 38 = 8 := by kernel_rfl
theorem Tryz.cellsInt : Tryz.prog.cellsOf 3 = 1 := by kernel_rfl
theorem Tryz.cellsStr : Tryz.prog.cellsOf 9 = 1 := by kernel_rfl
theorem Tryz.cellsStrs : Tryz.prog.cellsOf 36 = 1 := by kernel_rfl
theorem Tryz.cellsU64 : Tryz.prog.cellsOf 26 = 1 := by kernel_rfl
theorem Tryz.cellsCfg : Tryz.prog.cellsOf 35 = 2 := by kernel_rfl
theorem Tryz.bytesOp : Tryz.prog.bytesOf 38 = 96 := by kernel_rfl

def opList (x : OpD) : List Value := [.int .i64 x.k, .int .i64 x.n, .int .i64 x.h, .int .u64 x.sd, .string x.s, .string x.t, .slice x.la x.ll x.lc, .int .u64 x.a]

set_option maxRecDepth 100000 in
/-- A step opened: its eight cells; how long its texts are. -/
theorem op_open {H : Type} {enc : TypeId × Value → H} {W : World} {base : Nat} {spare : Nat → Bool} {held : Bool} {fuel : Nat} {cs : List Value} {y : DataW H × List MemPlace}
    (h : DataW.trod enc Tryz.prog W base spare held fuel 38 cs = some y) (hsz : ∀ m ∈ y.1.weights Tryz.prog 38, m ≤ reachBytes) :
    ∃ x : OpD, cs = opList x ∧ x.s.size ≤ 140737488351232 ∧ x.t.size ≤ 140737488351232 := by
  obtain ⟨xs, n, _, rfl, hl, hlen, hf⟩ := DataW.trod_struct Tryz.underlying38 h
  rw [Tryz.cellsOp] at hl
  have hlen7 : xs.length = 7 := hlen
  match xs, hlen7 with
  | [y0, y1, y2, y3, y4, y5, y6], _ =>
  match cs, hl with
  | [c0, c1, c2, c3, c4, c5, c6, c7], _ =>
  have f0 : DataW.trod enc Tryz.prog W base spare held n 3 (([c0, c1, c2, c3, c4, c5, c6, c7].drop 0).take (Tryz.prog.cellsOf 3)) = ([y0, y1, y2, y3, y4, y5, y6] : List (DataW H × List MemPlace))[0]? := hf 0 _ rfl
  rw [Tryz.cellsInt] at f0
  have g0 : DataW.trod enc Tryz.prog W base spare held n 3 [c0] = some y0 := f0
  have f1 : DataW.trod enc Tryz.prog W base spare held n 3 (([c0, c1, c2, c3, c4, c5, c6, c7].drop 1).take (Tryz.prog.cellsOf 3)) = ([y0, y1, y2, y3, y4, y5, y6] : List (DataW H × List MemPlace))[1]? := hf 1 _ rfl
  rw [Tryz.cellsInt] at f1
  have g1 : DataW.trod enc Tryz.prog W base spare held n 3 [c1] = some y1 := f1
  have f2 : DataW.trod enc Tryz.prog W base spare held n 35 (([c0, c1, c2, c3, c4, c5, c6, c7].drop 2).take (Tryz.prog.cellsOf 35)) = ([y0, y1, y2, y3, y4, y5, y6] : List (DataW H × List MemPlace))[2]? := hf 2 _ rfl
  rw [Tryz.cellsCfg] at f2
  have g2 : DataW.trod enc Tryz.prog W base spare held n 35 [c2, c3] = some y2 := f2
  have f3 : DataW.trod enc Tryz.prog W base spare held n 9 (([c0, c1, c2, c3, c4, c5, c6, c7].drop 4).take (Tryz.prog.cellsOf 9)) = ([y0, y1, y2, y3, y4, y5, y6] : List (DataW H × List MemPlace))[3]? := hf 3 _ rfl
  rw [Tryz.cellsStr] at f3
  have g3 : DataW.trod enc Tryz.prog W base spare held n 9 [c4] = some y3 := f3
  have f4 : DataW.trod enc Tryz.prog W base spare held n 9 (([c0, c1, c2, c3, c4, c5, c6, c7].drop 5).take (Tryz.prog.cellsOf 9)) = ([y0, y1, y2, y3, y4, y5, y6] : List (DataW H × List MemPlace))[4]? := hf 4 _ rfl
  rw [Tryz.cellsStr] at f4
  have g4 : DataW.trod enc Tryz.prog W base spare held n 9 [c5] = some y4 := f4
  have f5 : DataW.trod enc Tryz.prog W base spare held n 36 (([c0, c1, c2, c3, c4, c5, c6, c7].drop 6).take (Tryz.prog.cellsOf 36)) = ([y0, y1, y2, y3, y4, y5, y6] : List (DataW H × List MemPlace))[5]? := hf 5 _ rfl
  rw [Tryz.cellsStrs] at f5
  have g5 : DataW.trod enc Tryz.prog W base spare held n 36 [c6] = some y5 := f5
  have f6 : DataW.trod enc Tryz.prog W base spare held n 26 (([c0, c1, c2, c3, c4, c5, c6, c7].drop 7).take (Tryz.prog.cellsOf 26)) = ([y0, y1, y2, y3, y4, y5, y6] : List (DataW H × List MemPlace))[6]? := hf 6 _ rfl
  rw [Tryz.cellsU64] at f6
  have g6 : DataW.trod enc Tryz.prog W base spare held n 26 [c7] = some y6 := f6
  clear f0 f1 f2 f3 f4 f5 f6 hf
  obtain ⟨k, e0, rfl, _⟩ := DataW.trod_int Tryz.underlying3 g0
  obtain ⟨nn, e1, rfl, _⟩ := DataW.trod_int Tryz.underlying3 g1
  obtain ⟨z0, z1, m, rfl, _, t0, t1⟩ := trod_struct2 Tryz.underlying35 g2
  have t0a : DataW.trod enc Tryz.prog W base spare held m 3 (([c2, c3].drop 0).take (Tryz.prog.cellsOf 3)) = some z0 := t0
  have t1a : DataW.trod enc Tryz.prog W base spare held m 26 (([c2, c3].drop 1).take (Tryz.prog.cellsOf 26)) = some z1 := t1
  rw [Tryz.cellsInt] at t0a
  rw [Tryz.cellsU64] at t1a
  have t0' : DataW.trod enc Tryz.prog W base spare held m 3 [c2] = some z0 := t0a
  have t1' : DataW.trod enc Tryz.prog W base spare held m 26 [c3] = some z1 := t1a
  obtain ⟨hh, e2, rfl, _⟩ := DataW.trod_int Tryz.underlying3 t0'
  obtain ⟨sd, e3, rfl, _⟩ := DataW.trod_int Tryz.underlying26 t1'
  obtain ⟨s, e4, rfl, _⟩ := DataW.trod_string Tryz.underlying9 g3
  obtain ⟨t, e5, rfl, _⟩ := DataW.trod_string Tryz.underlying9 g4
  obtain ⟨a, e7, rfl, _⟩ := DataW.trod_int Tryz.underlying26 g6
  obtain ⟨la, ll, lc, e6⟩ : ∃ la ll lc, [c6] = [Value.slice la ll lc] := by
    rcases Deep.open_slice Tryz.underlying36 g5 with ⟨h, _⟩ | ⟨a, len, cap, _, _, _, _, h, _⟩
    · exact ⟨_, _, _, h⟩
    · exact ⟨_, _, _, h⟩
  simp only [List.cons.injEq, and_true] at e0 e1 e2 e3 e4 e5 e6 e7
  subst e0 e1 e2 e3 e4 e5 e6 e7
  refine ⟨⟨k, nn, hh, sd, s, t, la, ll, lc, a⟩, rfl, ?_, ?_⟩
  · have := hsz s.data.toList.length (by simp [DataW.weights, DataW.weightsEach, Tryz.underlying38])
    simpa [reachBytes] using this
  · have := hsz t.data.toList.length (by simp [DataW.weights, DataW.weightsEach, Tryz.underlying38])
    simpa [reachBytes] using this

theorem weightsAll_mem {H : Type} {P : Program} {e : TypeId} : ∀ {l : List (DataW H)} {d : DataW H}, d ∈ l → ∀ m ∈ d.weights P e, m ∈ DataW.weightsAll P e l
  | [], _, h, _, _ => by cases h
  | x :: l, d, h, m, hm => by
    rw [DataW.weightsAll, List.mem_append]
    rcases List.mem_cons.1 h with rfl | h
    · exact Or.inl hm
    · exact Or.inr (weightsAll_mem h m hm)

/-- A script opened. -/
theorem script_open {H : Type} {enc : TypeId × Value → H} {W : World} {fuel : Nat} {a0 : Option Addr} {len cap : Nat} {y : DataW H × List MemPlace}
    (h : DataW.trod enc Tryz.prog W 0 (fun _ => true) true fuel 22 [.slice a0 len cap] = some y) (hsz : ∀ m ∈ y.1.weights Tryz.prog 22, m ≤ reachBytes) :
    len = 0 ∨ ∃ b off xs, a0 = some ⟨b, off, none⟩ ∧ xs.length = len ∧ len ≤ 1466015503701 ∧ ScriptAt W b off xs := by
  rcases Deep.open_slice Tryz.underlying22 h with ⟨hcs, _⟩ | ⟨a, len', cap', m, n, D, Pl, hcs, _, hl, hm, hmm, rfl, hel⟩
  · simp only [List.cons.injEq, Value.slice.injEq, and_true] at hcs
    exact Or.inl hcs.2.1
  · simp only [List.cons.injEq, Value.slice.injEq, and_true] at hcs
    obtain ⟨rfl, rfl, rfl⟩ := hcs
    simp only [if_true] at hmm
    subst hmm
    by_cases h0 : len = 0
    · exact Or.inl h0
    right
    have hw : (DataW.slice ((List.range len).map D) ((List.range (m - len)).map fun j => D (len + j))).weights Tryz.prog 22 =
        (((List.range len).map D).length + ((List.range (m - len)).map fun j => D (len + j)).length) * Tryz.prog.bytesOf 38 :: (DataW.weightsAll Tryz.prog 38 ((List.range len).map D) ++ DataW.weightsAll Tryz.prog 38 ((List.range (m - len)).map fun j => D (len + j))) := by
      simp only [DataW.weights, Tryz.underlying22]
    rw [hw] at hsz
    have hb := hsz _ List.mem_cons_self
    rw [Tryz.bytesOp] at hb
    simp only [List.length_map, List.length_range, reachBytes] at hb
    have hop : ∀ i, i < len → ∃ x : OpD, (W.cells? 0 (a.add (i * 8)) 8 = some (opList x)) ∧ x.s.size ≤ 140737488351232 ∧ x.t.size ≤ 140737488351232 := by
      intro i hi
      obtain ⟨cs', hc, ht⟩ := hel i (by omega)
      rw [Tryz.cellsOp] at hc
      obtain ⟨x, rfl, h1, h2⟩ := op_open ht (fun k hk => hsz k (List.mem_cons_of_mem _ (List.mem_append_left _ (weightsAll_mem (List.mem_map.2 ⟨i, by simpa using hi, rfl⟩) k hk))))
      exact ⟨x, hc, h1, h2⟩
    have inh : Inhabited OpD := ⟨⟨0, 0, 0, 0, ⟨#[]⟩, ⟨#[]⟩, none, 0, 0, 0⟩⟩
    obtain ⟨f, hfx⟩ := Deep.choose_lt hop
    obtain ⟨b, off, spot⟩ := a
    have hspot : spot = none := by
      have h1 := (World.cells?_some (hfx 0 (by omega)).1).2.2 0 (by omega)
      have h2 : W.cell? ((⟨b, off, spot⟩ : Addr).add (0 * 8 + 0)) = some (Value.int .i64 (f 0).k) := by rw [← Deep.add_add]; exact h1
      simpa [Addr.add] using World.cell?_spot h2
    subst hspot
    have hcell : ∀ i, i < len → ∀ j, j < 8 → W.cell? ⟨b, off + i * 8 + j, none⟩ = (opList (f i))[j]? := by
      intro i hi j hj
      have h1 := (World.cells?_some (hfx i hi).1).2.2 j hj
      rw [Deep.add_add, addr_add, ← Nat.add_assoc] at h1
      exact h1
    refine ⟨b, off, (List.range len).map f, rfl, by simp, by omega, ?_, ?_, ?_⟩
    · exact World.cells?_block (hfx 0 (by omega)).1 (by omega)
    · intro i hi
      have hi' : i < len := by simpa using hi
      have e : ((List.range len).map f)[i] = f i := by simp
      rw [e]
      have c := hcell i hi'
      exact ⟨c 0 (by omega), c 1 (by omega), c 2 (by omega), c 3 (by omega), c 4 (by omega), c 5 (by omega), c 6 (by omega), c 7 (by omega)⟩
    · intro x hx
      obtain ⟨i, hi, rfl⟩ := List.mem_map.1 hx
      exact (hfx i (by simpa using hi)).2

end Go.Proofs.YtbjobbkgelipmaaGreat

/-
  A script that was handed in, opened, with the ranges of its numbers.
-/
namespace Go.Proofs.YtbjobbkgelipmaaGreat
open Go.ChangeShapes Go.WideShapes Go.ChangeAt Go.RowKit

theorem wi_i64 {n : Int} (h : (Lit.int .i64 n).wf = true) : -9223372036854775808 ≤ n ∧ n < 9223372036854775808 := by
  simp only [Lit.wf, Bool.and_eq_true, decide_eq_true_eq] at h
  have e1 : IntKind.i64.min = -9223372036854775808 := rfl
  have e2 : IntKind.i64.max = 9223372036854775807 := rfl
  omega
theorem wi_u64 {n : Int} (h : (Lit.int .u64 n).wf = true) : 0 ≤ n ∧ n < 18446744073709551616 := by
  simp only [Lit.wf, Bool.and_eq_true, decide_eq_true_eq] at h
  have e1 : IntKind.u64.min = 0 := rfl
  have e2 : IntKind.u64.max = 18446744073709551615 := rfl
  omega

set_option maxRecDepth 100000 in
/-- A step opened: its eight cells; how long its texts are. -/
theorem op_openR {H : Type} {enc : TypeId × Value → H} {W : World} {base : Nat} {spare : Nat → Bool} {held : Bool} {fuel : Nat} {cs : List Value} {y : DataW H × List MemPlace}
    (h : DataW.trod enc Tryz.prog W base spare held fuel 38 cs = some y) (hsz : ∀ m ∈ y.1.weights Tryz.prog 38, m ≤ reachBytes) :
    ∃ x : OpD, cs = opList x ∧ x.s.size ≤ 140737488351232 ∧ x.t.size ≤ 140737488351232 ∧ (-9223372036854775808 ≤ x.n ∧ x.n < 9223372036854775808 ∧ 0 ≤ x.a ∧ x.a < 18446744073709551616) := by
  obtain ⟨xs, n, _, rfl, hl, hlen, hf⟩ := DataW.trod_struct Tryz.underlying38 h
  rw [Tryz.cellsOp] at hl
  have hlen7 : xs.length = 7 := hlen
  match xs, hlen7 with
  | [y0, y1, y2, y3, y4, y5, y6], _ =>
  match cs, hl with
  | [c0, c1, c2, c3, c4, c5, c6, c7], _ =>
  have f0 : DataW.trod enc Tryz.prog W base spare held n 3 (([c0, c1, c2, c3, c4, c5, c6, c7].drop 0).take (Tryz.prog.cellsOf 3)) = ([y0, y1, y2, y3, y4, y5, y6] : List (DataW H × List MemPlace))[0]? := hf 0 _ rfl
  rw [Tryz.cellsInt] at f0
  have g0 : DataW.trod enc Tryz.prog W base spare held n 3 [c0] = some y0 := f0
  have f1 : DataW.trod enc Tryz.prog W base spare held n 3 (([c0, c1, c2, c3, c4, c5, c6, c7].drop 1).take (Tryz.prog.cellsOf 3)) = ([y0, y1, y2, y3, y4, y5, y6] : List (DataW H × List MemPlace))[1]? := hf 1 _ rfl
  rw [Tryz.cellsInt] at f1
  have g1 : DataW.trod enc Tryz.prog W base spare held n 3 [c1] = some y1 := f1
  have f2 : DataW.trod enc Tryz.prog W base spare held n 35 (([c0, c1, c2, c3, c4, c5, c6, c7].drop 2).take (Tryz.prog.cellsOf 35)) = ([y0, y1, y2, y3, y4, y5, y6] : List (DataW H × List MemPlace))[2]? := hf 2 _ rfl
  rw [Tryz.cellsCfg] at f2
  have g2 : DataW.trod enc Tryz.prog W base spare held n 35 [c2, c3] = some y2 := f2
  have f3 : DataW.trod enc Tryz.prog W base spare held n 9 (([c0, c1, c2, c3, c4, c5, c6, c7].drop 4).take (Tryz.prog.cellsOf 9)) = ([y0, y1, y2, y3, y4, y5, y6] : List (DataW H × List MemPlace))[3]? := hf 3 _ rfl
  rw [Tryz.cellsStr] at f3
  have g3 : DataW.trod enc Tryz.prog W base spare held n 9 [c4] = some y3 := f3
  have f4 : DataW.trod enc Tryz.prog W base spare held n 9 (([c0, c1, c2, c3, c4, c5, c6, c7].drop 5).take (Tryz.prog.cellsOf 9)) = ([y0, y1, y2, y3, y4, y5, y6] : List (DataW H × List MemPlace))[4]? := hf 4 _ rfl
  rw [Tryz.cellsStr] at f4
  have g4 : DataW.trod enc Tryz.prog W base spare held n 9 [c5] = some y4 := f4
  have f5 : DataW.trod enc Tryz.prog W base spare held n 36 (([c0, c1, c2, c3, c4, c5, c6, c7].drop 6).take (Tryz.prog.cellsOf 36)) = ([y0, y1, y2, y3, y4, y5, y6] : List (DataW H × List MemPlace))[5]? := hf 5 _ rfl
  rw [Tryz.cellsStrs] at f5
  have g5 : DataW.trod enc Tryz.prog W base spare held n 36 [c6] = some y5 := f5
  have f6 : DataW.trod enc Tryz.prog W base spare held n 26 (([c0, c1, c2, c3, c4, c5, c6, c7].drop 7).take (Tryz.prog.cellsOf 26)) = ([y0, y1, y2, y3, y4, y5, y6] : List (DataW H × List MemPlace))[6]? := hf 6 _ rfl
  rw [Tryz.cellsU64] at f6
  have g6 : DataW.trod enc Tryz.prog W base spare held n 26 [c7] = some y6 := f6
  clear f0 f1 f2 f3 f4 f5 f6 hf
  obtain ⟨k, e0, rfl, _⟩ := DataW.trod_int Tryz.underlying3 g0
  obtain ⟨nn, e1, rfl, w1⟩ := DataW.trod_int Tryz.underlying3 g1
  obtain ⟨z0, z1, m, rfl, _, t0, t1⟩ := trod_struct2 Tryz.underlying35 g2
  have t0a : DataW.trod enc Tryz.prog W base spare held m 3 (([c2, c3].drop 0).take (Tryz.prog.cellsOf 3)) = some z0 := t0
  have t1a : DataW.trod enc Tryz.prog W base spare held m 26 (([c2, c3].drop 1).take (Tryz.prog.cellsOf 26)) = some z1 := t1
  rw [Tryz.cellsInt] at t0a
  rw [Tryz.cellsU64] at t1a
  have t0' : DataW.trod enc Tryz.prog W base spare held m 3 [c2] = some z0 := t0a
  have t1' : DataW.trod enc Tryz.prog W base spare held m 26 [c3] = some z1 := t1a
  obtain ⟨hh, e2, rfl, _⟩ := DataW.trod_int Tryz.underlying3 t0'
  obtain ⟨sd, e3, rfl, _⟩ := DataW.trod_int Tryz.underlying26 t1'
  obtain ⟨s, e4, rfl, _⟩ := DataW.trod_string Tryz.underlying9 g3
  obtain ⟨t, e5, rfl, _⟩ := DataW.trod_string Tryz.underlying9 g4
  obtain ⟨a, e7, rfl, w7⟩ := DataW.trod_int Tryz.underlying26 g6
  obtain ⟨la, ll, lc, e6⟩ : ∃ la ll lc, [c6] = [Value.slice la ll lc] := by
    rcases Deep.open_slice Tryz.underlying36 g5 with ⟨h, _⟩ | ⟨a, len, cap, _, _, _, _, h, _⟩
    · exact ⟨_, _, _, h⟩
    · exact ⟨_, _, _, h⟩
  simp only [List.cons.injEq, and_true] at e0 e1 e2 e3 e4 e5 e6 e7
  subst e0 e1 e2 e3 e4 e5 e6 e7
  refine ⟨⟨k, nn, hh, sd, s, t, la, ll, lc, a⟩, rfl, ?_, ?_, (wi_i64 w1).1, (wi_i64 w1).2, (wi_u64 w7).1, (wi_u64 w7).2⟩
  · have := hsz s.data.toList.length (by simp [DataW.weights, DataW.weightsEach, Tryz.underlying38])
    simpa [reachBytes] using this
  · have := hsz t.data.toList.length (by simp [DataW.weights, DataW.weightsEach, Tryz.underlying38])
    simpa [reachBytes] using this

/-- A script opened. -/
theorem script_openR {H : Type} {enc : TypeId × Value → H} {W : World} {fuel : Nat} {a0 : Option Addr} {len cap : Nat} {y : DataW H × List MemPlace}
    (h : DataW.trod enc Tryz.prog W 0 (fun _ => true) true fuel 22 [.slice a0 len cap] = some y) (hsz : ∀ m ∈ y.1.weights Tryz.prog 22, m ≤ reachBytes) :
    len = 0 ∨ ∃ b off xs, a0 = some ⟨b, off, none⟩ ∧ xs.length = len ∧ len ≤ 1466015503701 ∧ ScriptAt W b off xs ∧ (∀ x ∈ xs, (-9223372036854775808 ≤ x.n ∧ x.n < 9223372036854775808 ∧ 0 ≤ x.a ∧ x.a < 18446744073709551616)) := by
  rcases Deep.open_slice Tryz.underlying22 h with ⟨hcs, _⟩ | ⟨a, len', cap', m, n, D, Pl, hcs, _, hl, hm, hmm, rfl, hel⟩
  · simp only [List.cons.injEq, Value.slice.injEq, and_true] at hcs
    exact Or.inl hcs.2.1
  · simp only [List.cons.injEq, Value.slice.injEq, and_true] at hcs
    obtain ⟨rfl, rfl, rfl⟩ := hcs
    simp only [if_true] at hmm
    subst hmm
    by_cases h0 : len = 0
    · exact Or.inl h0
    right
    have hw : (DataW.slice ((List.range len).map D) ((List.range (m - len)).map fun j => D (len + j))).weights Tryz.prog 22 =
        (((List.range len).map D).length + ((List.range (m - len)).map fun j => D (len + j)).length) * Tryz.prog.bytesOf 38 :: (DataW.weightsAll Tryz.prog 38 ((List.range len).map D) ++ DataW.weightsAll Tryz.prog 38 ((List.range (m - len)).map fun j => D (len + j))) := by
      simp only [DataW.weights, Tryz.underlying22]
    rw [hw] at hsz
    have hb := hsz _ List.mem_cons_self
    rw [Tryz.bytesOp] at hb
    simp only [List.length_map, List.length_range, reachBytes] at hb
    have hop : ∀ i, i < len → ∃ x : OpD, (W.cells? 0 (a.add (i * 8)) 8 = some (opList x)) ∧ x.s.size ≤ 140737488351232 ∧ x.t.size ≤ 140737488351232 ∧ (-9223372036854775808 ≤ x.n ∧ x.n < 9223372036854775808 ∧ 0 ≤ x.a ∧ x.a < 18446744073709551616) := by
      intro i hi
      obtain ⟨cs', hc, ht⟩ := hel i (by omega)
      rw [Tryz.cellsOp] at hc
      obtain ⟨x, rfl, h1, h2, h3⟩ := op_openR ht (fun k hk => hsz k (List.mem_cons_of_mem _ (List.mem_append_left _ (weightsAll_mem (List.mem_map.2 ⟨i, by simpa using hi, rfl⟩) k hk))))
      exact ⟨x, hc, h1, h2, h3⟩
    have inh : Inhabited OpD := ⟨⟨0, 0, 0, 0, ⟨#[]⟩, ⟨#[]⟩, none, 0, 0, 0⟩⟩
    obtain ⟨f, hfx⟩ := Deep.choose_lt hop
    obtain ⟨b, off, spot⟩ := a
    have hspot : spot = none := by
      have h1 := (World.cells?_some (hfx 0 (by omega)).1).2.2 0 (by omega)
      have h2 : W.cell? ((⟨b, off, spot⟩ : Addr).add (0 * 8 + 0)) = some (Value.int .i64 (f 0).k) := by rw [← Deep.add_add]; exact h1
      simpa [Addr.add] using World.cell?_spot h2
    subst hspot
    have hcell : ∀ i, i < len → ∀ j, j < 8 → W.cell? ⟨b, off + i * 8 + j, none⟩ = (opList (f i))[j]? := by
      intro i hi j hj
      have h1 := (World.cells?_some (hfx i hi).1).2.2 j hj
      rw [Deep.add_add, addr_add, ← Nat.add_assoc] at h1
      exact h1
    refine ⟨b, off, (List.range len).map f, rfl, by simp, by omega, ⟨?_, ?_, ?_⟩, ?_⟩
    · exact World.cells?_block (hfx 0 (by omega)).1 (by omega)
    · intro i hi
      have hi' : i < len := by simpa using hi
      have e : ((List.range len).map f)[i] = f i := by simp
      rw [e]
      have c := hcell i hi'
      exact ⟨c 0 (by omega), c 1 (by omega), c 2 (by omega), c 3 (by omega), c 4 (by omega), c 5 (by omega), c 6 (by omega), c 7 (by omega)⟩
    · intro x hx
      obtain ⟨i, hi, rfl⟩ := List.mem_map.1 hx
      exact ⟨(hfx i (by simpa using hi)).2.1, (hfx i (by simpa using hi)).2.2.1⟩
    · intro x hx
      obtain ⟨i, hi, rfl⟩ := List.mem_map.1 hx
      exact (hfx i (by simpa using hi)).2.2.2

end Go.Proofs.YtbjobbkgelipmaaGreat

/-
  What slices.Sorted(maps.Keys(m)) gives, by the library's contracts.
-/
namespace Go.Proofs.YtbjobbkgelipmaaGreat
open Go.RowKit Go.Maps Go.Sort Go.Shelf

theorem Tryz.sortsL (m : Nat) : AnyZ.SortsIn Tryz.prog Tryz.sortedL_ren Fence.wide m :=
  ⟨fun blk off cap ss W hH hblk hsz => callsIn_wide.2 (AnyM.slices_Sort_string Tryz.sortL blk off cap ss W hH hblk hsz),
   fun p cap W => callsIn_wide.2 (AnyM.slices_Sort_string_none Tryz.sortL p cap W)⟩

set_option maxHeartbeats 1000000 in
theorem sortk : SortK := ⟨
  fun mb W => (callsIn_wide (n := 5)).1 (AnyZ.keys_in Tryz.keysL Fence.wide 5 trivial rfl mb W),
  fun b nn D0 w hown hsz => (callsIn_wide (n := 5)).1 (by
    have hbl := hown.lt
    have hseq : SeqGives Fence.wide 2 Tryz.prog 90 #[.pointer (some ⟨w.heap.size, 0, none⟩)] encStr (fun ss => ss.Perm (strKeys D0)) (Maps.size D0) (w.alloc (.cells #[.map (some b)] 86)) :=
      AnyZ.keys_gives (ρ := Tryz.keysL_ren) { Tryz.keysL with } Fence.wide _ trivial rfl (by omega) w.heap.size b nn D0 _ (by simp) (by simp) (by
        obtain ⟨es, clock, hb, Ft, hs, hD⟩ := hown
        exact ⟨es, clock, (Below.heap_alloc _ _ b hbl).trans hb, Ft, hs, hD⟩)
    exact AnyZ.sorted_in Tryz.sortedL Fence.wide 5 trivial trivial trivial trivial rfl (by omega) (Tryz.sortsL _) (enters_of Tryz.func89 (by kernel_rfl) rfl) 90 #[.pointer (some ⟨w.heap.size, 0, none⟩)] trivial (enters_of Tryz.func90 (by kernel_rfl) rfl) _ _ (by unfold maxLen; omega) (by omega) _ hseq)⟩

#print axioms sortk

end Go.Proofs.YtbjobbkgelipmaaGreat

/-
  Books: the law's walk, and the statement.
-/
namespace Go.Proofs.YtbjobbkgelipmaaGreat
open Go.ChangeShapes Go.WideShapes Go.ChangeAt Go.RowKit

set_option maxHeartbeats 400000 in
theorem books_any (a0 : Option Addr) (len cap : Nat) (w : World) (hU : ∀ w', Below w.heap.size w w' → Calls Tryz.prog 9 #[.slice a0 len cap, .int .i64 4, .int .i64 12] w' fun e w'' => e = .returned (.int .i64 (-1)) ∧ Below w'.heap.size w' w'') :
    Calls Tryz.prog 6 #[.slice a0 len cap] w fun e w' => e = .returned (.bool true) ∧ Below w.heap.size w w' := by
  have HU := hide hU
  clear hU
  go_enter Tryz.func6, Tryz.ntmps6
  go_wp2_with fail
  refine (example_any 4 12 (owes_books sortk) _).mono ?_
  rintro e w1 ⟨rfl, hb1⟩
  go_wp2_with fail
  refine (unhide HU _ hb1).mono ?_
  rintro e w2 ⟨rfl, hb2⟩
  have HB := hide (hb1.trans (hb2.mono hb1.size))
  clear hb1 hb2 HU
  go_wp2
  go_ret
  exact ⟨rfl, unhide HB⟩

set_option maxRecDepth 100000 in
theorem books_lifted (os : Os) (started : os.Started) (H : Type) (enc : TypeId × Value → H) :
    ReturnsInHanded {} Tryz.checked os 6 .any (Rows.booksSpec.pre6 enc Tryz.prog Tryz.f6 Rows.booksRow.domain false) (Rows.booksSpec.post enc Tryz.prog Tryz.f6 false true false false) := by
  refine returnsInHanded_of_change_sized (C := Tryz.checked) Tryz.own started (by kernel_rfl) Tryz.func6
    (ChangeSpec.witness6 (enc := enc) (C := Tryz.checked) false ⟨#[], #[.slice none 0 0], []⟩ 8 (by kernel_rfl) (by kernel_rfl) (by kernel_rfl) (by kernel_rfl)) ?_
  intro W base args ds gs before hval0 hW _ hsz0 _
  have hsz : (DataW.weightsEach Tryz.prog (Tryz.f6.params.toList ++ Rows.booksSpec.plain.varTypes Tryz.prog) (ds ++ gs)).all (· ≤ reachBytes) = true := hsz0
  clear hsz0
  have hval : ∀ (j : Nat) t v, Tryz.f6.params[j]? = some t → args[j]? = some v → Value.okWide Tryz.prog W .any base t v := hval0
  have hW' := hW
  obtain ⟨p, q, hA0, hVr, rfl, _, _⟩ := hW
  have hA : DataW.TrodAll enc Tryz.prog W 0 (fun _ => true) true Tryz.f6.params.toList args.toList ds p := hA0
  rw [Tryz.params6] at hA hval hsz
  obtain ⟨v0, d0, rfl, rfl, h0⟩ := trodAll_one hA
  obtain ⟨rfl, rfl⟩ := trodVars_none hVr
  obtain ⟨a0, len, cap, rfl⟩ := okWide_slice Tryz.underlying22 (hval 0 22 v0 rfl rfl)
  have h0k := h0
  obtain ⟨fuel, hf⟩ := h0
  clear hA0 hval0
  simp only [List.append_nil] at hW'
  have hlt : ∀ x ∈ p, x.block < W.heap.size := fun x hx => by simpa using hW'.lt x hx
  have hargs : ∀ (W' : World), Below W.heap.size W W' → DataW.Trod enc Tryz.prog W' 0 (fun b => decide (b < W.heap.size)) true 22 (.slice a0 len cap) d0 p :=
    fun W' hn => Below.trod Tryz.laidOut (by kernel_rfl) (of_decide_eq_true (by kernel_rfl)) h0k hn hlt
  have hU : ∀ w', Below W.heap.size W w' → Calls Tryz.prog 9 #[.slice a0 len cap, .int .i64 4, .int .i64 12] w' fun e w'' => e = .returned (.int .i64 (-1)) ∧ Below w'.heap.size w' w'' := by
    intro w' hb
    rcases script_openR (by simpa [Value.cells] using hf) (fun m hm => by
        have := List.all_eq_true.1 hsz m (DataW.weights_mem_each (j := 0) (t := 22) rfl rfl m hm)
        simpa using this) with rfl | ⟨b, off, xs, rfl, rfl, hm, hS, hR⟩
    · exact upto_none a0 cap 4 12 w'
    · exact upto_books sortk b off cap xs w' hm ⟨Nat.lt_of_lt_of_le hS.lt hb.size, fun i hi => (hS.cells i hi).below hb hS.lt, hS.small⟩ hR
  refine (books_any a0 len cap W hU).mono fun e W' ⟨he, hnx⟩ => ?_
  subst he
  refine ⟨_, rfl, _, _, _, [], p, [], hW', ?_, ?_, rfl, hnx.frame _, fun h => by cases h⟩
  · exact trodAll_mk1 (shut_bool Tryz.underlying4 true)
  · exact trodAll_mk1 (hargs _ hnx)

theorem books_holds : Rows.BooksSaid :=
  OpenClaim.holds_of_wide 6 Tryz.f6 rfl rfl rfl rfl rfl rfl rfl ⟨rfl, rfl, rfl, rfl, rfl⟩ rfl rfl rfl rfl rfl (by kernel_rfl) Tryz.func6 (by kernel_rfl)
    (of_decide_eq_true (by kernel_rfl)) (by unfold Func.isWrapper; first | (rw [if_pos (by decide +kernel)]; kernel_rfl) | (rw [if_neg (by decide +kernel)]; exact ⟨rfl, rfl⟩))
    (fun os started H enc _ => books_lifted os started H enc)

#print axioms books_holds

end Go.Proofs.YtbjobbkgelipmaaGreat
