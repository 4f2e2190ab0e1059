/-
  step and UpTo where steps digest or look at a proof (Kinds 1 and 2), given what both Verifys answer.
-/
import Derived.Test.YtbjobbkgelipmaaGreatIter
import Derived.Test.YtbjobbkgelipmaaGreatBkaj
import Derived.Test.YtbjobbkgelipmaaGreatBkaa
import Derived.Test.YtbjobbkgelipmaaGreatXtaj
import Derived.Test.YtbjobbkgelipmaaGreatXtai
import Derived.Test.YtbjobbkgelipmaaGreatBkal
import Derived.Test.YtbjobbkgelipmaaGreatBkap
import Derived.Test.YtbjobbkgelipmaaGreatXtaa
import Derived.Test.YtbjobbkgelipmaaGreatXtaf
import Derived.Test.YtbjobbkgelipmaaGreatBkah
namespace Go.Proofs.YtbjobbkgelipmaaGreat
open Go.RowKit

/-- Both Verifys answer alike, in new memory. -/
def VerOwes : Prop := ∀ (s t : ByteArray), s.size ≤ 140737488351232 → t.size ≤ 140737488351232 → ∃ (vn : ByteArray) (vb ve : Int),
    (∀ (w : World) (b1 b2 : Nat), b1 < w.heap.size → b2 < w.heap.size → BytesAt w b1 0 s.data.toList → BytesAt w b2 0 t.data.toList →
      Calls Tryz.prog 42 #[.slice (some ⟨b1, 0, none⟩) s.size (s.size + 8), .slice (some ⟨b2, 0, none⟩) t.size (t.size + 8)] w fun e w' => e = .returned (.tuple #[.string vn, .int .u64 vb, .int .i64 ve]) ∧ Below w.heap.size w w') ∧
    (∀ (w : World), Calls Tryz.prog 43 #[.string s, .string t] w fun e w' => e = .returned (.tuple #[.string vn, .int .u64 vb, .int .i64 ve]) ∧ Below w.heap.size w w')

set_option maxHeartbeats 400000 in
set_option maxRecDepth 100000 in
theorem step_ver (hV : VerOwes) (n h sd : Int) (s t : ByteArray) (la : Option Addr) (ll lc : Nat) (a : Int) {w : World} {B : Nat} {ps hv : Value} {hs : List HoldD} (hI : Inv w B ps hv hs) (hss : s.size ≤ 140737488351232) (hts : t.size ≤ 140737488351232) (hl : (hs.length + 8) * 8 ≤ 140737488355328) :
    Calls Tryz.prog 12 #[.pointer (some ⟨B, 0, none⟩), opV 2 n h sd s t la ll lc a] w fun e w' => e = .returned (.bool true) ∧ Below B w w' ∧ ∃ hv' hs', Inv w' B ps hv' hs' ∧ hs'.length = hs.length + 8 := by
  obtain ⟨vn, vb, ve, hT, hR⟩ := hV s t hss hts
  have hBl := hI.lt
  have HF := hide fun (w' : World) (hb : Below w.heap.size w w') => free_ver n h sd s t la ll lc a (hI.later hb) hss hts hl vn vb ve hT hR
  clear hI hT hR hV
  unfold opV at *
  go_enter Tryz.func12, Tryz.ntmps12
  go_wp2_with fail
  refine (unhide HF _ ((Below.refl w.heap.size w).alloc (Nat.le_refl _) _)).mono ?_
  rintro e w1 ⟨rfl, hb, hv', hs', hI', hl'⟩
  have HE := hide (And.intro ((((Below.refl w.heap.size w).alloc (Nat.le_refl _) _).mono (by omega : B ≤ w.heap.size)).trans hb) (And.intro hI' hl'))
  clear hb hI' hl' HF
  go_wp2
  go_ret
  exact ⟨rfl, (unhide HE).1, hv', hs', (unhide HE).2.1, (unhide HE).2.2⟩

theorem inv_new (w : World) (ps : Value) : Inv (w.alloc (.cells #[ps, .slice none 0 0] 43 (0, 0))) w.heap.size ps (.slice none 0 0) [] :=
  ⟨Array.getElem?_push_size, ⟨rfl, .inl ⟨rfl, rfl⟩⟩, fun _ hx => by cases hx⟩

set_option maxHeartbeats 400000 in
set_option maxRecDepth 100000 in
theorem upto_vers (hV : VerOwes) (b off cap : Nat) (xs : List OpD) (w : World) (hm : xs.length ≤ 1466015503701) (hS : ScriptAt w b off xs) :
    Calls Tryz.prog 9 #[.slice (some ⟨b, off, none⟩) xs.length cap, .int .i64 1, .int .i64 2] w fun e w' => e = .returned (.int .i64 (-1)) ∧ Below w.heap.size w w' := by
  have HS := hide hS
  have HV := hide hV
  have hlt := hS.lt
  clear hS hV
  go_enter Tryz.func9, Tryz.ntmps9
  go_wp2
  go_loopw [8] (fun i wr => ∃ k : Nat, k ≤ xs.length ∧ i = .int .i64 k ∧ (∃ ps hv hs, Inv wr w.heap.size ps hv hs ∧ hs.length ≤ 8 * k) ∧ Below w.heap.size w wr) (fun i _ => xs.length - (intOf i).toNat)
  case atStart => exact ⟨0, Nat.zero_le _, rfl, ⟨_, _, [], inv_new _ _, by simp⟩, (Below.refl _ _).alloc (Nat.le_refl _) _⟩
  case round =>
    obtain ⟨k, hk, rfl, ⟨ps, hv, hs, hI, hlen⟩, hbel⟩ := hrel
    have Hbel := hide hbel
    have HI := hide hI
    have hz := hI.lt
    clear hbel hI
    by_cases hlt' : k < xs.length
    · obtain ⟨h0, h1, h2, h3, h4, h5, h6, h7⟩ := ((unhide HS).cells k hlt').below (unhide Hbel) hlt
      have hsm := (unhide HS).small _ (List.getElem_mem hlt')
      generalize xs[k] = x at *
      obtain ⟨xk, xn, xh, xsd, xs', xt, xla, xll, xlc, xa⟩ := x
      simp only at h0 h1 h2 h3 h4 h5 h6 h7 hsm
      obtain ⟨hsm1, hsm2⟩ := hsm
      by_cases hk1 : xk < 1
      · clear h1 h2 h3 h4 h5 h6 h7 hsm1 hsm2
        go_wp2
        go_roundw
        case rel => exact ⟨k + 1, by omega, by go_num, ⟨ps, hv, hs, unhide HI, by omega⟩, unhide Hbel⟩
        case measure => simp [intOf]; omega
      · by_cases hk2 : 2 < xk
        · clear h1 h2 h3 h4 h5 h6 h7 hsm1 hsm2
          go_wp2
          go_roundw
          case rel => exact ⟨k + 1, by omega, by go_num, ⟨ps, hv, hs, unhide HI, by omega⟩, unhide Hbel⟩
          case measure => simp [intOf]; omega
        · have hcases : xk = 1 ∨ xk = 2 := by omega
          rcases hcases with rfl | rfl
          · have hst := step_sum (.pointer (some ⟨w.heap.size, 0, none⟩)) xn xh xsd xs' xt xla xll xlc xa
            unfold opV at hst
            have Hst : Hid _ := hide hst
            clear hst hsm2
            go_wp2_with fail
            refine (unhide Hst _ hsm1).mono ?_
            rintro e w1 ⟨rfl, hb⟩
            have hI1 := (unhide HI).later hb
            have Hb1 := hide ((unhide Hbel).trans (hb.mono (by omega)))
            clear hb Hbel hz Hst h0 h1 h2 h3 h4 h5 h6 h7 HI
            have HL := hide (looks_any hI1 (by omega))
            have HI1 := hide hI1
            clear hI1
            go_wp2_with fail
            refine (unhide HL).mono ?_
            rintro e w2 ⟨rfl, d2, rfl⟩
            go_wp2
            go_roundw
            case rel => exact ⟨k + 1, by omega, by go_num, ⟨ps, hv, hs, (unhide HI1).later (below_drewN (Below.refl _ _) _), by omega⟩, below_drewN (unhide Hb1) _⟩
            case measure => simp [intOf]; omega
          · have hst := step_ver (unhide HV) xn xh xsd xs' xt xla xll xlc xa (unhide HI) hsm1 hsm2 (by omega)
            unfold opV at hst
            have Hst : Hid _ := hide hst
            clear hst hsm2
            go_wp2_with fail
            refine (unhide Hst).mono ?_
            rintro e w1 ⟨rfl, hb, hv1, hs1, hI1, hl1⟩
            have Hb1 := hide ((unhide Hbel).trans hb)
            clear hb Hbel hz Hst h0 h1 h2 h3 h4 h5 h6 h7 HI
            have HL := hide (looks_any hI1 (by omega))
            have HI1 := hide hI1
            clear hI1
            go_wp2_with fail
            refine (unhide HL).mono ?_
            rintro e w2 ⟨rfl, d2, rfl⟩
            go_wp2
            go_roundw
            case rel => exact ⟨k + 1, by omega, by go_num, ⟨ps, hv1, hs1, (unhide HI1).later (below_drewN (Below.refl _ _) _), by omega⟩, below_drewN (unhide Hb1) _⟩
            case measure => simp [intOf]; omega
    · clear HI
      go_wp2
      go_ret
      exact ⟨rfl, unhide Hbel⟩

theorem owes_verifies (hV : VerOwes) : UpToOwes 1 2 := fun b off cap xs w hm hS => upto_vers hV b off cap xs w hm hS

end Go.Proofs.YtbjobbkgelipmaaGreat

/-
  free and step at Kinds 1, 2 and 3, whatever books there are.
-/
namespace Go.Proofs.YtbjobbkgelipmaaGreat
open Go.RowKit

set_option maxHeartbeats 1000000 in
set_option maxRecDepth 100000 in
theorem free_verJ (n h sd : Int) (s t : ByteArray) (la : Option Addr) (ll lc : Nat) (a : Int) {w : World} {B nn : Nat} {c : Nat → Nat} {ps hv : Value} {hs : List HoldD} {pl : List Nat} (J : Joint w B nn c ps hv hs pl) (hss : s.size ≤ 140737488351232) (hts : t.size ≤ 140737488351232) (hl : (hs.length + 8) * 8 ≤ 140737488355328)
    (vn : ByteArray) (vb ve : Int)
    (hT : ∀ (w : World) (b1 b2 : Nat), b1 < w.heap.size → b2 < w.heap.size → BytesAt w b1 0 s.data.toList → BytesAt w b2 0 t.data.toList →
      Calls Tryz.prog 42 #[.slice (some ⟨b1, 0, none⟩) s.size (s.size + 8), .slice (some ⟨b2, 0, none⟩) t.size (t.size + 8)] w fun e w' => e = .returned (.tuple #[.string vn, .int .u64 vb, .int .i64 ve]) ∧ Below w.heap.size w w')
    (hR : ∀ (w : World), Calls Tryz.prog 43 #[.string s, .string t] w fun e w' => e = .returned (.tuple #[.string vn, .int .u64 vb, .int .i64 ve]) ∧ Below w.heap.size w w') :
    Calls Tryz.prog 17 #[.pointer (some ⟨B, 0, none⟩), opV 2 n h sd s t la ll lc a] w fun e w' => e = .returned (.bool true) ∧ Below B w w' ∧ ∃ c' hv' hs', Joint w' B nn c' ps hv' hs' pl ∧ hs'.length = hs.length + 8 := by
  unfold opV
  have HT := hide hT
  have HR := fun w => hide (hR w)
  have HI := hide J
  have hBl := J.inv.lt
  clear hT hR J
  go_enter Tryz.func17, Tryz.ntmps17
  go_wp2_with fail
  generalize hW0 : w.alloc (Obj.cells #[Value.int IntKind.i64 2, Value.int IntKind.i64 n, Value.int IntKind.i64 h, Value.int IntKind.u64 sd, Value.string s, Value.string t, Value.slice la ll lc, Value.int IntKind.u64 a] 38) = W0
  have hz0 : W0.heap.size = w.heap.size + 1 := by rw [← hW0]; simp
  have c4 : W0.cell? ⟨w.heap.size, 4, none⟩ = some (.string s) := by rw [← hW0]; simp
  have c5 : W0.cell? ⟨w.heap.size, 5, none⟩ = some (.string t) := by rw [← hW0]; simp
  have hA0 : Below w.heap.size w W0 := by rw [← hW0]; exact (Below.refl _ _).alloc (Nat.le_refl _) _
  refine (lent_any s W0 hss).mono ?_
  rintro e w1 ⟨rfl, hrow1, hb1⟩
  have d4 := keepB hb1 (by omega) c4
  have d5 := keepB hb1 (by omega) c5
  have hz1 := hrow1.lt
  have hA1 : Below w.heap.size w w1 := hA0.trans (hb1.mono (by omega))
  have Hrow1 := hide hrow1
  have HZ0 := hide hz0
  have HA1 := hide hA1
  clear hW0 c4 c5 hA0 hb1 hrow1 hA1 hz0
  generalize W0.heap.size = A at *
  go_wp2_with fail
  refine (lent_any t w1 hts).mono ?_
  rintro e w2 ⟨rfl, hrow2, hb2⟩
  have hlt0 : w.heap.size < w1.heap.size := by have := unhide HZ0; omega
  have g4 := keepB hb2 hlt0 d4
  have g5 := keepB hb2 hlt0 d5
  have hz2 := hrow2.lt
  have Hr1 := hide ((unhide Hrow1).of_block (hb2.block _ hz1))
  have Hr2 := hide hrow2
  have HA2 := hide ((unhide HA1).trans (hb2.mono (by omega)))
  have HAB := hide hz1
  clear d4 d5 hb2 hrow2 Hrow1 HA1
  generalize w1.heap.size = Bk at *
  have hSd : SV w2.drew w.heap.size s t := ⟨g4, g5⟩
  have hOlt : w.heap.size < w2.heap.size := by omega
  have HT2 := fun w3 (hb : Below w2.heap.size w2 w3) => hide ((unhide HT) w3 A Bk (by have := hb.size; omega) (by have := hb.size; omega) (lentV_bytes s w3 A ((unhide Hr1).of_block (hb.block _ (by omega)))) (lentV_bytes t w3 Bk ((unhide Hr2).of_block (hb.block _ hz2))))
  clear HT
  go_wp2_with fail
  have i1 : (s.size : Int) ≤ (s.size : Int) + 8 := by omega
  have i2 : (t.size : Int) ≤ (t.size : Int) + 8 := by omega
  go_region_held3 (fun w' => w'.cell? ⟨w.heap.size, 4, none⟩ = some (.string s) ∧ w'.cell? ⟨w.heap.size, 5, none⟩ = some (.string t))
    (first | with_reducible exact hS3 | with_reducible exact hSd)
    (first | (go_at_call 42; refine (unhide (HT2 _ (Below.refl _ _).drew)).mono ?_; rintro e w3 ⟨rfl, hb3⟩; have hS3 : SV w3 w.heap.size s t := ⟨keepB hb3 hOlt g4, keepB hb3 hOlt g5⟩; have HB3 : Hid (Below w2.heap.size w2 w3) := (Below.refl _ _).drew.trans hb3; clear hb3))
  have z3 : w.heap.size < w3.heap.size := by have := (unhide HB3).size; omega
  obtain ⟨k4, k5⟩ := hS3
  clear HT2 hSd g4 g5
  go_wp2_with fail
  refine (unhide (HR _)).mono ?_
  rintro e w4 ⟨rfl, hb4⟩
  have m4 := keepB hb4 z3 k4
  have m5 := keepB hb4 z3 k5
  have HB4 := hide ((unhide HB3).trans (hb4.mono (unhide HB3).size))
  have z4 : w.heap.size < w4.heap.size := by have := hb4.size; omega
  clear hb4 HB3 k4 k5 HR
  have Hs1 := hide ((unhide Hr1).of_block ((unhide HB4).block _ (by have := unhide HAB; omega)))
  have Hs2 := hide ((unhide Hr2).of_block ((unhide HB4).block _ hz2))
  go_wp2_with fail
  refine (still_any A s w4 hss (fun j hj => (unhide Hs1).cell hj)).mono ?_
  rintro e w5 ⟨rfl, n5, rfl⟩
  go_wp2_with fail
  refine (still_any Bk t _ hts (fun j hj => by simpa using (unhide Hs2).cell hj)).mono ?_
  rintro e w6 ⟨rfl, n6, rfl⟩
  go_wp2_with fail
  have hBW : Below w.heap.size w (w4.drewN (n5 + n6)) := below_drewN ((unhide HA2).trans ((unhide HB4).mono (by omega))) _
  have hR1 : (w4.drewN (n5 + n6)).rowIs A 5 (s.size + 8) (lentV s.data.toList) := (unhide Hs1).of_block (by simp)
  have hR2 : (w4.drewN (n5 + n6)).rowIs Bk 5 (t.size + 8) (lentV t.data.toList) := (unhide Hs2).of_block (by simp)
  clear HB4 Hs1 Hs2 Hr1 Hr2 HA2 m4 m5 z4
  generalize w4.drewN (n5 + n6) = W5 at *
  have hAw : w.heap.size < A := by have := unhide HZ0; omega
  have hABk : A < Bk := unhide HAB
  have o1 := row_own (base := A) hR1 (Nat.le_refl _) (by unfold maxLen; omega)
  have o2 := row_own (base := A) hR2 (by omega) (by unfold maxLen; omega)
  have hK0 := KS.start (unhide HI) hBW (P := fun g => g = A ∨ g = Bk) (fun g hg => by
    rcases hg with rfl | rfl
    · exact ⟨by omega, own_type o1 rfl⟩
    · exact ⟨by omega, own_type o2 rfl⟩)
  have HK0 := hide hK0
  have HO := hide (And.intro o1 (And.intro o2 hBW))
  clear hK0 o1 o2 hR1 hR2 hBW
  refine ((unhide HK0).step hBl (unhide HO).1 (by omega) (fun g hg => .inl (Option.some.inj hg).symm) (by omega) (by omega)).mono ?_
  rintro e w7 ⟨rfl, hK7⟩
  have HK7 := hide (hK7.less (P' := fun g => g = Bk) (fun g hg => by
    subst hg
    refine ⟨.inr rfl, fun e => ?_⟩
    have e1 : g = A := Option.some.inj e
    omega))
  clear hK7 HK0
  go_wp2_with fail
  refine ((unhide HK7).step hBl (unhide HO).2.1 (by omega) (fun g hg => (Option.some.inj hg).symm) (by omega) (by omega)).mono ?_
  rintro e w8 ⟨rfl, hK8⟩
  have HF := hide (hK8.done ((unhide HO).2.2.mono (Nat.le_of_lt hBl)))
  clear hK8 HK7 HO
  go_wp2
  go_ret
  obtain ⟨h1, c', hv', hs', h2, h3⟩ := unhide HF
  exact ⟨rfl, h1, c', hv', hs', h2, by omega⟩

set_option maxHeartbeats 400000 in
set_option maxRecDepth 100000 in
theorem step_verJ (hV : VerOwes) (n h sd : Int) (s t : ByteArray) (la : Option Addr) (ll lc : Nat) (a : Int) {w : World} {B nn : Nat} {c : Nat → Nat} {ps hv : Value} {hs : List HoldD} {pl : List Nat} (J : Joint w B nn c ps hv hs pl) (hss : s.size ≤ 140737488351232) (hts : t.size ≤ 140737488351232) (hl : (hs.length + 8) * 8 ≤ 140737488355328) :
    Calls Tryz.prog 12 #[.pointer (some ⟨B, 0, none⟩), opV 2 n h sd s t la ll lc a] w fun e w' => e = .returned (.bool true) ∧ Below B w w' ∧ ∃ c' hv' hs', Joint w' B nn c' ps hv' hs' pl ∧ hs'.length = hs.length + 8 := by
  obtain ⟨vn, vb, ve, hT, hR⟩ := hV s t hss hts
  have hBl := J.inv.lt
  have HF := hide fun (w' : World) (hb : Below w.heap.size w w') => free_verJ n h sd s t la ll lc a (J.later hb (Nat.le_refl _)) hss hts hl vn vb ve hT hR
  clear J hT hR hV
  unfold opV at *
  go_enter Tryz.func12, Tryz.ntmps12
  go_wp2_with fail
  refine (unhide HF _ ((Below.refl w.heap.size w).alloc (Nat.le_refl _) _)).mono ?_
  rintro e w1 ⟨rfl, hb, hJ⟩
  have HE := hide (And.intro ((((Below.refl w.heap.size w).alloc (Nat.le_refl _) _).mono (by omega : B ≤ w.heap.size)).trans hb) hJ)
  clear hb hJ HF
  go_wp2
  go_ret
  exact ⟨rfl, (unhide HE).1, (unhide HE).2⟩

set_option maxHeartbeats 400000 in
set_option maxRecDepth 100000 in
theorem free_ext (n h sd : Int) (s t : ByteArray) (la : Option Addr) (lc : Nat) (a : Int) (Bs : List ByteArray) {w : World} {B nn : Nat} {c : Nat → Nat} {ps hv : Value} {hs : List HoldD} {pl : List Nat} (J : Joint w B nn c ps hv hs pl) (ht : TextsIn w la Bs) (hss : s.size ≤ 140737488351232) (hsz : ∀ x ∈ Bs, x.size ≤ 1048576) (hn : Bs.length ≤ 1048576) (hl : (hs.length + 4 * (Bs.length + 3)) * 8 ≤ 140737488355328) :
    Calls Tryz.prog 17 #[.pointer (some ⟨B, 0, none⟩), opV 3 n h sd s t la Bs.length lc a] w fun e w' => e = .returned (.bool true) ∧ Below B w w' ∧ ∃ c' hv' hs', Joint w' B nn c' ps hv' hs' pl ∧ hs'.length = hs.length + 4 * (Bs.length + 3) := by
  have hBl := J.inv.lt
  have HF := hide fun (w' : World) (hb : Below w.heap.size w w') => extracted_any (J.later hb (Nat.le_refl _)) 3 n h sd s t la lc a Bs (ht.later hb) hss hsz hn hl
  clear J ht hsz hl
  unfold opV at *
  go_enter Tryz.func17, Tryz.ntmps17
  go_wp2_with fail
  refine (unhide HF _ ((Below.refl w.heap.size w).alloc (Nat.le_refl _) _)).mono ?_
  rintro e w1 ⟨rfl, hb, hJ⟩
  have HE := hide (And.intro ((((Below.refl w.heap.size w).alloc (Nat.le_refl _) _).mono (by omega : B ≤ w.heap.size)).trans hb) hJ)
  clear hb hJ HF
  go_wp2
  go_ret
  exact ⟨rfl, (unhide HE).1, (unhide HE).2⟩

set_option maxHeartbeats 400000 in
set_option maxRecDepth 100000 in
theorem step_ext (n h sd : Int) (s t : ByteArray) (la : Option Addr) (lc : Nat) (a : Int) (Bs : List ByteArray) {w : World} {B nn : Nat} {c : Nat → Nat} {ps hv : Value} {hs : List HoldD} {pl : List Nat} (J : Joint w B nn c ps hv hs pl) (ht : TextsIn w la Bs) (hss : s.size ≤ 140737488351232) (hsz : ∀ x ∈ Bs, x.size ≤ 1048576) (hn : Bs.length ≤ 1048576) (hl : (hs.length + 4 * (Bs.length + 3)) * 8 ≤ 140737488355328) :
    Calls Tryz.prog 12 #[.pointer (some ⟨B, 0, none⟩), opV 3 n h sd s t la Bs.length lc a] w fun e w' => e = .returned (.bool true) ∧ Below B w w' ∧ ∃ c' hv' hs', Joint w' B nn c' ps hv' hs' pl ∧ hs'.length = hs.length + 4 * (Bs.length + 3) := by
  have hBl := J.inv.lt
  have HF := hide fun (w' : World) (hb : Below w.heap.size w w') => free_ext n h sd s t la lc a Bs (J.later hb (Nat.le_refl _)) (ht.later hb) hss hsz hn hl
  clear J ht hsz hl
  unfold opV at *
  go_enter Tryz.func12, Tryz.ntmps12
  go_wp2_with fail
  refine (unhide HF _ ((Below.refl w.heap.size w).alloc (Nat.le_refl _) _)).mono ?_
  rintro e w1 ⟨rfl, hb, hJ⟩
  have HE := hide (And.intro ((((Below.refl w.heap.size w).alloc (Nat.le_refl _) _).mono (by omega : B ≤ w.heap.size)).trans hb) hJ)
  clear hb hJ HF
  go_wp2
  go_ret
  exact ⟨rfl, (unhide HE).1, (unhide HE).2⟩

end Go.Proofs.YtbjobbkgelipmaaGreat

/-
  UpTo where steps make and ask books (Kinds 4 to 12).
-/
namespace Go.Proofs.YtbjobbkgelipmaaGreat
open Go.RowKit Go.Maps

/-- What a step owes of the joint state. -/
def Goes (B n : Nat) (m : Nat) (w' : World) : Prop := ∃ c ps hv hs pl, Joint w' B n c ps hv hs pl ∧ hs.length ≤ m

theorem step_books (K : SortK) {w : World} {B n : Nat} {c : Nat → Nat} {ps hv : Value} {hs : List HoldD} {pl : List Nat} (J : Joint w B n c ps hv hs pl) (hn : n < 2000000000000) (hl : (hs.length + 4) * 8 ≤ 140737488355328) (k nn h sd : Int) (s t : ByteArray) (la : Option Addr) (ll lc : Nat) (a : Int) (hk : 4 ≤ k) (hk2 : k ≤ 12)
    (hr : OpRange ⟨k, nn, h, sd, s, t, la, ll, lc, a⟩) (hss : s.size ≤ 140737488351232) (hts : t.size ≤ 140737488351232) :
    Calls Tryz.prog 12 #[.pointer (some ⟨B, 0, none⟩), opV k nn h sd s t la ll lc a] w fun e w' => e = .returned (.bool true) ∧ Below B w w' ∧ Goes B (n + 1) (hs.length + 4) w' := by
  obtain ⟨r1, r2, r3, r4⟩ := hr
  simp only at r1 r2 r3 r4
  have up : ∀ {w' : World} {c' : Nat → Nat} {ps' hv' : Value} {hs' : List HoldD} {pl' : List Nat}, Joint w' B n c' ps' hv' hs' pl' → Joint w' B (n + 1) c' ps' hv' hs' pl' := fun J => J.later (Below.refl _ _) (Nat.le_succ n)
  by_cases h4 : k = 4
  · subst h4
    exact (step_new J nn h sd s t la ll lc a).mono fun e w' ⟨he, hb, c', ps', pl', hJ⟩ => ⟨he, hb, _, _, _, _, _, up hJ, by omega⟩
  · by_cases h0 : pl.length = 0
    · exact (step_nobook J h0 k nn h sd s t la ll lc a (by omega)).mono fun e w' ⟨he, hb, hJ⟩ => ⟨he, hb, _, _, _, _, _, up hJ, by omega⟩
    · have h0' : 0 < pl.length := by omega
      have hcs : k = 5 ∨ k = 6 ∨ k = 7 ∨ k = 8 ∨ k = 9 ∨ k = 10 ∨ k = 11 ∨ k = 12 := by omega
      rcases hcs with rfl | rfl | rfl | rfl | rfl | rfl | rfl | rfl
      · exact (step_open J h0' hn nn h sd s t la ll lc a r1 r2 hss).mono fun e w' ⟨he, hb, c', hJ⟩ => ⟨he, hb, _, _, _, _, _, hJ, by omega⟩
      · exact (step_close J h0' hn nn h sd s t la ll lc a r1 r2 hss).mono fun e w' ⟨he, hb, c', hJ⟩ => ⟨he, hb, _, _, _, _, _, hJ, by omega⟩
      · exact (step_pay J h0' hn nn h sd s t la ll lc a r1 r2 hss hts r3 r4).mono fun e w' ⟨he, hb, c', hJ⟩ => ⟨he, hb, _, _, _, _, _, hJ, by omega⟩
      · exact (step_draw J h0' hn nn h sd s t la ll lc a r1 r2 hss hts r3 r4).mono fun e w' ⟨he, hb, c', hJ⟩ => ⟨he, hb, _, _, _, _, _, hJ, by omega⟩
      · exact (step_move J h0' hn nn h sd s t la ll lc a r1 r2 hss hts r3 r4).mono fun e w' ⟨he, hb, c', hJ⟩ => ⟨he, hb, _, _, _, _, _, hJ, by omega⟩
      · exact (step_bal J h0' hn nn h sd s t la ll lc a r1 r2 hss).mono fun e w' ⟨he, hb, c', hJ⟩ => ⟨he, hb, _, _, _, _, _, hJ, by omega⟩
      · exact (step_pub K J h0' hn nn h sd s t la ll lc a r1 r2 hss hl).mono fun e w' ⟨he, hb, c', hv', hs', hJ, hlen⟩ => ⟨he, hb, _, _, _, _, _, hJ, by omega⟩
      · exact (step_proof J h0' hn nn h sd s t la ll lc a r1 r2 hss hl).mono fun e w' ⟨he, hb, c', hv', hs', hJ, hlen⟩ => ⟨he, hb, _, _, _, _, _, hJ, by omega⟩

theorem joint_new (w : World) : Joint (w.alloc (.cells #[.slice none 0 0, .slice none 0 0] 43 (0, 0))) w.heap.size 0 (fun _ => 0) (.slice none 0 0) (.slice none 0 0) [] [] :=
  ⟨inv_new w _, rfl, fun _ _ => rfl, fun x hx => (by cases hx), fun _ _ => rfl, fun _ h => absurd rfl h, ⟨rfl, .inl ⟨rfl, rfl⟩⟩, fun i hi => (by simp at hi), by simp⟩

set_option maxHeartbeats 1000000 in
set_option maxRecDepth 100000 in
/-- UpTo, whatever the least and the last kind, given what a step owes. -/
theorem upto_any (least last : Int) (b off cap : Nat) (xs : List OpD) (w : World) (hm : xs.length ≤ 1466015503701) (hS : ScriptAt w b off xs) (X : Nat → World → Prop) (hX0 : X 0 (w.alloc (.cells #[.slice none 0 0, .slice none 0 0] 43 (0, 0))))
    (hXn : ∀ k w1, k < xs.length → X k w1 → X (k + 1) w1) (hXI : ∀ k w1, k ≤ xs.length → X k w1 → ∃ ps hv hs, Inv w1 w.heap.size ps hv hs ∧ hs.length ≤ 140737488355328) (hXl : ∀ k w1 d, X k w1 → X k (w1.drewN d))
    (hXs : ∀ k (hk : k < xs.length) w1, Below w.heap.size w w1 → X k w1 → least ≤ xs[k].k → xs[k].k ≤ last → Calls Tryz.prog 12 #[.pointer (some ⟨w.heap.size, 0, none⟩), opV xs[k].k xs[k].n xs[k].h xs[k].sd xs[k].s xs[k].t xs[k].la xs[k].ll xs[k].lc xs[k].a] w1 fun e w' => e = .returned (.bool true) ∧ Below w.heap.size w1 w' ∧ X (k + 1) w') :
    Calls Tryz.prog 9 #[.slice (some ⟨b, off, none⟩) xs.length cap, .int .i64 least, .int .i64 last] w fun e w' => e = .returned (.int .i64 (-1)) ∧ Below w.heap.size w w' := by
  have HS := hide hS
  have hlt := hS.lt
  have HXn := hide hXn
  have HXI := hide hXI
  have HXl := hide hXl
  have HXs := hide hXs
  have HX0 := hide hX0
  clear hS hXn hXI hXl hXs hX0
  go_enter Tryz.func9, Tryz.ntmps9
  go_wp2
  go_loopw [8] (fun i wr => ∃ k : Nat, k ≤ xs.length ∧ i = .int .i64 k ∧ Hid (X k wr) ∧ Below w.heap.size w wr) (fun i _ => xs.length - (intOf i).toNat)
  case atStart => exact ⟨0, Nat.zero_le _, rfl, HX0, (Below.refl _ _).alloc (Nat.le_refl _) _⟩
  case round =>
    obtain ⟨k, hk, rfl, HX, hbel⟩ := hrel
    have Hbel := hide hbel
    clear hbel
    by_cases hlt' : k < xs.length
    · obtain ⟨h0, h1, h2, h3, h4, h5, h6, h7⟩ := ((unhide HS).cells k hlt').below (unhide Hbel) hlt
      have hst := hide (unhide HXs k hlt' wr (unhide Hbel) (unhide HX))
      have HNx := hide (unhide HXn k wr hlt' (unhide HX))
      generalize xs[k] = x at *
      obtain ⟨xk, xn, xh, xsd, xs', xt, xla, xll, xlc, xa⟩ := x
      simp only at h0 h1 h2 h3 h4 h5 h6 h7
      by_cases hk1 : xk < least
      · clear h1 h2 h3 h4 h5 h6 h7 hst
        go_wp2
        go_roundw
        case rel => exact ⟨k + 1, by omega, by go_num, HNx, unhide Hbel⟩
        case measure => simp [intOf]; omega
      · by_cases hk2 : last < xk
        · clear h1 h2 h3 h4 h5 h6 h7 hst
          go_wp2
          go_roundw
          case rel => exact ⟨k + 1, by omega, by go_num, HNx, unhide Hbel⟩
          case measure => simp [intOf]; omega
        · have hst2 := unhide hst (by simp only; omega) (by simp only; omega)
          unfold opV at hst2
          have Hst := hide hst2
          clear hst2 hst HNx HX
          go_wp2_with fail
          refine (unhide Hst).mono ?_
          rintro e w1 ⟨rfl, hb, hX1⟩
          obtain ⟨ps, hv, hs, hI1, hl1⟩ := unhide HXI (k + 1) w1 (by omega) hX1
          have Hb1 := hide ((unhide Hbel).trans hb)
          have HX1 := hide hX1
          have HL := hide (looks_any hI1 hl1)
          clear hb Hbel Hst h0 h1 h2 h3 h4 h5 h6 h7 hI1 hX1 hl1
          go_wp2_with fail
          refine (unhide HL).mono ?_
          rintro e w2 ⟨rfl, d2, rfl⟩
          clear HL
          go_wp2
          go_roundw
          case rel => exact ⟨k + 1, by omega, by go_num, unhide HXl (k + 1) w1 d2 (unhide HX1), below_drewN (unhide Hb1) _⟩
          case measure => simp [intOf]; omega
    · clear HX
      go_wp2
      go_ret
      exact ⟨rfl, unhide Hbel⟩

theorem upto_books (K : SortK) (b off cap : Nat) (xs : List OpD) (w : World) (hm : xs.length ≤ 1466015503701) (hS : ScriptAt w b off xs) (hR : ∀ x ∈ xs, OpRange x) :
    Calls Tryz.prog 9 #[.slice (some ⟨b, off, none⟩) xs.length cap, .int .i64 4, .int .i64 12] w fun e w' => e = .returned (.int .i64 (-1)) ∧ Below w.heap.size w w' := by
  refine upto_any 4 12 b off cap xs w hm hS (fun k w1 => Goes w.heap.size k (4 * k) w1) ⟨_, _, _, _, _, joint_new w, by simp⟩ ?_ ?_ ?_ ?_
  · rintro k w1 _ ⟨c, ps, hv, hs, pl, J, hl⟩
    exact ⟨c, ps, hv, hs, pl, J.later (Below.refl _ _) (Nat.le_succ k), by omega⟩
  · rintro k w1 hk ⟨c, ps, hv, hs, pl, J, hl⟩
    exact ⟨ps, hv, hs, J.inv, by omega⟩
  · rintro k w1 d ⟨c, ps, hv, hs, pl, J, hl⟩
    exact ⟨c, ps, hv, hs, pl, J.later (below_drewN (Below.refl _ _) _) (Nat.le_refl _), hl⟩
  · rintro k hk w1 _ ⟨c, ps, hv, hs, pl, J, hl⟩ hk1 hk2
    have hx := List.getElem_mem hk
    have hr := hR _ hx
    have hsm := hS.small _ hx
    refine (step_books K J (by omega) (by omega) _ _ _ _ _ _ _ _ _ _ hk1 hk2 hr hsm.1 hsm.2).mono ?_
    rintro e w' ⟨he, hb, c', ps', hv', hs', pl', hJ, hl'⟩
    exact ⟨he, hb, c', ps', hv', hs', pl', hJ, by omega⟩

theorem owes_books (K : SortK) : UpToOwesR 4 12 := fun b off cap xs w hm hS hR => upto_books K b off cap xs w (by omega) hS (fun x hx => (hR x hx).1)

end Go.Proofs.YtbjobbkgelipmaaGreat

/-
  UpTo whatever steps it plays, where not too much is handed in.
-/
namespace Go.Proofs.YtbjobbkgelipmaaGreat
open Go.RowKit Go.Maps

/-- What is asked of a step: the ranges of its numbers, its texts in memory. -/
def OpAll (w : World) (x : OpD) : Prop := OpRange x ∧ ∃ ls, OpTexts w x ls ∧ ls.length ≤ 1048576 ∧ ∀ s ∈ ls, s.size ≤ 1048576
theorem OpTexts.ins {w : World} {x : OpD} {ls : List ByteArray} (h : OpTexts w x ls) : TextsIn w x.la ls := by
  refine ⟨fun i hi => ?_⟩
  rcases h.2 with rfl | ⟨g, o, e, hg, hc⟩
  · simp at hi
  · exact ⟨g, o, e, hg, hc i hi⟩

theorem OpAll.later {w w' : World} {x : OpD} (h : OpAll w x) (hb : Below w.heap.size w w') : OpAll w' x := by
  obtain ⟨h1, ls, ⟨h2, h3⟩, h4, h5⟩ := h
  refine ⟨h1, ls, ⟨h2, ?_⟩, h4, h5⟩
  rcases h3 with h3 | ⟨g, o, e, hg, hc⟩
  · exact .inl h3
  · exact .inr ⟨g, o, e, Nat.lt_of_lt_of_le hg hb.size, fun j hj => keepB hb hg (hc j hj)⟩

theorem room_1 {a n : Nat} (ha : a ≤ 4194316 * 1048575) (hn : n ≤ 1048576) : (a + 4 * (n + 3)) * 8 ≤ 140737488355328 := by
  have h1 : a + 4 * (n + 3) ≤ 4194316 * 1048576 := by omega
  exact Nat.le_trans (Nat.mul_le_mul_right 8 h1) (by decide)
theorem room_2 {a : Nat} (ha : a ≤ 4194316 * 1048575) : (a + 8) * 8 ≤ 140737488355328 := by
  have h1 : a + 8 ≤ 4194316 * 1048576 := by omega
  exact Nat.le_trans (Nat.mul_le_mul_right 8 h1) (by decide)
theorem room_3 {a : Nat} (ha : a ≤ 4194316 * 1048575) : (a + 4) * 8 ≤ 140737488355328 := by
  have h1 : a + 4 ≤ 4194316 * 1048576 := by omega
  exact Nat.le_trans (Nat.mul_le_mul_right 8 h1) (by decide)

theorem step_all (K : SortK) (hV : VerOwes) {w : World} {B n : Nat} {c : Nat → Nat} {ps hv : Value} {hs : List HoldD} {pl : List Nat} (J : Joint w B n c ps hv hs pl) (hn : n ≤ 1048576) (ha : hs.length ≤ 4194316 * 1048575) (x : OpD) (hk : 1 ≤ x.k) (hk2 : x.k ≤ 12) (hr : OpRange x) (ls : List ByteArray) (hL : TextsIn w x.la ls) (hll : ls.length = x.ll) (hl1 : ls.length ≤ 1048576) (hl2 : ∀ s ∈ ls, s.size ≤ 1048576) (hss : x.s.size ≤ 140737488351232) (hts : x.t.size ≤ 140737488351232) :
    Calls Tryz.prog 12 #[.pointer (some ⟨B, 0, none⟩), opV x.k x.n x.h x.sd x.s x.t x.la x.ll x.lc x.a] w fun e w' => e = .returned (.bool true) ∧ Below B w w' ∧ Goes B (n + 1) (hs.length + 4194316) w' := by
  obtain ⟨k, xn, xh, xsd, s, t, la, ll, lc, a⟩ := x
  simp only at *
  have up : ∀ {w' : World} {c' : Nat → Nat} {ps' hv' : Value} {hs' : List HoldD} {pl' : List Nat}, Joint w' B n c' ps' hv' hs' pl' → Joint w' B (n + 1) c' ps' hv' hs' pl' := fun J => J.later (Below.refl _ _) (Nat.le_succ n)
  by_cases h4 : 4 ≤ k
  · refine (step_books K J (by omega) (room_3 ha) k xn xh xsd s t la ll lc a h4 hk2 hr hss hts).mono ?_
    rintro e w' ⟨he, hb, c', ps', hv', hs', pl', hJ, hlen⟩
    exact ⟨he, hb, c', ps', hv', hs', pl', hJ, by omega⟩
  · have hcs : k = 1 ∨ k = 2 ∨ k = 3 := by omega
    rcases hcs with rfl | rfl | rfl
    · refine (step_sum (.pointer (some ⟨B, 0, none⟩)) xn xh xsd s t la ll lc a w hss).mono ?_
      rintro e w' ⟨he, hb⟩
      exact ⟨he, hb.mono (Nat.le_of_lt J.inv.lt), _, _, _, _, _, J.later hb (Nat.le_succ n), by omega⟩
    · refine (step_verJ hV xn xh xsd s t la ll lc a J hss hts (room_2 ha)).mono ?_
      rintro e w' ⟨he, hb, c', hv', hs', hJ, hlen⟩
      exact ⟨he, hb, _, _, _, _, _, up hJ, by omega⟩
    · subst hll
      refine (step_ext xn xh xsd s t la lc a ls J hL hss hl2 hl1 (room_1 ha hl1)).mono ?_
      rintro e w' ⟨he, hb, c', hv', hs', hJ, hlen⟩
      exact ⟨he, hb, _, _, _, _, _, up hJ, by omega⟩

theorem upto_all (K : SortK) (hV : VerOwes) (least last : Int) (hle : 1 ≤ least) (hla : last ≤ 12) (b off cap : Nat) (xs : List OpD) (w : World) (hm : xs.length ≤ 1048576) (hS : ScriptAt w b off xs) (hR : ∀ x ∈ xs, OpAll w x) :
    Calls Tryz.prog 9 #[.slice (some ⟨b, off, none⟩) xs.length cap, .int .i64 least, .int .i64 last] w fun e w' => e = .returned (.int .i64 (-1)) ∧ Below w.heap.size w w' := by
  refine upto_any least last b off cap xs w (by omega) hS (fun k w1 => Goes w.heap.size k (4194316 * k) w1) ⟨_, _, _, _, _, joint_new w, by simp⟩ ?_ ?_ ?_ ?_
  · rintro k w1 _ ⟨c, ps, hv, hs, pl, J, hl⟩
    exact ⟨c, ps, hv, hs, pl, J.later (Below.refl _ _) (Nat.le_succ k), by omega⟩
  · rintro k w1 hk ⟨c, ps, hv, hs, pl, J, hl⟩
    exact ⟨ps, hv, hs, J.inv, by omega⟩
  · rintro k w1 d ⟨c, ps, hv, hs, pl, J, hl⟩
    exact ⟨c, ps, hv, hs, pl, J.later (below_drewN (Below.refl _ _) _) (Nat.le_refl _), hl⟩
  · rintro k hk w1 hb1 ⟨c, ps, hv, hs, pl, J, hl⟩ hk1 hk2
    have hx := List.getElem_mem hk
    obtain ⟨hr, ls, hL, hl1, hl2⟩ := hR _ hx
    have hsm := hS.small _ hx
    refine (step_all K hV J (by omega) (by omega) xs[k] (by omega) (by omega) hr ls (hL.ins.later hb1) hL.1 hl1 hl2 hsm.1 hsm.2).mono ?_
    rintro e w' ⟨he, hb, c', ps', hv', hs', pl', hJ, hl'⟩
    exact ⟨he, hb, c', ps', hv', hs', pl', hJ, by omega⟩

theorem owes_all (K : SortK) (hV : VerOwes) (least last : Int) (hle : 1 ≤ least) (hla : last ≤ 12) : UpToOwesR least last :=
  fun b off cap xs w hm hS hR => upto_all K hV least last hle hla b off cap xs w hm hS (fun x hx => by
    obtain ⟨h1, ls, h2, h3, h4⟩ := hR x hx
    exact ⟨h1, ls, h2, by omega, fun s hs => by have := h4 s hs; omega⟩)

end Go.Proofs.YtbjobbkgelipmaaGreat

/-
  A script that was handed in, opened, where it is of no great bulk.
-/
namespace Go.Proofs.YtbjobbkgelipmaaGreat
open Go.ChangeShapes Go.WideShapes Go.ChangeAt Go.RowKit

theorem bulk_part {H : Type} {d : DataW H} {l : List (DataW H)} (h : d ∈ l) : Rows.uptoBulk d ≤ Rows.uptoBulkAll l := by
  induction l with
  | nil => cases h
  | cons x r ih =>
    simp only [Rows.uptoBulkAll]
    rcases List.mem_cons.1 h with e | e
    · subst e; omega
    · have := ih e; omega
theorem bulk_one {H : Type} (d : DataW H) : 1 ≤ Rows.uptoBulk d := by
  cases d with
  | lit l => cases l <;> simp [Rows.uptoBulk]
  | nil => simp [Rows.uptoBulk]
  | ptr d => simp [Rows.uptoBulk]
  | slice elems spare => simp [Rows.uptoBulk]
  | agg parts => simp [Rows.uptoBulk]
  | iface t d => simp [Rows.uptoBulk]
  | map entries => simp [Rows.uptoBulk]
  | held h => simp [Rows.uptoBulk]
theorem bulk_len {H : Type} (l : List (DataW H)) : l.length ≤ Rows.uptoBulkAll l := by
  induction l with
  | nil => simp [Rows.uptoBulkAll]
  | cons x r ih => have := bulk_one x; simp only [Rows.uptoBulkAll, List.length_cons]; omega

/-- Texts that were handed over, opened. -/
theorem texts_open {H : Type} {enc : TypeId × Value → H} {W : World} {fuel : Nat} {c6 : Value} {y : DataW H × List MemPlace} (h : DataW.trod enc Tryz.prog W 0 (fun _ => true) true fuel 36 [c6] = some y) (hbk : Rows.uptoBulk y.1 ≤ 1048576) :
    ∃ la ll lc, [c6] = [Value.slice la ll lc] ∧ ∃ ls : List ByteArray, (∀ (k n hh sd : Int) (s t : ByteArray) (a : Int), OpTexts W ⟨k, n, hh, sd, s, t, la, ll, lc, a⟩ ls) ∧ ls.length ≤ 1048576 ∧ ∀ s ∈ ls, s.size ≤ 1048576 := by
  rcases Deep.open_slice1 Tryz.underlying36 Tryz.cellsStr h with ⟨hc, _⟩ | ⟨a, len, cap, m, n, V, D, Pl, hc, _, hl, hm, hmm, rfl, hel⟩
  · exact ⟨none, 0, 0, hc, [], fun _ _ _ _ _ _ _ => ⟨rfl, .inl rfl⟩, by simp, fun s hs => by cases hs⟩
  · simp only [if_true] at hmm
    subst hmm
    have hb1 : Rows.uptoBulkAll ((List.range len).map D) ≤ 1048576 := by
      simp only [Rows.uptoBulk] at hbk
      omega
    have hlen : len ≤ 1048576 := by
      have := bulk_len ((List.range len).map D)
      rw [List.length_map, List.length_range] at this
      omega
    have hop : ∀ i, i < len → ∃ s : ByteArray, W.cell? (a.add i) = some (.string s) ∧ s.size ≤ 1048576 := fun i hi => by
      obtain ⟨h1, h2⟩ := hel i (by omega)
      obtain ⟨s, e1, e2, _⟩ := DataW.trod_string Tryz.underlying9 h2
      simp only [List.cons.injEq, and_true] at e1
      rw [e1] at h1
      refine ⟨s, h1, ?_⟩
      have e3 : D i = .lit (.string s.data.toList) := congrArg Prod.fst e2
      have h3 := bulk_part (d := D i) (l := (List.range len).map D) (List.mem_map.2 ⟨i, by simpa using hi, rfl⟩)
      rw [e3] at h3
      simp only [Rows.uptoBulk] at h3
      have e4 : s.data.toList.length = s.size := by simp
      omega
    have inh : Inhabited ByteArray := ⟨⟨#[]⟩⟩
    obtain ⟨f, hfx⟩ := Deep.choose_lt hop
    refine ⟨some a, len, _, hc, (List.range len).map f, fun _ _ _ _ _ _ _ => ⟨by simp, ?_⟩, by simpa using hlen, fun s hs => ?_⟩
    · by_cases h0 : len = 0
      · subst h0; exact .inl rfl
      · right
        obtain ⟨b, off, spot⟩ := a
        have hspot : spot = none := by
          have := World.cell?_spot (hfx 0 (by omega)).1
          simpa [Addr.add] using this
        subst hspot
        have hcell : ∀ i, i < len → W.cell? ⟨b, off + i, none⟩ = some (.string (f i)) := fun i hi => by
          have := (hfx i hi).1
          rwa [addr_add] at this
        refine ⟨b, off, rfl, World.block_lt_of_cell? W _ (hcell 0 (by omega)), fun j hj => ?_⟩
        have hj' : j < len := by simpa using hj
        rw [hcell j hj']
        simp
    · obtain ⟨i, hi, rfl⟩ := List.mem_map.1 hs
      exact (hfx i (by simpa using hi)).2

set_option maxRecDepth 100000 in
/-- A step opened: its eight cells; how long its texts are. -/
theorem op_openU {H : Type} {enc : TypeId × Value → H} {W : World} {fuel : Nat} {cs : List Value} {y : DataW H × List MemPlace}
    (h : DataW.trod enc Tryz.prog W 0 (fun _ => true) true fuel 38 cs = some y) (hbk : Rows.uptoBulk y.1 ≤ 1048576) :
    ∃ x : OpD, cs = opList x ∧ x.s.size ≤ 1048576 ∧ x.t.size ≤ 1048576 ∧ OpAll W x := by
  obtain ⟨xs, n, _, rfl, hl, hlen, hf⟩ := DataW.trod_struct Tryz.underlying38 h
  rw [Tryz.cellsOp] at hl
  have hlen7 : xs.length = 7 := hlen
  match xs, hlen7 with
  | [y0, y1, y2, y3, y4, y5, y6], _ =>
  match cs, hl with
  | [c0, c1, c2, c3, c4, c5, c6, c7], _ =>
  have f0 : DataW.trod enc Tryz.prog W 0 (fun _ => true) true n 3 (([c0, c1, c2, c3, c4, c5, c6, c7].drop 0).take (Tryz.prog.cellsOf 3)) = ([y0, y1, y2, y3, y4, y5, y6] : List (DataW H × List MemPlace))[0]? := hf 0 _ rfl
  rw [Tryz.cellsInt] at f0
  have g0 : DataW.trod enc Tryz.prog W 0 (fun _ => true) true n 3 [c0] = some y0 := f0
  have f1 : DataW.trod enc Tryz.prog W 0 (fun _ => true) true n 3 (([c0, c1, c2, c3, c4, c5, c6, c7].drop 1).take (Tryz.prog.cellsOf 3)) = ([y0, y1, y2, y3, y4, y5, y6] : List (DataW H × List MemPlace))[1]? := hf 1 _ rfl
  rw [Tryz.cellsInt] at f1
  have g1 : DataW.trod enc Tryz.prog W 0 (fun _ => true) true n 3 [c1] = some y1 := f1
  have f2 : DataW.trod enc Tryz.prog W 0 (fun _ => true) true n 35 (([c0, c1, c2, c3, c4, c5, c6, c7].drop 2).take (Tryz.prog.cellsOf 35)) = ([y0, y1, y2, y3, y4, y5, y6] : List (DataW H × List MemPlace))[2]? := hf 2 _ rfl
  rw [Tryz.cellsCfg] at f2
  have g2 : DataW.trod enc Tryz.prog W 0 (fun _ => true) true n 35 [c2, c3] = some y2 := f2
  have f3 : DataW.trod enc Tryz.prog W 0 (fun _ => true) true n 9 (([c0, c1, c2, c3, c4, c5, c6, c7].drop 4).take (Tryz.prog.cellsOf 9)) = ([y0, y1, y2, y3, y4, y5, y6] : List (DataW H × List MemPlace))[3]? := hf 3 _ rfl
  rw [Tryz.cellsStr] at f3
  have g3 : DataW.trod enc Tryz.prog W 0 (fun _ => true) true n 9 [c4] = some y3 := f3
  have f4 : DataW.trod enc Tryz.prog W 0 (fun _ => true) true n 9 (([c0, c1, c2, c3, c4, c5, c6, c7].drop 5).take (Tryz.prog.cellsOf 9)) = ([y0, y1, y2, y3, y4, y5, y6] : List (DataW H × List MemPlace))[4]? := hf 4 _ rfl
  rw [Tryz.cellsStr] at f4
  have g4 : DataW.trod enc Tryz.prog W 0 (fun _ => true) true n 9 [c5] = some y4 := f4
  have f5 : DataW.trod enc Tryz.prog W 0 (fun _ => true) true n 36 (([c0, c1, c2, c3, c4, c5, c6, c7].drop 6).take (Tryz.prog.cellsOf 36)) = ([y0, y1, y2, y3, y4, y5, y6] : List (DataW H × List MemPlace))[5]? := hf 5 _ rfl
  rw [Tryz.cellsStrs] at f5
  have g5 : DataW.trod enc Tryz.prog W 0 (fun _ => true) true n 36 [c6] = some y5 := f5
  have f6 : DataW.trod enc Tryz.prog W 0 (fun _ => true) true n 26 (([c0, c1, c2, c3, c4, c5, c6, c7].drop 7).take (Tryz.prog.cellsOf 26)) = ([y0, y1, y2, y3, y4, y5, y6] : List (DataW H × List MemPlace))[6]? := hf 6 _ rfl
  rw [Tryz.cellsU64] at f6
  have g6 : DataW.trod enc Tryz.prog W 0 (fun _ => true) true n 26 [c7] = some y6 := f6
  clear f0 f1 f2 f3 f4 f5 f6 hf
  obtain ⟨k, e0, rfl, _⟩ := DataW.trod_int Tryz.underlying3 g0
  obtain ⟨nn, e1, rfl, w1⟩ := DataW.trod_int Tryz.underlying3 g1
  obtain ⟨z0, z1, m, rfl, _, t0, t1⟩ := trod_struct2 Tryz.underlying35 g2
  have t0a : DataW.trod enc Tryz.prog W 0 (fun _ => true) true m 3 (([c2, c3].drop 0).take (Tryz.prog.cellsOf 3)) = some z0 := t0
  have t1a : DataW.trod enc Tryz.prog W 0 (fun _ => true) true m 26 (([c2, c3].drop 1).take (Tryz.prog.cellsOf 26)) = some z1 := t1
  rw [Tryz.cellsInt] at t0a
  rw [Tryz.cellsU64] at t1a
  have t0' : DataW.trod enc Tryz.prog W 0 (fun _ => true) true m 3 [c2] = some z0 := t0a
  have t1' : DataW.trod enc Tryz.prog W 0 (fun _ => true) true m 26 [c3] = some z1 := t1a
  obtain ⟨hh, e2, rfl, _⟩ := DataW.trod_int Tryz.underlying3 t0'
  obtain ⟨sd, e3, rfl, _⟩ := DataW.trod_int Tryz.underlying26 t1'
  obtain ⟨s, e4, rfl, _⟩ := DataW.trod_string Tryz.underlying9 g3
  obtain ⟨t, e5, rfl, _⟩ := DataW.trod_string Tryz.underlying9 g4
  obtain ⟨a, e7, rfl, w7⟩ := DataW.trod_int Tryz.underlying26 g6
  have hbk5 : Rows.uptoBulk y5.1 ≤ 1048576 := by
    simp only [List.map_cons, List.map_nil, Rows.uptoBulk, Rows.uptoBulkAll] at hbk
    omega
  obtain ⟨la, ll, lc, e6, ls, hls, hl1, hl2⟩ := texts_open g5 hbk5
  simp only [List.cons.injEq, and_true] at e0 e1 e2 e3 e4 e5 e6 e7
  subst e0 e1 e2 e3 e4 e5 e6 e7
  have hs : s.data.toList.length ≤ 1048576 ∧ t.data.toList.length ≤ 1048576 := by
    simp only [List.map_cons, List.map_nil, Rows.uptoBulk, Rows.uptoBulkAll] at hbk
    omega
  exact ⟨⟨k, nn, hh, sd, s, t, la, ll, lc, a⟩, rfl, by simpa using hs.1, by simpa using hs.2, ⟨(wi_i64 w1).1, (wi_i64 w1).2, (wi_u64 w7).1, (wi_u64 w7).2⟩, ls, hls k nn hh sd s t a, hl1, hl2⟩

/-- A script opened. -/
theorem script_openU {H : Type} {enc : TypeId × Value → H} {W : World} {fuel : Nat} {a0 : Option Addr} {len cap : Nat} {y : DataW H × List MemPlace}
    (h : DataW.trod enc Tryz.prog W 0 (fun _ => true) true fuel 22 [.slice a0 len cap] = some y) (hbk : Rows.uptoBulk y.1 ≤ 1048576) :
    len = 0 ∨ ∃ b off xs, a0 = some ⟨b, off, none⟩ ∧ xs.length = len ∧ len ≤ 1048576 ∧ ScriptAt W b off xs ∧ (∀ x ∈ xs, OpAll W x) := by
  rcases Deep.open_slice Tryz.underlying22 h with ⟨hcs, _⟩ | ⟨a, len', cap', m, n, D, Pl, hcs, _, hl, hm, hmm, rfl, hel⟩
  · simp only [List.cons.injEq, Value.slice.injEq, and_true] at hcs
    exact Or.inl hcs.2.1
  · simp only [List.cons.injEq, Value.slice.injEq, and_true] at hcs
    obtain ⟨rfl, rfl, rfl⟩ := hcs
    simp only [if_true] at hmm
    subst hmm
    by_cases h0 : len = 0
    · exact Or.inl h0
    right
    have hb1 : Rows.uptoBulkAll ((List.range len).map D) ≤ 1048576 := by
      simp only [Rows.uptoBulk] at hbk
      omega
    have hlen : len ≤ 1048576 := by
      have := bulk_len ((List.range len).map D)
      rw [List.length_map, List.length_range] at this
      omega
    have hop : ∀ i, i < len → ∃ x : OpD, (W.cells? 0 (a.add (i * 8)) 8 = some (opList x)) ∧ x.s.size ≤ 1048576 ∧ x.t.size ≤ 1048576 ∧ OpAll W x := by
      intro i hi
      obtain ⟨cs', hc, ht⟩ := hel i (by omega)
      rw [Tryz.cellsOp] at hc
      have hbi := bulk_part (d := D i) (l := (List.range len).map D) (List.mem_map.2 ⟨i, by simpa using hi, rfl⟩)
      obtain ⟨x, rfl, h1, h2, h3⟩ := op_openU ht (Nat.le_trans hbi hb1)
      exact ⟨x, hc, h1, h2, h3⟩
    have inh : Inhabited OpD := ⟨⟨0, 0, 0, 0, ⟨#[]⟩, ⟨#[]⟩, none, 0, 0, 0⟩⟩
    obtain ⟨f, hfx⟩ := Deep.choose_lt hop
    obtain ⟨b, off, spot⟩ := a
    have hspot : spot = none := by
      have h1 := (World.cells?_some (hfx 0 (by omega)).1).2.2 0 (by omega)
      have h2 : W.cell? ((⟨b, off, spot⟩ : Addr).add (0 * 8 + 0)) = some (Value.int .i64 (f 0).k) := by rw [← Deep.add_add]; exact h1
      simpa [Addr.add] using World.cell?_spot h2
    subst hspot
    have hcell : ∀ i, i < len → ∀ j, j < 8 → W.cell? ⟨b, off + i * 8 + j, none⟩ = (opList (f i))[j]? := by
      intro i hi j hj
      have h1 := (World.cells?_some (hfx i hi).1).2.2 j hj
      rw [Deep.add_add, addr_add, ← Nat.add_assoc] at h1
      exact h1
    refine ⟨b, off, (List.range len).map f, rfl, by simp, by omega, ⟨?_, ?_, ?_⟩, ?_⟩
    · exact World.cells?_block (hfx 0 (by omega)).1 (by omega)
    · intro i hi
      have hi' : i < len := by simpa using hi
      have e : ((List.range len).map f)[i] = f i := by simp
      rw [e]
      have c := hcell i hi'
      exact ⟨c 0 (by omega), c 1 (by omega), c 2 (by omega), c 3 (by omega), c 4 (by omega), c 5 (by omega), c 6 (by omega), c 7 (by omega)⟩
    · intro x hx
      obtain ⟨i, hi, rfl⟩ := List.mem_map.1 hx
      have h1 := (hfx i (by simpa using hi)).2.1
      have h2 := (hfx i (by simpa using hi)).2.2.1
      exact ⟨by omega, by omega⟩
    · intro x hx
      obtain ⟨i, hi, rfl⟩ := List.mem_map.1 hx
      exact (hfx i (by simpa using hi)).2.2.2

end Go.Proofs.YtbjobbkgelipmaaGreat

/-
  Verifies: the law's walk, given what both Verifys answer.
-/
namespace Go.Proofs.YtbjobbkgelipmaaGreat
open Go.ChangeShapes Go.WideShapes Go.ChangeAt Go.RowKit


set_option maxHeartbeats 400000 in
theorem verifies_any (hV : VerOwes) (a0 : Option Addr) (len cap : Nat) (w : World) (hU : ∀ w', Below w.heap.size w w' → Calls Tryz.prog 9 #[.slice a0 len cap, .int .i64 1, .int .i64 2] w' fun e w'' => e = .returned (.int .i64 (-1)) ∧ Below w'.heap.size w' w'') :
    Calls Tryz.prog 4 #[.slice a0 len cap] w fun e w' => e = .returned (.bool true) ∧ Below w.heap.size w w' := by
  have HU := hide hU
  clear hU
  go_enter Tryz.func4, Tryz.ntmps4
  go_wp2_with fail
  refine (example_any 1 2 (owes_verifies hV).more _).mono ?_
  rintro e w1 ⟨rfl, hb1⟩
  go_wp2_with fail
  refine (unhide HU _ hb1).mono ?_
  rintro e w2 ⟨rfl, hb2⟩
  have HB := hide (hb1.trans (hb2.mono hb1.size))
  clear hb1 hb2 HU
  go_wp2
  go_ret
  exact ⟨rfl, unhide HB⟩

set_option maxRecDepth 100000 in
theorem verifies_lifted (hV : VerOwes) (os : Os) (started : os.Started) (H : Type) (enc : TypeId × Value → H) :
    ReturnsInHanded {} Tryz.checked os 4 .any (Rows.verifiesSpec.pre6 enc Tryz.prog Tryz.f4 Rows.verifiesRow.domain false) (Rows.verifiesSpec.post enc Tryz.prog Tryz.f4 false true false false) := by
  refine returnsInHanded_of_change_sized (C := Tryz.checked) Tryz.own started (by kernel_rfl) Tryz.func4
    (ChangeSpec.witness6 (enc := enc) (C := Tryz.checked) false ⟨#[], #[.slice none 0 0], []⟩ 8 (by kernel_rfl) (by kernel_rfl) (by kernel_rfl) (by kernel_rfl)) ?_
  intro W base args ds gs before hval0 hW _ hsz0 _
  have hsz : (DataW.weightsEach Tryz.prog (Tryz.f4.params.toList ++ Rows.verifiesSpec.plain.varTypes Tryz.prog) (ds ++ gs)).all (· ≤ reachBytes) = true := hsz0
  clear hsz0
  have hval : ∀ (j : Nat) t v, Tryz.f4.params[j]? = some t → args[j]? = some v → Value.okWide Tryz.prog W .any base t v := hval0
  have hW' := hW
  obtain ⟨p, q, hA0, hVr, rfl, _, _⟩ := hW
  have hA : DataW.TrodAll enc Tryz.prog W 0 (fun _ => true) true Tryz.f4.params.toList args.toList ds p := hA0
  rw [Tryz.params4] at hA hval hsz
  obtain ⟨v0, d0, rfl, rfl, h0⟩ := trodAll_one hA
  obtain ⟨rfl, rfl⟩ := trodVars_none hVr
  obtain ⟨a0, len, cap, rfl⟩ := okWide_slice Tryz.underlying22 (hval 0 22 v0 rfl rfl)
  have h0k := h0
  obtain ⟨fuel, hf⟩ := h0
  clear hA0 hval0
  simp only [List.append_nil] at hW'
  have hlt : ∀ x ∈ p, x.block < W.heap.size := fun x hx => by simpa using hW'.lt x hx
  have hargs : ∀ (W' : World), Below W.heap.size W W' → DataW.Trod enc Tryz.prog W' 0 (fun b => decide (b < W.heap.size)) true 22 (.slice a0 len cap) d0 p :=
    fun W' hn => Below.trod Tryz.laidOut (by kernel_rfl) (of_decide_eq_true (by kernel_rfl)) h0k hn hlt
  have hU : ∀ w', Below W.heap.size W w' → Calls Tryz.prog 9 #[.slice a0 len cap, .int .i64 1, .int .i64 2] w' fun e w'' => e = .returned (.int .i64 (-1)) ∧ Below w'.heap.size w' w'' := by
    intro w' hb
    rcases script_open (by simpa [Value.cells] using hf) (fun m hm => by
        have := List.all_eq_true.1 hsz m (DataW.weights_mem_each (j := 0) (t := 22) rfl rfl m hm)
        simpa using this) with rfl | ⟨b, off, xs, rfl, rfl, hm, hS⟩
    · exact upto_none a0 cap 1 2 w'
    · exact owes_verifies hV b off cap xs w' hm ⟨Nat.lt_of_lt_of_le hS.lt hb.size, fun i hi => (hS.cells i hi).below hb hS.lt, hS.small⟩
  refine (verifies_any hV a0 len cap W hU).mono fun e W' ⟨he, hnx⟩ => ?_
  subst he
  refine ⟨_, rfl, _, _, _, [], p, [], hW', ?_, ?_, rfl, hnx.frame _, fun h => by cases h⟩
  · exact trodAll_mk1 (shut_bool Tryz.underlying4 true)
  · exact trodAll_mk1 (hargs _ hnx)

theorem verifies_of (hV : VerOwes) : Rows.VerifiesSaid :=
  OpenClaim.holds_of_wide 4 Tryz.f4 rfl rfl rfl rfl rfl rfl rfl ⟨rfl, rfl, rfl, rfl, rfl⟩ rfl rfl rfl rfl rfl (by kernel_rfl) Tryz.func4 (by kernel_rfl)
    (of_decide_eq_true (by kernel_rfl)) (by unfold Func.isWrapper; first | (rw [if_pos (by decide +kernel)]; kernel_rfl) | (rw [if_neg (by decide +kernel)]; exact ⟨rfl, rfl⟩))
    (fun os started H enc _ => verifies_lifted hV os started H enc)

#print axioms verifies_of

end Go.Proofs.YtbjobbkgelipmaaGreat

/-
  Verifies: the statement.
-/
namespace Go.Proofs.YtbjobbkgelipmaaGreat
open Go.RowKit

theorem ver_owes : VerOwes := fun s t hs ht =>
  ⟨⟨(verAns s.data.toList t.data.toList).1.toArray⟩, (verAns s.data.toList t.data.toList).2.1, (verAns s.data.toList t.data.toList).2.2,
    fun w b1 b2 h1 h2 hB1 hB2 => ownver_any s t b1 b2 w hs ht h1 h2 hB1 hB2, fun w => refver_any s t w hs ht⟩

theorem verifies_holds : Rows.VerifiesSaid := verifies_of ver_owes

#print axioms verifies_holds

end Go.Proofs.YtbjobbkgelipmaaGreat

/-
  What slices.Sorted(maps.Keys(m)) gives, by the library's contracts.
-/
namespace Go.Proofs.YtbjobbkgelipmaaGreat
open Go.RowKit Go.Maps Go.Sort Go.Shelf

theorem Tryz.sortsL (m : Nat) : AnyZ.SortsIn Tryz.prog Tryz.sortedL_ren Fence.wide m :=
  ⟨fun blk off cap ss W hH hblk hsz => callsIn_wide.2 (AnyM.slices_Sort_string Tryz.sortL blk off cap ss W hH hblk hsz),
   fun p cap W => callsIn_wide.2 (AnyM.slices_Sort_string_none Tryz.sortL p cap W)⟩

set_option maxHeartbeats 1000000 in
theorem sortk : SortK := ⟨
  fun mb W => (callsIn_wide (n := 5)).1 (AnyZ.keys_in Tryz.keysL Fence.wide 5 trivial rfl mb W),
  fun b nn D0 w hown hsz => (callsIn_wide (n := 5)).1 (by
    have hbl := hown.lt
    have hseq : SeqGives Fence.wide 2 Tryz.prog 90 #[.pointer (some ⟨w.heap.size, 0, none⟩)] encStr (fun ss => ss.Perm (strKeys D0)) (Maps.size D0) (w.alloc (.cells #[.map (some b)] 86)) :=
      AnyZ.keys_gives (ρ := Tryz.keysL_ren) { Tryz.keysL with } Fence.wide _ trivial rfl (by omega) w.heap.size b nn D0 _ (by simp) (by simp) (by
        obtain ⟨es, clock, hb, Ft, hs, hD⟩ := hown
        exact ⟨es, clock, (Below.heap_alloc _ _ b hbl).trans hb, Ft, hs, hD⟩)
    exact AnyZ.sorted_in Tryz.sortedL Fence.wide 5 trivial trivial trivial trivial rfl (by omega) (Tryz.sortsL _) (enters_of Tryz.func89 (by kernel_rfl) rfl) 90 #[.pointer (some ⟨w.heap.size, 0, none⟩)] trivial (enters_of Tryz.func90 (by kernel_rfl) rfl) _ _ (by unfold maxLen; omega) (by omega) _ hseq)⟩

#print axioms sortk

end Go.Proofs.YtbjobbkgelipmaaGreat
