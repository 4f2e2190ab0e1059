/-
  step and UpTo where steps digest or look at a proof (Kinds 1 and 2), given what both Verifys answer.
-/
import Derived.Test.YtbjobbkgelipmaaGreatFreeV
import Derived.Test.YtbjobbkgelipmaaGreatUpTo
import Derived.Test.YtbjobbkgelipmaaGreatExample
namespace Go.Proofs.YtbjobbkgelipmaaGreat
open Go.RowKit

/-- Both Verifys answer alike, in new memory. -/
def VerOwes : Prop := ∀ (s t : ByteArray), s.size ≤ 140737488351232 → t.size ≤ 140737488351232 → ∃ (vn : ByteArray) (vb ve : Int),
    (∀ (w : World) (b1 b2 : Nat), b1 < w.heap.size → b2 < w.heap.size → BytesAt w b1 0 s.data.toList → BytesAt w b2 0 t.data.toList →
      Calls Tryz.prog 42 #[.slice (some ⟨b1, 0, none⟩) s.size (s.size + 8), .slice (some ⟨b2, 0, none⟩) t.size (t.size + 8)] w fun e w' => e = .returned (.tuple #[.string vn, .int .u64 vb, .int .i64 ve]) ∧ Below w.heap.size w w') ∧
    (∀ (w : World), Calls Tryz.prog 43 #[.string s, .string t] w fun e w' => e = .returned (.tuple #[.string vn, .int .u64 vb, .int .i64 ve]) ∧ Below w.heap.size w w')

set_option maxHeartbeats 400000 in
set_option maxRecDepth 100000 in
theorem step_ver (hV : VerOwes) (n h sd : Int) (s t : ByteArray) (la : Option Addr) (ll lc : Nat) (a : Int) {w : World} {B : Nat} {ps hv : Value} {hs : List HoldD} (hI : Inv w B ps hv hs) (hss : s.size ≤ 140737488351232) (hts : t.size ≤ 140737488351232) (hl : (hs.length + 8) * 8 ≤ 140737488355328) :
    Calls Tryz.prog 12 #[.pointer (some ⟨B, 0, none⟩), opV 2 n h sd s t la ll lc a] w fun e w' => e = .returned (.bool true) ∧ Below B w w' ∧ ∃ hv' hs', Inv w' B ps hv' hs' ∧ hs'.length = hs.length + 8 := by
  obtain ⟨vn, vb, ve, hT, hR⟩ := hV s t hss hts
  have hBl := hI.lt
  have HF := hide fun (w' : World) (hb : Below w.heap.size w w') => free_ver n h sd s t la ll lc a (hI.later hb) hss hts hl vn vb ve hT hR
  clear hI hT hR hV
  unfold opV at *
  go_enter Tryz.func12, Tryz.ntmps12
  go_wp2_with fail
  refine (unhide HF _ ((Below.refl w.heap.size w).alloc (Nat.le_refl _) _)).mono ?_
  rintro e w1 ⟨rfl, hb, hv', hs', hI', hl'⟩
  have HE := hide (And.intro ((((Below.refl w.heap.size w).alloc (Nat.le_refl _) _).mono (by omega : B ≤ w.heap.size)).trans hb) (And.intro hI' hl'))
  clear hb hI' hl' HF
  go_wp2
  go_ret
  exact ⟨rfl, (unhide HE).1, hv', hs', (unhide HE).2.1, (unhide HE).2.2⟩

theorem inv_new (w : World) (ps : Value) : Inv (w.alloc (.cells #[ps, .slice none 0 0] 43 (0, 0))) w.heap.size ps (.slice none 0 0) [] :=
  ⟨Array.getElem?_push_size, ⟨rfl, .inl ⟨rfl, rfl⟩⟩, fun _ hx => by cases hx⟩

set_option maxHeartbeats 400000 in
set_option maxRecDepth 100000 in
theorem upto_vers (hV : VerOwes) (b off cap : Nat) (xs : List OpD) (w : World) (hm : xs.length ≤ 1466015503701) (hS : ScriptAt w b off xs) :
    Calls Tryz.prog 9 #[.slice (some ⟨b, off, none⟩) xs.length cap, .int .i64 1, .int .i64 2] w fun e w' => e = .returned (.int .i64 (-1)) ∧ Below w.heap.size w w' := by
  have HS := hide hS
  have HV := hide hV
  have hlt := hS.lt
  clear hS hV
  go_enter Tryz.func9, Tryz.ntmps9
  go_wp2
  go_loopw [8] (fun i wr => ∃ k : Nat, k ≤ xs.length ∧ i = .int .i64 k ∧ (∃ ps hv hs, Inv wr w.heap.size ps hv hs ∧ hs.length ≤ 8 * k) ∧ Below w.heap.size w wr) (fun i _ => xs.length - (intOf i).toNat)
  case atStart => exact ⟨0, Nat.zero_le _, rfl, ⟨_, _, [], inv_new _ _, by simp⟩, (Below.refl _ _).alloc (Nat.le_refl _) _⟩
  case round =>
    obtain ⟨k, hk, rfl, ⟨ps, hv, hs, hI, hlen⟩, hbel⟩ := hrel
    have Hbel := hide hbel
    have HI := hide hI
    have hz := hI.lt
    clear hbel hI
    by_cases hlt' : k < xs.length
    · obtain ⟨h0, h1, h2, h3, h4, h5, h6, h7⟩ := ((unhide HS).cells k hlt').below (unhide Hbel) hlt
      have hsm := (unhide HS).small _ (List.getElem_mem hlt')
      generalize xs[k] = x at *
      obtain ⟨xk, xn, xh, xsd, xs', xt, xla, xll, xlc, xa⟩ := x
      simp only at h0 h1 h2 h3 h4 h5 h6 h7 hsm
      obtain ⟨hsm1, hsm2⟩ := hsm
      by_cases hk1 : xk < 1
      · clear h1 h2 h3 h4 h5 h6 h7 hsm1 hsm2
        go_wp2
        go_roundw
        case rel => exact ⟨k + 1, by omega, by go_num, ⟨ps, hv, hs, unhide HI, by omega⟩, unhide Hbel⟩
        case measure => simp [intOf]; omega
      · by_cases hk2 : 2 < xk
        · clear h1 h2 h3 h4 h5 h6 h7 hsm1 hsm2
          go_wp2
          go_roundw
          case rel => exact ⟨k + 1, by omega, by go_num, ⟨ps, hv, hs, unhide HI, by omega⟩, unhide Hbel⟩
          case measure => simp [intOf]; omega
        · have hcases : xk = 1 ∨ xk = 2 := by omega
          rcases hcases with rfl | rfl
          · have hst := step_sum (.pointer (some ⟨w.heap.size, 0, none⟩)) xn xh xsd xs' xt xla xll xlc xa
            unfold opV at hst
            have Hst : Hid _ := hide hst
            clear hst hsm2
            go_wp2_with fail
            refine (unhide Hst _ hsm1).mono ?_
            rintro e w1 ⟨rfl, hb⟩
            have hI1 := (unhide HI).later hb
            have Hb1 := hide ((unhide Hbel).trans (hb.mono (by omega)))
            clear hb Hbel hz Hst h0 h1 h2 h3 h4 h5 h6 h7 HI
            have HL := hide (looks_any hI1 (by omega))
            have HI1 := hide hI1
            clear hI1
            go_wp2_with fail
            refine (unhide HL).mono ?_
            rintro e w2 ⟨rfl, d2, rfl⟩
            go_wp2
            go_roundw
            case rel => exact ⟨k + 1, by omega, by go_num, ⟨ps, hv, hs, (unhide HI1).later (below_drewN (Below.refl _ _) _), by omega⟩, below_drewN (unhide Hb1) _⟩
            case measure => simp [intOf]; omega
          · have hst := step_ver (unhide HV) xn xh xsd xs' xt xla xll xlc xa (unhide HI) hsm1 hsm2 (by omega)
            unfold opV at hst
            have Hst : Hid _ := hide hst
            clear hst hsm2
            go_wp2_with fail
            refine (unhide Hst).mono ?_
            rintro e w1 ⟨rfl, hb, hv1, hs1, hI1, hl1⟩
            have Hb1 := hide ((unhide Hbel).trans hb)
            clear hb Hbel hz Hst h0 h1 h2 h3 h4 h5 h6 h7 HI
            have HL := hide (looks_any hI1 (by omega))
            have HI1 := hide hI1
            clear hI1
            go_wp2_with fail
            refine (unhide HL).mono ?_
            rintro e w2 ⟨rfl, d2, rfl⟩
            go_wp2
            go_roundw
            case rel => exact ⟨k + 1, by omega, by go_num, ⟨ps, hv1, hs1, (unhide HI1).later (below_drewN (Below.refl _ _) _), by omega⟩, below_drewN (unhide Hb1) _⟩
            case measure => simp [intOf]; omega
    · clear HI
      go_wp2
      go_ret
      exact ⟨rfl, unhide Hbel⟩

theorem owes_verifies (hV : VerOwes) : UpToOwes 1 2 := fun b off cap xs w hm hS => upto_vers hV b off cap xs w hm hS

end Go.Proofs.YtbjobbkgelipmaaGreat
