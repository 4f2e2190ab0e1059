/-
  The walk of tithe's readSide.
-/
import Derived.Test.YtbjobbkgelipmaaGreatRdNum
namespace Go.Proofs.YtbjobbkgelipmaaGreat
open Go.RowKit

theorem BytesAt.drop {w : World} {b o k : Nat} {l : List UInt8} (h : BytesAt w b o l) : BytesAt w b (o + k) (l.drop k) := by
  intro j hj
  have h1 := h (k + j) (by rw [List.length_drop] at hj; omega)
  rw [Nat.add_assoc, h1, List.getElem_drop]

set_option maxHeartbeats 400000 in
set_option maxRecDepth 100000 in
theorem rdside_any (b o len cap : Nat) (l : List UInt8) (w : World) (hl : 11 ≤ l.length) (hc : len ≤ cap) (hlen : 11 ≤ len) (hm : cap ≤ 9223372036854775807) (hb : b < w.heap.size) (hB : BytesAt w b o l) :
    Calls Tryz.prog 76 #[.slice (some ⟨b, o, none⟩) len cap] w fun e w' => e = .returned (sideV (sideAt l 0).1 (sideAt l 0).2) ∧ Below w.heap.size w w' := by
  obtain ⟨W, hW⟩ : ∃ W, W = (w.alloc (Obj.cells #[Value.int IntKind.u8 0, Value.int IntKind.u8 0, Value.int IntKind.u8 0, Value.int IntKind.u64 0] 106)).drew := ⟨_, rfl⟩
  obtain ⟨d0, hd0⟩ : ∃ d : Int, ((l.getD 0 0).toNat : Int) = d := ⟨_, rfl⟩
  obtain ⟨d1, hd1⟩ : ∃ d : Int, ((l.getD 1 0).toNat : Int) = d := ⟨_, rfl⟩
  obtain ⟨d2, hd2⟩ : ∃ d : Int, ((l.getD 2 0).toNat : Int) = d := ⟨_, rfl⟩
  have hcell : ∀ k (h : k < 3), w.cell? ⟨b, o + k, none⟩ = some (.int .u8 ((l.getD k 0).toNat : Int)) := fun k h => by
    rw [hB k (by omega), List.getD_eq_getElem?_getD, List.getElem?_eq_getElem (by omega)]; rfl
  have c0 := hcell 0 (by omega)
  have c1 := hcell 1 (by omega)
  have c2 := hcell 2 (by omega)
  rw [hd0, Nat.add_zero] at c0
  rw [hd1] at c1
  rw [hd2] at c2
  obtain ⟨n, hn⟩ : ∃ n : Int, n = numB ((l.drop 3).take 8) := ⟨_, rfl⟩
  have HN : Hid (Calls Tryz.prog 92 #[.slice (some ⟨b, o + 3, none⟩) (len - 3) (cap - 3)] W fun e w' => e = .returned (.int .u64 n) ∧ w' = W) := by
    rw [hn]
    have hBW : BytesAt W b o l := by rw [hW]; intro j hj; exact ((Below.refl w.heap.size w).alloc (Nat.le_refl _) _).drew.cell (p := ⟨b, o + j, none⟩) hb |>.trans (hB j hj)
    exact rdnum_any b (o + 3) (len - 3) (cap - 3) (l.drop 3) W (by rw [List.length_drop]; omega) (by omega) (by omega) (by unfold maxLen; omega) hBW.drop
  have HD : Hid (sideV (sideAt l 0).1 (sideAt l 0).2 = .agg #[.int .u8 d0, .int .u8 d1, .int .u8 d2, .int .u64 n]) := by
    rw [← hd0, ← hd1, ← hd2, hn]; rfl
  have HL := hide hl
  have lc : cap ≠ 3 := by omega
  subst hW
  clear hn hd0 hd1 hd2 hcell hB hl
  have hne : b ≠ w.heap.size := by omega
  have l0 : 0 < len := by omega
  have l1 : (1 : Int) < (len : Int) := by omega
  have l2 : (2 : Int) < (len : Int) := by omega
  have l3 : 3 ≤ len := by omega
  have l4 : (3 : Int) ≤ (len : Int) := by omega
  go_enter Tryz.func76, Tryz.ntmps76
  go_wp2_with fail
  refine region_tail 14 (by kernel_rfl) (by kernel_rfl) ?_
  simp only [List.take_succ_cons, List.take_zero, List.drop_succ_cons, List.drop_zero]
  repeat still_step
  still_call (unhide HN)
  repeat still_step
  refine wpStill_nil ?_
  clear HN
  go_wp2
  refine bodyPost_ret (v := sideV (sideAt l 0).1 (sideAt l 0).2) ?_ rfl ⟨rfl, ?_⟩
  · rw [unhide HD]
    simp [results, Tryz.results76, go_sem]
  · exact ((Below.refl _ _).alloc (Nat.le_refl _) _).drew

end Go.Proofs.YtbjobbkgelipmaaGreat
