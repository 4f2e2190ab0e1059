/-
  The walk of tithe's readProof: a head that does not fit.
-/
import Derived.Test.YtbjobbkgelipmaaSbae
import Derived.Test.YtbjobbkgelipmaaSbai
namespace Go.Proofs.Ytbjobbkgelipmaa
open Go.RowKit

set_option maxHeartbeats 400000 in
set_option maxRecDepth 100000 in
theorem rdpr_short (b len cap h : Nat) (w : World) (hlen : len < 3) :
    Calls Try.prog 50 #[.slice (some ⟨b, 0, none⟩) len cap, .int .i64 (h : Int)] w fun e w' => e = .returned (.tuple #[proofZ, .bool false]) ∧ Below w.heap.size w w' := by
  have hl : (len : Int) < 3 := by omega
  clear hlen
  go_enter Try.func50, Try.ntmps50
  go_wp2
  refine bodyPost_ret (v := .tuple #[proofZ, .bool false]) ?_ rfl ⟨rfl, ?_⟩
  · simp [results, Try.results50, go_sem, proofZ]
  · repeat first
      | exact Below.refl _ _
      | refine Below.setCell ?_ (by simp; try omega) _
      | refine Below.alloc ?_ (by simp; try omega) _

set_option maxHeartbeats 400000 in
set_option maxRecDepth 100000 in
theorem rdpr_height (b len cap h b0 : Nat) (w : World) (hlen : 3 ≤ len) (hb : b < w.heap.size) (c0 : w.cell? ⟨b, 0, none⟩ = some (.int .u8 (b0 : Int))) (h0 : b0 ≤ 255) (hne : b0 ≠ h) :
    Calls Try.prog 50 #[.slice (some ⟨b, 0, none⟩) len cap, .int .i64 (h : Int)] w fun e w' => e = .returned (.tuple #[proofZ, .bool false]) ∧ Below w.heap.size w w' := by
  have hl : ¬ (len : Int) < 3 := by omega
  have hl0 : 0 < len := by omega
  have hw : IntKind.i64.wrap (b0 : Int) = (b0 : Int) := by rw [IntKind.wrap_i64]; omega
  have hnb : b ≠ w.heap.size := by omega
  have hne' : ((b0 : Int) != (h : Int)) = true := by simp; omega
  clear hlen
  go_enter Try.func50, Try.ntmps50
  go_wp2
  refine bodyPost_ret (v := .tuple #[proofZ, .bool false]) ?_ rfl ⟨rfl, ?_⟩
  · simp [results, Try.results50, go_sem, proofZ]
  · repeat first
      | exact Below.refl _ _
      | refine Below.setCell ?_ (by simp; try omega) _
      | refine Below.alloc ?_ (by simp; try omega) _

end Go.Proofs.Ytbjobbkgelipmaa
