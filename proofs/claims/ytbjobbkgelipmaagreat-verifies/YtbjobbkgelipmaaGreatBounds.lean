/-
  The walks of tithe's add and take.
-/
import Derived.Test.YtbjobbkgelipmaaGreatAccP
import Derived.Lib.MinMax
namespace Go.Proofs.YtbjobbkgelipmaaGreat
open Go.RowKit

def capS (x : Int) : Int := min x 4611686018427387905
theorem capS_le (x y : Int) (h0 : 0 ≤ x) (h1 : 0 ≤ y) : (capS x + capS y ≤ maxS ↔ x + y ≤ maxS) ∧ 0 ≤ capS x ∧ capS x ≤ 4611686018427387905 := by
  unfold capS maxS; omega
theorem capS_id (x y : Int) (h0 : 0 ≤ x) (h1 : 0 ≤ y) (h : x + y ≤ maxS) : capS x + capS y = x + y := by
  unfold capS maxS at *; omega

set_option maxHeartbeats 400000 in
set_option maxRecDepth 100000 in
theorem add_any (x y : Int) (w : World) (h0 : 0 ≤ x) (h1 : 0 ≤ y) :
    Calls Tryz.prog 50 #[.int .u64 x, .int .u64 y] w fun e w' => e = .returned (.tuple #[.int .u64 (capS x + capS y), .bool (decide (x + y ≤ maxS))]) ∧ w' = w := by
  have e : decide (x + y ≤ maxS) = decide (capS x + capS y ≤ 4611686018427387904) := decide_eq_decide.2 (capS_le x y h0 h1).1.symm
  have hx := (capS_le x y h0 h1).2
  have hy := (capS_le y x h1 h0).2
  have hwr : IntKind.u64.wrap (capS x + capS y) = capS x + capS y := by rw [IntKind.wrap_u64]; omega
  rw [e]
  have hc1 : min x 4611686018427387905 = capS x := rfl
  have hc2 : min y 4611686018427387905 = capS y := rfl
  generalize hb : decide (capS x + capS y ≤ 4611686018427387904) = bb
  clear e hx hy h0 h1
  go_enter Tryz.func50, Tryz.ntmps50
  go_wp2
  go_ret2
  refine ⟨?_, rfl⟩
  simp

set_option maxHeartbeats 400000 in
set_option maxRecDepth 100000 in
theorem take_any (x y : Int) (w : World) (h0 : 0 ≤ x) (h1 : 0 ≤ y) (h2 : x < 18446744073709551616) (h3 : y < 18446744073709551616) :
    Calls Tryz.prog 51 #[.int .u64 x, .int .u64 y] w fun e w' => e = .returned (.tuple #[.int .u64 (max x y - y), .bool (decide (y ≤ x))]) ∧ w' = w := by
  have hwr : IntKind.u64.wrap (max x y - y) = max x y - y := by rw [IntKind.wrap_u64]; omega
  have e : (max x y == x) = decide (y ≤ x) := by
    rw [Bool.eq_iff_iff, beq_iff_eq, decide_eq_true_iff]; omega
  rw [← e]
  generalize hb : (max x y == x) = bb
  clear e h0 h1 h2 h3
  go_enter Tryz.func51, Tryz.ntmps51
  go_wp2
  go_ret2
  refine ⟨?_, rfl⟩
  simp

end Go.Proofs.YtbjobbkgelipmaaGreat
