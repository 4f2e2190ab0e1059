/-
  The walks of tithe's isNameLength and inOrder.
-/
import Derived.Test.YtbjobbkgelipmaaGreatNodeT
namespace Go.Proofs.YtbjobbkgelipmaaGreat
open Go.RowKit

set_option maxHeartbeats 400000 in
theorem isname_any (n : Nat) (w : World) :
    Calls Tryz.prog 47 #[.int .i64 (n : Int)] w fun e w' => e = .returned (.bool (decide (1 ≤ n ∧ n ≤ 8))) ∧ w' = w := by
  by_cases h1 : 1 ≤ n
  · by_cases h2 : n ≤ 8
    · have k1 : (1 : Int) ≤ (n : Int) := by omega
      have k2 : (n : Int) ≤ 8 := by omega
      rw [decide_eq_true ⟨h1, h2⟩]
      clear h1 h2
      go_enter Tryz.func47, Tryz.ntmps47
      go_wp2
      go_ret
      exact ⟨rfl, rfl⟩
    · have k1 : (1 : Int) ≤ (n : Int) := by omega
      have k2 : ¬ (n : Int) ≤ 8 := by omega
      rw [decide_eq_false (fun h => h2 h.2)]
      clear h1 h2
      go_enter Tryz.func47, Tryz.ntmps47
      go_wp2
      go_ret
      exact ⟨rfl, rfl⟩
  · have k1 : ¬ (1 : Int) ≤ (n : Int) := by omega
    rw [decide_eq_false (fun h => h1 h.1)]
    clear h1
    go_enter Tryz.func47, Tryz.ntmps47
    go_wp2
    go_ret
    exact ⟨rfl, rfl⟩

set_option maxRecDepth 100000 in
set_option maxHeartbeats 400000 in
theorem inorder_any (pl : Nat) (d d' : Dg) (x x' : Int) (w : World) (hp : pl ≤ 255) :
    Calls Tryz.prog 105 #[.int .i64 (pl : Int), sideV d x, sideV d' x'] w fun e w' => e = .returned (if pl % 2 = 0 then .tuple #[sideV d x, sideV d' x'] else .tuple #[sideV d' x', sideV d x]) ∧ Below w.heap.size w w' := by
  unfold sideV
  generalize (d.1.toNat : Int) = a0 at *
  generalize (d.2.1.toNat : Int) = a1 at *
  generalize (d.2.2.toNat : Int) = a2 at *
  generalize (d'.1.toNat : Int) = b0 at *
  generalize (d'.2.1.toNat : Int) = b1 at *
  generalize (d'.2.2.toNat : Int) = b2 at *
  by_cases he : pl % 2 = 0
  · rw [if_pos he]
    have hr : (pl : Int).tmod 2 = 0 := by rw [Int.tmod_eq_emod_of_nonneg (by omega)]; omega
    have hr2 : IntKind.i64.wrap ((pl : Int).tmod 2) = 0 := by rw [hr]; rfl
    clear he
    go_enter Tryz.func105, Tryz.ntmps105
    go_wp2_with fail
    go_region
    go_wp2
    refine bodyPost_ret (v := .tuple #[.agg #[.int .u8 a0, .int .u8 a1, .int .u8 a2, .int .u64 x], .agg #[.int .u8 b0, .int .u8 b1, .int .u8 b2, .int .u64 x']]) ?_ rfl ⟨rfl, ?_⟩
    · simp [results, Tryz.results105, go_sem]
    · repeat first
        | exact Below.refl _ _
        | refine Below.drew ?_
        | refine Below.setCell ?_ (by simp; try omega) _
        | refine Below.alloc ?_ (by simp; try omega) _
  · rw [if_neg he]
    have hr : (pl : Int).tmod 2 = 1 := by rw [Int.tmod_eq_emod_of_nonneg (by omega)]; omega
    have hr2 : IntKind.i64.wrap ((pl : Int).tmod 2) = 1 := by rw [hr]; rfl
    clear he
    go_enter Tryz.func105, Tryz.ntmps105
    go_wp2_with fail
    go_region
    go_wp2
    refine bodyPost_ret (v := .tuple #[.agg #[.int .u8 b0, .int .u8 b1, .int .u8 b2, .int .u64 x'], .agg #[.int .u8 a0, .int .u8 a1, .int .u8 a2, .int .u64 x]]) ?_ rfl ⟨rfl, ?_⟩
    · simp [results, Tryz.results105, go_sem]
    · repeat first
        | exact Below.refl _ _
        | refine Below.drew ?_
        | refine Below.setCell ?_ (by simp; try omega) _
        | refine Below.alloc ?_ (by simp; try omega) _

end Go.Proofs.YtbjobbkgelipmaaGreat
