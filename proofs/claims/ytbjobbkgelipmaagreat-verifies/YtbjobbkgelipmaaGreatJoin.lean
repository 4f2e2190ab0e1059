/-
  The walk of tithe's join.
-/
import Derived.Test.YtbjobbkgelipmaaGreatOwnSide
import Derived.Test.YtbjobbkgelipmaaGreatBounds
namespace Go.Proofs.YtbjobbkgelipmaaGreat
open Go.RowKit

def sideZ0 : Value := .agg #[.int .u8 0, .int .u8 0, .int .u8 0, .int .u64 0]

set_option maxRecDepth 100000 in
set_option maxHeartbeats 400000 in
theorem join_no (pl : Nat) (d d' : Dg) (x x' : Int) (w : World) (h0 : 0 ≤ x) (h0' : 0 ≤ x') (hs : maxS < x + x') :
    Calls Tryz.prog 95 #[.int .i64 (pl : Int), sideV d x, sideV d' x'] w fun e w' => e = .returned (.tuple #[sideZ0, .bool false]) ∧ Below w.heap.size w w' := by
  unfold sideV sideZ0 at *
  have HA := fun w => hide (add_any x x' w h0 h0')
  rw [decide_eq_false (by omega)] at HA
  generalize capS x + capS x' = cs at *
  clear hs h0 h0'
  go_enter Tryz.func95, Tryz.ntmps95
  go_wp2_with fail
  refine (unhide (HA _)).mono ?_
  rintro e w1 ⟨rfl, rfl⟩
  clear HA
  go_wp2
  refine bodyPost_ret (v := .tuple #[.agg #[.int .u8 0, .int .u8 0, .int .u8 0, .int .u64 0], .bool false]) ?_ rfl ⟨rfl, ?_⟩
  · simp [results, Tryz.results95, go_sem]
  · repeat first
      | exact Below.refl _ _
      | refine Below.drew ?_
      | refine Below.setCell ?_ (by simp; try omega) _
      | refine Below.alloc ?_ (by simp; try omega) _

set_option maxRecDepth 100000 in
set_option maxHeartbeats 1000000 in
theorem join_yes (pl : Nat) (d d' : Dg) (x x' : Int) (w : World) (hp : pl ≤ 255) (h0 : 0 ≤ x) (h0' : 0 ≤ x') (hs : x + x' ≤ maxS) :
    Calls Tryz.prog 95 #[.int .i64 (pl : Int), sideV d x, sideV d' x'] w fun e w' => e = .returned (.tuple #[sideV (dg (upText pl (d, x) (d', x'))) (x + x'), .bool true]) ∧ Below w.heap.size w w' := by
  have HA := fun w => hide (add_any x x' w h0 h0')
  rw [decide_eq_true hs] at HA
  generalize capS x + capS x' = cs at *
  unfold maxS at hs
  obtain ⟨dl, dr, xl, xr, HI, hT, hr⟩ : ∃ (dl dr : Dg) (xl xr : Int), (∀ w, Hid (Calls Tryz.prog 105 #[.int .i64 (pl : Int), sideV d x, sideV d' x'] w fun e w' => e = .returned (.tuple #[sideV dl xl, sideV dr xr]) ∧ Below w.heap.size w w')) ∧ upText pl (d, x) (d', x') = 1 :: (sideB (dl, xl) ++ sideB (dr, xr)) ∧ (0 ≤ xl ∧ 0 ≤ xr ∧ xl + xr < 18446744073709551616 ∧ xl + xr = x + x') := by
    by_cases he : pl % 2 = 0
    · refine ⟨d, d', x, x', fun w => hide ?_, ?_, by omega⟩
      · have := inorder_any pl d d' x x' w hp
        rw [if_pos he] at this
        exact this
      · unfold upText; rw [if_neg (by omega)]
    · refine ⟨d', d, x', x, fun w => hide ?_, ?_, by omega⟩
      · have := inorder_any pl d d' x x' w hp
        rw [if_neg he] at this
        exact this
      · unfold upText; rw [if_pos (by omega)]
  have HN := fun w => hide (nodeside_any dl dr xl xr w hr.1 hr.2.1 hr.2.2.1)
  rw [hT]
  rw [hr.2.2.2] at HN
  generalize (1 :: (sideB (dl, xl) ++ sideB (dr, xr))) = T at *
  clear hs h0 h0' hT hr hp
  unfold sideV at *
  generalize ((dg T).1.toNat : Int) = t0 at *
  generalize ((dg T).2.1.toNat : Int) = t1 at *
  generalize ((dg T).2.2.toNat : Int) = t2 at *
  generalize (d.1.toNat : Int) = a0 at *
  generalize (d.2.1.toNat : Int) = a1 at *
  generalize (d.2.2.toNat : Int) = a2 at *
  generalize (d'.1.toNat : Int) = b0 at *
  generalize (d'.2.1.toNat : Int) = b1 at *
  generalize (d'.2.2.toNat : Int) = b2 at *
  generalize (dl.1.toNat : Int) = l0 at *
  generalize (dl.2.1.toNat : Int) = l1 at *
  generalize (dl.2.2.toNat : Int) = l2 at *
  generalize (dr.1.toNat : Int) = r0 at *
  generalize (dr.2.1.toNat : Int) = r1 at *
  generalize (dr.2.2.toNat : Int) = r2 at *
  generalize x + x' = xs at *
  go_enter Tryz.func95, Tryz.ntmps95
  go_wp2_with fail
  refine (unhide (HA _)).mono ?_
  rintro e w1 ⟨rfl, rfl⟩
  clear HA
  go_wp2_with fail
  generalize hW0 : (((w.alloc (Obj.cells #[Value.int IntKind.u8 a0, Value.int IntKind.u8 a1, Value.int IntKind.u8 a2, Value.int IntKind.u64 x] 106)).alloc (Obj.cells #[Value.int IntKind.u8 b0, Value.int IntKind.u8 b1, Value.int IntKind.u8 b2, Value.int IntKind.u64 x'] 106)).alloc (Obj.cells #[Value.int IntKind.u8 0, Value.int IntKind.u8 0, Value.int IntKind.u8 0, Value.int IntKind.u64 0] 106)) = W0
  have hz0 : W0.heap.size = w.heap.size + 3 := by rw [← hW0]; simp
  have kk : Res4 W0 (w.heap.size + 2) := by rw [← hW0]; exact res4_block (heap_new2 w _ _ _)
  have hA0 : Below w.heap.size w W0 := by
    rw [← hW0]
    exact (((Below.refl _ _).alloc (Nat.le_refl _) _).alloc (by simp) _).alloc (by simp; omega) _
  clear hW0
  refine (unhide (HI _)).mono ?_
  rintro e w1 ⟨rfl, hb1⟩
  have z1 : w.heap.size + 3 ≤ w1.heap.size := by have := hb1.size; omega
  have k1 : Res4 w1 (w.heap.size + 2) := Res4.below kk (by omega) hb1
  have HA := hide (hA0.trans (hb1.mono (by omega)))
  clear kk hA0 hb1 HI
  go_wp2_with fail
  refine (unhide (HN _)).mono ?_
  rintro e w4 ⟨rfl, hb4⟩
  have k4 := Res4.below k1 (by omega) hb4
  have z4 := hb4.size
  have HA4 := hide ((unhide HA).trans (hb4.mono (by omega)))
  obtain ⟨q0, q1, q2, q3, g0, g1, g2, g3, j0, j1, j2, j3⟩ := k4.cells
  clear hb4 HA k1 k4 HN
  go_wp2
  refine bodyPost_ret (v := .tuple #[.agg #[.int .u8 t0, .int .u8 t1, .int .u8 t2, .int .u64 xs], .bool true]) ?_ rfl ⟨rfl, ?_⟩
  · simp [results, Tryz.results95, go_sem, g0, g1, g2, g3]
  · refine Below.setCell (Below.setCell (Below.setCell (Below.setCell (unhide HA4) (by simp; try omega) _) (by simp; try omega) _) (by simp; try omega) _) (by simp; try omega) _

end Go.Proofs.YtbjobbkgelipmaaGreat
