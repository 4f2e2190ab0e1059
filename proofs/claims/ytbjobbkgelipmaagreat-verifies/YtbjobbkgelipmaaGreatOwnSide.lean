/-
  The walks of tithe's leafSide and nodeSide; tithe.Sum of a text of one's own.
-/
import Derived.Test.YtbjobbkgelipmaaGreatLeafT
import Derived.Test.YtbjobbkgelipmaaGreatLeafB
import Derived.Test.YtbjobbkgelipmaaGreatInOrd
import Derived.Test.YtbjobbkgelipmaaGreatAccM
import Derived.Deep.RegionHeld3
namespace Go.Proofs.YtbjobbkgelipmaaGreat
open Go.RowKit

theorem sum_own {base n : Nat} {v : Value} {l : List UInt8} {w : World} (hown : w.ownsRow base 5 1 v n (byteVals l)) (hn : l.length = n) (h0 : 0 < n) (hm : n ≤ maxLen) :
    Calls Tryz.prog 40 #[v] w fun e w' => e = .returned (digV (dg l)) ∧ Below w.heap.size w w' := by
  rcases hown.2 with ⟨_, h⟩ | ⟨g, cap, cur, rfl, _, hb, _, _, _, hx⟩
  · omega
  · refine sum_any g 0 n cap l w hn hm (Array.getElem?_eq_some_iff.1 hb).1 ?_
    intro j hj
    have h1 : (byteVals l)[j]? = some (.int .u8 (l[j].toNat : Int)) := by simp [byteVals, List.getElem?_eq_getElem hj]
    rw [← hx, List.getElem?_take] at h1
    split at h1
    · rw [Nat.zero_add]
      simp only [World.cell?, hb]
      simpa using h1
    · cases h1

theorem res4_new (W : World) (x0 x1 x2 x3 : Value) (t : TypeId) : Res4 (W.alloc (.cells #[x0, x1, x2, x3] t)) W.heap.size := by
  have h := heap_alloc_new W (.cells #[x0, x1, x2, x3] t)
  intro i hi
  rw [block_cell h]
  refine ⟨?_, block_free h⟩
  match i, hi with
  | 0, _ => rfl
  | 1, _ => rfl
  | 2, _ => rfl
  | 3, _ => rfl

theorem heap_next {W : World} {o X : Obj} {b : Nat} (h : W.heap[b]? = some X) : (W.alloc o).heap[b]? = some X := by
  rw [Below.heap_alloc _ _ _ (Array.getElem?_eq_some_iff.1 h).1]; exact h
theorem heap_new1 (w : World) (o o' : Obj) : ((w.alloc o).alloc o').heap[w.heap.size + 1]? = some o' := by
  have h := heap_alloc_new (w.alloc o) o'
  rwa [World.size_alloc] at h
theorem heap_new2 (w : World) (o o' o'' : Obj) : (((w.alloc o).alloc o').alloc o'').heap[w.heap.size + 2]? = some o'' := by
  have h := heap_alloc_new ((w.alloc o).alloc o') o''
  rwa [World.size_alloc, World.size_alloc] at h
theorem res4_block {W : World} {R : Nat} {x0 x1 x2 x3 : Value} {t : TypeId} (h : W.heap[R]? = some (.cells #[x0, x1, x2, x3] t (0, 0))) : Res4 W R := by
  intro i hi
  rw [block_cell h]
  refine ⟨?_, block_free h⟩
  match i, hi with
  | 0, _ => rfl
  | 1, _ => rfl
  | 2, _ => rfl
  | 3, _ => rfl

theorem sideB_len (y : Dg × Int) : (sideB y).length = 11 := by simp [sideB, dgB, longB_length]

theorem leafB_vals (nm : ByteArray) (x x' : Int) (hnm : nm.size ≤ 8) :
    [Value.int .u8 0] ++ [Value.int .u8 (nm.size : Int)] ++ Lib.strCells nm ++ byteVals (longB x) ++ byteVals (longB x') = byteVals (0 :: leafB nm.data.toList x x') := by
  have hs : nm.data.toList.length = nm.size := by simp
  simp [byteVals, Lib.strCells, leafB, hs]
  omega

/-- What the region of leafSide leans on. -/
abbrev LS (w : World) (nm : ByteArray) (x x' : Int) (w' : World) : Prop :=
  w'.cell? ⟨w.heap.size, 0, none⟩ = some (.string nm) ∧ w'.cell? ⟨w.heap.size, 1, none⟩ = some (.int .u64 x) ∧ w'.cell? ⟨w.heap.size, 2, none⟩ = some (.int .u64 x') ∧
    Res4 w' (w.heap.size + 1) ∧ w.heap.size + 1 < w'.heap.size ∧ Below w.heap.size w w'
theorem LS.keep {w W w4 : World} {nm : ByteArray} {x x' : Int} (hS : LS w nm x x' W) (hb : Below W.heap.size W w4) : LS w nm x x' w4 := by
  obtain ⟨h0, h1, h2, h3, z, h6⟩ := hS
  have := hb.size
  exact ⟨keepB hb (by omega) h0, keepB hb (by omega) h1, keepB hb (by omega) h2, h3.below z hb, by omega, h6.trans (hb.mono (by omega))⟩
theorem LS.store {w W : World} {nm : ByteArray} {x x' : Int} (hS : LS w nm x x' W) (x0 x1 x2 x3 : Value) :
    LS w nm x x' ((((W.setCell ⟨w.heap.size + 1, 0, none⟩ x0).setCell ⟨w.heap.size + 1, 1, none⟩ x1).setCell ⟨w.heap.size + 1, 2, none⟩ x2).setCell ⟨w.heap.size + 1, 3, none⟩ x3) := by
  obtain ⟨h0, h1, h2, h3, z, h6⟩ := hS
  have e := size_set4 W (w.heap.size + 1) x0 x1 x2 x3
  show LS w nm x x' (set4 W (w.heap.size + 1) x0 x1 x2 x3)
  exact ⟨cell_set4 _ _ _ _ _ _ _ _ _ (by omega) h0, cell_set4 _ _ _ _ _ _ _ _ _ (by omega) h1, cell_set4 _ _ _ _ _ _ _ _ _ (by omega) h2, h3.set4 _ _ _ _, by rw [e]; exact z, below_set4 h6 (by omega) _ _ _ _⟩

set_option maxRecDepth 100000 in
set_option maxHeartbeats 1000000 in
theorem leafside_any (nm : ByteArray) (x x' : Int) (w : World) (hnm : nm.size ≤ 8) (h0 : 0 ≤ x) (h1 : x < 18446744073709551616) (h0' : 0 ≤ x') (h1' : x' < 18446744073709551616) :
    Calls Tryz.prog 85 #[leafV nm x x'] w fun e w' => e = .returned (sideV (dg (0 :: leafB nm.data.toList x x')) x) ∧ Below w.heap.size w w' := by
  have hlen : (0 :: leafB nm.data.toList x x').length = 1 + 1 + nm.size + 8 + 8 := by
    have hs : nm.data.toList.length = nm.size := by simp
    rw [List.length_cons, leafB_length, hs]; omega
  have HT := fun w => hide (ownleaf_any nm x x' w hnm h0 h1 h0' h1')
  rw [leafB_vals nm x x' hnm] at HT
  generalize 0 :: leafB nm.data.toList x x' = T at *
  obtain ⟨d0, d1, d2, hD⟩ : ∃ d0 d1 d2 : Int, digV (dg T) = .agg #[.int .u8 d0, .int .u8 d1, .int .u8 d2] ∧ sideV (dg T) x = .agg #[.int .u8 d0, .int .u8 d1, .int .u8 d2, .int .u64 x] := ⟨_, _, _, rfl, rfl⟩
  rw [hD.2]
  have HD := hide hD.1
  have HL := hide hlen
  clear hlen hD h0 h1 h0' h1'
  unfold leafV at *
  go_enter Tryz.func85, Tryz.ntmps85
  go_wp2_with fail
  generalize hW : ((w.alloc (Obj.cells #[Value.string nm, Value.int IntKind.u64 x, Value.int IntKind.u64 x'] 115)).alloc (Obj.cells #[Value.int IntKind.u8 0, Value.int IntKind.u8 0, Value.int IntKind.u8 0, Value.int IntKind.u64 0] 106)) = W
  have hSd : LS w nm x x' W.drew := by
    rw [← hW]
    have hA : Below w.heap.size w ((w.alloc (Obj.cells #[Value.string nm, Value.int IntKind.u64 x, Value.int IntKind.u64 x'] 115)).alloc (Obj.cells #[Value.int IntKind.u8 0, Value.int IntKind.u8 0, Value.int IntKind.u8 0, Value.int IntKind.u64 0] 106)) := ((Below.refl w.heap.size w).alloc (Nat.le_refl _) _).alloc (by simp) _
    refine ⟨by simp, by simp, by simp, ?_, by simp, hA.drew⟩
    intro i hi
    match i, hi with
    | 0, _ => simp
    | 1, _ => simp
    | 2, _ => simp
    | 3, _ => simp
  clear hW
  go_region_held3 (fun w' => w'.cell? ⟨w.heap.size, 0, none⟩ = some (.string nm) ∧ w'.cell? ⟨w.heap.size, 1, none⟩ = some (.int .u64 x) ∧ w'.cell? ⟨w.heap.size, 2, none⟩ = some (.int .u64 x') ∧
      Res4 w' (w.heap.size + 1) ∧ w.heap.size + 1 < w'.heap.size ∧ Below w.heap.size w w')
    (first | with_reducible exact hS5 | with_reducible exact hS4 | with_reducible exact hSd | with_reducible exact LS.store hS5 _ _ _ _)
    (first
      | (go_at_call 99; refine (unhide (HT _)).mono ?_; rintro e w4 ⟨⟨v4, rfl, hown4⟩, hb4⟩; have hS4 := LS.keep hSd hb4; have HS := hide (sum_own hown4 (unhide HL) (by omega) (by unfold maxLen; omega)); rw [unhide HD] at HS)
      | (go_at_call 40; refine (unhide HS).mono ?_; rintro e w5 ⟨rfl, hb5⟩; have hS5 := LS.keep hS4 hb5; obtain ⟨r0, r1, r2, r3, g0, g1, g2, g3, f0, f1, f2, f3⟩ := hS5.2.2.2.1.cells))
  have HB := hide hS5.2.2.2.2.2
  clear hS5 hS4 hSd
  go_wp2
  refine bodyPost_ret (v := .agg #[.int .u8 d0, .int .u8 d1, .int .u8 d2, .int .u64 x]) ?_ rfl ⟨rfl, ?_⟩
  · simp [results, Tryz.results85, go_sem, g0, g1, g2, g3]
  · exact ((((unhide HB).setCell (by simp) _).setCell (by simp) _).setCell (by simp) _).setCell (by simp) _

/-- What the region of nodeSide leans on. -/
abbrev NS (w : World) (a0 a1 a2 x b0 b1 b2 x' : Int) (w' : World) : Prop :=
  (w'.cell? ⟨w.heap.size, 0, none⟩ = some (.int .u8 a0) ∧ w'.cell? ⟨w.heap.size, 1, none⟩ = some (.int .u8 a1) ∧ w'.cell? ⟨w.heap.size, 2, none⟩ = some (.int .u8 a2) ∧ w'.cell? ⟨w.heap.size, 3, none⟩ = some (.int .u64 x)) ∧
  (w'.cell? ⟨w.heap.size + 1, 0, none⟩ = some (.int .u8 b0) ∧ w'.cell? ⟨w.heap.size + 1, 1, none⟩ = some (.int .u8 b1) ∧ w'.cell? ⟨w.heap.size + 1, 2, none⟩ = some (.int .u8 b2) ∧ w'.cell? ⟨w.heap.size + 1, 3, none⟩ = some (.int .u64 x')) ∧
    Res4 w' (w.heap.size + 2) ∧ w.heap.size + 2 < w'.heap.size ∧ Below w.heap.size w w'
theorem NS.keep {w W w4 : World} {a0 a1 a2 x b0 b1 b2 x' : Int} (hS : NS w a0 a1 a2 x b0 b1 b2 x' W) (hb : Below W.heap.size W w4) : NS w a0 a1 a2 x b0 b1 b2 x' w4 := by
  obtain ⟨⟨h0, h1, h2, h3⟩, ⟨k0, k1, k2, k3⟩, h5, z, h6⟩ := hS
  have := hb.size
  exact ⟨⟨keepB hb (by omega) h0, keepB hb (by omega) h1, keepB hb (by omega) h2, keepB hb (by omega) h3⟩, ⟨keepB hb (by omega) k0, keepB hb (by omega) k1, keepB hb (by omega) k2, keepB hb (by omega) k3⟩, h5.below z hb, by omega, h6.trans (hb.mono (by omega))⟩
theorem NS.store {w W : World} {a0 a1 a2 x b0 b1 b2 x' : Int} (hS : NS w a0 a1 a2 x b0 b1 b2 x' W) (x0 x1 x2 x3 : Value) :
    NS w a0 a1 a2 x b0 b1 b2 x' ((((W.setCell ⟨w.heap.size + 2, 0, none⟩ x0).setCell ⟨w.heap.size + 2, 1, none⟩ x1).setCell ⟨w.heap.size + 2, 2, none⟩ x2).setCell ⟨w.heap.size + 2, 3, none⟩ x3) := by
  obtain ⟨⟨h0, h1, h2, h3⟩, ⟨k0, k1, k2, k3⟩, h5, z, h6⟩ := hS
  have e := size_set4 W (w.heap.size + 2) x0 x1 x2 x3
  show NS w a0 a1 a2 x b0 b1 b2 x' (set4 W (w.heap.size + 2) x0 x1 x2 x3)
  exact ⟨⟨cell_set4 _ _ _ _ _ _ _ _ _ (by omega) h0, cell_set4 _ _ _ _ _ _ _ _ _ (by omega) h1, cell_set4 _ _ _ _ _ _ _ _ _ (by omega) h2, cell_set4 _ _ _ _ _ _ _ _ _ (by omega) h3⟩, ⟨cell_set4 _ _ _ _ _ _ _ _ _ (by omega) k0, cell_set4 _ _ _ _ _ _ _ _ _ (by omega) k1, cell_set4 _ _ _ _ _ _ _ _ _ (by omega) k2, cell_set4 _ _ _ _ _ _ _ _ _ (by omega) k3⟩, h5.set4 _ _ _ _, by rw [e]; exact z, below_set4 h6 (by omega) _ _ _ _⟩

set_option maxRecDepth 100000 in
set_option maxHeartbeats 1000000 in
theorem nodeside_any (d d' : Dg) (x x' : Int) (w : World) (h0 : 0 ≤ x) (h0' : 0 ≤ x') (hs : x + x' < 18446744073709551616) :
    Calls Tryz.prog 87 #[sideV d x, sideV d' x'] w fun e w' => e = .returned (sideV (dg (1 :: (sideB (d, x) ++ sideB (d', x')))) (x + x')) ∧ Below w.heap.size w w' := by
  have HN := fun w => hide (nodetext_any d d' x x' w h0 (by omega) h0' (by omega))
  have HL : Hid ((1 :: (sideB (d, x) ++ sideB (d', x'))).length = 23) := by refine hide ?_; simp [sideB_len]
  generalize (1 :: (sideB (d, x) ++ sideB (d', x'))) = T at *
  obtain ⟨t0, t1, t2, hD⟩ : ∃ t0 t1 t2 : Int, digV (dg T) = .agg #[.int .u8 t0, .int .u8 t1, .int .u8 t2] ∧ sideV (dg T) (x + x') = .agg #[.int .u8 t0, .int .u8 t1, .int .u8 t2, .int .u64 (x + x')] := ⟨_, _, _, rfl, rfl⟩
  rw [hD.2]
  have HD := hide hD.1
  have hwr : IntKind.u64.wrap (x + x') = x + x' := by rw [IntKind.wrap_u64]; omega
  clear hs h0 h0' hD
  unfold sideV at *
  generalize (d.1.toNat : Int) = a0 at *
  generalize (d.2.1.toNat : Int) = a1 at *
  generalize (d.2.2.toNat : Int) = a2 at *
  generalize (d'.1.toNat : Int) = b0 at *
  generalize (d'.2.1.toNat : Int) = b1 at *
  generalize (d'.2.2.toNat : Int) = b2 at *
  go_enter Tryz.func87, Tryz.ntmps87
  go_wp2_with fail
  generalize hW : (((w.alloc (Obj.cells #[Value.int IntKind.u8 a0, Value.int IntKind.u8 a1, Value.int IntKind.u8 a2, Value.int IntKind.u64 x] 106)).alloc (Obj.cells #[Value.int IntKind.u8 b0, Value.int IntKind.u8 b1, Value.int IntKind.u8 b2, Value.int IntKind.u64 x'] 106)).alloc (Obj.cells #[Value.int IntKind.u8 0, Value.int IntKind.u8 0, Value.int IntKind.u8 0, Value.int IntKind.u64 0] 106)) = W
  have hSd : NS w a0 a1 a2 x b0 b1 b2 x' W.drew := by
    rw [← hW]
    have k0 := heap_next (o := (Obj.cells #[Value.int IntKind.u8 0, Value.int IntKind.u8 0, Value.int IntKind.u8 0, Value.int IntKind.u64 0] 106)) (heap_next (o := (Obj.cells #[Value.int IntKind.u8 b0, Value.int IntKind.u8 b1, Value.int IntKind.u8 b2, Value.int IntKind.u64 x'] 106)) (heap_alloc_new w (Obj.cells #[Value.int IntKind.u8 a0, Value.int IntKind.u8 a1, Value.int IntKind.u8 a2, Value.int IntKind.u64 x] 106)))
    have k1 := heap_next (o := (Obj.cells #[Value.int IntKind.u8 0, Value.int IntKind.u8 0, Value.int IntKind.u8 0, Value.int IntKind.u64 0] 106)) (heap_new1 w (Obj.cells #[Value.int IntKind.u8 a0, Value.int IntKind.u8 a1, Value.int IntKind.u8 a2, Value.int IntKind.u64 x] 106) (Obj.cells #[Value.int IntKind.u8 b0, Value.int IntKind.u8 b1, Value.int IntKind.u8 b2, Value.int IntKind.u64 x'] 106))
    refine ⟨⟨block_cell k0, block_cell k0, block_cell k0, block_cell k0⟩, ⟨block_cell k1, block_cell k1, block_cell k1, block_cell k1⟩, res4_block (heap_new2 w _ _ _), ?_, ((((Below.refl _ _).alloc (Nat.le_refl _) _).alloc (by simp) _).alloc (by simp; omega) _).drew⟩
    show w.heap.size + 2 < (((w.alloc _).alloc _).alloc _).heap.size
    simp only [World.size_alloc]; omega
  clear hW
  go_region_held3 (fun w' => (w'.cell? ⟨w.heap.size, 0, none⟩ = some (.int .u8 a0) ∧ w'.cell? ⟨w.heap.size, 1, none⟩ = some (.int .u8 a1) ∧ w'.cell? ⟨w.heap.size, 2, none⟩ = some (.int .u8 a2) ∧ w'.cell? ⟨w.heap.size, 3, none⟩ = some (.int .u64 x)) ∧
      (w'.cell? ⟨w.heap.size + 1, 0, none⟩ = some (.int .u8 b0) ∧ w'.cell? ⟨w.heap.size + 1, 1, none⟩ = some (.int .u8 b1) ∧ w'.cell? ⟨w.heap.size + 1, 2, none⟩ = some (.int .u8 b2) ∧ w'.cell? ⟨w.heap.size + 1, 3, none⟩ = some (.int .u64 x')) ∧
      Res4 w' (w.heap.size + 2) ∧ w.heap.size + 2 < w'.heap.size ∧ Below w.heap.size w w')
    (first | with_reducible exact hS5 | with_reducible exact hS4 | with_reducible exact hSd | with_reducible exact NS.store hS5 _ _ _ _)
    (first
      | (go_at_call 101; refine (unhide (HN _)).mono ?_; rintro e w4 ⟨⟨v4, rfl, hown4⟩, hb4⟩; have hS4 := NS.keep hSd hb4; have HS := hide (sum_own hown4 (unhide HL) (by omega) (by unfold maxLen; omega)); rw [unhide HD] at HS)
      | (go_at_call 40; refine (unhide HS).mono ?_; rintro e w5 ⟨rfl, hb5⟩; have hS5 := NS.keep hS4 hb5; obtain ⟨r0, r1, r2, r3, g0, g1, g2, g3, f0, f1, f2, f3⟩ := hS5.2.2.1.cells))
  have HB := hide hS5.2.2.2.2
  clear hS5 hS4 hSd
  go_wp2
  refine bodyPost_ret (v := .agg #[.int .u8 t0, .int .u8 t1, .int .u8 t2, .int .u64 (x + x')]) ?_ rfl ⟨rfl, ?_⟩
  · simp [results, Tryz.results87, go_sem, g0, g1, g2, g3]
  · exact ((((unhide HB).setCell (by simp; try omega) _).setCell (by simp; try omega) _).setCell (by simp; try omega) _).setCell (by simp; try omega) _

end Go.Proofs.YtbjobbkgelipmaaGreat
