/-
  The walks of tithe's leafSize, appendLeaf, leafText.
-/
import Derived.Lib.AppendStr
import Derived.Laws.OwnMore
import Derived.Deep.RegionHeld3
import Derived.Deep.DeepCutAuto
import Derived.Carry
import Derived.Test.YtbjobbkgelipmaaSbaa
namespace Go.Proofs.Ytbjobbkgelipmaa
open Go.RowKit

set_option maxRecDepth 100000 in
set_option maxHeartbeats 400000 in
theorem leafsize_any (nm : ByteArray) (x x' : Int) (w : World) (hnm : nm.size ≤ 8) :
    Calls Try.prog 41 #[leafV nm x x'] w fun e w' => e = .returned (.int .i64 (1 + (nm.size : Int) + 16)) ∧ Below w.heap.size w w' := by
  unfold leafV
  go_enter Try.func41, Try.ntmps41
  go_wp2
  go_ret
  exact ⟨rfl, (Below.refl _ _).alloc (Nat.le_refl _) _⟩

/-- A leaf that lies in memory. -/
def LeafM (W : World) (A : Nat) (nm : ByteArray) (x x' : Int) : Prop := W.heap[A]? = some (.cells #[.string nm, .int .u64 x, .int .u64 x'] 76 (0, 0))
theorem LeafM.keep {W w4 : World} {A : Nat} {nm : ByteArray} {x x' : Int} (h : LeafM W A nm x x') (hk : KeepT W w4) : LeafM w4 A nm x x' := hk _ _ _ _ h (by decide)
theorem LeafM.cells {W : World} {A : Nat} {nm : ByteArray} {x x' : Int} (h : LeafM W A nm x x') : W.cell? ⟨A, 0, none⟩ = some (.string nm) ∧ W.cell? ⟨A, 1, none⟩ = some (.int .u64 x) ∧ W.cell? ⟨A, 2, none⟩ = some (.int .u64 x') := by
  refine ⟨?_, ?_, ?_⟩ <;> (rw [block_cell h]; rfl)

set_option maxRecDepth 100000 in
set_option maxHeartbeats 400000 in
theorem appleaf_any (base n : Nat) (v0 : Value) (xs : List Value) (nm : ByteArray) (x x' : Int) (w : World) (hnm : nm.size ≤ 8) (h0 : 0 ≤ x) (h1 : x < 18446744073709551616) (h0' : 0 ≤ x') (h1' : x' < 18446744073709551616) (hown0 : w.ownsRow base 5 1 v0 n xs) (hbase : base ≤ w.heap.size) (hn : n + 40 ≤ 140737488355328) :
    Calls Try.prog 42 #[v0, leafV nm x x'] w fun e w' => (∃ v', e = .returned v' ∧ w'.ownsRow base 5 1 v' (n + 1 + nm.size + 8 + 8) (xs ++ [Value.int .u8 (nm.size : Int)] ++ Lib.strCells nm ++ byteVals (longB x) ++ byteVals (longB x'))) ∧ Below base w w' ∧ KeepT w w' := by
  obtain ⟨i0, hi, hz0, hz1, hz2⟩ := info_parts Try.infoByte
  have HC1 := fun (v : Value) (ys : List Value) (w' : World) (ho : w'.ownsRow base 5 1 v (n + 1 + nm.size) ys) (hb : base ≤ w'.heap.size) => hide (appnum_any base (n + 1 + nm.size) v ys x w' h0 h1 ho hb (by omega))
  have HC2 := fun (v : Value) (ys : List Value) (w' : World) (ho : w'.ownsRow base 5 1 v (n + 1 + nm.size + 8) ys) (hb : base ≤ w'.heap.size) => hide (appnum_any base (n + 1 + nm.size + 8) v ys x' w' h0' h1' ho hb (by omega))
  clear h0 h1 h0' h1'
  have hw8 : IntKind.u8.wrap (nm.size : Int) = (nm.size : Int) := by rw [IntKind.wrap_u8]; omega
  have H0 := hide hown0
  clear hown0
  unfold leafV
  go_enter Try.func42, Try.ntmps42
  go_wp2_with (at_builtin; refine wpList_append_own _ rfl (.tmp 5) (.tmp 10) 43 rfl base 5 i0 (.int .u8 0) 1 1 Try.underlying43 hi hz0 hz1 hz2 rfl (by decide) _ _ _ rfl (((unhide H0).alloc _).alloc _) ⟨w.heap.size + 1, 0, none⟩ 1 1 [.int .u8 (nm.size : Int)] rfl rfl ?c1 ?c2 ?c3 ?c4 ?c5 ?_)
  case c1 =>
    intro j u hu
    match j, hu with
    | 0, hu => simp at hu; subst hu; simp [addr_add]
  case c2 => intro u hu; simp at hu; subst hu; rfl
  case c3 => unfold maxLen; omega
  case c4 => omega
  case c5 => simp; omega
  intro v' w1 hown1 hgrow1 _
  have hL0 : LeafM (w.alloc (Obj.cells #[Value.string nm, Value.int IntKind.u64 x, Value.int IntKind.u64 x'] 76)) w.heap.size nm x x' := heap_alloc_new w _
  have hk1 : KeepT (w.alloc (Obj.cells #[Value.string nm, Value.int IntKind.u64 x, Value.int IntKind.u64 x'] 76)) w1 := ((KeepT.refl _).alloc _).grown (((unhide H0).alloc _).alloc _) hgrow1
  have hK1 : KeepT w w1 := ((KeepT.refl w).alloc _).trans hk1
  have hL1 := hL0.keep hk1
  have hB1 : Below base w w1 := (((Below.refl base w).alloc hbase _).alloc (by simp; omega) _).grown hgrow1 (by simp; omega) (fun b hb => ((unhide H0).lt b hb).1)
  have hz1' : base ≤ w1.heap.size := by have := hB1.size; omega
  have HB := hide (And.intro hB1 (And.intro hK1 hL1))
  have HO := hide hown1
  obtain ⟨q0, q1, q2⟩ := hL1.cells
  clear hgrow1 hown1 hB1 hK1 hL0 hL1 hk1 H0
  go_wp2_with (at_builtin; refine Lib.wpList_append_own_string _ rfl (.tmp 12) (.tmp 14) 43 9 rfl base 5 i0 Try.underlying43 Try.underlying9 hi hz0 hz1 hz2 _ _ _ rfl (unhide HO) nm rfl ?d1 ?d2 hz1' ?_)
  case d1 => unfold maxLen; omega
  case d2 => omega
  intro v3 w3 hown3 hgrow3 _
  have hB3 : Below base w w3 := (unhide HB).1.grown hgrow3 hz1' (fun b hb => ((unhide HO).lt b hb).1)
  have hk3 : KeepT w1 w3 := (KeepT.refl _).grown (unhide HO) hgrow3
  have hL3 := (unhide HB).2.2.keep hk3
  have hz3 : base ≤ w3.heap.size := by have := hB3.size; omega
  have HB3 := hide (And.intro hB3 (And.intro ((unhide HB).2.1.trans hk3) hL3))
  have HR := hide (HC1 v3 _ w3 (by simpa using hown3) hz3)
  clear q0 q1 q2
  obtain ⟨q0, q1, q2⟩ := hL3.cells
  clear hown3 hgrow3 hB3 hk3 hL3 HB HO HC1
  go_wp2_with fail
  refine (unhide (unhide HR)).mono ?_
  rintro e w4 ⟨⟨v4, rfl, hown4⟩, hb4, hk4⟩
  have hL4 := (unhide HB3).2.2.keep hk4
  have hz4 : base ≤ w4.heap.size := by have := hb4.size; omega
  have HB4 := hide (And.intro ((unhide HB3).1.trans hb4) ((unhide HB3).2.1.trans hk4))
  have HR2 := hide (HC2 v4 _ w4 hown4 hz4)
  clear q0 q1 q2
  obtain ⟨q0, q1, q2⟩ := hL4.cells
  clear hown4 hb4 hk4 hL4 HR HB3 HC2
  go_wp2_with fail
  refine (unhide (unhide HR2)).mono ?_
  rintro e w5 ⟨⟨v5, rfl, hown5⟩, hb5, hk5⟩
  have HF := hide (And.intro hown5 (And.intro ((unhide HB4).1.trans hb5) ((unhide HB4).2.trans hk5)))
  clear hown5 hb5 hk5 HR2 HB4 q0 q1 q2
  go_wp2
  go_ret
  exact ⟨⟨_, rfl, by simpa using (unhide HF).1⟩, (unhide HF).2⟩

set_option maxRecDepth 100000 in
set_option maxHeartbeats 400000 in
theorem ownleaf_any (nm : ByteArray) (x x' : Int) (w : World) (hnm : nm.size ≤ 8) (h0 : 0 ≤ x) (h1 : x < 18446744073709551616) (h0' : 0 ≤ x') (h1' : x' < 18446744073709551616) :
    Calls Try.prog 69 #[leafV nm x x'] w fun e w' => (∃ v', e = .returned v' ∧ w'.ownsRow w.heap.size 5 1 v' (1 + 1 + nm.size + 8 + 8) ([Value.int .u8 0] ++ [Value.int .u8 (nm.size : Int)] ++ Lib.strCells nm ++ byteVals (longB x) ++ byteVals (longB x'))) ∧ Below w.heap.size w w' := by
  obtain ⟨i0, hi, hz0, hz1, hz2⟩ := info_parts Try.infoByte
  have HC1 := fun (v : Value) (w' : World) (ho : w'.ownsRow w.heap.size 5 1 v 1 [Value.int .u8 0]) (hb : w.heap.size ≤ w'.heap.size) => hide (appleaf_any w.heap.size 1 v _ nm x x' w' hnm h0 h1 h0' h1' ho hb (by omega))
  have HS := fun w' => hide (leafsize_any nm x x' w' hnm)
  clear h0 h1 h0' h1'
  unfold leafV at *
  go_enter Try.func69, Try.ntmps69
  go_wp2_with fail
  refine (unhide (HS _)).mono ?_
  rintro e w1 ⟨rfl, hb1⟩
  have hL0 : LeafM (w.alloc (Obj.cells #[Value.string nm, Value.int IntKind.u64 x, Value.int IntKind.u64 x'] 76)) w.heap.size nm x x' := heap_alloc_new w _
  have hL1 := hL0.keep (KeepT.below hb1)
  have hB1 : Below w.heap.size w w1 := ((Below.refl _ w).alloc (Nat.le_refl _) _).trans (hb1.mono (by simp))
  have hz1' : w.heap.size ≤ w1.heap.size := hB1.size
  have HB := hide (And.intro hB1 hL1)
  clear hb1 hL0 hL1 hB1 HS
  go_wp2_with (at_make; refine wpList_make_own _ rfl _ _ 43 rfl w.heap.size 5 i0 (.int .u8 0) 1 Try.underlying43 hi hz0 hz1 _ _ _ (1 + (1 + nm.size + 16)) rfl rfl (by omega) (by rw [hz2]; omega) (by unfold maxLen; omega) hz1' ?_)
  intro w2 hown2 hgrow2
  have hB2 : Below w.heap.size w w2 := (unhide HB).1.grown hgrow2 hz1' (fun b hb => by cases hb)
  have hL2 : LeafM w2 w.heap.size nm x x' := by
    have h := (unhide HB).2
    exact (hgrow2.block _ (Array.getElem?_eq_some_iff.1 h).1 (fun e => by cases e)).trans h
  have hz2' := hB2.size
  have HB2 := hide (And.intro hB2 hL2)
  have HO := hide hown2
  clear hgrow2 hown2 hB2 hL2 HB
  go_wp2_with (at_builtin; refine wpList_append_own _ rfl (.tmp 8) (.tmp 9) 43 rfl w.heap.size 5 i0 (.int .u8 0) 1 1 Try.underlying43 hi hz0 hz1 hz2 rfl (by decide) _ _ _ rfl ((unhide HO).alloc _) ⟨w2.heap.size, 0, none⟩ 1 1 [.int .u8 0] rfl rfl ?c1 ?c2 ?c3 ?c4 ?c5 ?_)
  case c1 =>
    intro j u hu
    match j, hu with
    | 0, hu => simp at hu; subst hu; simp [addr_add]
  case c2 => intro u hu; simp at hu; subst hu; rfl
  case c3 => unfold maxLen; omega
  case c4 => omega
  case c5 => simp; omega
  intro v3 w3 hown3 hgrow3 _
  have hk3 : KeepT w2 w3 := ((KeepT.refl _).alloc _).grown ((unhide HO).alloc _) hgrow3
  have hL3 := (unhide HB2).2.keep hk3
  have hB3 : Below w.heap.size w w3 := ((unhide HB2).1.alloc hz2' _).grown hgrow3 (by simp; omega) (fun b hb => ((unhide HO).lt b hb).1)
  have HR := hide (HC1 v3 w3 (by simpa using hown3) hB3.size)
  have HB3 := hide hB3
  obtain ⟨q0, q1, q2⟩ := hL3.cells
  clear hown3 hgrow3 hk3 hL3 hB3 HB2 HO HC1
  go_wp2_with fail
  refine (unhide (unhide HR)).mono ?_
  rintro e w5 ⟨⟨v5, rfl, hown5⟩, hb5, hk5⟩
  have HF := hide (And.intro hown5 ((unhide HB3).trans hb5))
  clear hown5 hb5 hk5 HR HB3 q0 q1 q2
  go_wp2
  go_ret
  exact ⟨⟨_, rfl, (unhide HF).1⟩, (unhide HF).2⟩

end Go.Proofs.Ytbjobbkgelipmaa

/-
  A leaf's text out of a proof's bytes: plain lists.
-/
namespace Go.Proofs.Ytbjobbkgelipmaa
open Go.RowKit

theorem numB_from : ∀ (b : List UInt8) (n : Int), b.foldl (fun n c => n * 256 + (c.toNat : Int)) n = n * 256 ^ b.length + numB b
  | [], n => by simp [numB]
  | c :: b, n => by
    have e : numB (c :: b) = (c.toNat : Int) * 256 ^ b.length + numB b := by
      unfold numB
      rw [List.foldl_cons, numB_from b]
      simp [numB]
    rw [List.foldl_cons, numB_from b, e, List.length_cons, Int.pow_succ, Int.add_mul, Int.mul_assoc, Int.mul_comm 256 (256 ^ b.length), Int.add_assoc]
theorem numB_append (a b : List UInt8) : numB (a ++ b) = numB a * 256 ^ b.length + numB b := by
  have h := numB_from b (numB a)
  rw [← h]
  unfold numB
  rw [List.foldl_append]
theorem longAt_numB (l : List UInt8) (h : l.length = 8) (j : Nat) (hj : j < 8) : longAt (numB l) j = l[j] := by
  have e1 : l = l.take j ++ (l[j] :: l.drop (j + 1)) := by rw [List.getElem_cons_drop, List.take_append_drop]
  have hd : (l.drop (j + 1)).length = 7 - j := by rw [List.length_drop]; omega
  have hr := numB_range_len (7 - j) (l.drop (j + 1)) hd
  have ht := numB_range_len j (l.take j) (by rw [List.length_take]; omega)
  have e2 : numB l = (numB (l.take j) * 256 + (l[j].toNat : Int)) * 256 ^ (7 - j) + numB (l.drop (j + 1)) := by
    conv => lhs; rw [e1]
    rw [show l.take j ++ (l[j] :: l.drop (j + 1)) = (l.take j ++ [l[j]]) ++ l.drop (j + 1) by simp, numB_append, numB_snoc, hd]
  have hp : (0 : Int) < 256 ^ (7 - j) := Int.pow_pos (by decide)
  have e3 : (2 : Int) ^ (8 * (7 - j)) = 256 ^ (7 - j) := by rw [Int.pow_mul]; rfl
  have e4 : numB l / 256 ^ (7 - j) = numB (l.take j) * 256 + (l[j].toNat : Int) := by
    rw [e2, Int.add_comm, Int.add_mul_ediv_right _ _ (by omega), Int.ediv_eq_zero_of_lt hr.1 hr.2]
    omega
  unfold longAt
  apply UInt8.toNat.inj
  have := lowByte_toNat (numB l / 2 ^ (8 * (7 - j)))
  rw [e3, e4] at this
  rw [e3, e4]
  have h4 := l[j].toNat_lt
  omega
theorem longB_numB (l : List UInt8) (h : l.length = 8) : longB (numB l) = l := by
  apply List.ext_getElem
  · rw [longB_length, h]
  · intro j h1 h2
    rw [← longAt_numB l h j (by omega)]
    simp [longB]

theorem accText0_parts (h : Nat) (l : List UInt8) (hh : accHead h l) :
    accText0 l = 0 :: ((l.getD 2 0) :: (accName l ++ (longB (accBal l) ++ longB (accSalt l)))) := by
  obtain ⟨h3, _, _, h1, h8, hl⟩ := hh
  unfold accText0 accName accBal accSalt
  rw [longB_numB _ (by rw [List.length_take, List.length_drop]; omega), longB_numB _ (by rw [List.length_take, List.length_drop]; omega)]
  have e2 : l.drop 2 = l.getD 2 0 :: l.drop 3 := by
    rw [List.getD_eq_getElem?_getD, List.getElem?_eq_getElem (by omega)]
    exact (List.getElem_cons_drop (by omega)).symm
  rw [e2, show 17 + bAt l 2 = (16 + bAt l 2) + 1 by omega, List.take_succ_cons]
  congr 2
  rw [show 16 + bAt l 2 = bAt l 2 + (8 + 8) by omega, List.take_add, List.take_add, List.drop_drop, List.drop_drop]
  rw [show 3 + bAt l 2 + 8 = 11 + bAt l 2 by omega]

theorem accText0_vals (h : Nat) (l : List UInt8) (hh : accHead h l) :
    ((([] ++ [Value.int .u8 0]) ++ [Value.int .u8 (((⟨(accName l).toArray⟩ : ByteArray).size : Nat) : Int)]) ++ Lib.strCells ⟨(accName l).toArray⟩ ++ byteVals (longB (accBal l))) ++ byteVals (longB (accSalt l)) = byteVals (accText0 l) := by
  rw [accText0_parts h l hh]
  have hs : ((⟨(accName l).toArray⟩ : ByteArray).size) = bAt l 2 := by
    show (accName l).toArray.size = _
    rw [List.size_toArray]
    unfold accName
    rw [List.length_take, List.length_drop]
    have := hh.2.2.2.2
    omega
  rw [hs]
  simp [byteVals, Lib.strCells, bAt]
theorem accText0_len (h : Nat) (l : List UInt8) (hh : accHead h l) : (accText0 l).length = 18 + bAt l 2 := by
  obtain ⟨h3, _, _, h1, h8, hl⟩ := hh
  unfold accText0
  rw [List.length_cons, List.length_take, List.length_drop]
  omega
theorem accName_size (h : Nat) (l : List UInt8) (hh : accHead h l) : (⟨(accName l).toArray⟩ : ByteArray).size = bAt l 2 := by
  show (accName l).toArray.size = _
  rw [List.size_toArray]
  unfold accName
  rw [List.length_take, List.length_drop]
  have := hh.2.2.2.2
  omega
theorem accBal_range (l : List UInt8) : 0 ≤ accBal l ∧ accBal l < 18446744073709551616 := numB_range _ (by rw [List.length_take]; omega)
theorem accSalt_range (l : List UInt8) : 0 ≤ accSalt l ∧ accSalt l < 18446744073709551616 := numB_range _ (by rw [List.length_take]; omega)

end Go.Proofs.Ytbjobbkgelipmaa

/-
  The walks of tithe's isNameLength and inOrder.
-/
namespace Go.Proofs.Ytbjobbkgelipmaa
open Go.RowKit

set_option maxHeartbeats 400000 in
theorem isname_any (n : Nat) (w : World) :
    Calls Try.prog 24 #[.int .i64 (n : Int)] w fun e w' => e = .returned (.bool (decide (1 ≤ n ∧ n ≤ 8))) ∧ w' = w := by
  by_cases h1 : 1 ≤ n
  · by_cases h2 : n ≤ 8
    · have k1 : (1 : Int) ≤ (n : Int) := by omega
      have k2 : (n : Int) ≤ 8 := by omega
      rw [decide_eq_true ⟨h1, h2⟩]
      clear h1 h2
      go_enter Try.func24, Try.ntmps24
      go_wp2
      go_ret
      exact ⟨rfl, rfl⟩
    · have k1 : (1 : Int) ≤ (n : Int) := by omega
      have k2 : ¬ (n : Int) ≤ 8 := by omega
      rw [decide_eq_false (fun h => h2 h.2)]
      clear h1 h2
      go_enter Try.func24, Try.ntmps24
      go_wp2
      go_ret
      exact ⟨rfl, rfl⟩
  · have k1 : ¬ (1 : Int) ≤ (n : Int) := by omega
    rw [decide_eq_false (fun h => h1 h.1)]
    clear h1
    go_enter Try.func24, Try.ntmps24
    go_wp2
    go_ret
    exact ⟨rfl, rfl⟩

set_option maxRecDepth 100000 in
set_option maxHeartbeats 400000 in
theorem inorder_any (pl : Nat) (d d' : Dg) (x x' : Int) (w : World) (hp : pl ≤ 255) :
    Calls Try.prog 72 #[.int .i64 (pl : Int), sideV d x, sideV d' x'] w fun e w' => e = .returned (if pl % 2 = 0 then .tuple #[sideV d x, sideV d' x'] else .tuple #[sideV d' x', sideV d x]) ∧ Below w.heap.size w w' := by
  unfold sideV
  generalize (d.1.toNat : Int) = a0 at *
  generalize (d.2.1.toNat : Int) = a1 at *
  generalize (d.2.2.toNat : Int) = a2 at *
  generalize (d'.1.toNat : Int) = b0 at *
  generalize (d'.2.1.toNat : Int) = b1 at *
  generalize (d'.2.2.toNat : Int) = b2 at *
  by_cases he : pl % 2 = 0
  · rw [if_pos he]
    have hr : (pl : Int).tmod 2 = 0 := by rw [Int.tmod_eq_emod_of_nonneg (by omega)]; omega
    have hr2 : IntKind.i64.wrap ((pl : Int).tmod 2) = 0 := by rw [hr]; rfl
    clear he
    go_enter Try.func72, Try.ntmps72
    go_wp2_with fail
    go_region
    go_wp2
    refine bodyPost_ret (v := .tuple #[.agg #[.int .u8 a0, .int .u8 a1, .int .u8 a2, .int .u64 x], .agg #[.int .u8 b0, .int .u8 b1, .int .u8 b2, .int .u64 x']]) ?_ rfl ⟨rfl, ?_⟩
    · simp [results, Try.results72, go_sem]
    · repeat first
        | exact Below.refl _ _
        | refine Below.drew ?_
        | refine Below.setCell ?_ (by simp; try omega) _
        | refine Below.alloc ?_ (by simp; try omega) _
  · rw [if_neg he]
    have hr : (pl : Int).tmod 2 = 1 := by rw [Int.tmod_eq_emod_of_nonneg (by omega)]; omega
    have hr2 : IntKind.i64.wrap ((pl : Int).tmod 2) = 1 := by rw [hr]; rfl
    clear he
    go_enter Try.func72, Try.ntmps72
    go_wp2_with fail
    go_region
    go_wp2
    refine bodyPost_ret (v := .tuple #[.agg #[.int .u8 b0, .int .u8 b1, .int .u8 b2, .int .u64 x'], .agg #[.int .u8 a0, .int .u8 a1, .int .u8 a2, .int .u64 x]]) ?_ rfl ⟨rfl, ?_⟩
    · simp [results, Try.results72, go_sem]
    · repeat first
        | exact Below.refl _ _
        | refine Below.drew ?_
        | refine Below.setCell ?_ (by simp; try omega) _
        | refine Below.alloc ?_ (by simp; try omega) _

end Go.Proofs.Ytbjobbkgelipmaa

/-
  The walk of titheref's accepted: a head that does not fit.
-/
namespace Go.Proofs.Ytbjobbkgelipmaa
open Go.RowKit

theorem pow_cast (k : Nat) : (((2 ^ k : Nat) : Int)) = (2 : Int) ^ k := by simp

end Go.Proofs.Ytbjobbkgelipmaa

/-
  The walk of keep: a list more that is its owner's.
-/
namespace Go.Proofs.Ytbjobbkgelipmaa
open Go.RowKit

/-- An append onto a list of the call's own: what was owned is owned still, and so is the new one. -/
theorem wpList_append_both {P : Program} {w : World} {ops : Array Oper} {rest : List Oper} {o : Oper} {a : Act} {Q : Exit → Act → World → Prop} (hgd : o.guard = none) (s x : Operand) (t : TypeId)
    (ho : o.op = .call { callee := .builtin .append, args := #[s, x], argTypes := #[t, t] })
    (base : Nat) (e : TypeId) (i : TypeInfo) (z : Value) (bytes : Nat) (ht : P.underlying t = some (.slice e)) (hi : P.info? e = some i) (hz : i.zero = some z)
    (hsize : i.size = 1) (hby : i.bytes = bytes) (hzs : z.cells.size = 1)
    (v : Value) (n : Nat) (xs : List Value) (hs : a.eval s = v) (hown : w.ownsRow base e 1 v n xs)
    (ad : Addr) (m c : Nat) (news : List Value) (hx : a.eval x = .slice (some ad) m c) (hl : news.length = m * 1) (hnews : ∀ j u, news[j]? = some u → w.cell? (ad.add j) = some u) (h1 : ∀ u ∈ news, u.oneCell' = true)
    (hm : 0 < m) (h63 : n + m ≤ maxLen) (hbytes : (n + m) * bytes ≤ 140737488355328) (hbase : base ≤ w.heap.size)
    (h : ∀ g cap w', w'.ownsRow base e 1 (.slice (some ⟨g, 0, none⟩) (n + m) cap) (n + m) (xs ++ news) → w'.ownsRow base e 1 v n xs → w.grownBy w' v.ownBlock → (v.ownBlock = some g ∨ w.heap.size ≤ g) →
      wpList P ops Q rest (a.put o.dst (.slice (some ⟨g, 0, none⟩) (n + m) cap)) w') : wpList P ops Q (o :: rest) a w := by
  have hown0 := hown
  rcases hown.2 with ⟨hv, hn⟩ | ⟨g, cap, cur, hv, hb, hh, hnc, hcm, hcs, htake⟩
  · refine wpList_append_grows w hgd s x t ho e i z 1 bytes ht hi hz hsize hby hzs (by decide) none 0 0 xs (by rw [hs, hv]) (fun _ => ⟨rfl, rfl⟩) (by rw [hown.1, hn]) (fun b hb => by cases hb) ad m c news hx hl hnews h1 (by omega) (by omega) (by rw [hn] at hbytes; exact hbytes) ?_
    intro v' w' hown' hg'
    rcases hown'.2 with ⟨_, h0⟩ | ⟨g', cap', cur', hv', hb', hh', r1, r2, r3, r4⟩
    · omega
    · subst hv'
      have hw : w'.ownsRow base e 1 (.slice (some ⟨g', 0, none⟩) (n + m) cap') (n + m) (xs ++ news) := by
        subst hn
        exact ⟨hown'.1, .inr ⟨g', cap', cur', rfl, by omega, hh', r1, r2, r3, r4⟩⟩
      have hg2 : w.grownBy w' v.ownBlock := by rw [hv]; exact hg'
      have := h g' cap' w' hw (hown0.kept hg2 (Or.inl (by rw [hv]; rfl))) hg2 (Or.inr hb')
      subst hn
      exact this
  · by_cases hroom : n + m ≤ cap
    · subst hv
      refine wpList_append_fits w hgd s x t ho base e i 1 ht hi hsize g n cap xs hs hown ad m c news hx hl hnews h1 hroom ?_
      intro w' hown' hg'
      refine h g cap w' hown' ?_ hg' (Or.inl rfl)
      refine ⟨hown0.1, ?_⟩
      rcases hown'.2 with ⟨h0, _⟩ | ⟨g', cap', cur', hv', hb', hh', r1, r2, r3, r4⟩
      · cases h0
      · cases hv'
        refine .inr ⟨g, cap, cur', rfl, hb, hh', hnc, hcm, r3, ?_⟩
        have h2 := congrArg (List.take (n * 1)) r4
        have e3 : (xs ++ news).take (n * 1) = xs := by
          rw [List.take_append_of_le_length (by rw [hown0.1]; exact Nat.le_refl _)]
          exact List.take_of_length_le (by rw [hown0.1]; exact Nat.le_refl _)
        rw [List.take_take, Nat.min_eq_left (by omega), e3] at h2
        exact h2
    · subst hv
      refine wpList_append_grows w hgd s x t ho e i z 1 bytes ht hi hz hsize hby hzs (by decide) (some ⟨g, 0, none⟩) n cap xs hs (fun h0 => by cases h0) hown.1 (fun b hb => by cases hb; exact hown0.cells rfl) ad m c news hx hl hnews h1 (by omega) h63 hbytes ?_
      intro v' w' hown' hg'
      rcases hown'.2 with ⟨_, h0⟩ | ⟨g', cap', cur', hv', hb', hh', r1, r2, r3, r4⟩
      · omega
      · subst hv'
        have hg2 : w.grownBy w' (some g) := ⟨hg'.os, hg'.tape, hg'.output, hg'.size, fun k hk _ => hg'.block k hk (by simp)⟩
        exact h g' cap' w' ⟨hown'.1, .inr ⟨g', cap', cur', rfl, by omega, hh', r1, r2, r3, r4⟩⟩ (hown0.kept hg' (Or.inr (by simp [Value.ownBlock]))) hg2 (Or.inr hb')

theorem grown_trans {w w1 w2 : World} {r : Option Nat} (h : w.grownBy w1 r) (k : w1.grownBy w2 r) : w.grownBy w2 r :=
  ⟨k.os.trans h.os, k.tape.trans h.tape, k.output.trans h.output, Nat.le_trans h.size k.size, fun i hi hne => (k.block i (Nat.lt_of_lt_of_le hi h.size) hne).trans (h.block i hi hne)⟩
theorem grown_setCell (w : World) (b i : Nat) (v : Value) : w.grownBy (w.setCell ⟨b, i, none⟩ v) (some b) :=
  ⟨rfl, rfl, rfl, by simp [World.setCell], fun k _ hk => Below.heap_setCell _ _ _ _ (fun e => hk (by simp [e]))⟩
theorem own_lt {w : World} {base : Nat} {e : TypeId} {size : Nat} {v : Value} {n : Nat} {xs : List Value} (h : w.ownsRow base e size v n xs) {g : Nat} (hg : v.ownBlock = some g) : g < w.heap.size := (h.lt g hg).2
/-- The block of an owned list bears its element's type. -/
theorem own_type {w : World} {base : Nat} {e : TypeId} {size : Nat} {v : Value} {n : Nat} {xs : List Value} (h : w.ownsRow base e size v n xs) {g : Nat} (hg : v.ownBlock = some g) : ∃ cur, w.heap[g]? = some (.cells cur e (0, 0)) := by
  rcases h.2 with ⟨rfl, _⟩ | ⟨g', cap, cur, rfl, _, hh, _⟩
  · cases hg
  · cases hg; exact ⟨cur, hh⟩
theorem own_same {w w' : World} {base : Nat} {e : TypeId} {size : Nat} {v : Value} {n : Nat} {xs : List Value} (h : w.ownsRow base e size v n xs) (hb : ∀ g, v.ownBlock = some g → w'.heap[g]? = w.heap[g]?) : w'.ownsRow base e size v n xs := by
  refine ⟨h.1, ?_⟩
  rcases h.2 with h0 | ⟨g, cap, cur, rfl, hbb, hh, r⟩
  · exact .inl h0
  · exact .inr ⟨g, cap, cur, rfl, hbb, (hb g rfl).trans hh, r⟩
/-- A shorter list in the same block. -/
theorem own_sub {w w' : World} {base : Nat} {e : TypeId} {u v : Value} {k n : Nat} {xs ys : List Value} (h : w.ownsRow base e 1 v n xs) (h' : w'.ownsRow base e 1 v n xs) (hu : w.ownsRow base e 1 u k ys) (hblk : u.ownBlock = v.ownBlock) (hk : k ≤ n) : w'.ownsRow base e 1 u k ys := by
  refine ⟨hu.1, ?_⟩
  rcases hu.2 with h0 | ⟨g, cap, cur, rfl, hb, hh, r1, r2, r3, r4⟩
  · exact .inl h0
  · rcases h.2 with ⟨rfl, _⟩ | ⟨g2, cap2, cur2, rfl, _, hh2, q1, q2, q3, q4⟩
    · cases hblk
    · cases hblk
      rw [hh] at hh2
      cases hh2
      rcases h'.2 with ⟨h0, _⟩ | ⟨g3, cap3, cur3, h3, _, hh3, s1, s2, s3, s4⟩
      · cases h0
      · cases h3
        refine .inr ⟨g, cap, cur3, rfl, hb, hh3, r1, r2, by omega, ?_⟩
        have e1 := congrArg (List.take (k * 1)) q4
        have e2 := congrArg (List.take (k * 1)) s4
        rw [List.take_take, Nat.min_eq_left (by omega)] at e1 e2
        rw [e2, ← e1]; exact r4

/-- Where a list lies now: where it lay, or in new memory. -/
def OldOr (w : World) (u u0 : Value) : Prop := u.ownBlock = u0.ownBlock ∨ ∃ g, u.ownBlock = some g ∧ w.heap.size ≤ g

/-- Nothing else has turned. -/
structure Frame (w w' : World) (B : Nat) (vb hv : Value) : Prop where
  os : w'.os = w.os
  tape : w'.tape = w.tape
  output : w'.output = w.output
  size : w.heap.size ≤ w'.heap.size
  block : ∀ k, k < w.heap.size → k ≠ B → some k ≠ vb.ownBlock → some k ≠ hv.ownBlock → w'.heap[k]? = w.heap[k]?

theorem Frame.refl (w : World) (B : Nat) (vb hv : Value) : Frame w w B vb hv := ⟨rfl, rfl, rfl, Nat.le_refl _, fun _ _ _ _ _ => rfl⟩
theorem Frame.grown {w w1 w2 : World} {B : Nat} {vb hv : Value} {r : Option Nat} (h : Frame w w1 B vb hv) (hg : w1.grownBy w2 r) (hr : ∀ g, r = some g → g = B ∨ some g = vb.ownBlock ∨ some g = hv.ownBlock ∨ w.heap.size ≤ g) : Frame w w2 B vb hv :=
  ⟨hg.os.trans h.os, hg.tape.trans h.tape, hg.output.trans h.output, Nat.le_trans h.size hg.size, fun k hk hB hb hh => (hg.block k (Nat.lt_of_lt_of_le hk h.size) (fun e => by
    rcases hr k e.symm with h1 | h1 | h1 | h1
    · exact hB h1
    · exact hb h1
    · exact hh h1
    · omega)).trans (h.block k hk hB hb hh)⟩

end Go.Proofs.Ytbjobbkgelipmaa

/-
  What lies in memory while titheref's accepted goes up.
-/
namespace Go.Proofs.Ytbjobbkgelipmaa
open Go.RowKit

def quadB (d0 d1 d2 n : Int) : Array Value := #[.int .u8 d0, .int .u8 d1, .int .u8 d2, .int .u64 n]
def proofCells (pl : Int) (nm : ByteArray) (bal salt : Int) (tv : Value) : Array Value := #[.int .i64 pl, .string nm, .int .u64 bal, .int .u64 salt, tv]

theorem quad_of {wx : World} {X : Nat} {x0 x1 x2 xn : Int} {t : TypeId} (h : wx.heap[X]? = some (.cells (quadB x0 x1 x2 xn) t (0, 0))) : Quad wx X x0 x1 x2 xn :=
  ⟨by rw [block_cell h]; rfl, by rw [block_cell h]; rfl, by rw [block_cell h]; rfl, by rw [block_cell h]; rfl⟩
theorem cell_setR (W : World) (R b' o i : Nat) (x : Value) (hne : b' ≠ R) : (W.setCell ⟨R, i, none⟩ x).cell? ⟨b', o, none⟩ = W.cell? ⟨b', o, none⟩ :=
  World.cell?_of_block (w := W) (Below.heap_setCell W _ _ _ (by simpa using hne))
/-- What the last region reads. -/
abbrev S30 (wx : World) (P N A : Nat) (pl : Int) (nm : ByteArray) (bal salt : Int) (tv : Value) (e0 e1 e2 m d0 d1 d2 n : Int) : Prop :=
  (wx.cell? ⟨P, 0, none⟩ = some (.int .i64 pl) ∧ wx.cell? ⟨P, 1, none⟩ = some (.string nm) ∧ wx.cell? ⟨P, 2, none⟩ = some (.int .u64 bal) ∧ wx.cell? ⟨P, 3, none⟩ = some (.int .u64 salt) ∧ wx.cell? ⟨P, 4, none⟩ = some tv) ∧
  (wx.cell? ⟨N, 0, none⟩ = some (.int .u8 e0) ∧ wx.cell? ⟨N, 1, none⟩ = some (.int .u8 e1) ∧ wx.cell? ⟨N, 2, none⟩ = some (.int .u8 e2) ∧ wx.cell? ⟨N, 3, none⟩ = some (.int .u64 m)) ∧
  (wx.cell? ⟨A, 0, none⟩ = some (.int .u8 d0) ∧ wx.cell? ⟨A, 1, none⟩ = some (.int .u8 d1) ∧ wx.cell? ⟨A, 2, none⟩ = some (.int .u8 d2) ∧ wx.cell? ⟨A, 3, none⟩ = some (.int .u64 n))
theorem S30.drew {wx : World} {P N A : Nat} {pl bal salt e0 e1 e2 m d0 d1 d2 n : Int} {nm : ByteArray} {tv : Value} (h : S30 wx P N A pl nm bal salt tv e0 e1 e2 m d0 d1 d2 n) : S30 wx.drew P N A pl nm bal salt tv e0 e1 e2 m d0 d1 d2 n :=
  ⟨⟨h.1.1, h.1.2.1, h.1.2.2.1, h.1.2.2.2.1, h.1.2.2.2.2⟩, ⟨h.2.1.1, h.2.1.2.1, h.2.1.2.2.1, h.2.1.2.2.2⟩, ⟨h.2.2.1, h.2.2.2.1, h.2.2.2.2.1, h.2.2.2.2.2⟩⟩
theorem S30.set {wx : World} {P N A R i : Nat} {pl bal salt e0 e1 e2 m d0 d1 d2 n : Int} {nm : ByteArray} {tv x : Value} (h : S30 wx P N A pl nm bal salt tv e0 e1 e2 m d0 d1 d2 n) (h1 : P ≠ R) (h2 : N ≠ R) (h3 : A ≠ R) : S30 (wx.setCell ⟨R, i, none⟩ x) P N A pl nm bal salt tv e0 e1 e2 m d0 d1 d2 n := by
  obtain ⟨⟨a0, a1, a2, a3, a4⟩, ⟨b0, b1, b2, b3⟩, ⟨c0, c1, c2, c3⟩⟩ := h
  have eP := fun o => cell_setR wx R P o i x h1
  have eN := fun o => cell_setR wx R N o i x h2
  have eA := fun o => cell_setR wx R A o i x h3
  exact ⟨⟨(eP 0).trans a0, (eP 1).trans a1, (eP 2).trans a2, (eP 3).trans a3, (eP 4).trans a4⟩, ⟨(eN 0).trans b0, (eN 1).trans b1, (eN 2).trans b2, (eN 3).trans b3⟩, ⟨(eA 0).trans c0, (eA 1).trans c1, (eA 2).trans c2, (eA 3).trans c3⟩⟩
end Go.Proofs.Ytbjobbkgelipmaa

/-
  The walks of tithe's leafSide and nodeSide; tithe.Sum of a text of one's own.
-/
namespace Go.Proofs.Ytbjobbkgelipmaa
open Go.RowKit

theorem sum_own {base n : Nat} {v : Value} {l : List UInt8} {w : World} (hown : w.ownsRow base 5 1 v n (byteVals l)) (hn : l.length = n) (h0 : 0 < n) (hm : n ≤ maxLen) :
    Calls Try.prog 22 #[v] w fun e w' => e = .returned (digV (dg l)) ∧ Below w.heap.size w w' := by
  rcases hown.2 with ⟨_, h⟩ | ⟨g, cap, cur, rfl, _, hb, _, _, _, hx⟩
  · omega
  · refine sum_any g 0 n cap l w hn hm (Array.getElem?_eq_some_iff.1 hb).1 ?_
    intro j hj
    have h1 : (byteVals l)[j]? = some (.int .u8 (l[j].toNat : Int)) := by simp [byteVals, List.getElem?_eq_getElem hj]
    rw [← hx, List.getElem?_take] at h1
    split at h1
    · rw [Nat.zero_add]
      simp only [World.cell?, hb]
      simpa using h1
    · cases h1

theorem res4_new (W : World) (x0 x1 x2 x3 : Value) (t : TypeId) : Res4 (W.alloc (.cells #[x0, x1, x2, x3] t)) W.heap.size := by
  have h := heap_alloc_new W (.cells #[x0, x1, x2, x3] t)
  intro i hi
  rw [block_cell h]
  refine ⟨?_, block_free h⟩
  match i, hi with
  | 0, _ => rfl
  | 1, _ => rfl
  | 2, _ => rfl
  | 3, _ => rfl

theorem heap_next {W : World} {o X : Obj} {b : Nat} (h : W.heap[b]? = some X) : (W.alloc o).heap[b]? = some X := by
  rw [Below.heap_alloc _ _ _ (Array.getElem?_eq_some_iff.1 h).1]; exact h
theorem heap_new1 (w : World) (o o' : Obj) : ((w.alloc o).alloc o').heap[w.heap.size + 1]? = some o' := by
  have h := heap_alloc_new (w.alloc o) o'
  rwa [World.size_alloc] at h
theorem heap_new2 (w : World) (o o' o'' : Obj) : (((w.alloc o).alloc o').alloc o'').heap[w.heap.size + 2]? = some o'' := by
  have h := heap_alloc_new ((w.alloc o).alloc o') o''
  rwa [World.size_alloc, World.size_alloc] at h
theorem res4_block {W : World} {R : Nat} {x0 x1 x2 x3 : Value} {t : TypeId} (h : W.heap[R]? = some (.cells #[x0, x1, x2, x3] t (0, 0))) : Res4 W R := by
  intro i hi
  rw [block_cell h]
  refine ⟨?_, block_free h⟩
  match i, hi with
  | 0, _ => rfl
  | 1, _ => rfl
  | 2, _ => rfl
  | 3, _ => rfl

theorem sideB_len (y : Dg × Int) : (sideB y).length = 11 := by simp [sideB, dgB, longB_length]

theorem leafB_vals (nm : ByteArray) (x x' : Int) (hnm : nm.size ≤ 8) :
    [Value.int .u8 0] ++ [Value.int .u8 (nm.size : Int)] ++ Lib.strCells nm ++ byteVals (longB x) ++ byteVals (longB x') = byteVals (0 :: leafB nm.data.toList x x') := by
  have hs : nm.data.toList.length = nm.size := by simp
  simp [byteVals, Lib.strCells, leafB, hs]
  omega

/-- What the region of leafSide leans on. -/
abbrev LS (w : World) (nm : ByteArray) (x x' : Int) (w' : World) : Prop :=
  w'.cell? ⟨w.heap.size, 0, none⟩ = some (.string nm) ∧ w'.cell? ⟨w.heap.size, 1, none⟩ = some (.int .u64 x) ∧ w'.cell? ⟨w.heap.size, 2, none⟩ = some (.int .u64 x') ∧
    Res4 w' (w.heap.size + 1) ∧ w.heap.size + 1 < w'.heap.size ∧ Below w.heap.size w w'
theorem LS.keep {w W w4 : World} {nm : ByteArray} {x x' : Int} (hS : LS w nm x x' W) (hb : Below W.heap.size W w4) : LS w nm x x' w4 := by
  obtain ⟨h0, h1, h2, h3, z, h6⟩ := hS
  have := hb.size
  exact ⟨keepB hb (by omega) h0, keepB hb (by omega) h1, keepB hb (by omega) h2, h3.below z hb, by omega, h6.trans (hb.mono (by omega))⟩
theorem LS.store {w W : World} {nm : ByteArray} {x x' : Int} (hS : LS w nm x x' W) (x0 x1 x2 x3 : Value) :
    LS w nm x x' ((((W.setCell ⟨w.heap.size + 1, 0, none⟩ x0).setCell ⟨w.heap.size + 1, 1, none⟩ x1).setCell ⟨w.heap.size + 1, 2, none⟩ x2).setCell ⟨w.heap.size + 1, 3, none⟩ x3) := by
  obtain ⟨h0, h1, h2, h3, z, h6⟩ := hS
  have e := size_set4 W (w.heap.size + 1) x0 x1 x2 x3
  show LS w nm x x' (set4 W (w.heap.size + 1) x0 x1 x2 x3)
  exact ⟨cell_set4 _ _ _ _ _ _ _ _ _ (by omega) h0, cell_set4 _ _ _ _ _ _ _ _ _ (by omega) h1, cell_set4 _ _ _ _ _ _ _ _ _ (by omega) h2, h3.set4 _ _ _ _, by rw [e]; exact z, below_set4 h6 (by omega) _ _ _ _⟩

set_option maxRecDepth 100000 in
set_option maxHeartbeats 1000000 in
theorem leafside_any (nm : ByteArray) (x x' : Int) (w : World) (hnm : nm.size ≤ 8) (h0 : 0 ≤ x) (h1 : x < 18446744073709551616) (h0' : 0 ≤ x') (h1' : x' < 18446744073709551616) :
    Calls Try.prog 56 #[leafV nm x x'] w fun e w' => e = .returned (sideV (dg (0 :: leafB nm.data.toList x x')) x) ∧ Below w.heap.size w w' := by
  have hlen : (0 :: leafB nm.data.toList x x').length = 1 + 1 + nm.size + 8 + 8 := by
    have hs : nm.data.toList.length = nm.size := by simp
    rw [List.length_cons, leafB_length, hs]; omega
  have HT := fun w => hide (ownleaf_any nm x x' w hnm h0 h1 h0' h1')
  rw [leafB_vals nm x x' hnm] at HT
  generalize 0 :: leafB nm.data.toList x x' = T at *
  obtain ⟨d0, d1, d2, hD⟩ : ∃ d0 d1 d2 : Int, digV (dg T) = .agg #[.int .u8 d0, .int .u8 d1, .int .u8 d2] ∧ sideV (dg T) x = .agg #[.int .u8 d0, .int .u8 d1, .int .u8 d2, .int .u64 x] := ⟨_, _, _, rfl, rfl⟩
  rw [hD.2]
  have HD := hide hD.1
  have HL := hide hlen
  clear hlen hD h0 h1 h0' h1'
  unfold leafV at *
  go_enter Try.func56, Try.ntmps56
  go_wp2_with fail
  generalize hW : ((w.alloc (Obj.cells #[Value.string nm, Value.int IntKind.u64 x, Value.int IntKind.u64 x'] 76)).alloc (Obj.cells #[Value.int IntKind.u8 0, Value.int IntKind.u8 0, Value.int IntKind.u8 0, Value.int IntKind.u64 0] 88)) = W
  have hSd : LS w nm x x' W.drew := by
    rw [← hW]
    have hA : Below w.heap.size w ((w.alloc (Obj.cells #[Value.string nm, Value.int IntKind.u64 x, Value.int IntKind.u64 x'] 76)).alloc (Obj.cells #[Value.int IntKind.u8 0, Value.int IntKind.u8 0, Value.int IntKind.u8 0, Value.int IntKind.u64 0] 88)) := ((Below.refl w.heap.size w).alloc (Nat.le_refl _) _).alloc (by simp) _
    refine ⟨by simp, by simp, by simp, ?_, by simp, hA.drew⟩
    intro i hi
    match i, hi with
    | 0, _ => simp
    | 1, _ => simp
    | 2, _ => simp
    | 3, _ => simp
  clear hW
  go_region_held3 (fun w' => w'.cell? ⟨w.heap.size, 0, none⟩ = some (.string nm) ∧ w'.cell? ⟨w.heap.size, 1, none⟩ = some (.int .u64 x) ∧ w'.cell? ⟨w.heap.size, 2, none⟩ = some (.int .u64 x') ∧
      Res4 w' (w.heap.size + 1) ∧ w.heap.size + 1 < w'.heap.size ∧ Below w.heap.size w w')
    (first | with_reducible exact hS5 | with_reducible exact hS4 | with_reducible exact hSd | with_reducible exact LS.store hS5 _ _ _ _)
    (first
      | (go_at_call 69; refine (unhide (HT _)).mono ?_; rintro e w4 ⟨⟨v4, rfl, hown4⟩, hb4⟩; have hS4 := LS.keep hSd hb4; have HS := hide (sum_own hown4 (unhide HL) (by omega) (by unfold maxLen; omega)); rw [unhide HD] at HS)
      | (go_at_call 22; refine (unhide HS).mono ?_; rintro e w5 ⟨rfl, hb5⟩; have hS5 := LS.keep hS4 hb5; obtain ⟨r0, r1, r2, r3, g0, g1, g2, g3, f0, f1, f2, f3⟩ := hS5.2.2.2.1.cells))
  have HB := hide hS5.2.2.2.2.2
  clear hS5 hS4 hSd
  go_wp2
  refine bodyPost_ret (v := .agg #[.int .u8 d0, .int .u8 d1, .int .u8 d2, .int .u64 x]) ?_ rfl ⟨rfl, ?_⟩
  · simp [results, Try.results56, go_sem, g0, g1, g2, g3]
  · exact ((((unhide HB).setCell (by simp) _).setCell (by simp) _).setCell (by simp) _).setCell (by simp) _

/-- What the region of nodeSide leans on. -/
abbrev NS (w : World) (a0 a1 a2 x b0 b1 b2 x' : Int) (w' : World) : Prop :=
  (w'.cell? ⟨w.heap.size, 0, none⟩ = some (.int .u8 a0) ∧ w'.cell? ⟨w.heap.size, 1, none⟩ = some (.int .u8 a1) ∧ w'.cell? ⟨w.heap.size, 2, none⟩ = some (.int .u8 a2) ∧ w'.cell? ⟨w.heap.size, 3, none⟩ = some (.int .u64 x)) ∧
  (w'.cell? ⟨w.heap.size + 1, 0, none⟩ = some (.int .u8 b0) ∧ w'.cell? ⟨w.heap.size + 1, 1, none⟩ = some (.int .u8 b1) ∧ w'.cell? ⟨w.heap.size + 1, 2, none⟩ = some (.int .u8 b2) ∧ w'.cell? ⟨w.heap.size + 1, 3, none⟩ = some (.int .u64 x')) ∧
    Res4 w' (w.heap.size + 2) ∧ w.heap.size + 2 < w'.heap.size ∧ Below w.heap.size w w'
theorem NS.keep {w W w4 : World} {a0 a1 a2 x b0 b1 b2 x' : Int} (hS : NS w a0 a1 a2 x b0 b1 b2 x' W) (hb : Below W.heap.size W w4) : NS w a0 a1 a2 x b0 b1 b2 x' w4 := by
  obtain ⟨⟨h0, h1, h2, h3⟩, ⟨k0, k1, k2, k3⟩, h5, z, h6⟩ := hS
  have := hb.size
  exact ⟨⟨keepB hb (by omega) h0, keepB hb (by omega) h1, keepB hb (by omega) h2, keepB hb (by omega) h3⟩, ⟨keepB hb (by omega) k0, keepB hb (by omega) k1, keepB hb (by omega) k2, keepB hb (by omega) k3⟩, h5.below z hb, by omega, h6.trans (hb.mono (by omega))⟩
theorem NS.store {w W : World} {a0 a1 a2 x b0 b1 b2 x' : Int} (hS : NS w a0 a1 a2 x b0 b1 b2 x' W) (x0 x1 x2 x3 : Value) :
    NS w a0 a1 a2 x b0 b1 b2 x' ((((W.setCell ⟨w.heap.size + 2, 0, none⟩ x0).setCell ⟨w.heap.size + 2, 1, none⟩ x1).setCell ⟨w.heap.size + 2, 2, none⟩ x2).setCell ⟨w.heap.size + 2, 3, none⟩ x3) := by
  obtain ⟨⟨h0, h1, h2, h3⟩, ⟨k0, k1, k2, k3⟩, h5, z, h6⟩ := hS
  have e := size_set4 W (w.heap.size + 2) x0 x1 x2 x3
  show NS w a0 a1 a2 x b0 b1 b2 x' (set4 W (w.heap.size + 2) x0 x1 x2 x3)
  exact ⟨⟨cell_set4 _ _ _ _ _ _ _ _ _ (by omega) h0, cell_set4 _ _ _ _ _ _ _ _ _ (by omega) h1, cell_set4 _ _ _ _ _ _ _ _ _ (by omega) h2, cell_set4 _ _ _ _ _ _ _ _ _ (by omega) h3⟩, ⟨cell_set4 _ _ _ _ _ _ _ _ _ (by omega) k0, cell_set4 _ _ _ _ _ _ _ _ _ (by omega) k1, cell_set4 _ _ _ _ _ _ _ _ _ (by omega) k2, cell_set4 _ _ _ _ _ _ _ _ _ (by omega) k3⟩, h5.set4 _ _ _ _, by rw [e]; exact z, below_set4 h6 (by omega) _ _ _ _⟩

set_option maxRecDepth 100000 in
set_option maxHeartbeats 1000000 in
theorem nodeside_any (d d' : Dg) (x x' : Int) (w : World) (h0 : 0 ≤ x) (h0' : 0 ≤ x') (hs : x + x' < 18446744073709551616) :
    Calls Try.prog 58 #[sideV d x, sideV d' x'] w fun e w' => e = .returned (sideV (dg (1 :: (sideB (d, x) ++ sideB (d', x')))) (x + x')) ∧ Below w.heap.size w w' := by
  have HN := fun w => hide (nodetext_any d d' x x' w h0 (by omega) h0' (by omega))
  have HL : Hid ((1 :: (sideB (d, x) ++ sideB (d', x'))).length = 23) := by refine hide ?_; simp [sideB_len]
  generalize (1 :: (sideB (d, x) ++ sideB (d', x'))) = T at *
  obtain ⟨t0, t1, t2, hD⟩ : ∃ t0 t1 t2 : Int, digV (dg T) = .agg #[.int .u8 t0, .int .u8 t1, .int .u8 t2] ∧ sideV (dg T) (x + x') = .agg #[.int .u8 t0, .int .u8 t1, .int .u8 t2, .int .u64 (x + x')] := ⟨_, _, _, rfl, rfl⟩
  rw [hD.2]
  have HD := hide hD.1
  have hwr : IntKind.u64.wrap (x + x') = x + x' := by rw [IntKind.wrap_u64]; omega
  clear hs h0 h0' hD
  unfold sideV at *
  generalize (d.1.toNat : Int) = a0 at *
  generalize (d.2.1.toNat : Int) = a1 at *
  generalize (d.2.2.toNat : Int) = a2 at *
  generalize (d'.1.toNat : Int) = b0 at *
  generalize (d'.2.1.toNat : Int) = b1 at *
  generalize (d'.2.2.toNat : Int) = b2 at *
  go_enter Try.func58, Try.ntmps58
  go_wp2_with fail
  generalize hW : (((w.alloc (Obj.cells #[Value.int IntKind.u8 a0, Value.int IntKind.u8 a1, Value.int IntKind.u8 a2, Value.int IntKind.u64 x] 88)).alloc (Obj.cells #[Value.int IntKind.u8 b0, Value.int IntKind.u8 b1, Value.int IntKind.u8 b2, Value.int IntKind.u64 x'] 88)).alloc (Obj.cells #[Value.int IntKind.u8 0, Value.int IntKind.u8 0, Value.int IntKind.u8 0, Value.int IntKind.u64 0] 88)) = W
  have hSd : NS w a0 a1 a2 x b0 b1 b2 x' W.drew := by
    rw [← hW]
    have k0 := heap_next (o := (Obj.cells #[Value.int IntKind.u8 0, Value.int IntKind.u8 0, Value.int IntKind.u8 0, Value.int IntKind.u64 0] 88)) (heap_next (o := (Obj.cells #[Value.int IntKind.u8 b0, Value.int IntKind.u8 b1, Value.int IntKind.u8 b2, Value.int IntKind.u64 x'] 88)) (heap_alloc_new w (Obj.cells #[Value.int IntKind.u8 a0, Value.int IntKind.u8 a1, Value.int IntKind.u8 a2, Value.int IntKind.u64 x] 88)))
    have k1 := heap_next (o := (Obj.cells #[Value.int IntKind.u8 0, Value.int IntKind.u8 0, Value.int IntKind.u8 0, Value.int IntKind.u64 0] 88)) (heap_new1 w (Obj.cells #[Value.int IntKind.u8 a0, Value.int IntKind.u8 a1, Value.int IntKind.u8 a2, Value.int IntKind.u64 x] 88) (Obj.cells #[Value.int IntKind.u8 b0, Value.int IntKind.u8 b1, Value.int IntKind.u8 b2, Value.int IntKind.u64 x'] 88))
    refine ⟨⟨block_cell k0, block_cell k0, block_cell k0, block_cell k0⟩, ⟨block_cell k1, block_cell k1, block_cell k1, block_cell k1⟩, res4_block (heap_new2 w _ _ _), ?_, ((((Below.refl _ _).alloc (Nat.le_refl _) _).alloc (by simp) _).alloc (by simp; omega) _).drew⟩
    show w.heap.size + 2 < (((w.alloc _).alloc _).alloc _).heap.size
    simp only [World.size_alloc]; omega
  clear hW
  go_region_held3 (fun w' => (w'.cell? ⟨w.heap.size, 0, none⟩ = some (.int .u8 a0) ∧ w'.cell? ⟨w.heap.size, 1, none⟩ = some (.int .u8 a1) ∧ w'.cell? ⟨w.heap.size, 2, none⟩ = some (.int .u8 a2) ∧ w'.cell? ⟨w.heap.size, 3, none⟩ = some (.int .u64 x)) ∧
      (w'.cell? ⟨w.heap.size + 1, 0, none⟩ = some (.int .u8 b0) ∧ w'.cell? ⟨w.heap.size + 1, 1, none⟩ = some (.int .u8 b1) ∧ w'.cell? ⟨w.heap.size + 1, 2, none⟩ = some (.int .u8 b2) ∧ w'.cell? ⟨w.heap.size + 1, 3, none⟩ = some (.int .u64 x')) ∧
      Res4 w' (w.heap.size + 2) ∧ w.heap.size + 2 < w'.heap.size ∧ Below w.heap.size w w')
    (first | with_reducible exact hS5 | with_reducible exact hS4 | with_reducible exact hSd | with_reducible exact NS.store hS5 _ _ _ _)
    (first
      | (go_at_call 71; refine (unhide (HN _)).mono ?_; rintro e w4 ⟨⟨v4, rfl, hown4⟩, hb4⟩; have hS4 := NS.keep hSd hb4; have HS := hide (sum_own hown4 (unhide HL) (by omega) (by unfold maxLen; omega)); rw [unhide HD] at HS)
      | (go_at_call 22; refine (unhide HS).mono ?_; rintro e w5 ⟨rfl, hb5⟩; have hS5 := NS.keep hS4 hb5; obtain ⟨r0, r1, r2, r3, g0, g1, g2, g3, f0, f1, f2, f3⟩ := hS5.2.2.1.cells))
  have HB := hide hS5.2.2.2.2
  clear hS5 hS4 hSd
  go_wp2
  refine bodyPost_ret (v := .agg #[.int .u8 t0, .int .u8 t1, .int .u8 t2, .int .u64 (x + x')]) ?_ rfl ⟨rfl, ?_⟩
  · simp [results, Try.results58, go_sem, g0, g1, g2, g3]
  · exact ((((unhide HB).setCell (by simp; try omega) _).setCell (by simp; try omega) _).setCell (by simp; try omega) _).setCell (by simp; try omega) _

end Go.Proofs.Ytbjobbkgelipmaa

/-
  The walks of tithe's New and Open.
-/
namespace Go.Proofs.Ytbjobbkgelipmaa
open Go.RowKit Go.Maps Go.WideMaps Go.MapKept Go.ChangeMaps

def cfgV (h seed : Int) : Value := .agg #[.int .i64 h, .int .u64 seed]

set_option maxHeartbeats 400000 in
set_option maxRecDepth 100000 in
theorem new_bad (h seed : Int) (w : World) (hb : h < 0 ∨ 6 < h) :
    Calls Try.prog 8 #[cfgV h seed] w fun e w' => e = .returned (.tuple #[.pointer none, .int .i64 1]) ∧ Below w.heap.size w w' := by
  unfold cfgV
  by_cases h0 : h < 0
  · clear hb
    go_enter Try.func8, Try.ntmps8
    go_wp2
    go_ret2
    exact ⟨rfl, (Below.refl _ _).alloc (Nat.le_refl _) _⟩
  · have h6 : 6 < h := by omega
    clear hb
    go_enter Try.func8, Try.ntmps8
    go_wp2
    go_ret2
    exact ⟨rfl, (Below.refl _ _).alloc (Nat.le_refl _) _⟩

theorem book_new (w : World) (o : Obj) (h seed : Int) : BookM (((w.alloc o).alloc (.map #[] 0)).alloc (.cells #[.int .i64 h, .int .u64 seed, .map (some (w.heap.size + 1)), .int .u64 0, .pointer none] 64)) (w.heap.size + 2) (w.heap.size + 1) h seed none [] := by
  have hm := World.ownsMap_made (w.alloc o) Try.prog 9 ptrElem
  rw [World.size_alloc] at hm
  exact ⟨⟨heap_new2 w _ _ _, hm.alloc _, fun a ha => (by cases ha), List.Pairwise.nil, fun a ha => (by cases ha)⟩, by unfold sumE maxS; simp⟩

set_option maxHeartbeats 400000 in
set_option maxRecDepth 100000 in
theorem new_good (h seed : Int) (w : World) (h0 : 0 ≤ h) (h6 : h ≤ 6) :
    Calls Try.prog 8 #[cfgV h seed] w fun e w' => e = .returned (.tuple #[.pointer (some ⟨w.heap.size + 2, 0, none⟩), .int .i64 0]) ∧ BookM w' (w.heap.size + 2) (w.heap.size + 1) h seed none [] ∧ Below w.heap.size w w' := by
  unfold cfgV
  have hmm := @run_makeMap Try.prog
  have hb := book_new w (Obj.cells #[Value.int IntKind.i64 h, Value.int IntKind.u64 seed] 30) h seed
  have HB := hide hb
  have k1 : ¬ h < 0 := by omega
  have k2 : ¬ 6 < h := by omega
  clear hb h0 h6
  go_enter Try.func8, Try.ntmps8
  go_wp2
  go_ret2
  exact ⟨rfl, unhide HB, (((Below.refl _ _).alloc (Nat.le_refl _) _).alloc (by simp) _).alloc (by simp; omega) _⟩

/-- An account more, in its place. -/
def insE (x : Acct) : List Acct → List Acct
  | [] => [x]
  | y :: r => if (Lit.string x.name).before (.string y.name) then x :: y :: r else y :: insE x r
theorem ins_perm (x : Acct) : ∀ E : List Acct, (insE x E).Perm (x :: E)
  | [] => List.Perm.refl _
  | y :: r => by
    unfold insE
    split
    · exact List.Perm.refl _
    · exact ((ins_perm x r).cons y).trans (List.Perm.swap x y r)
theorem ins_map (x : Acct) : ∀ E : List Acct, (insE x E).map entOf = DataW.insert (entOf x) (E.map entOf)
  | [] => rfl
  | y :: r => by
    unfold insE
    rw [List.map_cons, DataW.insert]
    show _ = if (Lit.string x.name).before (.string y.name) then _ else _
    split
    · rfl
    · rw [List.map_cons, ins_map x r]
theorem datE_put {E : List Acct} {s : List UInt8} {A : Nat} (x : Int) (h : ∀ a ∈ E, a.name ≠ s) : (datE E).put (.string s) (.held A) = datE (insE ⟨s, A, x⟩ E) := by
  unfold datE DataW.put
  simp only
  rw [ins_map]
  have e : (E.map entOf).filter (fun p => !p.1.sameKey (.string s)) = E.map entOf := by
    rw [List.filter_eq_self]
    intro p hp
    obtain ⟨a, ha, rfl⟩ := List.mem_map.1 hp
    show (!(a.name == s)) = true
    simp [h a ha]
  rw [e]
  rfl
theorem sum_ins (x : Acct) : ∀ E : List Acct, sumE (insE x E) = x.bal + sumE E
  | [] => by simp [sumE, insE]
  | y :: r => by
    have ih := sum_ins x r
    unfold insE
    split
    · simp [sumE]
    · unfold sumE at *
      simp only [List.map_cons, List.sum_cons]
      omega

theorem BookT.later {w W : World} {B M : Nat} {h seed tot : Int} {last : Option Addr} {E : List Acct} (hb : BookT w B M h seed last tot E) (hW : Below w.heap.size w W) : BookT W B M h seed last tot E := by
  have e : ∀ (k : Nat) (o : Obj), w.heap[k]? = some o → W.heap[k]? = some o := fun k o hk => (hW.block k (Array.getElem?_eq_some_iff.1 hk).1).trans hk
  refine ⟨e _ _ hb.blk, ?_, fun a ha => e _ _ (hb.acc a ha), hb.apart, hb.pos⟩
  obtain ⟨es, cl, he, r⟩ := hb.own
  exact ⟨es, cl, e _ _ he, r⟩

/-- A new account is stored. -/
theorem BookM.opened {w W : World} {B M A n : Nat} {h seed : Int} {last : Option Addr} {E : List Acct} {s : List UInt8} (hb : BookM w B M h seed last E) (hW : Below w.heap.size w W) (hk : lookE E s = none) (hA : w.heap.size ≤ A) (hc : W.heap[A]? = some (.cells #[.int .u64 0] 70 (0, 0)))
    {W' : World} (hown : W'.ownsMap Try.prog 9 ptrElem M n ((datE E).put (.string s) (.held A))) (ht : W.mapTurned W' M) : BookM W' B M h seed last (insE ⟨s, A, 0⟩ E) ∧ Kept (blksE B M E) w W' := by
  have hT := hb.toBookT.later hW
  have hK : Kept [M] W W' := Kept.turned ht (by simp)
  have hMB : ∀ (k : Nat) (cs : Array Value) (t : TypeId) (f : Nat × Nat), W.heap[k]? = some (.cells cs t f) → W'.heap[k]? = some (.cells cs t f) := fun k cs t f hk => by
    obtain ⟨es, cl, he, _⟩ := hT.own
    rw [hK.block k (Array.getElem?_eq_some_iff.1 hk).1 (by simp; intro e; rw [e, he] at hk; cases hk)]
    exact hk
  have hsum : sumE (insE ⟨s, A, 0⟩ E) = sumE E := by rw [sum_ins]; simp
  have hmem : ∀ a, a ∈ insE ⟨s, A, 0⟩ E → a = ⟨s, A, 0⟩ ∨ a ∈ E := fun a ha => List.mem_cons.1 ((ins_perm _ E).mem_iff.1 ha)
  refine ⟨⟨⟨?_, ?_, ?_, ?_, ?_⟩, ?_⟩, ?_⟩
  · rw [hsum]; exact hMB _ _ _ _ hT.blk
  · rw [datE_put 0 (lookE_none hk)] at hown
    have := own_tight hown
    simpa [datE, Maps.size] using this
  · intro a ha
    rcases hmem a ha with rfl | ha
    · exact hMB _ _ _ _ hc
    · exact hMB _ _ _ _ (hT.acc a ha)
  · refine ((ins_perm _ E).pairwise_iff (fun {a b} hab => Ne.symm hab)).2 (List.pairwise_cons.2 ⟨fun b hbm => ?_, hb.apart⟩)
    have := (Array.getElem?_eq_some_iff.1 (hb.acc b hbm)).1
    show A ≠ b.blk
    omega
  · intro a ha
    rcases hmem a ha with rfl | ha
    · exact Int.le_refl _
    · exact hb.pos a ha
  · rw [hsum]; exact hb.sum
  · exact (Kept.of_below hW).trans (hK.mono (by simp [blksE]))

/-- What Open answers. -/
def openE (E : List Acct) (s : List UInt8) : Int := if 1 ≤ s.length ∧ s.length ≤ 8 then (if (lookE E s).isSome then 3 else 0) else 2

set_option maxHeartbeats 400000 in
set_option maxRecDepth 100000 in
theorem open_no {w : World} {B M : Nat} {h seed : Int} {last : Option Addr} {E : List Acct} (hb : BookM w B M h seed last E) (s : ByteArray) (hs : s.size ≤ maxLen) (hno : openE E s.data.toList ≠ 0) :
    Calls Try.prog 11 #[.pointer (some ⟨B, 0, none⟩), .string s] w fun e w' => e = .returned (.int .i64 (openE E s.data.toList)) ∧ w' = w := by
  have hl := hb.look s hs
  obtain ⟨c2, _, _⟩ := hb.cells
  have hI := fun w => hide (isname_any s.size w)
  have hsz : s.data.toList.length = s.size := by simp
  by_cases hn : 1 ≤ s.size ∧ s.size ≤ 8
  · rw [decide_eq_true hn] at hI
    cases hk : lookE E s.data.toList with
    | none => exact absurd (by unfold openE; rw [hsz, if_pos hn, hk]; rfl) hno
    | some a =>
      have e3 : openE E s.data.toList = 3 := by unfold openE; rw [hsz, if_pos hn, hk]; rfl
      rw [e3]
      rw [hk] at hl
      obtain ⟨nm, A, x⟩ := a
      replace hl : (Instr.lookup 61 (.map (some M)) (.string s) false).run Try.prog w = .ok (.pointer (some ⟨A, 0, none⟩)) w := hl
      clear e3
      clear hb hk hno hn
      go_enter Try.func11, Try.ntmps11
      go_wp2_with fail
      refine (unhide (hI _)).mono ?_
      rintro e w1 ⟨rfl, rfl⟩
      go_wp2
      go_ret
      exact ⟨rfl, rfl⟩
  · have e2 : openE E s.data.toList = 2 := by unfold openE; rw [hsz, if_neg hn]
    rw [e2]
    rw [decide_eq_false hn] at hI
    clear e2
    clear hb hl hno hn
    go_enter Try.func11, Try.ntmps11
    go_wp2_with fail
    refine (unhide (hI _)).mono ?_
    rintro e w1 ⟨rfl, rfl⟩
    go_wp2
    go_ret
    exact ⟨rfl, rfl⟩

set_option maxHeartbeats 1000000 in
set_option maxRecDepth 100000 in
theorem open_yes {w : World} {B M : Nat} {h seed : Int} {last : Option Addr} {E : List Acct} (hb : BookM w B M h seed last E) (s : ByteArray) (hyes : openE E s.data.toList = 0) (hE : E.length < maxLen) :
    Calls Try.prog 11 #[.pointer (some ⟨B, 0, none⟩), .string s] w fun e w' => e = .returned (.int .i64 0) ∧ (∃ A, w.heap.size ≤ A ∧ BookM w' B M h seed last (insE ⟨s.data.toList, A, 0⟩ E)) ∧ Kept (blksE B M E) w w' := by
  have hsz : s.data.toList.length = s.size := by simp
  unfold openE at hyes
  rw [hsz] at hyes
  have hn : 1 ≤ s.size ∧ s.size ≤ 8 := Classical.byContradiction fun h => by rw [if_neg h] at hyes; cases hyes
  rw [if_pos hn] at hyes
  have hk : lookE E s.data.toList = none := by
    cases hk : lookE E s.data.toList with
    | none => rfl
    | some a => rw [hk] at hyes; cases hyes
  have hs : s.size ≤ maxLen := by unfold maxLen; omega
  have hl := hb.look s hs
  rw [hk] at hl
  replace hl : (Instr.lookup 61 (.map (some M)) (.string s) false).run Try.prog w = .ok (.pointer none) w := hl
  obtain ⟨c2, _, _⟩ := hb.cells
  have hI := fun w => hide (isname_any s.size w)
  rw [decide_eq_true hn] at hI
  have hC := fun w => hide (clone_any s w (by omega))
  have hcb : ∀ W, Below w.heap.size w W → W.cell? ⟨B, 2, none⟩ = some (.map (some M)) := fun W hW => block_cell (hb.toBookT.later hW).blk
  have hU : ∀ W A, Below w.heap.size w W → w.heap.size ≤ A → W.heap[A]? = some (.cells #[.int .u64 0] 70 (0, 0)) → ∃ W', (Instr.mapUpdate 61 (.map (some M)) (.string s) (.pointer (some ⟨A, 0, none⟩))).run Try.prog W = .ok () W' ∧ Hid ((∃ A, w.heap.size ≤ A ∧ BookM W' B M h seed last (insE ⟨s.data.toList, A, 0⟩ E)) ∧ Kept (blksE B M E) w W') := fun W A hW hA hc => by
    obtain ⟨W', r1, r2, r3⟩ := (hb.toBookT.later hW).own.store Try.lawS Try.undAcc hE (keyOf_string_mk Try.underlying9 hs) (show ptrElem (.pointer (some ⟨A, 0, none⟩)) = some (.held A, []) from rfl)
    have := hb.opened hW hk hA hc r2 r3
    exact ⟨W', r1, ⟨A, hA, this.1⟩, this.2⟩
  have HU := hide hU
  have HCB := hide hcb
  clear hb hk hyes hn hcb hU hsz hE hs
  go_enter Try.func11, Try.ntmps11
  go_wp2_with fail
  refine (unhide (hI _)).mono ?_
  rintro e w1 ⟨rfl, rfl⟩
  clear hI
  go_upto_region 5 with fail
  have hSd : w1.drew.cell? ⟨B, 2, none⟩ = some (.map (some M)) := c2
  have hBd : Below w1.heap.size w1 w1.drew := (Below.refl _ _).drew
  clear hl
  go_region_held3 (fun w' => w'.cell? ⟨B, 2, none⟩ = some (.map (some M)))
    (first
      | with_reducible exact hSd
      | with_reducible exact hS4
      | with_reducible exact unhide HCB _ (hB4.alloc hB4.size _)
      | with_reducible exact unhide HCB _ (((Below.refl w1.heap.size w1).alloc (Nat.le_refl _) _).drew)
      | with_reducible exact hS5
      | fail)
    (first
      | (go_at_call 25; (with_reducible refine (unhide (hC w1.drew)).mono ?_); rintro e w4 ⟨rfl, hb4⟩; have hB4 : Below w1.heap.size w1 w4 := hBd.trans hb4; have hS4 := unhide HCB _ hB4; obtain ⟨W5, hrun5, HE5⟩ := unhide HU (w4.alloc (Obj.cells #[Value.int IntKind.u64 0] 70)) w4.heap.size (hB4.alloc hB4.size _) hB4.size (heap_alloc_new w4 _); have hS5 : W5.cell? ⟨B, 2, none⟩ = some (.map (some M)) := block_cell (unhide HE5).1.choose_spec.2.blk)
      | (go_at_call 25; (with_reducible refine (unhide (hC _)).mono ?_); rintro e w4 ⟨rfl, hb4⟩; have hA4 : Below w1.heap.size w1 (w1.alloc (Obj.cells #[Value.int IntKind.u64 0] 70)).drew := ((Below.refl w1.heap.size w1).alloc (Nat.le_refl _) _).drew; have hB4 : Below w1.heap.size w1 w4 := hA4.trans (hb4.mono hA4.size); have hS4 := unhide HCB _ hB4; obtain ⟨W5, hrun5, HE5⟩ := unhide HU w4 w1.heap.size hB4 (Nat.le_refl _) ((hb4.block w1.heap.size (by simp)).trans (heap_alloc_new w1 _)); have hS5 : W5.cell? ⟨B, 2, none⟩ = some (.map (some M)) := block_cell (unhide HE5).1.choose_spec.2.blk))
  all_goals
    clear hSd hS4 hS5 hrun5
    go_wp2
    go_ret
    exact ⟨rfl, unhide HE5⟩

end Go.Proofs.Ytbjobbkgelipmaa

/-
  The walks of tithekeep's pick and name.
-/
namespace Go.Proofs.Ytbjobbkgelipmaa
open Go.RowKit

/-- What pick answers. -/
def pickI (c n : Int) : Int := (if c < 0 then -(c + 1) else c) % n
theorem pick_range (c n : Int) (hn : 0 < n) : 0 ≤ pickI c n ∧ pickI c n < n := ⟨Int.emod_nonneg _ (by omega), Int.emod_lt_of_pos _ hn⟩
theorem pick_same (c n : Int) (h0 : 0 ≤ c) (h1 : c < n) : pickI c n = c := by
  unfold pickI
  rw [if_neg (by omega), Int.emod_eq_of_lt h0 h1]

set_option maxHeartbeats 400000 in
theorem pick_any (c n : Int) (w : World) (hc : -9223372036854775808 ≤ c) (hc2 : c < 9223372036854775808) (hn : 0 < n) (hn2 : n < 9223372036854775808) :
    Calls Try.prog 9 #[.int .i64 c, .int .i64 n] w fun e w' => e = .returned (.int .i64 (pickI c n)) ∧ w' = w := by
  have hr := pick_range c n hn
  unfold pickI at *
  have n0 : ¬ n = 0 := by omega
  by_cases h : c < 0
  · rw [if_pos h] at *
    have e1 : IntKind.i64.wrap (c + 1) = c + 1 := by rw [IntKind.wrap_i64]; omega
    have e2 : IntKind.i64.wrap (-(c + 1)) = -(c + 1) := by rw [IntKind.wrap_i64]; omega
    have e3 : (-(c + 1)).tmod n = (-(c + 1)) % n := Int.tmod_eq_emod_of_nonneg (by omega)
    have e4 : IntKind.i64.wrap ((-(c + 1)) % n) = (-(c + 1)) % n := by
      generalize (-(c + 1)) % n = z at *
      rw [IntKind.wrap_i64]; omega
    go_enter Try.func9, Try.ntmps9
    go_wp2
    go_ret
    exact ⟨rfl, rfl⟩
  · rw [if_neg h] at *
    have e3 : c.tmod n = c % n := Int.tmod_eq_emod_of_nonneg (by omega)
    have e4 : IntKind.i64.wrap (c % n) = c % n := by
      generalize c % n = z at *
      rw [IntKind.wrap_i64]; omega
    go_enter Try.func9, Try.ntmps9
    go_wp2
    go_ret
    exact ⟨rfl, rfl⟩

/-- The six names. -/
def nm6 : List ByteArray := [⟨#[97]⟩, ⟨#[97, 98]⟩, ⟨#[98]⟩, ⟨#[0]⟩, ⟨#[108, 111, 110, 103, 110, 97, 109, 101]⟩, ⟨#[255, 254]⟩]
def nmB (i : Nat) : ByteArray := nm6.getD i ⟨#[]⟩

set_option maxHeartbeats 400000 in
set_option maxRecDepth 100000 in
theorem name_any (c : Int) (w : World) (hc : -9223372036854775808 ≤ c) (hc2 : c < 9223372036854775808) :
    Calls Try.prog 12 #[.int .i64 c] w fun e w' => e = .returned (.string (nmB (pickI c 6).toNat)) ∧ Below w.heap.size w w' := by
  have hP := fun w => hide (pick_any c 6 w hc hc2 (by omega) (by omega))
  have hr := pick_range c 6 (by omega)
  generalize pickI c 6 = p at *
  obtain ⟨k, rfl⟩ : ∃ k : Nat, p = (k : Int) := ⟨p.toNat, by omega⟩
  have hk : k < 6 := by omega
  rw [Int.toNat_natCast]
  go_enter Try.func12, Try.ntmps12
  go_wp2_with fail
  refine (unhide (hP _)).mono ?_
  rintro e w1 ⟨rfl, rfl⟩
  have K6 : k = 0 ∨ k = 1 ∨ k = 2 ∨ k = 3 ∨ k = 4 ∨ k = 5 := by omega
  clear hP hr hk
  rcases K6 with rfl | rfl | rfl | rfl | rfl | rfl
  all_goals
    go_wp2
    go_ret
    exact ⟨rfl, by
      repeat first
        | exact Below.refl _ _
        | refine Below.drew ?_
        | refine Below.setCell ?_ (by simp; try omega) _
        | refine Below.alloc ?_ (by simp; try omega) _⟩

end Go.Proofs.Ytbjobbkgelipmaa

/-
  The walk of tithekeep's balances.
-/
namespace Go.Proofs.Ytbjobbkgelipmaa
open Go.RowKit

def arr6 (f : Nat → Value) : Array Value := #[f 0, f 1, f 2, f 3, f 4, f 5]
def balV (E : List Acct) (i : Nat) : Value := .int .u64 ((balE E (nmB i).data.toList).getD 0)
def isV (E : List Acct) (i : Nat) : Value := .bool (balE E (nmB i).data.toList).isSome
theorem arr6_at (f : Nat → Value) {k : Nat} (hk : k < 6) : (arr6 f)[k]? = some (f k) := by
  have K6 : k = 0 ∨ k = 1 ∨ k = 2 ∨ k = 3 ∨ k = 4 ∨ k = 5 := by omega
  rcases K6 with rfl | rfl | rfl | rfl | rfl | rfl <;> rfl
theorem arr6_set (f g : Nat → Value) {k : Nat} (hk : k < 6) (v : Value) (hv : g k = v) (hg : ∀ j, j < 6 → j ≠ k → g j = f j) : (arr6 f).setIfInBounds k v = arr6 g := by
  have K6 : k = 0 ∨ k = 1 ∨ k = 2 ∨ k = 3 ∨ k = 4 ∨ k = 5 := by omega
  unfold arr6
  rcases K6 with rfl | rfl | rfl | rfl | rfl | rfl
  · rw [← hv, hg 1 (by omega) (by omega), hg 2 (by omega) (by omega), hg 3 (by omega) (by omega), hg 4 (by omega) (by omega), hg 5 (by omega) (by omega)]; rfl
  · rw [← hv, hg 0 (by omega) (by omega), hg 2 (by omega) (by omega), hg 3 (by omega) (by omega), hg 4 (by omega) (by omega), hg 5 (by omega) (by omega)]; rfl
  · rw [← hv, hg 1 (by omega) (by omega), hg 0 (by omega) (by omega), hg 3 (by omega) (by omega), hg 4 (by omega) (by omega), hg 5 (by omega) (by omega)]; rfl
  · rw [← hv, hg 1 (by omega) (by omega), hg 2 (by omega) (by omega), hg 0 (by omega) (by omega), hg 4 (by omega) (by omega), hg 5 (by omega) (by omega)]; rfl
  · rw [← hv, hg 1 (by omega) (by omega), hg 2 (by omega) (by omega), hg 3 (by omega) (by omega), hg 0 (by omega) (by omega), hg 5 (by omega) (by omega)]; rfl
  · rw [← hv, hg 1 (by omega) (by omega), hg 2 (by omega) (by omega), hg 3 (by omega) (by omega), hg 4 (by omega) (by omega), hg 0 (by omega) (by omega)]; rfl

/-- What lies in memory on the way. -/
structure BalM (w W : World) (E : List Acct) (k : Nat) : Prop where
  r0 : W.heap[w.heap.size]? = some (.cells (arr6 fun _ => .int .u64 0) 34 (0, 0))
  r1 : W.heap[w.heap.size + 1]? = some (.cells (arr6 fun _ => .bool false) 35 (0, 0))
  l0 : W.heap[w.heap.size + 2]? = some (.cells (arr6 fun j => if j < k then balV E j else .int .u64 0) 34 (0, 0))
  l1 : W.heap[w.heap.size + 3]? = some (.cells (arr6 fun j => if j < k then isV E j else .bool false) 35 (0, 0))
  below : Below w.heap.size w W
theorem BalM.later {w W W' : World} {E : List Acct} {k : Nat} (h : BalM w W E k) (hb : Below W.heap.size W W') : BalM w W' E k := by
  have e : ∀ (i : Nat) (o : Obj), W.heap[i]? = some o → W'.heap[i]? = some o := fun i o hi => (hb.block i (Array.getElem?_eq_some_iff.1 hi).1).trans hi
  exact ⟨e _ _ h.r0, e _ _ h.r1, e _ _ h.l0, e _ _ h.l1, h.below.trans (hb.mono h.below.size)⟩
theorem BalM.set {w W : World} {E : List Acct} {k : Nat} (h : BalM w W E k) (hk : k < 6) : BalM w ((W.setCell ⟨w.heap.size + 2, k, none⟩ (balV E k)).setCell ⟨w.heap.size + 3, k, none⟩ (isV E k)) E (k + 1) := by
  have ne : ∀ (W : World) (a i b : Nat) (v : Value), b ≠ a → (W.setCell ⟨a, i, none⟩ v).heap[b]? = W.heap[b]? := fun W a i b v hb => Below.heap_setCell _ _ _ _ hb
  refine ⟨?_, ?_, ?_, ?_, (h.below.setCell (by show w.heap.size ≤ w.heap.size + 2; omega) _).setCell (by show w.heap.size ≤ w.heap.size + 3; omega) _⟩
  · rw [ne _ _ _ _ _ (by omega), ne _ _ _ _ _ (by omega)]; exact h.r0
  · rw [ne _ _ _ _ _ (by omega), ne _ _ _ _ _ (by omega)]; exact h.r1
  · rw [ne _ _ _ _ _ (by omega), heap_setCell_same _ _ k _ _ _ h.l0]
    rw [arr6_set _ (fun j => if j < k + 1 then balV E j else .int .u64 0) hk _ (by rw [if_pos (by omega)])]
    intro j _ hj
    by_cases h1 : j < k
    · rw [if_pos h1, if_pos (by omega)]
    · rw [if_neg h1, if_neg (by omega)]
  · rw [heap_setCell_same _ _ k _ _ _ ((ne _ _ _ _ _ (by omega)).trans h.l1)]
    rw [arr6_set _ (fun j => if j < k + 1 then isV E j else .bool false) hk _ (by rw [if_pos (by omega)])]
    intro j _ hj
    by_cases h1 : j < k
    · rw [if_pos h1, if_pos (by omega)]
    · rw [if_neg h1, if_neg (by omega)]
theorem bal_start (w : World) (E : List Acct) : BalM w ((((w.alloc (.cells (arr6 fun _ => .int .u64 0) 34)).alloc (.cells (arr6 fun _ => .bool false) 35)).alloc (.cells (arr6 fun _ => .int .u64 0) 34)).alloc (.cells (arr6 fun _ => .bool false) 35)) E 0 := by
  have nw : ∀ (W : World) (o : Obj), (W.alloc o).heap[W.heap.size]? = some o := heap_alloc_new
  have od : ∀ (W : World) (o : Obj) (i : Nat), i < W.heap.size → (W.alloc o).heap[i]? = W.heap[i]? := fun W o i hi => ((Below.refl W.heap.size W).alloc (Nat.le_refl _) o).block i hi
  refine ⟨?_, ?_, ?_, ?_, (((((Below.refl _ _).alloc (Nat.le_refl _) _).alloc (by simp) _).alloc (by simp; omega) _).alloc (by simp; omega) _)⟩
  · rw [od _ _ _ (by simp; omega), od _ _ _ (by simp; omega), od _ _ _ (by simp)]; exact nw _ _
  · rw [od _ _ _ (by simp), od _ _ _ (by simp)]
    have := nw (w.alloc (.cells (arr6 fun _ => .int .u64 0) 34)) (.cells (arr6 fun _ => .bool false) 35)
    rwa [World.size_alloc] at this
  · rw [od _ _ _ (by simp)]
    have := nw ((w.alloc (.cells (arr6 fun _ => .int .u64 0) 34)).alloc (.cells (arr6 fun _ => .bool false) 35)) (.cells (arr6 fun _ => .int .u64 0) 34)
    rw [World.size_alloc, World.size_alloc] at this
    exact this
  · have := nw (((w.alloc (.cells (arr6 fun _ => .int .u64 0) 34)).alloc (.cells (arr6 fun _ => .bool false) 35)).alloc (.cells (arr6 fun _ => .int .u64 0) 34)) (.cells (arr6 fun _ => .bool false) 35)
    rw [World.size_alloc, World.size_alloc, World.size_alloc] at this
    exact this

theorem nmB_small (k : Nat) (hk : k < 6) : (nmB k).size ≤ 8 ∧ 1 ≤ (nmB k).size := by
  have K6 : k = 0 ∨ k = 1 ∨ k = 2 ∨ k = 3 ∨ k = 4 ∨ k = 5 := by omega
  rcases K6 with rfl | rfl | rfl | rfl | rfl | rfl <;> decide

theorem decide_err (b : Bool) : decide ((if b = true then (0 : Int) else 4) = 0) = b := by cases b <;> rfl

set_option maxHeartbeats 1000000 in
set_option maxRecDepth 100000 in
theorem balances_any {w : World} {B M : Nat} {h seed : Int} {last : Option Addr} {E : List Acct} (hb : BookM w B M h seed last E) :
    Calls Try.prog 10 #[.pointer (some ⟨B, 0, none⟩)] w fun e w' => e = .returned (.tuple #[.agg (arr6 (balV E)), .agg (arr6 (isV E))]) ∧ Below w.heap.size w w' := by
  have HB := hide hb
  have HS := hide (bal_start w E)
  clear hb
  go_enter Try.func10, Try.ntmps10
  go_wp2_with fail
  go_loopw [6] (fun i wr => ∃ k : Nat, k ≤ 6 ∧ i = .int .i64 k ∧ BalM w wr E k) (fun i _ => 6 - (intOf i).toNat)
  case atStart => exact ⟨0, by omega, rfl, unhide HS⟩
  case round =>
    obtain ⟨k, hk, rfl, hM⟩ := hrel
    clear HS
    by_cases hk' : k < 6
    · have HN := fun w => hide (name_any (k : Int) w (by omega) (by omega))
      rw [pick_same (k : Int) 6 (by omega) (by omega), Int.toNat_natCast] at HN
      have hns := (nmB_small k hk').1
      have HM := hide hM
      have hkI : (k : Int) < 6 := by omega
      clear hM
      go_wp2_with fail
      refine (unhide (HN _)).mono ?_
      rintro e w1 ⟨rfl, hb1⟩
      have hM1 := (unhide HM).later hb1
      have HBl := hide (balance_any (⟨(unhide HB).toBookT.later hM1.below, (unhide HB).sum⟩ : BookM w1 B M h seed last E) (nmB k) (by unfold maxLen; omega))
      have HM1 := hide hM1
      clear hb1 hM1 HN HM
      go_wp2_with fail
      refine (unhide HBl).mono ?_
      rintro e w2 ⟨rfl, rfl⟩
      have hM2 := unhide HM1
      have HM3 := hide (hM2.set hk')
      have c0 : w2.cell? ⟨w.heap.size + 2, k, none⟩ = some (.int .u64 0) := by rw [block_cell hM2.l0, arr6_at _ hk', if_neg (by omega)]
      have c1 : w2.cell? ⟨w.heap.size + 3, k, none⟩ = some (.bool false) := by rw [block_cell hM2.l1, arr6_at _ hk', if_neg (by omega)]
      have f0 : w2.frozen? ⟨w.heap.size + 2, k, none⟩ = false := block_free hM2.l0
      have f1 : w2.frozen? ⟨w.heap.size + 3, k, none⟩ = false := block_free hM2.l1
      have hde := decide_err (balE E (nmB k).data.toList).isSome
      unfold balV isV at HM3
      generalize (balE E (nmB k).data.toList).getD 0 = x at *
      generalize (balE E (nmB k).data.toList).isSome = y at *
      clear hM2 HM1 HBl
      cases y
      all_goals
        go_wp2
        refine ⟨⟨k + 1, by omega, by go_num, ?_⟩, by simp [intOf]; omega⟩
        exact unhide HM3
    · have hkk : k = 6 := by omega
      subst hkk
      obtain ⟨r0, r1, l0, l1, bel⟩ := hM
      have HE := hide bel
      obtain ⟨x, hx⟩ : ∃ x : Nat → Int, ∀ j, balV E j = .int .u64 (x j) := ⟨_, fun j => rfl⟩
      obtain ⟨y, hy⟩ : ∃ y : Nat → Bool, ∀ j, isV E j = .bool (y j) := ⟨_, fun j => rfl⟩
      have ha0 : arr6 (balV E) = #[.int .u64 (x 0), .int .u64 (x 1), .int .u64 (x 2), .int .u64 (x 3), .int .u64 (x 4), .int .u64 (x 5)] := by
        unfold arr6; rw [hx, hx, hx, hx, hx, hx]
      have ha1 : arr6 (isV E) = #[.bool (y 0), .bool (y 1), .bool (y 2), .bool (y 3), .bool (y 4), .bool (y 5)] := by
        unfold arr6; rw [hy, hy, hy, hy, hy, hy]
      have l0' : wr.heap[w.heap.size + 2]? = some (.cells (arr6 (balV E)) 34 (0, 0)) := l0
      have l1' : wr.heap[w.heap.size + 3]? = some (.cells (arr6 (isV E)) 35 (0, 0)) := l1
      have HA := hide (And.intro ha0 ha1)
      rw [ha0] at l0'
      rw [ha1] at l1'
      generalize x 0 = x0 at *
      generalize x 1 = x1 at *
      generalize x 2 = x2 at *
      generalize x 3 = x3 at *
      generalize x 4 = x4 at *
      generalize x 5 = x5 at *
      generalize y 0 = y0 at *
      generalize y 1 = y1 at *
      generalize y 2 = y2 at *
      generalize y 3 = y3 at *
      generalize y 4 = y4 at *
      generalize y 5 = y5 at *
      have c00 : wr.cell? ⟨w.heap.size, 0, none⟩ = some (.int .u64 0) := block_cell r0
      have c01 : wr.cell? ⟨w.heap.size, 1, none⟩ = some (.int .u64 0) := block_cell r0
      have c02 : wr.cell? ⟨w.heap.size, 2, none⟩ = some (.int .u64 0) := block_cell r0
      have c03 : wr.cell? ⟨w.heap.size, 3, none⟩ = some (.int .u64 0) := block_cell r0
      have c04 : wr.cell? ⟨w.heap.size, 4, none⟩ = some (.int .u64 0) := block_cell r0
      have c05 : wr.cell? ⟨w.heap.size, 5, none⟩ = some (.int .u64 0) := block_cell r0
      have c10 : wr.cell? ⟨w.heap.size + 1, 0, none⟩ = some (.bool false) := block_cell r1
      have c11 : wr.cell? ⟨w.heap.size + 1, 1, none⟩ = some (.bool false) := block_cell r1
      have c12 : wr.cell? ⟨w.heap.size + 1, 2, none⟩ = some (.bool false) := block_cell r1
      have c13 : wr.cell? ⟨w.heap.size + 1, 3, none⟩ = some (.bool false) := block_cell r1
      have c14 : wr.cell? ⟨w.heap.size + 1, 4, none⟩ = some (.bool false) := block_cell r1
      have c15 : wr.cell? ⟨w.heap.size + 1, 5, none⟩ = some (.bool false) := block_cell r1
      have c20 : wr.cell? ⟨w.heap.size + 2, 0, none⟩ = some (.int .u64 x0) := block_cell l0'
      have c21 : wr.cell? ⟨w.heap.size + 2, 1, none⟩ = some (.int .u64 x1) := block_cell l0'
      have c22 : wr.cell? ⟨w.heap.size + 2, 2, none⟩ = some (.int .u64 x2) := block_cell l0'
      have c23 : wr.cell? ⟨w.heap.size + 2, 3, none⟩ = some (.int .u64 x3) := block_cell l0'
      have c24 : wr.cell? ⟨w.heap.size + 2, 4, none⟩ = some (.int .u64 x4) := block_cell l0'
      have c25 : wr.cell? ⟨w.heap.size + 2, 5, none⟩ = some (.int .u64 x5) := block_cell l0'
      have c30 : wr.cell? ⟨w.heap.size + 3, 0, none⟩ = some (.bool y0) := block_cell l1'
      have c31 : wr.cell? ⟨w.heap.size + 3, 1, none⟩ = some (.bool y1) := block_cell l1'
      have c32 : wr.cell? ⟨w.heap.size + 3, 2, none⟩ = some (.bool y2) := block_cell l1'
      have c33 : wr.cell? ⟨w.heap.size + 3, 3, none⟩ = some (.bool y3) := block_cell l1'
      have c34 : wr.cell? ⟨w.heap.size + 3, 4, none⟩ = some (.bool y4) := block_cell l1'
      have c35 : wr.cell? ⟨w.heap.size + 3, 5, none⟩ = some (.bool y5) := block_cell l1'
      have fr0 : ∀ j : Nat, wr.frozen? ⟨w.heap.size, j, none⟩ = false := fun j => block_free r0
      have fr1 : ∀ j : Nat, wr.frozen? ⟨w.heap.size + 1, j, none⟩ = false := fun j => block_free r1
      clear bel HB r0 r1 l0 l1 l0' l1' hx hy ha0 ha1 x y hk hk'
      go_wp2_with fail
      go_region
      go_wp2
      refine bodyPost_ret (v := .tuple #[.agg #[.int .u64 x0, .int .u64 x1, .int .u64 x2, .int .u64 x3, .int .u64 x4, .int .u64 x5], .agg #[.bool y0, .bool y1, .bool y2, .bool y3, .bool y4, .bool y5]]) ?_ rfl ⟨?_, ?_⟩
      · simp [results, Try.results10, go_sem, c00, c01, c02, c03, c04, c05, c10, c11, c12, c13, c14, c15]
      · rw [(unhide HA).1, (unhide HA).2]
      · have HE' := unhide HE
        repeat first
          | (with_reducible exact HE')
          | ((with_reducible refine Below.setCell ?_ ?_ _); rotate_left 1; (first | exact Nat.le_refl _ | exact Nat.le_succ _))
          | (with_reducible refine Below.drew ?_)

end Go.Proofs.Ytbjobbkgelipmaa

/-
  What each step does to the six balances.
-/
namespace Go.Proofs.Ytbjobbkgelipmaa
open Go.RowKit

/-- The balance of the i-th name. -/
def fE (E : List Acct) (i : Nat) : Option Int := balE E (nmB i).data.toList
def updF (f : Nat → Option Int) (i : Nat) (v : Option Int) (j : Nat) : Option Int := if j = i then v else f j

theorem nmB_inj : ∀ i, i < 6 → ∀ j, j < 6 → (nmB i).data.toList = (nmB j).data.toList → i = j := by decide

theorem look_ins (x : Acct) (t : List UInt8) : ∀ E : List Acct, (∀ a ∈ E, a.name ≠ x.name) → lookE (insE x E) t = if x.name = t then some x else lookE E t
  | [], _ => by
    unfold lookE insE
    rw [List.find?_cons]
    by_cases h : x.name = t
    · rw [if_pos h]; simp [h]
    · rw [if_neg h, beq_eq_false_iff_ne.2 h]
  | b :: E, hE => by
    have ih := look_ins x t E (fun a ha => hE a (List.mem_cons_of_mem _ ha))
    unfold insE
    split
    · unfold lookE
      rw [List.find?_cons]
      by_cases h : x.name = t
      · rw [if_pos h]; simp [h]
      · rw [if_neg h, beq_eq_false_iff_ne.2 h]
    · unfold lookE at ih ⊢
      rw [List.find?_cons, List.find?_cons]
      by_cases hb : b.name = t
      · have hne : ¬ x.name = t := fun e => hE b List.mem_cons_self (by rw [hb, e])
        rw [if_neg hne]
        simp [hb]
      · rw [beq_eq_false_iff_ne.2 hb]
        exact ih
theorem bal_ins {E : List Acct} {s : List UInt8} {A : Nat} {x : Int} (h : ∀ a ∈ E, a.name ≠ s) (t : List UInt8) : balE (insE ⟨s, A, x⟩ E) t = if t = s then some x else balE E t := by
  unfold balE
  rw [look_ins ⟨s, A, x⟩ t E h]
  by_cases e : t = s
  · rw [if_pos e, if_pos e.symm]; rfl
  · rw [if_neg e, if_neg (fun h => e h.symm)]
theorem bal_rem (s t : List UInt8) : ∀ E : List Acct, balE (remE E s) t = if t = s then none else balE E t
  | [] => by unfold balE remE lookE; simp
  | b :: E => by
    have ih := bal_rem s t E
    unfold balE remE lookE at ih ⊢
    rw [List.filter_cons]
    by_cases hb : b.name = s
    · have e1 : (!(b.name == s)) = false := by simp [hb]
      rw [e1]
      simp only [Bool.false_eq_true, if_false]
      rw [ih]
      by_cases e : t = s
      · rw [if_pos e, if_pos e]
      · rw [if_neg e, if_neg e, List.find?_cons, beq_eq_false_iff_ne.2 (fun h => e (h.symm.trans hb))]
    · have e1 : (!(b.name == s)) = true := by simp [hb]
      rw [e1]
      simp only [if_true]
      rw [List.find?_cons, List.find?_cons]
      by_cases e : b.name = t
      · have hts : ¬ t = s := fun h => hb (e.trans h)
        rw [if_neg hts]
        simp [e]
      · rw [beq_eq_false_iff_ne.2 e]
        exact ih
theorem bal_set {E : List Acct} {s : List UInt8} {x : Int} (h : (balE E s).isSome = true) (t : List UInt8) : balE (setE E s x) t = if t = s then some x else balE E t := by
  by_cases e : t = s
  · rw [if_pos e, e]
    unfold balE at h ⊢
    cases hl : lookE E s with
    | none => rw [hl] at h; cases h
    | some a => rw [look_set hl]; rfl
  · rw [if_neg e]
    unfold balE
    rw [look_set_ne e]

def six (x : Nat → Int) : Int := x 0 + x 1 + x 2 + x 3 + x 4 + x 5
theorem six_upd {x x' : Nat → Int} {j : Nat} (hj : j < 6) (h : ∀ i, i < 6 → i ≠ j → x' i = x i) : six x' = six x - x j + x' j := by
  have K6 : j = 0 ∨ j = 1 ∨ j = 2 ∨ j = 3 ∨ j = 4 ∨ j = 5 := by omega
  unfold six
  rcases K6 with rfl | rfl | rfl | rfl | rfl | rfl
  · rw [h 1 (by omega) (by omega), h 2 (by omega) (by omega), h 3 (by omega) (by omega), h 4 (by omega) (by omega), h 5 (by omega) (by omega)]; omega
  · rw [h 0 (by omega) (by omega), h 2 (by omega) (by omega), h 3 (by omega) (by omega), h 4 (by omega) (by omega), h 5 (by omega) (by omega)]; omega
  · rw [h 1 (by omega) (by omega), h 0 (by omega) (by omega), h 3 (by omega) (by omega), h 4 (by omega) (by omega), h 5 (by omega) (by omega)]; omega
  · rw [h 1 (by omega) (by omega), h 2 (by omega) (by omega), h 0 (by omega) (by omega), h 4 (by omega) (by omega), h 5 (by omega) (by omega)]; omega
  · rw [h 1 (by omega) (by omega), h 2 (by omega) (by omega), h 3 (by omega) (by omega), h 0 (by omega) (by omega), h 5 (by omega) (by omega)]; omega
  · rw [h 1 (by omega) (by omega), h 2 (by omega) (by omega), h 3 (by omega) (by omega), h 4 (by omega) (by omega), h 0 (by omega) (by omega)]; omega
def xE (E : List Acct) (i : Nat) : Int := (fE E i).getD 0
def OfSix (E : List Acct) : Prop := ∀ a ∈ E, ∃ j, j < 6 ∧ a.name = (nmB j).data.toList
/-- All balances together are the six. -/
theorem six_sum : ∀ E : List Acct, E.Pairwise (fun a b => a.name ≠ b.name) → OfSix E → six (xE E) = sumE E
  | [], _, _ => by simp [six, xE, fE, balE, lookE, sumE]
  | a :: E, hp, ho => by
    rw [List.pairwise_cons] at hp
    have ih := six_sum E hp.2 (fun b hb => ho b (List.mem_cons_of_mem _ hb))
    obtain ⟨j, hj, hn⟩ := ho a List.mem_cons_self
    have h0 : xE E j = 0 := by
      have : lookE E (nmB j).data.toList = none := by
        cases hl : lookE E (nmB j).data.toList with
        | none => rfl
        | some b => exact absurd (hn.trans (lookE_name hl).2.symm) (hp.1 b (lookE_name hl).1)
      unfold xE fE balE
      rw [this]; rfl
    have h1 : xE (a :: E) j = a.bal := by
      unfold xE fE balE lookE
      rw [List.find?_cons, hn]
      simp
    have h2 : ∀ i, i < 6 → i ≠ j → xE (a :: E) i = xE E i := fun i hi hij => by
      have hne : a.name ≠ (nmB i).data.toList := fun e => hij (nmB_inj i hi j hj (e.symm.trans hn))
      unfold xE fE balE lookE
      rw [List.find?_cons, beq_eq_false_iff_ne.2 hne]
    rw [six_upd hj h2, ih, h0, h1]
    unfold sumE
    simp only [List.map_cons, List.sum_cons]
    omega

/-- A book and what is known of it. -/
structure BkI (w W : World) (B M : Nat) (h seed : Int) (last : Option Addr) (E : List Acct) : Prop where
  book : BookM W B M h seed last E
  low : ∀ k ∈ blksE B M E, w.heap.size ≤ k
  six : OfSix E
  below : Below w.heap.size w W
theorem BkI.later {w W W' : World} {B M : Nat} {h seed : Int} {last : Option Addr} {E : List Acct} (hb : BkI w W B M h seed last E) (hW : Below W.heap.size W W') : BkI w W' B M h seed last E :=
  ⟨⟨hb.book.toBookT.later hW, hb.book.sum⟩, hb.low, hb.six, hb.below.trans (hW.mono hb.below.size)⟩
theorem BkI.kept {w W W' : World} {B M : Nat} {h seed : Int} {last : Option Addr} {E E' : List Acct} (hb : BkI w W B M h seed last E) (hB : BookM W' B M h seed last E') (hK : Kept (blksE B M E) W W') (hs : OfSix E') (hl : ∀ a ∈ E', w.heap.size ≤ a.blk) : BkI w W' B M h seed last E' := by
  refine ⟨hB, ?_, hs, hb.below.trans (hK.below hb.below.size hb.low)⟩
  intro k hk
  unfold blksE at hk
  rcases List.mem_cons.1 hk with rfl | hk
  · exact hb.low _ (by simp [blksE])
  · rcases List.mem_cons.1 hk with rfl | hk
    · exact hb.low _ (by simp [blksE])
    · obtain ⟨a, ha, rfl⟩ := List.mem_map.1 hk
      exact hl a ha
theorem BkI.lowA {w W : World} {B M : Nat} {h seed : Int} {last : Option Addr} {E : List Acct} (hb : BkI w W B M h seed last E) : ∀ a ∈ E, w.heap.size ≤ a.blk := fun a ha => hb.low _ (by unfold blksE; exact List.mem_cons_of_mem _ (List.mem_cons_of_mem _ (List.mem_map.2 ⟨a, ha, rfl⟩)))
theorem BkI.total {w W : World} {B M : Nat} {h seed : Int} {last : Option Addr} {E : List Acct} (hb : BkI w W B M h seed last E) : Go.Proofs.Ytbjobbkgelipmaa.six (xE E) = sumE E := six_sum E hb.book.names hb.six
theorem ofSix_set {E : List Acct} {s : List UInt8} {x : Int} (h : OfSix E) : OfSix (setE E s x) := fun b hb => by
  obtain ⟨a, ha, hn, _⟩ := mem_set hb
  obtain ⟨j, hj, e⟩ := h a ha
  exact ⟨j, hj, hn.trans e⟩
theorem lowA_set {E : List Acct} {s : List UInt8} {x : Int} {N : Nat} (h : ∀ a ∈ E, N ≤ a.blk) : ∀ a ∈ setE E s x, N ≤ a.blk := fun b hb => by
  obtain ⟨a, ha, _, hn, _⟩ := mem_set hb
  rw [hn]; exact h a ha
theorem nodup_len {α : Type} [DecidableEq α] : ∀ {l l' : List α}, l.Nodup → (∀ x ∈ l, x ∈ l') → l.length ≤ l'.length
  | [], _, _, _ => Nat.zero_le _
  | a :: l, l', h, hs => by
    have hc := List.nodup_cons.1 h
    have h3 := nodup_len (l' := l'.erase a) hc.2 (fun x hx => (List.mem_erase_of_ne (fun e : x = a => hc.1 (e ▸ hx))).2 (hs x (List.mem_cons_of_mem _ hx)))
    rw [List.length_erase_of_mem (hs a List.mem_cons_self)] at h3
    have h4 := List.length_pos_of_mem (hs a List.mem_cons_self)
    rw [List.length_cons]
    omega
theorem ofSix_len {E : List Acct} (hp : E.Pairwise (fun a b => a.name ≠ b.name)) (h : OfSix E) : E.length ≤ 6 := by
  have h1 : (E.map Acct.name).Nodup := by
    unfold List.Nodup
    rw [List.pairwise_map]
    exact hp
  have h2 : ∀ x ∈ E.map Acct.name, x ∈ (List.range 6).map (fun j => (nmB j).data.toList) := fun x hx => by
    obtain ⟨a, ha, rfl⟩ := List.mem_map.1 hx
    obtain ⟨j, hj, e⟩ := h a ha
    exact List.mem_map.2 ⟨j, by simpa using hj, e.symm⟩
  have := nodup_len h1 h2
  simpa using this

/-- What a step answers and does. -/
def opOpen (f : Nat → Option Int) (j : Nat) : Int × (Nat → Option Int) := if (f j).isSome then (3, f) else (0, updF f j (some 0))
def opPay (f : Nat → Option Int) (tot : Int) (j : Nat) (n : Int) : Int × (Nat → Option Int) := match f j with
  | none => (4, f)
  | some b => if tot + n ≤ maxS then (0, updF f j (some (b + n))) else (5, f)
def opDraw (f : Nat → Option Int) (j : Nat) (n : Int) : Int × (Nat → Option Int) := match f j with
  | none => (4, f)
  | some b => if n ≤ b then (0, updF f j (some (b - n))) else (5, f)
def opMove (f : Nat → Option Int) (j i : Nat) (n : Int) : Int × (Nat → Option Int) := match f j, f i with
  | some b, some c => if n ≤ b then (0, updF (updF f j (some (b - n))) i (some ((if i = j then b - n else c) + n))) else (5, f)
  | _, _ => (4, f)
def opClose (f : Nat → Option Int) (j : Nat) : Int × (Nat → Option Int) := match f j with
  | none => (4, f)
  | some b => if b = 0 then (0, updF f j none) else (6, f)

/-- Behind a step. -/
def Done (w W W' : World) (B M : Nat) (h seed : Int) (last : Option Addr) (E : List Acct) (f : Nat → Option Int) : Prop :=
  ∃ E', BkI w W' B M h seed last E' ∧ (∀ i, i < 6 → fE E' i = f i) ∧ Kept (blksE B M E) W W'

theorem upd_eq {j i : Nat} (hj : j < 6) (hi : i < 6) (f : Nat → Option Int) (v : Option Int) : (if (nmB i).data.toList = (nmB j).data.toList then v else f i) = updF f j v i := by
  unfold updF
  by_cases e : i = j
  · rw [if_pos e, if_pos (by rw [e])]
  · rw [if_neg e, if_neg (fun h => e (nmB_inj i hi j hj h))]

theorem kopen_any {w W : World} {B M : Nat} {h seed : Int} {last : Option Addr} {E : List Acct} (hb : BkI w W B M h seed last E) (j : Nat) (hj : j < 6) :
    Calls Try.prog 11 #[.pointer (some ⟨B, 0, none⟩), .string (nmB j)] W fun e W' => e = .returned (.int .i64 (opOpen (fE E) j).1) ∧ Done w W W' B M h seed last E (opOpen (fE E) j).2 := by
  have hns := nmB_small j hj
  have hsz : (nmB j).data.toList.length = (nmB j).size := by simp
  unfold opOpen
  cases hl : (fE E j).isSome
  · rw [if_neg (by simp)]
    have hk : lookE E (nmB j).data.toList = none := by
      unfold fE balE at hl
      cases hk : lookE E (nmB j).data.toList with
      | none => rfl
      | some a => rw [hk] at hl; cases hl
    have hop : openE E (nmB j).data.toList = 0 := by unfold openE; rw [if_pos (by omega), hk]; rfl
    refine (open_yes hb.book (nmB j) hop (by have := ofSix_len hb.book.names hb.six; unfold maxLen; omega)).mono fun e W' ⟨he, ⟨A, hA, hB⟩, hK⟩ => ⟨he, _, hb.kept hB hK ?_ ?_, fun i hi => ?_, hK⟩
    · intro a ha
      rcases List.mem_cons.1 ((ins_perm _ _).mem_iff.1 ha) with rfl | ha
      · exact ⟨j, hj, rfl⟩
      · exact hb.six a ha
    · intro a ha
      rcases List.mem_cons.1 ((ins_perm _ _).mem_iff.1 ha) with rfl | ha
      · have := hb.below.size; show w.heap.size ≤ A; omega
      · exact hb.lowA a ha
    · unfold fE
      rw [bal_ins (lookE_none hk)]
      exact upd_eq hj hi (fE E) _
  · rw [if_pos rfl]
    have hop : openE E (nmB j).data.toList = 3 := by
      unfold openE
      unfold fE balE at hl
      rw [if_pos (by omega), if_pos (by simpa using hl)]
    have := open_no hb.book (nmB j) (by unfold maxLen; omega) (by rw [hop]; decide)
    rw [hop] at this
    exact this.mono fun e W' ⟨he, hW⟩ => ⟨he, by rw [hW]; exact ⟨E, hb, fun _ _ => rfl, Kept.refl _ _⟩⟩

theorem fE_look {E : List Acct} {j : Nat} : fE E j = (lookE E (nmB j).data.toList).map Acct.bal := rfl

theorem kpay_any {w W : World} {B M : Nat} {h seed : Int} {last : Option Addr} {E : List Acct} (hb : BkI w W B M h seed last E) (j : Nat) (hj : j < 6) (n : Int) (hn : 0 ≤ n) (hn2 : n < 18446744073709551616) :
    Calls Try.prog 13 #[.pointer (some ⟨B, 0, none⟩), .string (nmB j), .int .u64 n] W fun e W' => e = .returned (.int .i64 (opPay (fE E) (sumE E) j n).1) ∧ Done w W W' B M h seed last E (opPay (fE E) (sumE E) j n).2 := by
  have hns := nmB_small j hj
  refine (pay_any hb.book (nmB j) n (by unfold maxLen; omega) hn hn2).mono fun e W' ⟨he, hB, hK⟩ => ?_
  unfold payE at he hB
  unfold opPay
  rw [fE_look]
  cases hk : lookE E (nmB j).data.toList with
  | none =>
    rw [hk] at he hB
    exact ⟨he, E, hb.kept hB hK hb.six hb.lowA, fun _ _ => rfl, hK⟩
  | some a =>
    rw [hk] at he hB
    simp only [Option.map_some] at he hB ⊢
    split at he
    · rename_i hc
      rw [if_pos hc] at hB ⊢
      refine ⟨he, _, hb.kept hB hK (ofSix_set hb.six) (lowA_set hb.lowA), fun i hi => ?_, hK⟩
      unfold fE
      rw [bal_set (by unfold balE; rw [hk]; rfl)]
      exact upd_eq hj hi (fE E) _
    · rename_i hc
      rw [if_neg hc] at hB ⊢
      exact ⟨he, E, hb.kept hB hK hb.six hb.lowA, fun _ _ => rfl, hK⟩

theorem kdraw_any {w W : World} {B M : Nat} {h seed : Int} {last : Option Addr} {E : List Acct} (hb : BkI w W B M h seed last E) (j : Nat) (hj : j < 6) (n : Int) (hn : 0 ≤ n) (hn2 : n < 18446744073709551616) :
    Calls Try.prog 14 #[.pointer (some ⟨B, 0, none⟩), .string (nmB j), .int .u64 n] W fun e W' => e = .returned (.int .i64 (opDraw (fE E) j n).1) ∧ Done w W W' B M h seed last E (opDraw (fE E) j n).2 := by
  have hns := nmB_small j hj
  refine (draw_any hb.book (nmB j) n (by unfold maxLen; omega) hn hn2).mono fun e W' ⟨he, hB, hK⟩ => ?_
  unfold drawE at he hB
  unfold opDraw
  rw [fE_look]
  cases hk : lookE E (nmB j).data.toList with
  | none =>
    rw [hk] at he hB
    exact ⟨he, E, hb.kept hB hK hb.six hb.lowA, fun _ _ => rfl, hK⟩
  | some a =>
    rw [hk] at he hB
    simp only [Option.map_some] at he hB ⊢
    split at he
    · rename_i hc
      rw [if_pos hc] at hB ⊢
      refine ⟨he, _, hb.kept hB hK (ofSix_set hb.six) (lowA_set hb.lowA), fun i hi => ?_, hK⟩
      unfold fE
      rw [bal_set (by unfold balE; rw [hk]; rfl)]
      exact upd_eq hj hi (fE E) _
    · rename_i hc
      rw [if_neg hc] at hB ⊢
      exact ⟨he, E, hb.kept hB hK hb.six hb.lowA, fun _ _ => rfl, hK⟩

theorem kmove_any {w W : World} {B M : Nat} {h seed : Int} {last : Option Addr} {E : List Acct} (hb : BkI w W B M h seed last E) (j i : Nat) (hj : j < 6) (hi : i < 6) (n : Int) (hn : 0 ≤ n) (hn2 : n < 18446744073709551616) :
    Calls Try.prog 15 #[.pointer (some ⟨B, 0, none⟩), .string (nmB j), .string (nmB i), .int .u64 n] W fun e W' => e = .returned (.int .i64 (opMove (fE E) j i n).1) ∧ Done w W W' B M h seed last E (opMove (fE E) j i n).2 := by
  have hns := nmB_small j hj
  have hni := nmB_small i hi
  refine (move_any hb.book (nmB j) (nmB i) n (by unfold maxLen; omega) (by unfold maxLen; omega) hn hn2).mono fun e W' ⟨he, hB, hK⟩ => ?_
  unfold moveE at he hB
  unfold opMove
  rw [fE_look, fE_look]
  cases hk : lookE E (nmB j).data.toList with
  | none =>
    rw [hk] at he hB
    exact ⟨he, E, hb.kept hB hK hb.six hb.lowA, fun _ _ => rfl, hK⟩
  | some a =>
    rw [hk] at he hB
    cases hk2 : lookE E (nmB i).data.toList with
    | none =>
      rw [hk2] at he hB
      exact ⟨he, E, hb.kept hB hK hb.six hb.lowA, fun _ _ => rfl, hK⟩
    | some b =>
      rw [hk2] at he hB
      simp only [Option.map_some] at he hB ⊢
      split at he
      · rename_i hc
        rw [if_pos hc] at hB ⊢
        have hij : ((nmB i).data.toList = (nmB j).data.toList) ↔ i = j := ⟨nmB_inj i hi j hj, fun e => by rw [e]⟩
        refine ⟨he, _, hb.kept hB hK (ofSix_set (ofSix_set hb.six)) (lowA_set (lowA_set hb.lowA)), fun q hq => ?_, hK⟩
        have s1 : ∀ q, q < 6 → fE (setE E (nmB j).data.toList (a.bal - n)) q = updF (fE E) j (some (a.bal - n)) q := fun q hq => by
          unfold fE
          rw [bal_set (by unfold balE; rw [hk]; rfl)]
          exact upd_eq hj hq (fE E) _
        have e1 : (if (nmB i).data.toList = (nmB j).data.toList then a.bal - n else b.bal) = if i = j then a.bal - n else b.bal := by
          by_cases e : i = j
          · rw [if_pos e, if_pos (hij.2 e)]
          · rw [if_neg e, if_neg (fun h => e (hij.1 h))]
        rw [e1]
        show fE _ q = _
        unfold fE
        rw [bal_set (by
          show (fE (setE E (nmB j).data.toList (a.bal - n)) i).isSome = true
          rw [s1 i hi]
          unfold updF
          split
          · rfl
          · rw [fE_look, hk2]; rfl)]
        refine (upd_eq hi hq (fE (setE E (nmB j).data.toList (a.bal - n))) _).trans ?_
        show updF _ i _ q = updF (updF (fE E) j (some (a.bal - n))) i _ q
        unfold updF at s1 ⊢
        by_cases e : q = i
        · rw [if_pos e, if_pos e]
        · rw [if_neg e, if_neg e]; exact s1 q hq
      · rename_i hc
        rw [if_neg hc] at hB ⊢
        exact ⟨he, E, hb.kept hB hK hb.six hb.lowA, fun _ _ => rfl, hK⟩

theorem kclose_any {w W : World} {B M : Nat} {h seed : Int} {last : Option Addr} {E : List Acct} (hb : BkI w W B M h seed last E) (j : Nat) (hj : j < 6) :
    Calls Try.prog 16 #[.pointer (some ⟨B, 0, none⟩), .string (nmB j)] W fun e W' => e = .returned (.int .i64 (opClose (fE E) j).1) ∧ Done w W W' B M h seed last E (opClose (fE E) j).2 := by
  have hns := nmB_small j hj
  refine (close_any hb.book (nmB j) (by unfold maxLen; omega)).mono fun e W' ⟨he, hB, hK⟩ => ?_
  unfold closeE at he hB
  unfold opClose
  rw [fE_look]
  cases hk : lookE E (nmB j).data.toList with
  | none =>
    rw [hk] at he hB
    exact ⟨he, E, hb.kept hB hK hb.six hb.lowA, fun _ _ => rfl, hK⟩
  | some a =>
    rw [hk] at he hB
    simp only [Option.map_some] at he hB ⊢
    split at he
    · rename_i hc
      rw [if_pos hc] at hB ⊢
      refine ⟨he, _, hb.kept hB hK (fun b hb' => hb.six b (List.mem_filter.1 hb').1) (fun b hb' => hb.lowA b (List.mem_filter.1 hb').1), fun i hi => ?_, hK⟩
      unfold fE
      rw [bal_rem]
      exact upd_eq hj hi (fE E) _
    · rename_i hc
      rw [if_neg hc] at hB ⊢
      exact ⟨he, E, hb.kept hB hK hb.six hb.lowA, fun _ _ => rfl, hK⟩

end Go.Proofs.Ytbjobbkgelipmaa

/-
  What lies in memory in a round of tithekeep's Steps.
-/
namespace Go.Proofs.Ytbjobbkgelipmaa
open Go.RowKit

structure MoveD where
  k : Int
  a : Int
  b : Int
  n : Int
def MoveD.ok (x : MoveD) : Prop := (-9223372036854775808 ≤ x.k ∧ x.k < 9223372036854775808) ∧ (-9223372036854775808 ≤ x.a ∧ x.a < 9223372036854775808) ∧ (-9223372036854775808 ≤ x.b ∧ x.b < 9223372036854775808) ∧ 0 ≤ x.n ∧ x.n < 18446744073709551616
structure MovesAt (w : World) (b off : Nat) (xs : List MoveD) : Prop where
  lt : b < w.heap.size
  c0 : ∀ i (h : i < xs.length), w.cell? ⟨b, off + i * 4, none⟩ = some (.int .i64 xs[i].k)
  c1 : ∀ i (h : i < xs.length), w.cell? ⟨b, off + i * 4 + 1, none⟩ = some (.int .i64 xs[i].a)
  c2 : ∀ i (h : i < xs.length), w.cell? ⟨b, off + i * 4 + 2, none⟩ = some (.int .i64 xs[i].b)
  c3 : ∀ i (h : i < xs.length), w.cell? ⟨b, off + i * 4 + 3, none⟩ = some (.int .u64 xs[i].n)
  ok : ∀ x ∈ xs, x.ok
theorem MovesAt.below {w w' : World} {b off : Nat} {xs : List MoveD} (h : MovesAt w b off xs) (hb : Below w.heap.size w w') : MovesAt w' b off xs :=
  ⟨Nat.lt_of_lt_of_le h.lt hb.size, fun i hi => keepB hb h.lt (h.c0 i hi), fun i hi => keepB hb h.lt (h.c1 i hi), fun i hi => keepB hb h.lt (h.c2 i hi), fun i hi => keepB hb h.lt (h.c3 i hi), h.ok⟩

def sixTo (x : Nat → Int) : Nat → Int
  | 0 => 0
  | k + 1 => sixTo x k + x k
theorem sixTo_six (x : Nat → Int) : sixTo x 6 = six x := by simp only [sixTo, six]; omega
theorem sixTo_le (x : Nat → Int) (h : ∀ i, 0 ≤ x i) {k : Nat} (hk : k < 6) : 0 ≤ sixTo x k ∧ sixTo x k + x k ≤ six x := by
  have K6 : k = 0 ∨ k = 1 ∨ k = 2 ∨ k = 3 ∨ k = 4 ∨ k = 5 := by omega
  have h0 := h 0
  have h1 := h 1
  have h2 := h 2
  have h3 := h 3
  have h4 := h 4
  have h5 := h 5
  unfold six
  rcases K6 with rfl | rfl | rfl | rfl | rfl | rfl <;> simp only [sixTo] <;> omega

def iX (x : Nat → Int) (j : Nat) : Value := .int .u64 (x j)
def bY (y : Nat → Bool) (j : Nat) : Value := .bool (y j)
/-- What lies in memory in a round. -/
structure SA (N : Nat) (W : World) (Q L I T H : Nat) (kd A Bn n : Int) (x : Nat → Int) (y : Nat → Bool) (x' : Nat → Int) (y' : Nat → Bool) : Prop where
  q : W.heap[Q]? = some (.cells #[.int .i64 kd, .int .i64 A, .int .i64 Bn, .int .u64 n] 32 (0, 0))
  l : W.heap[L]? = some (.cells (arr6 (iX x)) 34 (0, 0))
  i : W.heap[I]? = some (.cells (arr6 (bY y)) 35 (0, 0))
  t : W.heap[T]? = some (.cells (arr6 (iX x')) 34 (0, 0))
  h : W.heap[H]? = some (.cells (arr6 (bY y')) 35 (0, 0))
  tl : N ≤ T
  hl : N ≤ H
  lt : L ≠ T
  ih : I ≠ H
theorem cells_ne {W : World} {a b : Nat} {cs ds : Array Value} {t u : TypeId} {f g : Nat × Nat} (h : W.heap[a]? = some (.cells cs t f)) (k : W.heap[b]? = some (.cells ds u g)) (htu : t ≠ u) : a ≠ b := fun e => by
  rw [e, k] at h
  simp only [Option.some.injEq, Obj.cells.injEq] at h
  exact htu h.2.1.symm
theorem sa_new {w0 W : World} {N Q : Nat} {kd A Bn n : Int} (x : Nat → Int) (y : Nat → Bool) (hq : w0.heap[Q]? = some (.cells #[.int .i64 kd, .int .i64 A, .int .i64 Bn, .int .u64 n] 32 (0, 0))) (hN : N ≤ w0.heap.size)
    (hW : W = ((((w0.alloc (.cells (arr6 (iX x)) 34)).alloc (.cells (arr6 (bY y)) 35)).alloc (.cells (arr6 (iX x)) 34)).alloc (.cells (arr6 (bY y)) 35))) :
    SA N W Q w0.heap.size (w0.heap.size + 1) (w0.heap.size + 1 + 1) (w0.heap.size + 1 + 1 + 1) kd A Bn n x y x y ∧ Below w0.heap.size w0 W := by
  have nw : ∀ (W : World) (o : Obj), (W.alloc o).heap[W.heap.size]? = some o := heap_alloc_new
  have od : ∀ (W : World) (o : Obj) (i : Nat), i < W.heap.size → (W.alloc o).heap[i]? = W.heap[i]? := fun W o i hi => ((Below.refl W.heap.size W).alloc (Nat.le_refl _) o).block i hi
  have hql := (Array.getElem?_eq_some_iff.1 hq).1
  subst hW
  refine ⟨⟨?_, ?_, ?_, ?_, ?_, by omega, by omega, by omega, by omega⟩, (((((Below.refl _ _).alloc (Nat.le_refl _) _).alloc (by simp) _).alloc (by simp; omega) _).alloc (by simp; omega) _)⟩
  · rw [od _ _ _ (by simp; omega), od _ _ _ (by simp; omega), od _ _ _ (by simp; omega), od _ _ _ hql]; exact hq
  · rw [od _ _ _ (by simp; omega), od _ _ _ (by simp; omega), od _ _ _ (by simp)]; exact nw _ _
  · rw [od _ _ _ (by simp), od _ _ _ (by simp)]
    have := nw (w0.alloc (.cells (arr6 (iX x)) 34)) (.cells (arr6 (bY y)) 35)
    rwa [World.size_alloc] at this
  · rw [od _ _ _ (by simp)]
    have := nw ((w0.alloc (.cells (arr6 (iX x)) 34)).alloc (.cells (arr6 (bY y)) 35)) (.cells (arr6 (iX x)) 34)
    rw [World.size_alloc, World.size_alloc] at this
    exact this
  · have := nw (((w0.alloc (.cells (arr6 (iX x)) 34)).alloc (.cells (arr6 (bY y)) 35)).alloc (.cells (arr6 (iX x)) 34)) (.cells (arr6 (bY y)) 35)
    rw [World.size_alloc, World.size_alloc, World.size_alloc] at this
    exact this
section
variable {N Q L I T H : Nat} {W W' : World} {kd A Bn n : Int} {x x' : Nat → Int} {y y' : Nat → Bool}
theorem SA.of_same (h : SA N W Q L I T H kd A Bn n x y x' y') (e : ∀ (b : Nat) (cs : Array Value) (t : TypeId), t ≠ 64 → t ≠ 70 → W.heap[b]? = some (.cells cs t (0, 0)) → W'.heap[b]? = some (.cells cs t (0, 0))) : SA N W' Q L I T H kd A Bn n x y x' y' :=
  ⟨e _ _ _ (by decide) (by decide) h.q, e _ _ _ (by decide) (by decide) h.l, e _ _ _ (by decide) (by decide) h.i, e _ _ _ (by decide) (by decide) h.t, e _ _ _ (by decide) (by decide) h.h, h.tl, h.hl, h.lt, h.ih⟩
theorem SA.later (h : SA N W Q L I T H kd A Bn n x y x' y') (hb : Below W.heap.size W W') : SA N W' Q L I T H kd A Bn n x y x' y' :=
  h.of_same fun b _ _ _ _ hc => (hb.block b (Array.getElem?_eq_some_iff.1 hc).1).trans hc
theorem BkI.apart {w : World} {B M : Nat} {hh seed : Int} {last : Option Addr} {E : List Acct} (hb : BkI w W B M hh seed last E) {b : Nat} {cs : Array Value} {t : TypeId} (hc : W.heap[b]? = some (.cells cs t (0, 0))) (h1 : t ≠ 64) (h2 : t ≠ 70) : b ∉ blksE B M E := fun hm => by
  unfold blksE at hm
  rcases List.mem_cons.1 hm with rfl | hm
  · exact cells_ne hc hb.book.blk h1 rfl
  · rcases List.mem_cons.1 hm with rfl | hm
    · obtain ⟨es, cl, he, _⟩ := hb.book.own
      rw [he] at hc; cases hc
    · obtain ⟨a, ha, rfl⟩ := List.mem_map.1 hm
      exact cells_ne hc (hb.book.acc a ha) h2 rfl
theorem SA.kept {w : World} {B M : Nat} {hh seed : Int} {last : Option Addr} {E : List Acct} (h : SA N W Q L I T H kd A Bn n x y x' y') (hb : BkI w W B M hh seed last E) (hK : Kept (blksE B M E) W W') : SA N W' Q L I T H kd A Bn n x y x' y' :=
  h.of_same fun b _ _ h1 h2 hc => (hK.block b (Array.getElem?_eq_some_iff.1 hc).1 (hb.apart hc h1 h2)).trans hc
theorem BookT.same {B M : Nat} {hh seed tot : Int} {last : Option Addr} {E : List Acct} (hb : BookT W B M hh seed last tot E) (e : ∀ k ∈ blksE B M E, W'.heap[k]? = W.heap[k]?) : BookT W' B M hh seed last tot E := by
  refine ⟨(e B (by simp [blksE])).trans hb.blk, ?_, fun a ha => (e _ (by unfold blksE; exact List.mem_cons_of_mem _ (List.mem_cons_of_mem _ (List.mem_map.2 ⟨a, ha, rfl⟩)))).trans (hb.acc a ha), hb.apart, hb.pos⟩
  obtain ⟨es, cl, he, r⟩ := hb.own
  exact ⟨es, cl, (e M (by simp [blksE])).trans he, r⟩
theorem BkI.poke {w : World} {B M : Nat} {hh seed : Int} {last : Option Addr} {E : List Acct} (hb : BkI w W B M hh seed last E) {b : Nat} (hm : b ∉ blksE B M E) (hl : w.heap.size ≤ b) (j : Nat) (v : Value) : BkI w (W.setCell ⟨b, j, none⟩ v) B M hh seed last E :=
  ⟨⟨hb.book.toBookT.same fun k hk => Below.heap_setCell _ _ _ _ (fun e => hm (by have e' : k = b := e; rw [← e']; exact hk)), hb.book.sum⟩, hb.low, hb.six, hb.below.setCell hl _⟩
def updI (x : Nat → Int) (j : Nat) (v : Int) (i : Nat) : Int := if i = j then v else x i
def updB (x : Nat → Bool) (j : Nat) (v : Bool) (i : Nat) : Bool := if i = j then v else x i
theorem SA.setT (h : SA N W Q L I T H kd A Bn n x y x' y') {j : Nat} (hj : j < 6) (v : Int) : SA N (W.setCell ⟨T, j, none⟩ (.int .u64 v)) Q L I T H kd A Bn n x y (updI x' j v) y' := by
  have ne : ∀ b, b ≠ T → (W.setCell ⟨T, j, none⟩ (.int .u64 v)).heap[b]? = W.heap[b]? := fun b hb => Below.heap_setCell _ _ _ _ hb
  refine ⟨(ne _ (cells_ne h.q h.t (by decide))).trans h.q, (ne _ h.lt).trans h.l, (ne _ (cells_ne h.i h.t (by decide))).trans h.i, ?_, (ne _ (cells_ne h.h h.t (by decide))).trans h.h, h.tl, h.hl, h.lt, h.ih⟩
  rw [heap_setCell_same _ _ j _ _ _ h.t, arr6_set _ (iX (updI x' j v)) hj _ (by unfold iX updI; rw [if_pos rfl])]
  intro i _ hi
  unfold iX updI
  rw [if_neg hi]
theorem SA.setH (h : SA N W Q L I T H kd A Bn n x y x' y') {j : Nat} (hj : j < 6) (v : Bool) : SA N (W.setCell ⟨H, j, none⟩ (.bool v)) Q L I T H kd A Bn n x y x' (updB y' j v) := by
  have ne : ∀ b, b ≠ H → (W.setCell ⟨H, j, none⟩ (.bool v)).heap[b]? = W.heap[b]? := fun b hb => Below.heap_setCell _ _ _ _ hb
  refine ⟨(ne _ (cells_ne h.q h.h (by decide))).trans h.q, (ne _ (cells_ne h.l h.h (by decide))).trans h.l, (ne _ h.ih).trans h.i, (ne _ (cells_ne h.t h.h (by decide))).trans h.t, ?_, h.tl, h.hl, h.lt, h.ih⟩
  rw [heap_setCell_same _ _ j _ _ _ h.h, arr6_set _ (bY (updB y' j v)) hj _ (by unfold bY updB; rw [if_pos rfl])]
  intro i _ hi
  unfold bY updB
  rw [if_neg hi]
theorem SA.cl (h : SA N W Q L I T H kd A Bn n x y x' y') {j : Nat} (hj : j < 6) : W.cell? ⟨L, j, none⟩ = some (.int .u64 (x j)) := by rw [block_cell h.l, arr6_at _ hj]; rfl
theorem SA.ci (h : SA N W Q L I T H kd A Bn n x y x' y') {j : Nat} (hj : j < 6) : W.cell? ⟨I, j, none⟩ = some (.bool (y j)) := by rw [block_cell h.i, arr6_at _ hj]; rfl
theorem SA.ct (h : SA N W Q L I T H kd A Bn n x y x' y') {j : Nat} (hj : j < 6) : W.cell? ⟨T, j, none⟩ = some (.int .u64 (x' j)) := by rw [block_cell h.t, arr6_at _ hj]; rfl
theorem SA.ch (h : SA N W Q L I T H kd A Bn n x y x' y') {j : Nat} (hj : j < 6) : W.cell? ⟨H, j, none⟩ = some (.bool (y' j)) := by rw [block_cell h.h, arr6_at _ hj]; rfl
theorem SA.cn (h : SA N W Q L I T H kd A Bn n x y x' y') : W.cell? ⟨Q, 3, none⟩ = some (.int .u64 n) := block_cell h.q
theorem SA.pokeT {w : World} {B M : Nat} {hh seed : Int} {last : Option Addr} {E : List Acct} (h : SA w.heap.size W Q L I T H kd A Bn n x y x' y') (hb : BkI w W B M hh seed last E) (j : Nat) (v : Value) : BkI w (W.setCell ⟨T, j, none⟩ v) B M hh seed last E := hb.poke (hb.apart h.t (by decide) (by decide)) h.tl j v
theorem SA.pokeH {w : World} {B M : Nat} {hh seed : Int} {last : Option Addr} {E : List Acct} (h : SA w.heap.size W Q L I T H kd A Bn n x y x' y') (hb : BkI w W B M hh seed last E) (j : Nat) (v : Value) : BkI w (W.setCell ⟨H, j, none⟩ v) B M hh seed last E := hb.poke (hb.apart h.h (by decide) (by decide)) h.hl j v
end
/-- Behind the switch. -/
structure Swd (w W : World) (B M Q L I T H : Nat) (kd A Bn n : Int) (x : Nat → Int) (y : Nat → Bool) (e : Int) (may : Bool) (E' : List Acct) (x' : Nat → Int) (y' : Nat → Bool) : Prop where
  er : decide (e = 0) = may
  bk : BkI w W B M 6 0 none E'
  sa : SA w.heap.size W Q L I T H kd A Bn n x y x' y'
  yes : may = true → ∀ i, i < 6 → x' i = xE E' i ∧ y' i = (fE E' i).isSome
  no : may = false → ∀ i, i < 6 → x i = xE E' i ∧ y i = (fE E' i).isSome

end Go.Proofs.Ytbjobbkgelipmaa
