/-
  The walks of tithe's leafSize, appendLeaf, leafText.
-/
import Derived.Test.YtbjobbkgelipmaaGreatNodeT
import Derived.Test.YtbjobbkgelipmaaGreatHolds
import Derived.Test.YtbjobbkgelipmaaGreatLeaf
import Derived.Lib.AppendStr
namespace Go.Proofs.YtbjobbkgelipmaaGreat
open Go.RowKit

set_option maxRecDepth 100000 in
set_option maxHeartbeats 400000 in
theorem leafsize_any (nm : ByteArray) (x x' : Int) (w : World) (hnm : nm.size ≤ 8) :
    Calls Tryz.prog 74 #[leafV nm x x'] w fun e w' => e = .returned (.int .i64 (1 + (nm.size : Int) + 16)) ∧ Below w.heap.size w w' := by
  unfold leafV
  go_enter Tryz.func74, Tryz.ntmps74
  go_wp2
  go_ret
  exact ⟨rfl, (Below.refl _ _).alloc (Nat.le_refl _) _⟩

/-- A leaf that lies in memory. -/
def LeafM (W : World) (A : Nat) (nm : ByteArray) (x x' : Int) : Prop := W.heap[A]? = some (.cells #[.string nm, .int .u64 x, .int .u64 x'] 115 (0, 0))
theorem LeafM.keep {W w4 : World} {A : Nat} {nm : ByteArray} {x x' : Int} (h : LeafM W A nm x x') (hk : KeepT W w4) : LeafM w4 A nm x x' := hk _ _ _ _ h (by decide)
theorem LeafM.cells {W : World} {A : Nat} {nm : ByteArray} {x x' : Int} (h : LeafM W A nm x x') : W.cell? ⟨A, 0, none⟩ = some (.string nm) ∧ W.cell? ⟨A, 1, none⟩ = some (.int .u64 x) ∧ W.cell? ⟨A, 2, none⟩ = some (.int .u64 x') := by
  refine ⟨?_, ?_, ?_⟩ <;> (rw [block_cell h]; rfl)

set_option maxRecDepth 100000 in
set_option maxHeartbeats 400000 in
theorem appleaf_any (base n : Nat) (v0 : Value) (xs : List Value) (nm : ByteArray) (x x' : Int) (w : World) (hnm : nm.size ≤ 8) (h0 : 0 ≤ x) (h1 : x < 18446744073709551616) (h0' : 0 ≤ x') (h1' : x' < 18446744073709551616) (hown0 : w.ownsRow base 5 1 v0 n xs) (hbase : base ≤ w.heap.size) (hn : n + 40 ≤ 140737488355328) :
    Calls Tryz.prog 75 #[v0, leafV nm x x'] w fun e w' => (∃ v', e = .returned v' ∧ w'.ownsRow base 5 1 v' (n + 1 + nm.size + 8 + 8) (xs ++ [Value.int .u8 (nm.size : Int)] ++ Lib.strCells nm ++ byteVals (longB x) ++ byteVals (longB x'))) ∧ Below base w w' ∧ KeepT w w' := by
  obtain ⟨i0, hi, hz0, hz1, hz2⟩ := info_parts Tryz.infoByte
  have HC1 := fun (v : Value) (ys : List Value) (w' : World) (ho : w'.ownsRow base 5 1 v (n + 1 + nm.size) ys) (hb : base ≤ w'.heap.size) => hide (appnum_any base (n + 1 + nm.size) v ys x w' h0 h1 ho hb (by omega))
  have HC2 := fun (v : Value) (ys : List Value) (w' : World) (ho : w'.ownsRow base 5 1 v (n + 1 + nm.size + 8) ys) (hb : base ≤ w'.heap.size) => hide (appnum_any base (n + 1 + nm.size + 8) v ys x' w' h0' h1' ho hb (by omega))
  clear h0 h1 h0' h1'
  have hw8 : IntKind.u8.wrap (nm.size : Int) = (nm.size : Int) := by rw [IntKind.wrap_u8]; omega
  have H0 := hide hown0
  clear hown0
  unfold leafV
  go_enter Tryz.func75, Tryz.ntmps75
  go_wp2_with (at_builtin; refine wpList_append_own _ rfl (.tmp 5) (.tmp 10) 51 rfl base 5 i0 (.int .u8 0) 1 1 Tryz.underlying51 hi hz0 hz1 hz2 rfl (by decide) _ _ _ rfl (((unhide H0).alloc _).alloc _) ⟨w.heap.size + 1, 0, none⟩ 1 1 [.int .u8 (nm.size : Int)] rfl rfl ?c1 ?c2 ?c3 ?c4 ?c5 ?_)
  case c1 =>
    intro j u hu
    match j, hu with
    | 0, hu => simp at hu; subst hu; simp [addr_add]
  case c2 => intro u hu; simp at hu; subst hu; rfl
  case c3 => unfold maxLen; omega
  case c4 => omega
  case c5 => simp; omega
  intro v' w1 hown1 hgrow1 _
  have hL0 : LeafM (w.alloc (Obj.cells #[Value.string nm, Value.int IntKind.u64 x, Value.int IntKind.u64 x'] 115)) w.heap.size nm x x' := heap_alloc_new w _
  have hk1 : KeepT (w.alloc (Obj.cells #[Value.string nm, Value.int IntKind.u64 x, Value.int IntKind.u64 x'] 115)) w1 := ((KeepT.refl _).alloc _).grown (((unhide H0).alloc _).alloc _) hgrow1
  have hK1 : KeepT w w1 := ((KeepT.refl w).alloc _).trans hk1
  have hL1 := hL0.keep hk1
  have hB1 : Below base w w1 := (((Below.refl base w).alloc hbase _).alloc (by simp; omega) _).grown hgrow1 (by simp; omega) (fun b hb => ((unhide H0).lt b hb).1)
  have hz1' : base ≤ w1.heap.size := by have := hB1.size; omega
  have HB := hide (And.intro hB1 (And.intro hK1 hL1))
  have HO := hide hown1
  obtain ⟨q0, q1, q2⟩ := hL1.cells
  clear hgrow1 hown1 hB1 hK1 hL0 hL1 hk1 H0
  go_wp2_with (at_builtin; refine Lib.wpList_append_own_string _ rfl (.tmp 12) (.tmp 14) 51 9 rfl base 5 i0 Tryz.underlying51 Tryz.underlying9 hi hz0 hz1 hz2 _ _ _ rfl (unhide HO) nm rfl ?d1 ?d2 hz1' ?_)
  case d1 => unfold maxLen; omega
  case d2 => omega
  intro v3 w3 hown3 hgrow3 _
  have hB3 : Below base w w3 := (unhide HB).1.grown hgrow3 hz1' (fun b hb => ((unhide HO).lt b hb).1)
  have hk3 : KeepT w1 w3 := (KeepT.refl _).grown (unhide HO) hgrow3
  have hL3 := (unhide HB).2.2.keep hk3
  have hz3 : base ≤ w3.heap.size := by have := hB3.size; omega
  have HB3 := hide (And.intro hB3 (And.intro ((unhide HB).2.1.trans hk3) hL3))
  have HR := hide (HC1 v3 _ w3 (by simpa using hown3) hz3)
  clear q0 q1 q2
  obtain ⟨q0, q1, q2⟩ := hL3.cells
  clear hown3 hgrow3 hB3 hk3 hL3 HB HO HC1
  go_wp2_with fail
  refine (unhide (unhide HR)).mono ?_
  rintro e w4 ⟨⟨v4, rfl, hown4⟩, hb4, hk4⟩
  have hL4 := (unhide HB3).2.2.keep hk4
  have hz4 : base ≤ w4.heap.size := by have := hb4.size; omega
  have HB4 := hide (And.intro ((unhide HB3).1.trans hb4) ((unhide HB3).2.1.trans hk4))
  have HR2 := hide (HC2 v4 _ w4 hown4 hz4)
  clear q0 q1 q2
  obtain ⟨q0, q1, q2⟩ := hL4.cells
  clear hown4 hb4 hk4 hL4 HR HB3 HC2
  go_wp2_with fail
  refine (unhide (unhide HR2)).mono ?_
  rintro e w5 ⟨⟨v5, rfl, hown5⟩, hb5, hk5⟩
  have HF := hide (And.intro hown5 (And.intro ((unhide HB4).1.trans hb5) ((unhide HB4).2.trans hk5)))
  clear hown5 hb5 hk5 HR2 HB4 q0 q1 q2
  go_wp2
  go_ret
  exact ⟨⟨_, rfl, by simpa using (unhide HF).1⟩, (unhide HF).2⟩

set_option maxRecDepth 100000 in
set_option maxHeartbeats 400000 in
theorem ownleaf_any (nm : ByteArray) (x x' : Int) (w : World) (hnm : nm.size ≤ 8) (h0 : 0 ≤ x) (h1 : x < 18446744073709551616) (h0' : 0 ≤ x') (h1' : x' < 18446744073709551616) :
    Calls Tryz.prog 99 #[leafV nm x x'] w fun e w' => (∃ v', e = .returned v' ∧ w'.ownsRow w.heap.size 5 1 v' (1 + 1 + nm.size + 8 + 8) ([Value.int .u8 0] ++ [Value.int .u8 (nm.size : Int)] ++ Lib.strCells nm ++ byteVals (longB x) ++ byteVals (longB x'))) ∧ Below w.heap.size w w' := by
  obtain ⟨i0, hi, hz0, hz1, hz2⟩ := info_parts Tryz.infoByte
  have HC1 := fun (v : Value) (w' : World) (ho : w'.ownsRow w.heap.size 5 1 v 1 [Value.int .u8 0]) (hb : w.heap.size ≤ w'.heap.size) => hide (appleaf_any w.heap.size 1 v _ nm x x' w' hnm h0 h1 h0' h1' ho hb (by omega))
  have HS := fun w' => hide (leafsize_any nm x x' w' hnm)
  clear h0 h1 h0' h1'
  unfold leafV at *
  go_enter Tryz.func99, Tryz.ntmps99
  go_wp2_with fail
  refine (unhide (HS _)).mono ?_
  rintro e w1 ⟨rfl, hb1⟩
  have hL0 : LeafM (w.alloc (Obj.cells #[Value.string nm, Value.int IntKind.u64 x, Value.int IntKind.u64 x'] 115)) w.heap.size nm x x' := heap_alloc_new w _
  have hL1 := hL0.keep (KeepT.below hb1)
  have hB1 : Below w.heap.size w w1 := ((Below.refl _ w).alloc (Nat.le_refl _) _).trans (hb1.mono (by simp))
  have hz1' : w.heap.size ≤ w1.heap.size := hB1.size
  have HB := hide (And.intro hB1 hL1)
  clear hb1 hL0 hL1 hB1 HS
  go_wp2_with (at_make; refine wpList_make_own _ rfl _ _ 51 rfl w.heap.size 5 i0 (.int .u8 0) 1 Tryz.underlying51 hi hz0 hz1 _ _ _ (1 + (1 + nm.size + 16)) rfl rfl (by omega) (by rw [hz2]; omega) (by unfold maxLen; omega) hz1' ?_)
  intro w2 hown2 hgrow2
  have hB2 : Below w.heap.size w w2 := (unhide HB).1.grown hgrow2 hz1' (fun b hb => by cases hb)
  have hL2 : LeafM w2 w.heap.size nm x x' := by
    have h := (unhide HB).2
    exact (hgrow2.block _ (Array.getElem?_eq_some_iff.1 h).1 (fun e => by cases e)).trans h
  have hz2' := hB2.size
  have HB2 := hide (And.intro hB2 hL2)
  have HO := hide hown2
  clear hgrow2 hown2 hB2 hL2 HB
  go_wp2_with (at_builtin; refine wpList_append_own _ rfl (.tmp 8) (.tmp 9) 51 rfl w.heap.size 5 i0 (.int .u8 0) 1 1 Tryz.underlying51 hi hz0 hz1 hz2 rfl (by decide) _ _ _ rfl ((unhide HO).alloc _) ⟨w2.heap.size, 0, none⟩ 1 1 [.int .u8 0] rfl rfl ?c1 ?c2 ?c3 ?c4 ?c5 ?_)
  case c1 =>
    intro j u hu
    match j, hu with
    | 0, hu => simp at hu; subst hu; simp [addr_add]
  case c2 => intro u hu; simp at hu; subst hu; rfl
  case c3 => unfold maxLen; omega
  case c4 => omega
  case c5 => simp; omega
  intro v3 w3 hown3 hgrow3 _
  have hk3 : KeepT w2 w3 := ((KeepT.refl _).alloc _).grown ((unhide HO).alloc _) hgrow3
  have hL3 := (unhide HB2).2.keep hk3
  have hB3 : Below w.heap.size w w3 := ((unhide HB2).1.alloc hz2' _).grown hgrow3 (by simp; omega) (fun b hb => ((unhide HO).lt b hb).1)
  have HR := hide (HC1 v3 w3 (by simpa using hown3) hB3.size)
  have HB3 := hide hB3
  obtain ⟨q0, q1, q2⟩ := hL3.cells
  clear hown3 hgrow3 hk3 hL3 hB3 HB2 HO HC1
  go_wp2_with fail
  refine (unhide (unhide HR)).mono ?_
  rintro e w5 ⟨⟨v5, rfl, hown5⟩, hb5, hk5⟩
  have HF := hide (And.intro hown5 ((unhide HB3).trans hb5))
  clear hown5 hb5 hk5 HR HB3 q0 q1 q2
  go_wp2
  go_ret
  exact ⟨⟨_, rfl, (unhide HF).1⟩, (unhide HF).2⟩

end Go.Proofs.YtbjobbkgelipmaaGreat
