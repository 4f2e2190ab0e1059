/-
  The walk of tithe's nodeText.
-/
import Derived.Test.YtbjobbkgelipmaaGreatAppSide
import Derived.Test.YtbjobbkgelipmaaGreatRep
import Derived.OwnWalk
namespace Go.Proofs.YtbjobbkgelipmaaGreat
open Go.RowKit

theorem Quad.belowB {W w4 : World} {A B : Nat} {d0 d1 d2 n : Int} (h : Quad W A d0 d1 d2 n) (hlt : A < B) (hb : Below B W w4) : Quad w4 A d0 d1 d2 n :=
  ⟨(hb.cell (p := ⟨A, 0, none⟩) hlt).trans h.1, (hb.cell (p := ⟨A, 1, none⟩) hlt).trans h.2.1, (hb.cell (p := ⟨A, 2, none⟩) hlt).trans h.2.2.1, (hb.cell (p := ⟨A, 3, none⟩) hlt).trans h.2.2.2⟩
theorem own_lower {w : World} {b b' : Nat} {e : TypeId} {v : Value} {n : Nat} {xs : List Value} (h : w.ownsRow b e 1 v n xs) (hb : b' ≤ b) : w.ownsRow b' e 1 v n xs := by
  refine ⟨h.1, ?_⟩
  rcases h.2 with h0 | ⟨g, cap, cur, hv, hg, r⟩
  · exact .inl h0
  · exact .inr ⟨g, cap, cur, hv, by omega, r⟩

set_option maxRecDepth 100000 in
set_option maxHeartbeats 400000 in
theorem nodetext_any (d d' : Dg) (x x' : Int) (w : World) (h0 : 0 ≤ x) (h1 : x < 18446744073709551616) (h0' : 0 ≤ x') (h1' : x' < 18446744073709551616) :
    Calls Tryz.prog 101 #[sideV d x, sideV d' x'] w fun e w' => (∃ v', e = .returned v' ∧ w'.ownsRow w.heap.size 5 1 v' 23 (byteVals (1 :: (sideB (d, x) ++ sideB (d', x'))))) ∧ Below w.heap.size w w' := by
  obtain ⟨i0, hi, hz0, hz1, hz2⟩ := info_parts Tryz.infoByte
  have HC1 := fun (v : Value) (ys : List Value) (w' : World) (ho : w'.ownsRow (w.heap.size + 2) 5 1 v 1 ys) (hb : w.heap.size + 2 ≤ w'.heap.size) => hide (appside_any (w.heap.size + 2) 1 v ys d x w' h0 h1 ho hb (by omega))
  have HC2 := fun (v : Value) (ys : List Value) (w' : World) (ho : w'.ownsRow (w.heap.size + 2) 5 1 v 12 ys) (hb : w.heap.size + 2 ≤ w'.heap.size) => hide (appside_any (w.heap.size + 2) 12 v ys d' x' w' h0' h1' ho hb (by omega))
  clear h0 h1 h0' h1'
  have HE : Hid (byteVals (1 :: (sideB (d, x) ++ sideB (d', x'))) = (([] ++ [Value.int .u8 1]) ++ byteVals (sideB (d, x))) ++ byteVals (sideB (d', x'))) := by
    refine hide ?_; simp [byteVals]
  generalize byteVals (1 :: (sideB (d, x) ++ sideB (d', x'))) = ALL at *
  generalize byteVals (sideB (d, x)) = Y1 at *
  generalize byteVals (sideB (d', x')) = Y2 at *
  unfold sideV at *
  generalize (d.1.toNat : Int) = a0 at *
  generalize (d.2.1.toNat : Int) = a1 at *
  generalize (d.2.2.toNat : Int) = a2 at *
  generalize (d'.1.toNat : Int) = b0 at *
  generalize (d'.2.1.toNat : Int) = b1 at *
  generalize (d'.2.2.toNat : Int) = b2 at *
  go_enter Tryz.func101, Tryz.ntmps101
  go_wp2_with (at_make; refine wpList_make_own _ rfl _ _ 51 rfl (w.heap.size + 2) 5 i0 (.int .u8 0) 1 Tryz.underlying51 hi hz0 hz1 _ _ _ 23 rfl rfl rfl (by rw [hz2]; omega) (by unfold maxLen; omega) (by simp) ?_)
  intro w1 hown1 hgrow1
  try simp only [World.size_alloc] at hown1
  try simp only [World.size_alloc]
  generalize hW0 : ((w.alloc (Obj.cells #[Value.int IntKind.u8 a0, Value.int IntKind.u8 a1, Value.int IntKind.u8 a2, Value.int IntKind.u64 x] 106)).alloc (Obj.cells #[Value.int IntKind.u8 b0, Value.int IntKind.u8 b1, Value.int IntKind.u8 b2, Value.int IntKind.u64 x'] 106)) = W0 at *
  have hz : W0.heap.size = w.heap.size + 2 := by rw [← hW0]; simp
  have hBW : Below w.heap.size w W0 := by rw [← hW0]; exact ((Below.refl _ _).alloc (Nat.le_refl _) _).alloc (by simp) _
  have hQ1 : Quad W0 w.heap.size a0 a1 a2 x := by rw [← hW0]; exact ⟨by simp, by simp, by simp, by simp⟩
  have hQ2 : Quad W0 (w.heap.size + 1) b0 b1 b2 x' := by rw [← hW0]; exact ⟨by simp, by simp, by simp, by simp⟩
  have hB1 : Below (w.heap.size + 2) W0 w1 := (Below.refl _ _).grown hgrow1 (by omega) (fun b hb => by cases hb)
  have hQ1' := hQ1.belowB (by omega) hB1
  have hQ2' := hQ2.belowB (by omega) hB1
  have hz1' : w.heap.size + 2 ≤ w1.heap.size := by have := hB1.size; omega
  have HB := hide (hBW.trans (hB1.mono (by omega)))
  have HO := hide hown1
  have HQ := hide (And.intro hQ1' hQ2')
  clear hW0 hQ1 hQ2 hQ1' hQ2' hB1 hBW hgrow1 hown1 hz
  go_wp2_with (at_builtin; refine wpList_append_own _ rfl (.tmp 7) (.tmp 8) 51 rfl (w.heap.size + 2) 5 i0 (.int .u8 0) 1 1 Tryz.underlying51 hi hz0 hz1 hz2 rfl (by decide) _ _ _ rfl ((unhide HO).alloc _) ⟨w1.heap.size, 0, none⟩ 1 1 [_] rfl rfl (cell_one_new _ _ _) ?c2 ?c3 ?c4 ?c5 ?_)
  case c2 => intro u hu; simp at hu; subst hu; rfl
  case c3 => unfold maxLen; omega
  case c4 => omega
  case c5 => simp; omega
  intro v' w2 hown2 hgrow2 _
  have hB2 : Below (w.heap.size + 2) w1 w2 := ((Below.refl _ _).alloc hz1' _).grown hgrow2 (by simp; omega) (fun b hb => ((unhide HO).lt b hb).1)
  have hQ1 := (unhide HQ).1.belowB (by omega) hB2
  have hQ2 := (unhide HQ).2.belowB (by omega) hB2
  have hz2' : w.heap.size + 2 ≤ w2.heap.size := by have := hB2.size; omega
  have HB2 := hide ((unhide HB).trans (hB2.mono (by omega)))
  have HR := hide (HC1 v' _ w2 hown2 hz2')
  have HQ2 := hide hQ2
  clear hown2 hgrow2 hB2 hQ2 HQ HB HO HC1
  obtain ⟨q0, q1, q2, q3⟩ := hQ1
  go_wp2_with fail
  refine (unhide (unhide HR)).mono ?_
  rintro e w3 ⟨⟨v3, rfl, hown3⟩, hb3, _⟩
  have hQ2 := (unhide HQ2).belowB (by omega) hb3
  have hz3 : w.heap.size + 2 ≤ w3.heap.size := by have := hb3.size; omega
  have HB3 := hide ((unhide HB2).trans (hb3.mono (by omega)))
  have HR2 := hide (HC2 v3 _ w3 hown3 hz3)
  clear hown3 hb3 HQ2 HB2 HC2 HR q0 q1 q2 q3
  obtain ⟨q0, q1, q2, q3⟩ := hQ2
  go_wp2_with fail
  refine (unhide (unhide HR2)).mono ?_
  rintro e w4 ⟨⟨v4, rfl, hown4⟩, hb4, _⟩
  have HF := hide (And.intro hown4 ((unhide HB3).trans (hb4.mono (by omega))))
  clear hown4 hb4 HR2 HB3 q0 q1 q2 q3
  go_wp2
  go_ret
  refine ⟨⟨_, rfl, ?_⟩, (unhide HF).2⟩
  rw [unhide HE]
  exact own_lower (unhide HF).1 (by omega)

end Go.Proofs.YtbjobbkgelipmaaGreat
