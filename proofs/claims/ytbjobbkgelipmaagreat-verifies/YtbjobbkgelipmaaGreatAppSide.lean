/-
  The walk of tithe's appendSide.
-/
import Derived.Test.YtbjobbkgelipmaaGreatAppNum
import Derived.Test.YtbjobbkgelipmaaGreatNum
namespace Go.Proofs.YtbjobbkgelipmaaGreat
open Go.RowKit

set_option maxRecDepth 100000 in
set_option maxHeartbeats 400000 in
theorem appside_any (base n : Nat) (v0 : Value) (xs : List Value) (d : Dg) (x : Int) (w : World) (h0 : 0 ≤ x) (h1 : x < 18446744073709551616) (hown0 : w.ownsRow base 5 1 v0 n xs) (hbase : base ≤ w.heap.size) (hn : n + 11 ≤ 140737488355328) :
    Calls Tryz.prog 72 #[v0, sideV d x] w fun e w' => (∃ v', e = .returned v' ∧ w'.ownsRow base 5 1 v' (n + 11) (xs ++ byteVals (sideB (d, x)))) ∧ Below base w w' ∧ KeepT w w' := by
  obtain ⟨i0, hi, hz0, hz1, hz2⟩ := info_parts Tryz.infoByte
  obtain ⟨a0, a1, a2⟩ := d
  obtain ⟨d0, hd0⟩ : ∃ d : Int, (a0.toNat : Int) = d := ⟨_, rfl⟩
  obtain ⟨d1, hd1⟩ : ∃ d : Int, (a1.toNat : Int) = d := ⟨_, rfl⟩
  obtain ⟨d2, hd2⟩ : ∃ d : Int, (a2.toNat : Int) = d := ⟨_, rfl⟩
  have hD : sideV (a0, a1, a2) x = .agg #[.int .u8 d0, .int .u8 d1, .int .u8 d2, .int .u64 x] := by rw [← hd0, ← hd1, ← hd2]; rfl
  have HE : Hid (xs ++ byteVals (sideB ((a0, a1, a2), x)) = (xs ++ [.int .u8 d0, .int .u8 d1, .int .u8 d2]) ++ byteVals (longB x)) := by
    rw [← hd0, ← hd1, ← hd2]; refine hide ?_; simp [sideB, byteVals, dgB]
  rw [hD]
  have H0 := hide hown0
  have HC := fun (v : Value) (ys : List Value) (w : World) (ho : w.ownsRow base 5 1 v (n + 3) ys) (hb : base ≤ w.heap.size) => hide (appnum_any base (n + 3) v ys x w h0 h1 ho hb (by omega))
  clear hD hown0 hd0 hd1 hd2 h0 h1
  go_enter Tryz.func72, Tryz.ntmps72
  go_wp2_with (at_builtin; refine wpList_append_own _ rfl (.tmp 5) (.tmp 7) 51 rfl base 5 i0 (.int .u8 0) 1 1 Tryz.underlying51 hi hz0 hz1 hz2 rfl (by decide) _ _ _ rfl ((unhide H0).alloc _) ⟨w.heap.size, 0, none⟩ 3 3 [.int .u8 d0, .int .u8 d1, .int .u8 d2] rfl rfl ?c1 ?c2 ?c3 ?c4 ?c5 ?_)
  case c1 =>
    intro j u hu
    match j, hu with
    | 0, hu => simp at hu; subst hu; simp [addr_add]
    | 1, hu => simp at hu; subst hu; simp [addr_add]
    | 2, hu => simp at hu; subst hu; simp [addr_add]
  case c2 => intro u hu; simp at hu; rcases hu with rfl | rfl | rfl <;> rfl
  case c3 => unfold maxLen; omega
  case c4 => omega
  case c5 => simp; omega
  intro v' w1 hown1 hgrow1 _
  have hsz : w.heap.size < w1.heap.size := by have := hgrow1.size; simp at this; omega
  have hb1 : Below base w w1 := by
    refine ((Below.refl base w).alloc hbase _).grown hgrow1 (by simp; omega) ?_
    intro b hb
    exact ((unhide H0).lt b hb).1
  have hx3 : w1.cell? ⟨w.heap.size, 3, none⟩ = some (.int .u64 x) := by
    rw [World.cell?_of_block (w := w.alloc _) (hgrow1.block w.heap.size (by simp) (fun e => by have := ((unhide H0).lt _ e.symm).2; omega))]
    simp
  have HB1 := hide (And.intro hb1 (((KeepT.refl w).alloc _).grown ((unhide H0).alloc _) hgrow1))
  have HR := hide (HC v' _ w1 hown1 (by omega))
  clear hown1 hgrow1 hb1 H0 HC
  go_wp2_with fail
  refine (unhide (unhide HR)).mono ?_
  rintro e w2 ⟨⟨v2, rfl, hown2⟩, hb2, hk2⟩
  have HO := hide (And.intro hown2 (And.intro ((unhide HB1).1.trans hb2) ((unhide HB1).2.trans hk2)))
  clear hown2 hb2 hk2 HR HB1
  go_wp2
  go_ret
  refine ⟨⟨_, rfl, ?_⟩, (unhide HO).2⟩
  rw [unhide HE]
  exact (unhide HO).1

end Go.Proofs.YtbjobbkgelipmaaGreat
