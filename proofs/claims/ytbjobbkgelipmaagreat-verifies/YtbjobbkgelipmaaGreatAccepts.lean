/-
  The walk of tithe's accepts.
-/
import Derived.Test.YtbjobbkgelipmaaGreatClimb
import Derived.Test.YtbjobbkgelipmaaGreatRdRep
import Derived.Test.YtbjobbkgelipmaaGreatAcc2
namespace Go.Proofs.YtbjobbkgelipmaaGreat
open Go.RowKit

set_option maxHeartbeats 2000000 in
set_option maxRecDepth 100000 in
theorem accepts_any (h : Nat) (root : Dg × Int) (l : List UInt8) (sb : Nat) (w : World) (hh : h ≤ 6) (hacc : accHead h l) (hbal : accBal l ≤ maxS) (hsums : ∀ i, i < h → (sideAt l (19 + bAt l 2 + 11 * i)).2 ≤ maxS) (hlt : sb < w.heap.size)
    (hS : SidesAt w sb (sidesOf (l.drop (19 + bAt l 2)) h)) :
    Calls Tryz.prog 78 #[ownRepV (h : Int) (root.1.1.toNat : Int) (root.1.2.1.toNat : Int) (root.1.2.2.toNat : Int) root.2, proofV (bAt l 1 : Int) ⟨(accName l).toArray⟩ (accBal l) (accSalt l) (some ⟨sb, 0, none⟩) h h] w fun e w' => e = .returned (.bool (accTexts h root l).isSome) ∧ Below w.heap.size w w' := by
  have hC := fun w' (hb : Below w.heap.size w w') => climb_any h l sb w' hh hacc hbal hsums (by have := hb.size; omega) (hS.below hb hlt)
  obtain ⟨pl, hpl⟩ : ∃ pl : Int, (bAt l 1 : Int) = pl := ⟨_, rfl⟩
  obtain ⟨nm, hnm⟩ : ∃ nm : ByteArray, ⟨(accName l).toArray⟩ = nm := ⟨_, rfl⟩
  obtain ⟨bal, hbl⟩ : ∃ x, accBal l = x := ⟨_, rfl⟩
  obtain ⟨salt, hsl⟩ : ∃ x, accSalt l = x := ⟨_, rfl⟩
  rw [hpl, hnm, hbl, hsl] at hC ⊢
  obtain ⟨d0, hd0⟩ : ∃ d : Int, (root.1.1.toNat : Int) = d := ⟨_, rfl⟩
  obtain ⟨d1, hd1⟩ : ∃ d : Int, (root.1.2.1.toNat : Int) = d := ⟨_, rfl⟩
  obtain ⟨d2, hd2⟩ : ∃ d : Int, (root.1.2.2.toNat : Int) = d := ⟨_, rfl⟩
  rw [hd0, hd1, hd2]
  have hRV : sideV root.1 root.2 = .agg #[.int .u8 d0, .int .u8 d1, .int .u8 d2, .int .u64 root.2] := by rw [← hd0, ← hd1, ← hd2]; rfl
  have HRV := hide hRV
  have hq := eql_digest
  clear hacc hbal hsums hS hpl hnm hbl hsl hd0 hd1 hd2 hRV
  unfold proofV joinV at *
  cases hu : accUp l h with
  | none =>
    have hE : (accTexts h root l).isSome = false := by simp only [accTexts, hu]; rfl
    rw [hE]
    have HC : ∀ w', Below w.heap.size w w' → Hid (Calls Tryz.prog 96 #[.agg #[.func (.func 95) #[] #[]], .agg #[.int .i64 pl, .string nm, .int .u64 bal, .int .u64 salt, .slice (some ⟨sb, 0, none⟩) h h]] w' fun e w'' => e = .returned (.tuple #[.agg #[.int .u8 0, .int .u8 0, .int .u8 0, .int .u64 0], .bool false]) ∧ Below w'.heap.size w' w'') := fun w' hb => (hC w' hb).mono fun e w'' hp => by
      obtain ⟨p1, p2⟩ := hp
      rw [hu] at p2
      exact ⟨p2, p1⟩
    clear hC hE hu
    unfold ownRepV
    go_enter Tryz.func78, Tryz.ntmps78
    go_wp2_with fail
    have hA : Below w.heap.size w ((w.alloc (Obj.cells #[Value.int IntKind.i64 (h : Int), Value.int IntKind.u8 d0, Value.int IntKind.u8 d1, Value.int IntKind.u8 d2, Value.int IntKind.u64 root.2] 108)).alloc (Obj.cells #[Value.int IntKind.i64 pl, Value.string nm, Value.int IntKind.u64 bal, Value.int IntKind.u64 salt, Value.slice (some ⟨sb, 0, none⟩) h h] 118)) := ((Below.refl _ _).alloc (Nat.le_refl _) _).alloc (by simp) _
    refine (unhide (HC _ hA)).mono ?_
    rintro e w1 ⟨rfl, hb1⟩
    have hB := hA.trans (hb1.mono (by simp only [World.size_alloc]; omega))
    have HB := hide (hB.alloc hB.size (Obj.cells #[Value.int IntKind.u8 0, Value.int IntKind.u8 0, Value.int IntKind.u8 0, Value.int IntKind.u64 0] 106))
    clear hA hb1 hB HC
    go_wp2
    go_ret
    exact ⟨rfl, unhide HB⟩
  | some p =>
    obtain ⟨ts, now⟩ := p
    have hE : (accTexts h root l).isSome = decide (now = root) := by
      simp only [accTexts, hu]
      by_cases he : now = root
      · rw [if_pos he, decide_eq_true he]; rfl
      · rw [if_neg he, decide_eq_false he]; rfl
    rw [hE]
    obtain ⟨s0, s1, s2, hS1⟩ : ∃ s0 s1 s2 : Int, sideV now.1 now.2 = .agg #[.int .u8 s0, .int .u8 s1, .int .u8 s2, .int .u64 now.2] := ⟨_, _, _, rfl⟩
    have hEq := side_eq hS1 (unhide HRV)
    have e : (((now.1, now.2) : Dg × Int) = (root.1, root.2)) = (now = root) := rfl
    rw [show decide (now = root) = decide (((now.1, now.2) : Dg × Int) = (root.1, root.2)) from rfl, ← hEq]
    have HC : ∀ w', Below w.heap.size w w' → Hid (Calls Tryz.prog 96 #[.agg #[.func (.func 95) #[] #[]], .agg #[.int .i64 pl, .string nm, .int .u64 bal, .int .u64 salt, .slice (some ⟨sb, 0, none⟩) h h]] w' fun e w'' => e = .returned (.tuple #[.agg #[.int .u8 s0, .int .u8 s1, .int .u8 s2, .int .u64 now.2], .bool true]) ∧ Below w'.heap.size w' w'') := fun w' hb => (hC w' hb).mono fun e w'' hp => by
      obtain ⟨p1, p2⟩ := hp
      rw [hu] at p2
      rw [← hS1]
      exact ⟨p2, p1⟩
    generalize now.2 = nx at *
    generalize root.2 = rn at *
    clear hC hE hu hS1 hEq e
    unfold ownRepV
    generalize hD : (s0 == d0 && (s1 == d1 && s2 == d2)) = D
    replace hq : ∀ w : World, _ := fun w => eql_digest w s0 s1 s2 d0 d1 d2
    rw [hD] at hq
    go_enter Tryz.func78, Tryz.ntmps78
    go_wp2_with fail
    have k0 := heap_next (o := (Obj.cells #[Value.int IntKind.i64 pl, Value.string nm, Value.int IntKind.u64 bal, Value.int IntKind.u64 salt, Value.slice (some ⟨sb, 0, none⟩) h h] 118)) (heap_alloc_new w (Obj.cells #[Value.int IntKind.i64 (h : Int), Value.int IntKind.u8 d0, Value.int IntKind.u8 d1, Value.int IntKind.u8 d2, Value.int IntKind.u64 rn] 108))
    have hA : Below w.heap.size w ((w.alloc (Obj.cells #[Value.int IntKind.i64 (h : Int), Value.int IntKind.u8 d0, Value.int IntKind.u8 d1, Value.int IntKind.u8 d2, Value.int IntKind.u64 rn] 108)).alloc (Obj.cells #[Value.int IntKind.i64 pl, Value.string nm, Value.int IntKind.u64 bal, Value.int IntKind.u64 salt, Value.slice (some ⟨sb, 0, none⟩) h h] 118)) := ((Below.refl _ _).alloc (Nat.le_refl _) _).alloc (by simp) _
    refine (unhide (HC _ hA)).mono ?_
    rintro e w1 ⟨rfl, hb1⟩
    have hB := hA.trans (hb1.mono (by simp only [World.size_alloc]; omega))
    have m0 := heap_next (o := Obj.cells #[Value.int IntKind.u8 s0, Value.int IntKind.u8 s1, Value.int IntKind.u8 s2, Value.int IntKind.u64 nx] 106) ((hb1.block _ (Array.getElem?_eq_some_iff.1 k0).1).trans k0)
    have m1 := heap_alloc_new w1 (Obj.cells #[Value.int IntKind.u8 s0, Value.int IntKind.u8 s1, Value.int IntKind.u8 s2, Value.int IntKind.u64 nx] 106)
    have HB := hide (hB.alloc hB.size (Obj.cells #[Value.int IntKind.u8 s0, Value.int IntKind.u8 s1, Value.int IntKind.u8 s2, Value.int IntKind.u64 nx] 106))
    clear hA hb1 hB HC k0
    go_upto_region 2 with fail
    generalize (w1.alloc (Obj.cells #[Value.int IntKind.u8 s0, Value.int IntKind.u8 s1, Value.int IntKind.u8 s2, Value.int IntKind.u64 nx] 106)) = W2 at *
    generalize w1.heap.size = N at *
    have a0 : W2.cell? ⟨w.heap.size, 1, none⟩ = some (.int .u8 d0) := block_cell m0
    have a1 : W2.cell? ⟨w.heap.size, 2, none⟩ = some (.int .u8 d1) := block_cell m0
    have a2 : W2.cell? ⟨w.heap.size, 3, none⟩ = some (.int .u8 d2) := block_cell m0
    have a3 : W2.cell? ⟨w.heap.size, 4, none⟩ = some (.int .u64 rn) := block_cell m0
    have b0 : W2.cell? ⟨N, 0, none⟩ = some (.int .u8 s0) := block_cell m1
    have b1 : W2.cell? ⟨N, 1, none⟩ = some (.int .u8 s1) := block_cell m1
    have b2 : W2.cell? ⟨N, 2, none⟩ = some (.int .u8 s2) := block_cell m1
    have b3 : W2.cell? ⟨N, 3, none⟩ = some (.int .u64 nx) := block_cell m1
    have HD := hide hD
    clear m0 m1 hD
    cases D with
    | false =>
      go_wp2
      go_ret
      exact ⟨rfl, unhide HB⟩
    | true =>
      go_wp2
      go_ret
      exact ⟨by simp, unhide HB⟩

end Go.Proofs.YtbjobbkgelipmaaGreat
