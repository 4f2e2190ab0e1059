/-
  The walk of tithe's accepts.
-/
import Derived.BigQuiet
import Derived.Deep.DeepCutAuto
import Derived.Lib.SliceRun
import Derived.Deep.RegionHeld3
import Derived.Test.YtbjobbkgelipmaaSban
import Derived.Test.YtbjobbkgelipmaaSbag
import Derived.Test.YtbjobbkgelipmaaSbao
import Derived.Test.YtbjobbkgelipmaaSbab
import Derived.Test.YtbjobbkgelipmaaSbal
import Derived.Test.YtbjobbkgelipmaaSbai
import Derived.Test.YtbjobbkgelipmaaSbaa
namespace Go.Proofs.Ytbjobbkgelipmaa
open Go.RowKit

set_option maxHeartbeats 2000000 in
set_option maxRecDepth 100000 in
theorem accepts_any (h : Nat) (root : Dg × Int) (l : List UInt8) (sb : Nat) (w : World) (hh : h ≤ 6) (hacc : accHead h l) (hbal : accBal l ≤ maxS) (hsums : ∀ i, i < h → (sideAt l (19 + bAt l 2 + 11 * i)).2 ≤ maxS) (hlt : sb < w.heap.size)
    (hS : SidesAt w sb (sidesOf (l.drop (19 + bAt l 2)) h)) :
    Calls Try.prog 51 #[ownRepV (h : Int) (root.1.1.toNat : Int) (root.1.2.1.toNat : Int) (root.1.2.2.toNat : Int) root.2, proofV (bAt l 1 : Int) ⟨(accName l).toArray⟩ (accBal l) (accSalt l) (some ⟨sb, 0, none⟩) h h] w fun e w' => e = .returned (.bool (accTexts h root l).isSome) ∧ Below w.heap.size w w' := by
  have hC := fun w' (hb : Below w.heap.size w w') => climb_any h l sb w' hh hacc hbal hsums (by have := hb.size; omega) (hS.below hb hlt)
  obtain ⟨pl, hpl⟩ : ∃ pl : Int, (bAt l 1 : Int) = pl := ⟨_, rfl⟩
  obtain ⟨nm, hnm⟩ : ∃ nm : ByteArray, ⟨(accName l).toArray⟩ = nm := ⟨_, rfl⟩
  obtain ⟨bal, hbl⟩ : ∃ x, accBal l = x := ⟨_, rfl⟩
  obtain ⟨salt, hsl⟩ : ∃ x, accSalt l = x := ⟨_, rfl⟩
  rw [hpl, hnm, hbl, hsl] at hC ⊢
  obtain ⟨d0, hd0⟩ : ∃ d : Int, (root.1.1.toNat : Int) = d := ⟨_, rfl⟩
  obtain ⟨d1, hd1⟩ : ∃ d : Int, (root.1.2.1.toNat : Int) = d := ⟨_, rfl⟩
  obtain ⟨d2, hd2⟩ : ∃ d : Int, (root.1.2.2.toNat : Int) = d := ⟨_, rfl⟩
  rw [hd0, hd1, hd2]
  have hRV : sideV root.1 root.2 = .agg #[.int .u8 d0, .int .u8 d1, .int .u8 d2, .int .u64 root.2] := by rw [← hd0, ← hd1, ← hd2]; rfl
  have HRV := hide hRV
  have hq := eql_digest
  clear hacc hbal hsums hS hpl hnm hbl hsl hd0 hd1 hd2 hRV
  unfold proofV joinV at *
  cases hu : accUp l h with
  | none =>
    have hE : (accTexts h root l).isSome = false := by simp only [accTexts, hu]; rfl
    rw [hE]
    have HC : ∀ w', Below w.heap.size w w' → Hid (Calls Try.prog 65 #[.agg #[.func (.func 64) #[] #[]], .agg #[.int .i64 pl, .string nm, .int .u64 bal, .int .u64 salt, .slice (some ⟨sb, 0, none⟩) h h]] w' fun e w'' => e = .returned (.tuple #[.agg #[.int .u8 0, .int .u8 0, .int .u8 0, .int .u64 0], .bool false]) ∧ Below w'.heap.size w' w'') := fun w' hb => (hC w' hb).mono fun e w'' hp => by
      obtain ⟨p1, p2⟩ := hp
      rw [hu] at p2
      exact ⟨p2, p1⟩
    clear hC hE hu
    unfold ownRepV
    go_enter Try.func51, Try.ntmps51
    go_wp2_with fail
    have hA : Below w.heap.size w ((w.alloc (Obj.cells #[Value.int IntKind.i64 (h : Int), Value.int IntKind.u8 d0, Value.int IntKind.u8 d1, Value.int IntKind.u8 d2, Value.int IntKind.u64 root.2] 90)).alloc (Obj.cells #[Value.int IntKind.i64 pl, Value.string nm, Value.int IntKind.u64 bal, Value.int IntKind.u64 salt, Value.slice (some ⟨sb, 0, none⟩) h h] 79)) := ((Below.refl _ _).alloc (Nat.le_refl _) _).alloc (by simp) _
    refine (unhide (HC _ hA)).mono ?_
    rintro e w1 ⟨rfl, hb1⟩
    have hB := hA.trans (hb1.mono (by simp only [World.size_alloc]; omega))
    have HB := hide (hB.alloc hB.size (Obj.cells #[Value.int IntKind.u8 0, Value.int IntKind.u8 0, Value.int IntKind.u8 0, Value.int IntKind.u64 0] 88))
    clear hA hb1 hB HC
    go_wp2
    go_ret
    exact ⟨rfl, unhide HB⟩
  | some p =>
    obtain ⟨ts, now⟩ := p
    have hE : (accTexts h root l).isSome = decide (now = root) := by
      simp only [accTexts, hu]
      by_cases he : now = root
      · rw [if_pos he, decide_eq_true he]; rfl
      · rw [if_neg he, decide_eq_false he]; rfl
    rw [hE]
    obtain ⟨s0, s1, s2, hS1⟩ : ∃ s0 s1 s2 : Int, sideV now.1 now.2 = .agg #[.int .u8 s0, .int .u8 s1, .int .u8 s2, .int .u64 now.2] := ⟨_, _, _, rfl⟩
    have hEq := side_eq hS1 (unhide HRV)
    have e : (((now.1, now.2) : Dg × Int) = (root.1, root.2)) = (now = root) := rfl
    rw [show decide (now = root) = decide (((now.1, now.2) : Dg × Int) = (root.1, root.2)) from rfl, ← hEq]
    have HC : ∀ w', Below w.heap.size w w' → Hid (Calls Try.prog 65 #[.agg #[.func (.func 64) #[] #[]], .agg #[.int .i64 pl, .string nm, .int .u64 bal, .int .u64 salt, .slice (some ⟨sb, 0, none⟩) h h]] w' fun e w'' => e = .returned (.tuple #[.agg #[.int .u8 s0, .int .u8 s1, .int .u8 s2, .int .u64 now.2], .bool true]) ∧ Below w'.heap.size w' w'') := fun w' hb => (hC w' hb).mono fun e w'' hp => by
      obtain ⟨p1, p2⟩ := hp
      rw [hu] at p2
      rw [← hS1]
      exact ⟨p2, p1⟩
    generalize now.2 = nx at *
    generalize root.2 = rn at *
    clear hC hE hu hS1 hEq e
    unfold ownRepV
    generalize hD : (s0 == d0 && (s1 == d1 && s2 == d2)) = D
    replace hq : ∀ w : World, _ := fun w => eql_digest w s0 s1 s2 d0 d1 d2
    rw [hD] at hq
    go_enter Try.func51, Try.ntmps51
    go_wp2_with fail
    have k0 := heap_next (o := (Obj.cells #[Value.int IntKind.i64 pl, Value.string nm, Value.int IntKind.u64 bal, Value.int IntKind.u64 salt, Value.slice (some ⟨sb, 0, none⟩) h h] 79)) (heap_alloc_new w (Obj.cells #[Value.int IntKind.i64 (h : Int), Value.int IntKind.u8 d0, Value.int IntKind.u8 d1, Value.int IntKind.u8 d2, Value.int IntKind.u64 rn] 90))
    have hA : Below w.heap.size w ((w.alloc (Obj.cells #[Value.int IntKind.i64 (h : Int), Value.int IntKind.u8 d0, Value.int IntKind.u8 d1, Value.int IntKind.u8 d2, Value.int IntKind.u64 rn] 90)).alloc (Obj.cells #[Value.int IntKind.i64 pl, Value.string nm, Value.int IntKind.u64 bal, Value.int IntKind.u64 salt, Value.slice (some ⟨sb, 0, none⟩) h h] 79)) := ((Below.refl _ _).alloc (Nat.le_refl _) _).alloc (by simp) _
    refine (unhide (HC _ hA)).mono ?_
    rintro e w1 ⟨rfl, hb1⟩
    have hB := hA.trans (hb1.mono (by simp only [World.size_alloc]; omega))
    have m0 := heap_next (o := Obj.cells #[Value.int IntKind.u8 s0, Value.int IntKind.u8 s1, Value.int IntKind.u8 s2, Value.int IntKind.u64 nx] 88) ((hb1.block _ (Array.getElem?_eq_some_iff.1 k0).1).trans k0)
    have m1 := heap_alloc_new w1 (Obj.cells #[Value.int IntKind.u8 s0, Value.int IntKind.u8 s1, Value.int IntKind.u8 s2, Value.int IntKind.u64 nx] 88)
    have HB := hide (hB.alloc hB.size (Obj.cells #[Value.int IntKind.u8 s0, Value.int IntKind.u8 s1, Value.int IntKind.u8 s2, Value.int IntKind.u64 nx] 88))
    clear hA hb1 hB HC k0
    go_upto_region 2 with fail
    generalize (w1.alloc (Obj.cells #[Value.int IntKind.u8 s0, Value.int IntKind.u8 s1, Value.int IntKind.u8 s2, Value.int IntKind.u64 nx] 88)) = W2 at *
    generalize w1.heap.size = N at *
    have a0 : W2.cell? ⟨w.heap.size, 1, none⟩ = some (.int .u8 d0) := block_cell m0
    have a1 : W2.cell? ⟨w.heap.size, 2, none⟩ = some (.int .u8 d1) := block_cell m0
    have a2 : W2.cell? ⟨w.heap.size, 3, none⟩ = some (.int .u8 d2) := block_cell m0
    have a3 : W2.cell? ⟨w.heap.size, 4, none⟩ = some (.int .u64 rn) := block_cell m0
    have b0 : W2.cell? ⟨N, 0, none⟩ = some (.int .u8 s0) := block_cell m1
    have b1 : W2.cell? ⟨N, 1, none⟩ = some (.int .u8 s1) := block_cell m1
    have b2 : W2.cell? ⟨N, 2, none⟩ = some (.int .u8 s2) := block_cell m1
    have b3 : W2.cell? ⟨N, 3, none⟩ = some (.int .u64 nx) := block_cell m1
    have HD := hide hD
    clear m0 m1 hD
    cases D with
    | false =>
      go_wp2
      go_ret
      exact ⟨rfl, unhide HB⟩
    | true =>
      go_wp2
      go_ret
      exact ⟨by simp, unhide HB⟩

end Go.Proofs.Ytbjobbkgelipmaa

/-
  The walk of titheref's Verify.
-/
namespace Go.Proofs.Ytbjobbkgelipmaa
open Go.RowKit

def repOk (l : List UInt8) : Prop := repHead l ∧ (repRoot l).2 ≤ maxS
/-- The texts of a proof that a report accepts. -/
def accOk (h : Nat) (root : Dg × Int) (l : List UInt8) : Option (List (List UInt8)) := if maxS < accBal l then none else accTexts h root l
def verOk (rep prf : List UInt8) : Prop := repOk rep ∧ accHead (repH rep) prf ∧ (accOk (repH rep) (repRoot rep) prf).isSome = true
def verV (nm : List UInt8) (v : Int) (e : Int) : Value := .tuple #[strV nm, .int .u64 v, .int .i64 e]

end Go.Proofs.Ytbjobbkgelipmaa

/-
  What titheref's Verify answers, in plain words.
-/
namespace Go.Proofs.Ytbjobbkgelipmaa
open Go.RowKit

open Classical in
/-- What a Verify must answer: a name, a balance, an error. -/
noncomputable def verAns (rep prf : List UInt8) : List UInt8 × Int × Int :=
  if repOk rep then (if verOk rep prf then (accName prf, accBal prf, 0) else ([], 0, 9)) else ([], 0, 8)

theorem verAns_norep {rep prf : List UInt8} (h : ¬ repOk rep) : verAns rep prf = ([], 0, 8) := if_neg h
theorem verAns_no {rep prf : List UInt8} (h : repOk rep) (h2 : ¬ verOk rep prf) : verAns rep prf = ([], 0, 9) := by unfold verAns; rw [if_pos h, if_neg h2]
theorem verAns_yes {rep prf : List UInt8} (h2 : verOk rep prf) : verAns rep prf = (accName prf, accBal prf, 0) := by unfold verAns; rw [if_pos h2.1, if_pos h2]

end Go.Proofs.Ytbjobbkgelipmaa

/-
  The walk of tithe's readAccepted.
-/
namespace Go.Proofs.Ytbjobbkgelipmaa
open Go.RowKit

theorem accUp_over {l : List UInt8} {i h : Nat} (hi : i < h) (hx : maxS < (sideAt l (19 + bAt l 2 + 11 * i)).2) : accUp l h = none := by
  have h1 : accUp l (i + 1) = none := by
    cases hu : accUp l i with
    | none => simp only [accUp, hu]
    | some p => simp only [accUp, hu]; rw [if_pos (Or.inl hx)]
  have := accUp_none (j := h - (i + 1)) h1
  rwa [show i + 1 + (h - (i + 1)) = h by omega] at this

/-- A proof's bytes whose numbers are within bounds. -/
def prfOk (h : Nat) (l : List UInt8) : Prop := accHead h l ∧ accBal l ≤ maxS ∧ ∀ i, i < h → (sideAt l (19 + bAt l 2 + 11 * i)).2 ≤ maxS

theorem prfOk_great {h : Nat} {l : List UInt8} (ha : accHead h l) : greatB (accBal l) (sidesOf (l.drop (19 + bAt l 2)) h) ≤ maxS ↔ prfOk h l := by
  rw [greatB_le]
  constructor
  · rintro ⟨h1, h2⟩
    refine ⟨ha, h1, fun i hi => ?_⟩
    have := h2 _ (List.getElem_mem (l := sidesOf (l.drop (19 + bAt l 2)) h) (n := i) (by rw [sidesOf_len]; exact hi))
    rwa [sidesOf_at hi] at this
  · rintro ⟨_, h1, h2⟩
    refine ⟨h1, fun y hy => ?_⟩
    obtain ⟨i, hi, rfl⟩ := List.getElem_of_mem hy
    rw [sidesOf_len] at hi
    rw [sidesOf_at hi]
    exact h2 i hi

theorem notOk_of {rep prf : List UInt8} (hn : ¬ prfOk (repH rep) prf) : ¬ verOk rep prf := by
  rintro ⟨h0, h1, h2⟩
  refine hn ⟨h1, ?_, fun i hi => ?_⟩
  · refine Int.not_lt.1 fun h => ?_
    unfold accOk at h2
    rw [if_pos h] at h2
    cases h2
  · refine Int.not_lt.1 fun h => ?_
    unfold accOk accTexts at h2
    rw [accUp_over hi h] at h2
    split at h2 <;> cases h2

/-- readProof, in all cases. -/
theorem rdpr_all (b cap h : Nat) (l : List UInt8) (w : World) (hcap : l.length ≤ cap) (hc0 : h = 0 → l.length < cap) (hm : cap ≤ 9223372036854775807) (hh : h ≤ 6) (hb : b < w.heap.size) (hB : BytesAt w b 0 l) :
    Calls Try.prog 50 #[.slice (some ⟨b, 0, none⟩) l.length cap, .int .i64 (h : Int)] w fun e w' => Below w.heap.size w w' ∧
      ((¬ prfOk h l ∧ ∃ (pl : Int) (nm : ByteArray) (bal salt : Int) (a : Option Addr) (k c : Nat), e = .returned (.tuple #[proofV pl nm bal salt a k c, .bool false])) ∨
       (prfOk h l ∧ ∃ g, e = .returned (.tuple #[proofV (bAt l 1 : Int) ⟨(accName l).toArray⟩ (accBal l) (accSalt l) (some ⟨g, 0, none⟩) h h, .bool true]) ∧ g < w'.heap.size ∧ SidesAt w' g (sidesOf (l.drop (19 + bAt l 2)) h))) := by
  by_cases h3 : l.length < 3
  · refine (rdpr_short b l.length cap h w h3).mono fun e w' ⟨he, hb'⟩ => ⟨hb', .inl ⟨fun hp => by have := hp.1.1; omega, 0, ⟨#[]⟩, 0, 0, none, 0, 0, he⟩⟩
  · by_cases h0 : bAt l 0 = h
    · refine (rdpr_good b l.length cap h l w rfl (by omega) hcap hc0 hm hh hb hB h0).mono fun e w' ⟨hb', p1, p2⟩ => ⟨hb', ?_⟩
      by_cases ha : accHead h l
      · obtain ⟨g, he, hg, hs⟩ := p2 ha
        by_cases hk : prfOk h l
        · rw [decide_eq_true ((prfOk_great ha).2 hk)] at he
          exact .inr ⟨hk, g, he, hg, hs⟩
        · rw [decide_eq_false (fun h => hk ((prfOk_great ha).1 h))] at he
          exact .inl ⟨hk, _, _, _, _, _, _, _, he⟩
      · exact .inl ⟨fun hp => ha hp.1, 0, ⟨#[]⟩, 0, 0, none, 0, 0, p1 ha⟩
    · have c0 : w.cell? ⟨b, 0, none⟩ = some (.int .u8 (bAt l 0 : Int)) := by
        have := hB 0 (by omega)
        rw [this]; unfold bAt; rw [List.getD_eq_getElem?_getD, List.getElem?_eq_getElem (by omega)]; rfl
      refine (rdpr_height b l.length cap h (bAt l 0) w (by omega) hb c0 (by have := UInt8.toNat_lt (l.getD 0 0); unfold bAt; omega) h0).mono fun e w' ⟨he, hb'⟩ => ⟨hb', .inl ⟨fun hp => h0 hp.1.2.1, 0, ⟨#[]⟩, 0, 0, none, 0, 0, he⟩⟩

def proofC (pl : Int) (nm : ByteArray) (bal salt : Int) (a : Option Addr) (k c : Nat) : Obj := Obj.cells #[Value.int IntKind.i64 pl, Value.string nm, Value.int IntKind.u64 bal, Value.int IntKind.u64 salt, Value.slice a k c] 79
def repC (h d0 d1 d2 x : Int) : Obj := Obj.cells #[Value.int IntKind.i64 h, Value.int IntKind.u8 d0, Value.int IntKind.u8 d1, Value.int IntKind.u8 d2, Value.int IntKind.u64 x] 90

set_option maxHeartbeats 1000000 in
set_option maxRecDepth 100000 in
theorem rdacc_no (v : Value) (w : World) (h d0 d1 d2 x : Int)
    (hP : ∀ w', Below w.heap.size w w' → Calls Try.prog 50 #[v, .int .i64 h] w' fun e w'' => (∃ (pl : Int) (nm : ByteArray) (bal salt : Int) (a : Option Addr) (k c : Nat), e = .returned (.tuple #[proofV pl nm bal salt a k c, .bool false])) ∧ Below w'.heap.size w' w'') :
    Calls Try.prog 35 #[ownRepV h d0 d1 d2 x, v] w fun e w' => e = .returned (.tuple #[proofZ, .bool false]) ∧ Below w.heap.size w w' := by
  have HP := fun w' hb => hide (hP w' hb)
  clear hP
  unfold ownRepV at *
  go_enter Try.func35, Try.ntmps35
  go_wp2_with fail
  have hA : Below w.heap.size w ((w.alloc (repC h d0 d1 d2 x)).alloc (proofC 0 ⟨#[]⟩ 0 0 none 0 0)) := ((Below.refl _ _).alloc (Nat.le_refl _) _).alloc (by simp) _
  have kR := heap_new1 w (repC h d0 d1 d2 x) (proofC 0 ⟨#[]⟩ 0 0 none 0 0)
  refine (unhide (HP _ hA)).mono ?_
  rintro e w2 ⟨⟨pl, nm, bal, salt, a, k, c, rfl⟩, hb2⟩
  have mR := heap_next (o := proofC pl nm bal salt a k c) ((hb2.block _ (Array.getElem?_eq_some_iff.1 kR).1).trans kR)
  have hB := hA.trans (hb2.mono (by simp only [World.size_alloc]; omega))
  have HB := hide (hB.alloc hB.size (proofC pl nm bal salt a k c))
  clear hb2 hB hA HP kR
  unfold proofV
  go_upto_region 2 with fail
  unfold proofC at *
  generalize (w2.alloc (Obj.cells #[Value.int IntKind.i64 pl, Value.string nm, Value.int IntKind.u64 bal, Value.int IntKind.u64 salt, Value.slice a k c] 79)) = W3 at *
  generalize w2.heap.size = P at *
  obtain ⟨R, hR⟩ : ∃ R, w.heap.size + 1 = R := ⟨_, rfl⟩
  rw [hR] at mR ⊢
  have r0 : W3.cell? ⟨R, 0, none⟩ = some (.int .i64 0) := block_cell mR
  have r1 : W3.cell? ⟨R, 1, none⟩ = some (.string ⟨#[]⟩) := block_cell mR
  have r2 : W3.cell? ⟨R, 2, none⟩ = some (.int .u64 0) := block_cell mR
  have r3 : W3.cell? ⟨R, 3, none⟩ = some (.int .u64 0) := block_cell mR
  have r4 : W3.cell? ⟨R, 4, none⟩ = some (.slice none 0 0) := block_cell mR
  have rf : ∀ i, W3.frozen? ⟨R, i, none⟩ = false := fun i => block_free mR
  have HR := hide hR
  clear mR hR
  go_wp2
  refine bodyPost_ret (v := .tuple #[proofZ, .bool false]) ?_ rfl ⟨rfl, ?_⟩
  · simp [results, Try.results35, go_sem, proofZ, r0, r1, r2, r3, r4]
  · have hw := unhide HR
    exact (((((unhide HB).setCell (by show w.heap.size ≤ R; omega) _).setCell (by show w.heap.size ≤ R; omega) _).setCell (by show w.heap.size ≤ R; omega) _).setCell (by show w.heap.size ≤ R; omega) _).setCell (by show w.heap.size ≤ R; omega) _

/-- What readAccepted owes where readProof has read a proof. -/
def RdAccP (w : World) (pl bal salt : Int) (nm : ByteArray) (k c : Nat) (bb : Bool) (Q : Option Addr → World → Prop) (e : Ending) (w' : World) : Prop :=
  bb = false ∧ e = .returned (.tuple #[proofZ, .bool false]) ∨ bb = true ∧ ∃ a W, e = .returned (.tuple #[proofV pl nm bal salt a k c, .bool true]) ∧ Q a W ∧ W.cell? ⟨w.heap.size + 1, 0, none⟩ = some (.int .i64 0) ∧ w'.heap.size = W.heap.size ∧ ∀ b, b ≠ w.heap.size + 1 → w'.heap[b]? = W.heap[b]?

set_option maxHeartbeats 1000000 in
set_option maxRecDepth 100000 in
theorem rdacc_acc (v : Value) (w : World) (h d0 d1 d2 x : Int) (pl bal salt : Int) (nm : ByteArray) (k c : Nat) (bb : Bool) (Q : Option Addr → World → Prop) (hQ : ∀ a W W', Q a W → Below W.heap.size W W' → Q a W')
    (hP : ∀ w', Below w.heap.size w w' → Calls Try.prog 50 #[v, .int .i64 h] w' fun e w'' => (∃ a : Option Addr, e = .returned (.tuple #[proofV pl nm bal salt a k c, .bool true]) ∧ Q a w'' ∧
      ∀ w3, Below w''.heap.size w'' w3 → Calls Try.prog 51 #[ownRepV h d0 d1 d2 x, proofV pl nm bal salt a k c] w3 fun e w4 => e = .returned (.bool bb) ∧ Below w3.heap.size w3 w4) ∧ Below w'.heap.size w' w'') :
    Calls Try.prog 35 #[ownRepV h d0 d1 d2 x, v] w fun e w' => RdAccP w pl bal salt nm k c bb Q e w' ∧ Below w.heap.size w w' := by
  have HP := fun w' hb => hide (hP w' hb)
  have HQ := hide hQ
  clear hP hQ
  unfold ownRepV proofV at *
  go_enter Try.func35, Try.ntmps35
  go_wp2_with fail
  have hA : Below w.heap.size w ((w.alloc (repC h d0 d1 d2 x)).alloc (proofC 0 ⟨#[]⟩ 0 0 none 0 0)) := ((Below.refl _ _).alloc (Nat.le_refl _) _).alloc (by simp) _
  have kA := heap_next (o := proofC 0 ⟨#[]⟩ 0 0 none 0 0) (heap_alloc_new w (repC h d0 d1 d2 x))
  have kR := heap_new1 w (repC h d0 d1 d2 x) (proofC 0 ⟨#[]⟩ 0 0 none 0 0)
  refine (unhide (HP _ hA)).mono ?_
  rintro e w2 ⟨⟨a, rfl, hq, hAcc⟩, hb2⟩
  have mA := heap_next (o := proofC pl nm bal salt a k c) ((hb2.block _ (Array.getElem?_eq_some_iff.1 kA).1).trans kA)
  have mR := heap_next (o := proofC pl nm bal salt a k c) ((hb2.block _ (Array.getElem?_eq_some_iff.1 kR).1).trans kR)
  have mP := heap_alloc_new w2 (proofC pl nm bal salt a k c)
  have hB := hA.trans (hb2.mono (by simp only [World.size_alloc]; omega))
  have hB3 := hB.alloc hB.size (proofC pl nm bal salt a k c)
  have hz2 : w.heap.size + 2 ≤ w2.heap.size := by have := hb2.size; simp only [World.size_alloc] at this; omega
  have hn3 := (Below.refl w2.heap.size w2).alloc (Nat.le_refl _) (proofC pl nm bal salt a k c)
  have hq3 := unhide HQ _ _ _ hq hn3
  have HC := hide (hAcc _ hn3)
  have HB3 := hide (And.intro hB3 hq3)
  have hz3 := hB3.size
  clear hb2 hB hA HP kR kA hAcc hn3 hB3 hq hq3
  go_upto_region 2 with fail
  unfold proofC repC at *
  have hs3 : (w2.alloc (Obj.cells #[Value.int IntKind.i64 pl, Value.string nm, Value.int IntKind.u64 bal, Value.int IntKind.u64 salt, Value.slice a k c] 79)).heap.size = w2.heap.size + 1 := by simp
  generalize (w2.alloc (Obj.cells #[Value.int IntKind.i64 pl, Value.string nm, Value.int IntKind.u64 bal, Value.int IntKind.u64 salt, Value.slice a k c] 79)) = W3 at *
  generalize w2.heap.size = P at *
  obtain ⟨R, hR⟩ : ∃ R, w.heap.size + 1 = R := ⟨_, rfl⟩
  rw [hR] at mR ⊢
  have a0 : W3.cell? ⟨w.heap.size, 0, none⟩ = some (.int .i64 h) := block_cell mA
  have a1 : W3.cell? ⟨w.heap.size, 1, none⟩ = some (.int .u8 d0) := block_cell mA
  have a2 : W3.cell? ⟨w.heap.size, 2, none⟩ = some (.int .u8 d1) := block_cell mA
  have a3 : W3.cell? ⟨w.heap.size, 3, none⟩ = some (.int .u8 d2) := block_cell mA
  have a4 : W3.cell? ⟨w.heap.size, 4, none⟩ = some (.int .u64 x) := block_cell mA
  have e0 : W3.cell? ⟨P, 0, none⟩ = some (.int .i64 pl) := block_cell mP
  have e1 : W3.cell? ⟨P, 1, none⟩ = some (.string nm) := block_cell mP
  have e2 : W3.cell? ⟨P, 2, none⟩ = some (.int .u64 bal) := block_cell mP
  have e3 : W3.cell? ⟨P, 3, none⟩ = some (.int .u64 salt) := block_cell mP
  have e4 : W3.cell? ⟨P, 4, none⟩ = some (.slice a k c) := block_cell mP
  have MP := hide (And.intro mP mR)
  have HR := hide (And.intro hR (And.intro hz2 hs3))
  clear mA mR mP hR hz2 hs3
  go_wp2_with fail
  refine (unhide HC).mono ?_
  rintro e w4 ⟨rfl, hb4⟩
  have mP := (hb4.block _ (Array.getElem?_eq_some_iff.1 (unhide MP).1).1).trans (unhide MP).1
  have mR := (hb4.block _ (Array.getElem?_eq_some_iff.1 (unhide MP).2).1).trans (unhide MP).2
  have HB4 := hide (And.intro ((unhide HB3).1.trans (hb4.mono hz3)) (And.intro (unhide HQ _ _ _ (unhide HB3).2 hb4) hb4.size))
  clear a0 a1 a2 a3 a4 e0 e1 e2 e3 e4 hb4 HC MP HB3 HQ
  have r0 : w4.cell? ⟨R, 0, none⟩ = some (.int .i64 0) := block_cell mR
  have r1 : w4.cell? ⟨R, 1, none⟩ = some (.string ⟨#[]⟩) := block_cell mR
  have r2 : w4.cell? ⟨R, 2, none⟩ = some (.int .u64 0) := block_cell mR
  have r3 : w4.cell? ⟨R, 3, none⟩ = some (.int .u64 0) := block_cell mR
  have r4 : w4.cell? ⟨R, 4, none⟩ = some (.slice none 0 0) := block_cell mR
  have rf : ∀ i, w4.frozen? ⟨R, i, none⟩ = false := fun i => block_free mR
  clear mR
  have hbel : ∀ (v0 v1 v2 v3 v4 : Value), Below w.heap.size w (((((w4.setCell ⟨R, 0, none⟩ v0).setCell ⟨R, 1, none⟩ v1).setCell ⟨R, 2, none⟩ v2).setCell ⟨R, 3, none⟩ v3).setCell ⟨R, 4, none⟩ v4) := fun v0 v1 v2 v3 v4 => by
    have hw := (unhide HR).1
    exact (((((unhide HB4).1.setCell (by show w.heap.size ≤ R; omega) _).setCell (by show w.heap.size ≤ R; omega) _).setCell (by show w.heap.size ≤ R; omega) _).setCell (by show w.heap.size ≤ R; omega) _).setCell (by show w.heap.size ≤ R; omega) _
  have HBL := hide hbel
  clear hbel
  cases bb with
  | false =>
    clear mP
    go_wp2
    refine bodyPost_ret (v := .tuple #[proofZ, .bool false]) ?_ rfl ⟨.inl ⟨rfl, rfl⟩, ?_⟩
    · simp [results, Try.results35, go_sem, proofZ, r0, r1, r2, r3, r4]
    · exact unhide HBL _ _ _ _ _
  | true =>
    have e0 : w4.cell? ⟨P, 0, none⟩ = some (.int .i64 pl) := block_cell mP
    have e1 : w4.cell? ⟨P, 1, none⟩ = some (.string nm) := block_cell mP
    have e2 : w4.cell? ⟨P, 2, none⟩ = some (.int .u64 bal) := block_cell mP
    have e3 : w4.cell? ⟨P, 3, none⟩ = some (.int .u64 salt) := block_cell mP
    have e4 : w4.cell? ⟨P, 4, none⟩ = some (.slice a k c) := block_cell mP
    clear mP
    go_wp2
    refine bodyPost_ret (v := .tuple #[.agg #[.int .i64 pl, .string nm, .int .u64 bal, .int .u64 salt, .slice a k c], .bool true]) ?_ rfl ⟨.inr ⟨rfl, a, w4, rfl, (unhide HB4).2.1, ?_, ?_, ?_⟩, ?_⟩
    · simp [results, Try.results35, go_sem, r0, r1, r2, r3, r4]
    · rw [(unhide HR).1]; exact r0
    · simp
    · intro b hne
      have hw := (unhide HR).1
      have hne' : b ≠ R := by omega
      rw [Below.heap_setCell _ _ _ _ hne', Below.heap_setCell _ _ _ _ hne', Below.heap_setCell _ _ _ _ hne', Below.heap_setCell _ _ _ _ hne', Below.heap_setCell _ _ _ _ hne']
    · exact unhide HBL _ _ _ _ _

end Go.Proofs.Ytbjobbkgelipmaa

/-
  The walk of tithe's readReport: a head that fits.
-/
namespace Go.Proofs.Ytbjobbkgelipmaa
open Go.RowKit

def repZs : Array Value := #[.int .i64 0, .int .u8 0, .int .u8 0, .int .u8 0, .int .u64 0]

set_option maxHeartbeats 1000000 in
set_option maxRecDepth 100000 in
theorem rdrep_good (b cap : Nat) (l : List UInt8) (w : World) (hb : b < w.heap.size) (hB : BytesAt w b 0 l) (hg : repHead l) (hc : 12 ≤ cap) (hm : cap ≤ 9223372036854775807) :
    Calls Try.prog 34 #[.slice (some ⟨b, 0, none⟩) 12 cap] w fun e w' => e = .returned (.tuple #[ownRepV (repH l : Int) ((repRoot l).1.1.toNat : Int) ((repRoot l).1.2.1.toNat : Int) ((repRoot l).1.2.2.toNat : Int) (repRoot l).2, .bool (leMax (repRoot l).2)]) ∧ Below w.heap.size w w' := by
  have hl := hg.1
  have hne : b ≠ w.heap.size := by omega
  have h6 : repH l ≤ 6 := hg.2
  have c0 : w.cell? ⟨b, 0, none⟩ = some (.int .u8 (repH l : Int)) := by
    have := hB 0 (by omega)
    rw [this]; unfold repH; rw [List.getD_eq_getElem?_getD, List.getElem?_eq_getElem (by omega)]; rfl
  have HC : ∀ w', Below w.heap.size w w' → Hid (Calls Try.prog 49 #[.slice (some ⟨b, 1, none⟩) 11 (cap - 1)] w' fun e w'' => e = .returned (sideV (repRoot l).1 (repRoot l).2) ∧ Below w'.heap.size w' w'') := fun w' hbw => by
    have hBw : BytesAt w' b 0 l := fun j hj => (hbw.cell (p := ⟨b, 0 + j, none⟩) hb).trans (hB j hj)
    have h := rdside_any b (0 + 1) 11 (cap - 1) (l.drop 1) w' (by rw [List.length_drop]; omega) (by omega) (by omega) (by omega) (by have := hbw.size; omega) hBw.drop
    have e : sideAt (l.drop 1) 0 = repRoot l := by
      unfold repRoot sideAt
      simp only [List.getD_eq_getElem?_getD, List.getElem?_drop, List.drop_drop]
    rw [e] at h
    exact h
  generalize hrr : repRoot l = rr at *
  obtain ⟨⟨y0, y1, y2⟩, n⟩ := rr
  unfold sideV at HC
  simp only at HC ⊢
  generalize (y0.toNat : Int) = d0 at *
  generalize (y1.toNat : Int) = d1 at *
  generalize (y2.toNat : Int) = d2 at *
  generalize hh : repH l = h at *
  have hwr : IntKind.i64.wrap (h : Int) = (h : Int) := by rw [IntKind.wrap_i64]; omega
  have hh6 : ¬ (6 : Int) < (h : Int) := by omega
  have cb : ∀ w', Below w.heap.size w w' → w'.cell? ⟨b, 0, none⟩ = some (.int .u8 (h : Int)) := fun w' hbw => (hbw.cell (p := ⟨b, 0, none⟩) hb).trans c0
  have HCB := hide cb
  have hle : leMax n = decide (n ≤ 4611686018427387904) := rfl
  rw [hle]
  generalize hbb : decide (n ≤ 4611686018427387904) = bb
  have lc : cap ≠ 1 := by omega
  clear hB hg hl hh h6 hrr cb hle
  go_enter Try.func34, Try.ntmps34
  go_wp2_with fail
  generalize hW0 : (w.alloc (Obj.cells #[Value.int IntKind.i64 0, Value.int IntKind.u8 0, Value.int IntKind.u8 0, Value.int IntKind.u8 0, Value.int IntKind.u64 0] 90)) = W0
  have hR0 : RB w repZs 90 W0 := by rw [← hW0]; exact RB.new w _ _
  clear hW0 c0
  have hSd : W0.drew.cell? ⟨b, 0, none⟩ = some (.int .u8 (h : Int)) ∧ RB w repZs 90 W0.drew := ⟨unhide HCB _ hR0.drew.below, hR0.drew⟩
  have hz : w.heap.size < W0.heap.size := hR0.lt
  go_cut [4] (fun s4 wx => ∃ A, s4 = .pointer (some ⟨A, 0, none⟩) ∧ Hid (MB w repZs 90 A #[.int .i64 (h : Int), .int .u8 d0, .int .u8 d1, .int .u8 d2, .int .u64 n] 90 wx))
  case first =>
    go_region_held3 (fun w' => w'.cell? ⟨b, 0, none⟩ = some (.int .u8 (h : Int)) ∧ RB w repZs 90 w')
      (first
        | with_reducible exact hSd
        | with_reducible exact hS4
        | with_reducible exact ⟨unhide HCB _ (hS4.2.alloc _).below, hS4.2.alloc _⟩
        | with_reducible exact ⟨unhide HCB _ (hR0.alloc _).drew.below, (hR0.alloc _).drew⟩
        | with_reducible exact ⟨unhide HCB _ (((((hM4.set _ _).set _ _).set _ _).set _ _).set _ _).rb.below, (((((hM4.set _ _).set _ _).set _ _).set _ _).set _ _).rb⟩
        | fail)
      (first
        | (go_at_call 49; refine (unhide (HC _ hSd.2.below)).mono ?_; rintro e w4 ⟨rfl, hb4⟩; have hR4 := hSd.2.later hb4; have hS4 := And.intro (unhide HCB _ hR4.below) hR4; have oA := True.intro)
        | (go_at_call 49; refine (unhide (HC _ (hR0.alloc _).drew.below)).mono ?_; rintro e w4 ⟨rfl, hb4⟩; have hM4 : MB w repZs 90 W0.heap.size _ _ w4 := (MB.new hR0 _ _).drew.later hb4; have hS4 := And.intro (unhide HCB _ hM4.rb.below) hM4.rb; have u0 : w4.cell? ⟨W0.heap.size, 0, none⟩ = some (.int .i64 0) := hM4.cell 0; have u1 : w4.cell? ⟨W0.heap.size, 1, none⟩ = some (.int .u8 0) := hM4.cell 1; have u2 : w4.cell? ⟨W0.heap.size, 2, none⟩ = some (.int .u8 0) := hM4.cell 2; have u3 : w4.cell? ⟨W0.heap.size, 3, none⟩ = some (.int .u8 0) := hM4.cell 3; have u4 : w4.cell? ⟨W0.heap.size, 4, none⟩ = some (.int .u64 0) := hM4.cell 4; have v0 : ∀ i, w4.frozen? ⟨W0.heap.size, i, none⟩ = false := hM4.free))
    all_goals (go_wp2_with fail; go_meet; first | exact ⟨_, rfl, hide (MB.new hS4.2 _ _)⟩ | exact ⟨_, rfl, hide (((((hM4.set 0 (.int .i64 (h : Int))).set 1 (.int .u8 d0)).set 2 (.int .u8 d1)).set 3 (.int .u8 d2)).set 4 (.int .u64 n))⟩)
  case rest =>
  obtain ⟨A, rfl, HM⟩ := hcut
  clear hSd hR0 hz HC HCB hh6
  have hM := (unhide HM).drew
  have hA : A ≠ w.heap.size := by have := hM.gt; omega
  have a0 : wc.cell? ⟨A, 0, none⟩ = some (.int .i64 (h : Int)) := hM.cell 0
  have a1 : wc.cell? ⟨A, 1, none⟩ = some (.int .u8 d0) := hM.cell 1
  have a2 : wc.cell? ⟨A, 2, none⟩ = some (.int .u8 d1) := hM.cell 2
  have a3 : wc.cell? ⟨A, 3, none⟩ = some (.int .u8 d2) := hM.cell 3
  have a4 : wc.cell? ⟨A, 4, none⟩ = some (.int .u64 n) := hM.cell 4
  have r0 : wc.cell? ⟨w.heap.size, 0, none⟩ = some (.int .i64 0) := hM.rb.cell 0
  have r1 : wc.cell? ⟨w.heap.size, 1, none⟩ = some (.int .u8 0) := hM.rb.cell 1
  have r2 : wc.cell? ⟨w.heap.size, 2, none⟩ = some (.int .u8 0) := hM.rb.cell 2
  have r3 : wc.cell? ⟨w.heap.size, 3, none⟩ = some (.int .u8 0) := hM.rb.cell 3
  have r4 : wc.cell? ⟨w.heap.size, 4, none⟩ = some (.int .u64 0) := hM.rb.cell 4
  have rf : ∀ i, wc.frozen? ⟨w.heap.size, i, none⟩ = false := hM.rb.free
  clear hM
  go_wp2_with fail
  go_region
  go_wp2
  refine bodyPost_ret (v := .tuple #[ownRepV (h : Int) d0 d1 d2 n, .bool bb]) ?_ rfl ⟨rfl, ?_⟩
  · simp [results, Try.results34, go_sem, ownRepV, r0, r1, r2, r3, r4]
  · exact (((((((unhide HM).setR 0 _).setR 1 _).setR 2 _).setR 3 _).setR 4 _).drew).rb.below

end Go.Proofs.Ytbjobbkgelipmaa

/-
  The walk of tithe's Verify.
-/
namespace Go.Proofs.Ytbjobbkgelipmaa
open Go.RowKit

set_option maxHeartbeats 1000000 in
set_option maxRecDepth 100000 in
theorem ownver_norep (v1 v2 : Value) (w : World) (hR : Calls Try.prog 34 #[v1] w fun e w' => (∃ h d0 d1 d2 n : Int, e = .returned (.tuple #[ownRepV h d0 d1 d2 n, .bool false])) ∧ Below w.heap.size w w') :
    Calls Try.prog 20 #[v1, v2] w fun e w' => e = .returned (verV [] 0 8) ∧ Below w.heap.size w w' := by
  have HR := hide hR
  clear hR
  go_enter Try.func20, Try.ntmps20
  go_wp2_with fail
  refine (unhide HR).mono ?_
  rintro e w1 ⟨⟨h, d0, d1, d2, n, rfl⟩, hb1⟩
  have HB := hide hb1
  clear hb1 HR
  unfold ownRepV
  go_wp2
  go_ret3
  exact ⟨rfl, (unhide HB).alloc (unhide HB).size _⟩

set_option maxHeartbeats 1000000 in
set_option maxRecDepth 100000 in
theorem ownver_no (v1 v2 : Value) (w : World) (h d0 d1 d2 n : Int) (hR : Calls Try.prog 34 #[v1] w fun e w' => e = .returned (.tuple #[ownRepV h d0 d1 d2 n, .bool true]) ∧ Below w.heap.size w w')
    (hP : ∀ w', Below w.heap.size w w' → Calls Try.prog 35 #[ownRepV h d0 d1 d2 n, v2] w' fun e w'' => e = .returned (.tuple #[proofZ, .bool false]) ∧ Below w'.heap.size w' w'') :
    Calls Try.prog 20 #[v1, v2] w fun e w' => e = .returned (verV [] 0 9) ∧ Below w.heap.size w w' := by
  have HR := hide hR
  have HP := fun w' hb => hide (hP w' hb)
  clear hR hP
  unfold ownRepV at *
  go_enter Try.func20, Try.ntmps20
  go_wp2_with fail
  refine (unhide HR).mono ?_
  rintro e w1 ⟨rfl, hb1⟩
  have hA := hb1.alloc hb1.size (Obj.cells #[Value.int IntKind.i64 h, Value.int IntKind.u8 d0, Value.int IntKind.u8 d1, Value.int IntKind.u8 d2, Value.int IntKind.u64 n] 90)
  have HA := hide hA
  have hz := hb1.size
  clear hb1 HR hA
  go_wp2_with fail
  refine (unhide (HP _ (unhide HA))).mono ?_
  rintro e w2 ⟨rfl, hb2⟩
  have hB := (unhide HA).trans (hb2.mono (by simp; omega))
  have HB := hide (hB.alloc hB.size (Obj.cells #[Value.int IntKind.i64 0, Value.string ⟨#[]⟩, Value.int IntKind.u64 0, Value.int IntKind.u64 0, Value.slice none 0 0] 79))
  clear hb2 hB HA HP
  unfold proofZ
  go_wp2
  go_ret3
  exact ⟨rfl, unhide HB⟩

set_option maxHeartbeats 1000000 in
set_option maxRecDepth 100000 in
theorem ownver_yes (v1 v2 : Value) (w : World) (h d0 d1 d2 n : Int) (pl bal salt : Int) (nm : ByteArray) (k c : Nat) (hR : Calls Try.prog 34 #[v1] w fun e w' => e = .returned (.tuple #[ownRepV h d0 d1 d2 n, .bool true]) ∧ Below w.heap.size w w')
    (hP : ∀ w', Below w.heap.size w w' → Calls Try.prog 35 #[ownRepV h d0 d1 d2 n, v2] w' fun e w'' => (∃ a : Option Addr, e = .returned (.tuple #[proofV pl nm bal salt a k c, .bool true])) ∧ Below w'.heap.size w' w'') :
    Calls Try.prog 20 #[v1, v2] w fun e w' => e = .returned (.tuple #[.string nm, .int .u64 bal, .int .i64 0]) ∧ Below w.heap.size w w' := by
  have HR := hide hR
  have HP := fun w' hb => hide (hP w' hb)
  clear hR hP
  unfold ownRepV proofV at *
  go_enter Try.func20, Try.ntmps20
  go_wp2_with fail
  refine (unhide HR).mono ?_
  rintro e w1 ⟨rfl, hb1⟩
  have hA := hb1.alloc hb1.size (Obj.cells #[Value.int IntKind.i64 h, Value.int IntKind.u8 d0, Value.int IntKind.u8 d1, Value.int IntKind.u8 d2, Value.int IntKind.u64 n] 90)
  have HA := hide hA
  have hz := hb1.size
  clear hb1 HR hA
  go_wp2_with fail
  refine (unhide (HP _ (unhide HA))).mono ?_
  rintro e w2 ⟨⟨a, rfl⟩, hb2⟩
  have m3 := heap_alloc_new w2 (Obj.cells #[Value.int IntKind.i64 pl, Value.string nm, Value.int IntKind.u64 bal, Value.int IntKind.u64 salt, Value.slice a k c] 79)
  have hB := (unhide HA).trans (hb2.mono (by simp; omega))
  have HB3 := hide (hB.alloc hB.size (Obj.cells #[Value.int IntKind.i64 pl, Value.string nm, Value.int IntKind.u64 bal, Value.int IntKind.u64 salt, Value.slice a k c] 79))
  clear hb2 hB HA HP
  go_upto_region 5 with fail
  generalize (w2.alloc (Obj.cells #[Value.int IntKind.i64 pl, Value.string nm, Value.int IntKind.u64 bal, Value.int IntKind.u64 salt, Value.slice a k c] 79)) = W3 at *
  generalize w2.heap.size = B at *
  have e1 : W3.cell? ⟨B, 1, none⟩ = some (.string nm) := block_cell m3
  have e2 : W3.cell? ⟨B, 2, none⟩ = some (.int .u64 bal) := block_cell m3
  clear m3
  go_wp2_with fail
  go_quiet (fail)
  go_wp2
  go_ret3
  refine ⟨rfl, below_drewN (unhide HB3) _⟩

/-- What readAccepted answers by a report: of a proof that is none, or not of this report. -/
theorem rdacc_bad {R S : List UInt8} (v : Value) (w : World) (hok : repOk R) (hno : ¬ verOk R S) (hv : ∀ w', Below w.heap.size w w' → Calls Try.prog 50 #[v, .int .i64 (repH R : Int)] w' fun e w'' => Below w'.heap.size w' w'' ∧
      ((¬ prfOk (repH R) S ∧ ∃ (pl : Int) (nm : ByteArray) (bal salt : Int) (a : Option Addr) (k c : Nat), e = .returned (.tuple #[proofV pl nm bal salt a k c, .bool false])) ∨
       (prfOk (repH R) S ∧ ∃ g, e = .returned (.tuple #[proofV (bAt S 1 : Int) ⟨(accName S).toArray⟩ (accBal S) (accSalt S) (some ⟨g, 0, none⟩) (repH R) (repH R), .bool true]) ∧ g < w''.heap.size ∧ SidesAt w'' g (sidesOf (S.drop (19 + bAt S 2)) (repH R))))) :
    Calls Try.prog 35 #[ownRepV (repH R : Int) ((repRoot R).1.1.toNat : Int) ((repRoot R).1.2.1.toNat : Int) ((repRoot R).1.2.2.toNat : Int) (repRoot R).2, v] w fun e w' => e = .returned (.tuple #[proofZ, .bool false]) ∧ Below w.heap.size w w' := by
  by_cases hp : prfOk (repH R) S
  · have hao : accOk (repH R) (repRoot R) S = accTexts (repH R) (repRoot R) S := by unfold accOk; rw [if_neg (Int.not_lt.2 hp.2.1)]
    have hb : (accTexts (repH R) (repRoot R) S).isSome = false := by
      cases hb : (accTexts (repH R) (repRoot R) S).isSome with
      | false => rfl
      | true => exact absurd ⟨hok, hp.1, by rw [hao]; exact hb⟩ hno
    have := rdacc_acc v w (repH R : Int) ((repRoot R).1.1.toNat : Int) ((repRoot R).1.2.1.toNat : Int) ((repRoot R).1.2.2.toNat : Int) (repRoot R).2 (bAt S 1 : Int) (accBal S) (accSalt S) ⟨(accName S).toArray⟩ (repH R) (repH R) (accTexts (repH R) (repRoot R) S).isSome (fun _ _ => True) (fun _ _ _ _ _ => trivial) (fun w' hb' => (hv w' hb').mono fun e w'' ⟨hb'', hc⟩ => by
      rcases hc with ⟨hn, _⟩ | ⟨_, g, he, hg, hsd⟩
      · exact absurd hp hn
      · exact ⟨⟨_, he, trivial, fun w3 hb3 => accepts_any (repH R) (repRoot R) S g w3 hok.1.2 hp.1 hp.2.1 hp.2.2 (by have := hb3.size; omega) (hsd.below hb3 hg)⟩, hb''⟩)
    rw [hb] at this
    refine this.mono fun e w' ⟨hc, hb'⟩ => ?_
    rcases hc with ⟨_, he⟩ | ⟨hf, _⟩
    · exact ⟨he, hb'⟩
    · cases hf
  · refine rdacc_no v w _ _ _ _ _ (fun w' hb' => (hv w' hb').mono fun e w'' ⟨hb'', hc⟩ => ?_)
    rcases hc with ⟨_, he⟩ | ⟨hy, _⟩
    · exact ⟨he, hb''⟩
    · exact absurd hy hp

/-- What readAccepted answers by a report: of a proof that it accepts; where its sides lie. -/
theorem rdacc_yes {R S : List UInt8} (v : Value) (w : World) (hy : verOk R S) (hv : ∀ w', Below w.heap.size w w' → Calls Try.prog 50 #[v, .int .i64 (repH R : Int)] w' fun e w'' => Below w'.heap.size w' w'' ∧
      ((¬ prfOk (repH R) S ∧ ∃ (pl : Int) (nm : ByteArray) (bal salt : Int) (a : Option Addr) (k c : Nat), e = .returned (.tuple #[proofV pl nm bal salt a k c, .bool false])) ∨
       (prfOk (repH R) S ∧ ∃ g, e = .returned (.tuple #[proofV (bAt S 1 : Int) ⟨(accName S).toArray⟩ (accBal S) (accSalt S) (some ⟨g, 0, none⟩) (repH R) (repH R), .bool true]) ∧ g < w''.heap.size ∧ SidesAt w'' g (sidesOf (S.drop (19 + bAt S 2)) (repH R))))) :
    Calls Try.prog 35 #[ownRepV (repH R : Int) ((repRoot R).1.1.toNat : Int) ((repRoot R).1.2.1.toNat : Int) ((repRoot R).1.2.2.toNat : Int) (repRoot R).2, v] w fun e w' =>
      (∃ g, e = .returned (.tuple #[proofV (bAt S 1 : Int) ⟨(accName S).toArray⟩ (accBal S) (accSalt S) (some ⟨g, 0, none⟩) (repH R) (repH R), .bool true]) ∧ g < w'.heap.size ∧ SidesAt w' g (sidesOf (S.drop (19 + bAt S 2)) (repH R))) ∧ Below w.heap.size w w' := by
  have hp : prfOk (repH R) S := by
    by_cases hp : prfOk (repH R) S
    · exact hp
    · exact absurd hy (notOk_of hp)
  have hao : accOk (repH R) (repRoot R) S = accTexts (repH R) (repRoot R) S := by unfold accOk; rw [if_neg (Int.not_lt.2 hp.2.1)]
  have hb : (accTexts (repH R) (repRoot R) S).isSome = true := by rw [← hao]; exact hy.2.2
  have := rdacc_acc v w (repH R : Int) ((repRoot R).1.1.toNat : Int) ((repRoot R).1.2.1.toNat : Int) ((repRoot R).1.2.2.toNat : Int) (repRoot R).2 (bAt S 1 : Int) (accBal S) (accSalt S) ⟨(accName S).toArray⟩ (repH R) (repH R) (accTexts (repH R) (repRoot R) S).isSome
    (fun a W => ∃ g, a = some ⟨g, 0, none⟩ ∧ g < W.heap.size ∧ SidesAt W g (sidesOf (S.drop (19 + bAt S 2)) (repH R))) (fun a W W' ⟨g, e1, e2, e4⟩ hb => ⟨g, e1, by have := hb.size; omega, e4.below hb e2⟩) (fun w' hb' => (hv w' hb').mono fun e w'' ⟨hb'', hc⟩ => by
    rcases hc with ⟨hn, _⟩ | ⟨_, g, he, hg, hsd⟩
    · exact absurd hp hn
    · exact ⟨⟨_, he, ⟨g, rfl, hg, hsd⟩, fun w3 hb3 => accepts_any (repH R) (repRoot R) S g w3 hy.1.1.2 hp.1 hp.2.1 hp.2.2 (by have := hb3.size; omega) (hsd.below hb3 hg)⟩, hb''⟩)
  rw [hb] at this
  refine this.mono fun e w' ⟨hc, hb'⟩ => ?_
  rcases hc with ⟨hf, _⟩ | ⟨_, a, W, he, ⟨g, rfl, hg, hs⟩, hc0, hsz, hW⟩
  · cases hf
  · refine ⟨⟨g, he, by omega, fun k hk => ?_⟩, hb'⟩
    have hne : g ≠ w.heap.size + 1 := fun e => by
      subst e
      have h0 := (hs 0 (by omega)).1
      rw [show w.heap.size + 1 = w.heap.size + 1 from rfl, hc0] at h0
      simp at h0
    have hk' := hs k hk
    have ec : ∀ j, w'.cell? ⟨g, j, none⟩ = W.cell? ⟨g, j, none⟩ := fun j => World.cell?_of_block (w := W) (hW g hne)
    rw [ec, ec, ec, ec]
    exact hk'

/-- What readReport answers. -/
def RepSay (R : List UInt8) (e : Ending) : Prop := (repOk R ∧ e = .returned (.tuple #[ownRepV (repH R : Int) ((repRoot R).1.1.toNat : Int) ((repRoot R).1.2.1.toNat : Int) ((repRoot R).1.2.2.toNat : Int) (repRoot R).2, .bool true])) ∨ (¬ repOk R ∧ ∃ h d0 d1 d2 n : Int, e = .returned (.tuple #[ownRepV h d0 d1 d2 n, .bool false]))
theorem RepSay.yes {R : List UInt8} {e : Ending} (h : RepSay R e) (hok : repOk R) : e = .returned (.tuple #[ownRepV (repH R : Int) ((repRoot R).1.1.toNat : Int) ((repRoot R).1.2.1.toNat : Int) ((repRoot R).1.2.2.toNat : Int) (repRoot R).2, .bool true]) := by
  rcases h with ⟨_, h⟩ | ⟨hn, _⟩
  · exact h
  · exact absurd hok hn
theorem RepSay.no {R : List UInt8} {e : Ending} (h : RepSay R e) (hok : ¬ repOk R) : ∃ h d0 d1 d2 n : Int, e = .returned (.tuple #[ownRepV h d0 d1 d2 n, .bool false]) := by
  rcases h with ⟨hy, _⟩ | ⟨_, h⟩
  · exact absurd hy hok
  · exact h

/-- Verify, given what readReport and readProof answer. -/
theorem ownver_of (R S : List UInt8) (v1 v2 : Value) (w : World)
    (hR : Calls Try.prog 34 #[v1] w fun e w' => RepSay R e ∧ Below w.heap.size w w')
    (hv : repOk R → ∀ w', Below w.heap.size w w' → Calls Try.prog 50 #[v2, .int .i64 (repH R : Int)] w' fun e w'' => Below w'.heap.size w' w'' ∧
      ((¬ prfOk (repH R) S ∧ ∃ (pl : Int) (nm : ByteArray) (bal salt : Int) (a : Option Addr) (k c : Nat), e = .returned (.tuple #[proofV pl nm bal salt a k c, .bool false])) ∨
       (prfOk (repH R) S ∧ ∃ g, e = .returned (.tuple #[proofV (bAt S 1 : Int) ⟨(accName S).toArray⟩ (accBal S) (accSalt S) (some ⟨g, 0, none⟩) (repH R) (repH R), .bool true]) ∧ g < w''.heap.size ∧ SidesAt w'' g (sidesOf (S.drop (19 + bAt S 2)) (repH R))))) :
    Calls Try.prog 20 #[v1, v2] w fun e w' => e = .returned (verV (verAns R S).1 (verAns R S).2.1 (verAns R S).2.2) ∧ Below w.heap.size w w' := by
  by_cases hok : repOk R
  · replace hR := hR.mono fun e w' (h : RepSay R e ∧ _) => And.intro (h.1.yes hok) h.2
    by_cases hy : verOk R S
    · rw [verAns_yes hy]
      exact ownver_yes v1 v2 w _ _ _ _ _ (bAt S 1 : Int) (accBal S) (accSalt S) ⟨(accName S).toArray⟩ (repH R) (repH R) hR (fun w' hb => (rdacc_yes v2 w' hy fun w'' hb' => hv hok w'' (hb.trans (hb'.mono hb.size))).mono fun e w'' ⟨⟨g, he, _⟩, hb''⟩ => ⟨⟨_, he⟩, hb''⟩)
    · rw [verAns_no hok hy]
      exact ownver_no v1 v2 w _ _ _ _ _ hR (fun w' hb => rdacc_bad v2 w' hok hy fun w'' hb' => hv hok w'' (hb.trans (hb'.mono hb.size)))
  · replace hR := hR.mono fun e w' (h : RepSay R e ∧ _) => And.intro (h.1.no hok) h.2
    rw [verAns_norep hok]
    exact ownver_norep v1 v2 w hR

/-- readReport, in all cases. -/
theorem rdrep_all (R : List UInt8) (b c : Nat) (w : World) (hc : R.length ≤ c) (hm : c ≤ 9223372036854775807) (hb : b < w.heap.size) (hB : BytesAt w b 0 R) :
    Calls Try.prog 34 #[.slice (some ⟨b, 0, none⟩) R.length c] w fun e w' => RepSay R e ∧ Below w.heap.size w w' := by
  by_cases hh : repHead R
  · have hRR := rdrep_good b c R w hb hB hh (by have := hh.1; omega) (by omega)
    rw [← hh.1] at hRR
    by_cases hle : (repRoot R).2 ≤ maxS
    · rw [show leMax (repRoot R).2 = true from decide_eq_true hle] at hRR
      exact hRR.mono fun e w' ⟨he, hb⟩ => ⟨.inl ⟨⟨hh, hle⟩, he⟩, hb⟩
    · rw [show leMax (repRoot R).2 = false from decide_eq_false hle] at hRR
      exact hRR.mono fun e w' ⟨he, hb⟩ => ⟨.inr ⟨fun h => hle h.2, _, _, _, _, _, he⟩, hb⟩
  · exact (rdrep_bad b R.length c R w rfl hb hB hh).mono fun e w' ⟨he, hb⟩ => ⟨.inr ⟨fun h => hh h.1, _, _, _, _, _, he⟩, hb⟩

/-- Verify, whatever room lies behind. -/
theorem ownver_caps (R S : List UInt8) (b1 b2 c1 c2 : Nat) (w : World) (hr : R.length ≤ c1) (hr2 : c1 ≤ 9223372036854775807) (hs : S.length ≤ c2) (hs0 : repH R = 0 → S.length < c2) (hs2 : c2 ≤ 9223372036854775807) (h1 : b1 < w.heap.size) (h2 : b2 < w.heap.size) (hB1 : BytesAt w b1 0 R) (hB2 : BytesAt w b2 0 S) :
    Calls Try.prog 20 #[.slice (some ⟨b1, 0, none⟩) R.length c1, .slice (some ⟨b2, 0, none⟩) S.length c2] w fun e w' => e = .returned (verV (verAns R S).1 (verAns R S).2.1 (verAns R S).2.2) ∧ Below w.heap.size w w' :=
  ownver_of R S _ _ w (rdrep_all R b1 c1 w hr hr2 h1 hB1) (fun hok w' hb => rdpr_all b2 c2 (repH R) S w' hs hs0 hs2 hok.1.2 (by have := hb.size; omega) (fun j hj => (hb.cell (p := ⟨b2, 0 + j, none⟩) h2).trans (hB2 j hj)))

theorem ownver_any (r s : ByteArray) (b1 b2 : Nat) (w : World) (hr : r.size ≤ 140737488351232) (hs : s.size ≤ 140737488351232) (h1 : b1 < w.heap.size) (h2 : b2 < w.heap.size) (hB1 : BytesAt w b1 0 r.data.toList) (hB2 : BytesAt w b2 0 s.data.toList) :
    Calls Try.prog 20 #[.slice (some ⟨b1, 0, none⟩) r.size (r.size + 8), .slice (some ⟨b2, 0, none⟩) s.size (s.size + 8)] w fun e w' => e = .returned (verV (verAns r.data.toList s.data.toList).1 (verAns r.data.toList s.data.toList).2.1 (verAns r.data.toList s.data.toList).2.2) ∧ Below w.heap.size w w' := by
  have lr : r.data.toList.length = r.size := by simp
  have ls : s.data.toList.length = s.size := by simp
  have h := ownver_caps r.data.toList s.data.toList b1 b2 (r.size + 8) (s.size + 8) w (by omega) (by omega) (by omega) (fun _ => by omega) (by omega) h1 h2 hB1 hB2
  rw [lr, ls] at h
  exact h

end Go.Proofs.Ytbjobbkgelipmaa

/-
  What Extract answers, in plain words.
-/
namespace Go.Proofs.Ytbjobbkgelipmaa
open Go.RowKit

/-- The texts at a place of a level, of proofs that are each a place and its texts. -/
def textsAt (lv pl : Nat) (L : List (Nat × List (List UInt8))) : List (List UInt8) := (L.filter fun p => decide (p.1 / 2 ^ lv = pl)).map fun p => p.2.getD lv []

/-- The first text, and the first one that is another. -/
def firstTwo : List (List UInt8) → Option (List UInt8 × List UInt8)
  | [] => none
  | x :: r => (r.find? fun t => decide (t ≠ x)).map fun y => (x, y)

theorem firstTwo_snoc (x t : List UInt8) (r : List (List UInt8)) : firstTwo ((x :: r) ++ [t]) = match firstTwo (x :: r) with
    | some p => some p
    | none => if t = x then none else some (x, t) := by
  simp only [firstTwo, List.cons_append, List.find?_append]
  cases h : r.find? (fun t => decide (t ≠ x)) with
  | some y => simp
  | none =>
    by_cases e : t = x
    · simp [e]
    · simp [e]

theorem firstTwo_some {l : List (List UInt8)} {x y : List UInt8} (h : firstTwo l = some (x, y)) : x ≠ y ∧ x ∈ l ∧ y ∈ l := by
  cases l with
  | nil => cases h
  | cons a r =>
    simp only [firstTwo, Option.map_eq_some_iff, Prod.mk.injEq] at h
    obtain ⟨z, hz, rfl, rfl⟩ := h
    have h1 := List.find?_some hz
    have h2 := List.mem_of_find?_eq_some hz
    refine ⟨fun e => ?_, List.mem_cons_self .., List.mem_cons_of_mem _ h2⟩
    simp [e] at h1

theorem firstTwo_none {l : List (List UInt8)} (h : firstTwo l = none) : ∀ x ∈ l, ∀ y ∈ l, x = y := by
  cases l with
  | nil => intro x hx; cases hx
  | cons a r =>
    simp only [firstTwo, Option.map_eq_none_iff, List.find?_eq_none] at h
    have k : ∀ x ∈ a :: r, x = a := fun x hx => by
      rcases List.mem_cons.1 hx with rfl | hx
      · rfl
      · have := h x hx
        simpa using this
    intro x hx y hy
    rw [k x hx, k y hy]

/-- Where a place of a level stands in a row of all, the root's first. -/
def placeNo (h lv pl : Nat) : Nat := 2 ^ (h - lv) + pl

theorem placeNo_lt {h lv pl : Nat} (h2 : pl < 2 ^ (h - lv)) : placeNo h lv pl < 2 ^ (h + 1) := by
  have : 2 ^ (h - lv + 1) ≤ 2 ^ (h + 1) := Nat.pow_le_pow_right (by omega) (by omega)
  rw [Nat.pow_succ] at this
  unfold placeNo
  omega

theorem placeNo_lv {h lv pl lv' pl' : Nat} (h1 : lv ≤ h) (h2 : pl < 2 ^ (h - lv)) (hl : lv' < lv) : placeNo h lv pl < placeNo h lv' pl' := by
  have : 2 ^ (h - lv + 1) ≤ 2 ^ (h - lv') := Nat.pow_le_pow_right (by omega) (by omega)
  rw [Nat.pow_succ] at this
  unfold placeNo
  omega

theorem placeNo_inj {h lv pl lv' pl' : Nat} (h1 : lv ≤ h) (h1' : lv' ≤ h) (h2 : pl < 2 ^ (h - lv)) (h2' : pl' < 2 ^ (h - lv')) (e : placeNo h lv pl = placeNo h lv' pl') : lv = lv' ∧ pl = pl' := by
  rcases Nat.lt_trichotomy lv lv' with h3 | h3 | h3
  · have := placeNo_lv (pl := pl') (pl' := pl) h1' h2' h3
    omega
  · subst h3
    unfold placeNo at e
    exact ⟨rfl, by omega⟩
  · have := placeNo_lv (pl := pl) (pl' := pl') h1 h2 h3
    omega

/-- No place ahead of a number has two texts. -/
def NoneBefore (h : Nat) (L : List (Nat × List (List UInt8))) (m : Nat) : Prop := ∀ lv pl, lv ≤ h → pl < 2 ^ (h - lv) → placeNo h lv pl < m → firstTwo (textsAt lv pl L) = none

/-- The two texts of proofs that are accepted. -/
def ExtR (h : Nat) (L : List (Nat × List (List UInt8))) (x y : List UInt8) : Prop :=
  (∃ lv pl, lv ≤ h ∧ pl < 2 ^ (h - lv) ∧ firstTwo (textsAt lv pl L) = some (x, y) ∧ NoneBefore h L (placeNo h lv pl)) ∨ (x = [] ∧ y = [] ∧ NoneBefore h L (2 ^ (h + 1)))

theorem ExtR.unique {h : Nat} {L : List (Nat × List (List UInt8))} {x y x' y' : List UInt8} (a : ExtR h L x y) (b : ExtR h L x' y') : x = x' ∧ y = y' := by
  rcases a with ⟨lv, pl, h1, h2, h3, h4⟩ | ⟨rfl, rfl, h4⟩
  · rcases b with ⟨lv', pl', k1, k2, k3, k4⟩ | ⟨rfl, rfl, k4⟩
    · rcases Nat.lt_trichotomy (placeNo h lv pl) (placeNo h lv' pl') with e | e | e
      · rw [k4 lv pl h1 h2 e] at h3; cases h3
      · obtain ⟨rfl, rfl⟩ := placeNo_inj h1 k1 h2 k2 e
        rw [h3] at k3
        simp only [Option.some.injEq, Prod.mk.injEq] at k3
        exact k3
      · rw [h4 lv' pl' k1 k2 e] at k3; cases k3
    · rw [k4 lv pl h1 h2 (placeNo_lt h2)] at h3; cases h3
  · rcases b with ⟨lv', pl', k1, k2, k3, k4⟩ | ⟨rfl, rfl, k4⟩
    · rw [h4 lv' pl' k1 k2 (placeNo_lt k2)] at k3; cases k3
    · exact ⟨rfl, rfl⟩

/-- A proof's place and texts. -/
def dataOf (h : Nat) (root : Dg × Int) (l : List UInt8) : Nat × List (List UInt8) := (bAt l 1, (accOk h root l).getD [])

/-- What Extract answers. -/
def ExtAns (R : List UInt8) (Ls : List (List UInt8)) (x y : List UInt8) (e : Int) : Prop :=
  (¬ repOk R ∧ x = [] ∧ y = [] ∧ e = 8) ∨ (repOk R ∧ (∃ l ∈ Ls, ¬ verOk R l) ∧ x = [] ∧ y = [] ∧ e = 9) ∨
  (repOk R ∧ (∀ l ∈ Ls, verOk R l) ∧ ¬ (Ls.map accName).Nodup ∧ x = [] ∧ y = [] ∧ e = 3) ∨
  (repOk R ∧ (∀ l ∈ Ls, verOk R l) ∧ (Ls.map accName).Nodup ∧ ExtR (repH R) (Ls.map (dataOf (repH R) (repRoot R))) x y ∧ e = 0)

theorem ExtAns.unique {R : List UInt8} {Ls : List (List UInt8)} {x y x' y' : List UInt8} {e e' : Int} (a : ExtAns R Ls x y e) (b : ExtAns R Ls x' y' e') : x = x' ∧ y = y' ∧ e = e' := by
  rcases a with ⟨a1, rfl, rfl, rfl⟩ | ⟨a1, ⟨l, hl, hn⟩, rfl, rfl, rfl⟩ | ⟨a1, a2, a3, rfl, rfl, rfl⟩ | ⟨a1, a2, a3, a4, rfl⟩ <;>
  rcases b with ⟨b1, rfl, rfl, rfl⟩ | ⟨b1, ⟨l', hl', hn'⟩, rfl, rfl, rfl⟩ | ⟨b1, b2, b3, rfl, rfl, rfl⟩ | ⟨b1, b2, b3, b4, rfl⟩
  all_goals first
    | exact ⟨rfl, rfl, rfl⟩
    | exact absurd a1 b1
    | exact absurd b1 a1
    | exact absurd (b2 l hl) hn
    | exact absurd (a2 l' hl') hn'
    | exact absurd b3 a3
    | exact absurd a3 b3
    | exact ⟨(a4.unique b4).1, (a4.unique b4).2, rfl⟩

end Go.Proofs.Ytbjobbkgelipmaa

/-
  The walks of bytes.Equal and of tithe's texts.note: the texts at one place.
-/
namespace Go.Proofs.Ytbjobbkgelipmaa
open Go.RowKit

/-- A text that lies in memory of its own. -/
def TextIs (N : Nat) (W : World) (v : Value) (t : List UInt8) : Prop := t ≠ [] ∧ ∃ g cap cur, v = .slice (some ⟨g, 0, none⟩) t.length cap ∧ N ≤ g ∧ W.heap[g]? = some (.cells cur 5 (0, 0)) ∧ t.length ≤ cap ∧ cap ≤ maxLen ∧ cur.size = cap ∧ cur.toList.take t.length = byteVals t

theorem TextIs.of {N : Nat} {W : World} {v : Value} {n : Nat} {t : List UInt8} (h : W.ownsRow N 5 1 v n (byteVals t)) (ht : t ≠ []) : TextIs N W v t := by
  have hl : (byteVals t).length = t.length := by simp [byteVals]
  have hn : n = t.length := by have := h.1; omega
  subst hn
  rcases h.2 with ⟨_, h0⟩ | ⟨g, cap, cur, hv, hb, hg, hn, hc, hs, hx⟩
  · exact absurd (List.eq_nil_of_length_eq_zero h0) ht
  · exact ⟨ht, g, cap, cur, hv, hb, hg, hn, hc, by omega, by rw [Nat.mul_one] at hx; exact hx⟩
theorem TextIs.owns {N : Nat} {W : World} {v : Value} {t : List UInt8} (h : TextIs N W v t) : W.ownsRow N 5 1 v t.length (byteVals t) := by
  obtain ⟨ht, g, cap, cur, hv, hb, hg, hn, hc, hs, hx⟩ := h
  exact ⟨by simp [byteVals], .inr ⟨g, cap, cur, hv, hb, hg, hn, hc, by omega, by rw [Nat.mul_one]; exact hx⟩⟩
theorem TextIs.same {N : Nat} {W W' : World} {v : Value} {t : List UInt8} (h : TextIs N W v t) (e : ∀ g, v.ownBlock = some g → W'.heap[g]? = W.heap[g]?) : TextIs N W' v t := by
  obtain ⟨ht, g, cap, cur, rfl, hb, hg, r⟩ := h
  exact ⟨ht, g, cap, cur, rfl, hb, (e g rfl).trans hg, r⟩
theorem TextIs.later {N : Nat} {W W' : World} {v : Value} {t : List UInt8} (h : TextIs N W v t) (hb : Below W.heap.size W W') : TextIs N W' v t := by
  obtain ⟨ht, g, cap, cur, rfl, hN, hg, r⟩ := h
  exact ⟨ht, g, cap, cur, rfl, hN, (hb.block _ (Array.getElem?_eq_some_iff.1 hg).1).trans hg, r⟩
theorem TextIs.mono {N M : Nat} {W : World} {v : Value} {t : List UInt8} (h : TextIs N W v t) (hM : M ≤ N) : TextIs M W v t := by
  obtain ⟨ht, g, cap, cur, rfl, hN, r⟩ := h
  exact ⟨ht, g, cap, cur, rfl, by omega, r⟩
theorem TextIs.block {N : Nat} {W : World} {v : Value} {t : List UInt8} (h : TextIs N W v t) : ∃ g cap, v = .slice (some ⟨g, 0, none⟩) t.length cap ∧ v.ownBlock = some g ∧ N ≤ g ∧ g < W.heap.size ∧ (∃ cur, W.heap[g]? = some (.cells cur 5 (0, 0))) ∧ ∀ j (hj : j < t.length), W.cell? ((⟨g, 0, none⟩ : Addr).add j) = some (.int .u8 (t[j].toNat : Int)) := by
  obtain ⟨ht, g, cap, cur, rfl, hN, hg, hn, hc, hs, hx⟩ := h
  refine ⟨g, cap, rfl, rfl, hN, (Array.getElem?_eq_some_iff.1 hg).1, ⟨cur, hg⟩, fun j hj => ?_⟩
  have h1 : (byteVals t)[j]? = some (.int .u8 (t[j].toNat : Int)) := by simp [byteVals, List.getElem?_eq_getElem hj]
  rw [← hx, List.getElem?_take] at h1
  split at h1
  · rw [addr_add, Nat.zero_add]
    simp only [World.cell?, hg]
    simpa using h1
  · omega

theorem TextIs.cells {N : Nat} {W : World} {v : Value} {t : List UInt8} {g : Nat} (h : TextIs N W v t) (hg : v.ownBlock = some g) : ∃ cur, W.heap[g]? = some (.cells cur 5 (0, 0)) := by
  obtain ⟨g', _, _, e, _, _, hc, _⟩ := h.block
  have := e.symm.trans hg
  simp only [Option.some.injEq] at this
  subst this
  exact hc

set_option maxRecDepth 100000 in
theorem bequal_any {N N' : Nat} {W : World} {v v' : Value} {t t' : List UInt8} (h : TextIs N W v t) (h' : TextIs N' W v' t') :
    Calls Try.prog 86 #[v, v'] W fun e W' => e = .returned (.bool (decide (t = t'))) ∧ W' = W := by
  obtain ⟨g, cap, rfl, _, _, _, _, hc⟩ := h.block
  obtain ⟨g', cap', rfl, _, _, _, _, hc'⟩ := h'.block
  have hcv := run_convert_bytes_back (P := Try.prog) W 43 9 5 ⟨g, 0, none⟩ cap t Try.underlying43 Try.underlying5 Try.underlying9 hc
  have hcv' := run_convert_bytes_back (P := Try.prog) W 43 9 5 ⟨g', 0, none⟩ cap' t' Try.underlying43 Try.underlying5 Try.underlying9 hc'
  have hE2 : (t == t') = decide (t = t') := by by_cases e : t = t' <;> simp [e]
  clear hc hc'
  go_enter Try.func86, Try.ntmps86
  go_wp2
  go_ret
  exact ⟨by simp, rfl⟩

/-- The texts at the place i of a table. -/
def TxAt (N K : Nat) (W : World) (B i : Nat) (ts : List (List UInt8)) : Prop :=
  (ts = [] ∧ W.cell? ⟨B, 2 * i, none⟩ = some (.slice none 0 0) ∧ W.cell? ⟨B, 2 * i + 1, none⟩ = some (.slice none 0 0)) ∨
  (∃ x r v g, ts = x :: r ∧ W.cell? ⟨B, 2 * i, none⟩ = some v ∧ TextIs N W v x ∧ v.ownBlock = some g ∧ g < K ∧ g ≠ B ∧
    ((firstTwo ts = none ∧ W.cell? ⟨B, 2 * i + 1, none⟩ = some (.slice none 0 0)) ∨
     (∃ y u g', firstTwo ts = some (x, y) ∧ W.cell? ⟨B, 2 * i + 1, none⟩ = some u ∧ TextIs N W u y ∧ u.ownBlock = some g' ∧ g' < K ∧ g' ≠ B ∧ g ≠ g')))

theorem TxAt.same {N K K' : Nat} {W W' : World} {B i : Nat} {ts : List (List UInt8)} (h : TxAt N K W B i ts) (hK : K ≤ K') (hc : ∀ j, j = 2 * i ∨ j = 2 * i + 1 → W'.cell? ⟨B, j, none⟩ = W.cell? ⟨B, j, none⟩) (hb : ∀ g, g < K → g ≠ B → (∃ cur, W.heap[g]? = some (.cells cur 5 (0, 0))) → W'.heap[g]? = W.heap[g]?) : TxAt N K' W' B i ts := by
  have c0 := hc _ (.inl rfl)
  have c1 := hc _ (.inr rfl)
  rcases h with ⟨h0, h1, h2⟩ | ⟨x, r, v, g, h0, h1, h2, h3, h4, h5, h6⟩
  · exact .inl ⟨h0, c0.trans h1, c1.trans h2⟩
  · refine .inr ⟨x, r, v, g, h0, c0.trans h1, h2.same (fun g' e => by rw [h3] at e; cases e; exact hb g h4 h5 (h2.cells h3)), h3, by omega, h5, ?_⟩
    rcases h6 with ⟨k0, k1⟩ | ⟨y, u, g', k0, k1, k2, k3, k4, k5, k6⟩
    · exact .inl ⟨k0, c1.trans k1⟩
    · exact .inr ⟨y, u, g', k0, c1.trans k1, k2.same (fun g'' e => by rw [k3] at e; cases e; exact hb g' k4 k5 (k2.cells k3)), k3, by omega, k5, k6⟩

set_option maxHeartbeats 1000000 in
set_option maxRecDepth 100000 in
theorem note_any {N K : Nat} {W : World} {B i : Nat} {ts : List (List UInt8)} {cs : Array Value} (hB : W.heap[B]? = some (.cells cs 125 (0, 0))) (hT : TxAt N K W B i ts) (hNK : N ≤ K) {v : Value} {t : List UInt8} (hv : TextIs K W v t) (hvB : v.ownBlock ≠ some B) :
    Calls Try.prog 68 #[.pointer (some ⟨B, 2 * i, none⟩), v] W fun e W' => e = .returned (.tuple #[]) ∧ TxAt N W.heap.size W' B i (ts ++ [t]) ∧ (W' = W ∨ ∃ j, (j = 2 * i ∨ j = 2 * i + 1) ∧ W' = W.setCell ⟨B, j, none⟩ v) := by
  have hBs : B < W.heap.size := (Array.getElem?_eq_some_iff.1 hB).1
  have q : ∀ (w : World) (a : Option Addr) (n c n' c' : Nat), (binOp .eql 43 (.slice a n c) (.slice none n' c')).run Try.prog w = .ok (.bool a.isNone) w := fun w a n c n' c' => Lib.run_eql_slice_nil w _ _ a n c n' c' Try.underlying43
  have fz : ∀ j, W.frozen? ⟨B, j, none⟩ = false := fun j => block_free hB
  obtain ⟨gv, cv, rfl, hvg, hvK, hvs, -, -⟩ := hv.block
  have hgB : gv ≠ B := fun e => hvB (by rw [hvg, e])
  have hot : ∀ j j', j ≠ j' → ∀ u, (W.setCell ⟨B, j, none⟩ u).cell? ⟨B, j', none⟩ = W.cell? ⟨B, j', none⟩ := fun j j' hj u => by
    rw [block_cell (heap_setCell_same W B j _ _ u hB), block_cell hB, Array.getElem?_setIfInBounds_ne hj]
  have hsm : ∀ j (u z : Value), W.cell? ⟨B, j, none⟩ = some z → (W.setCell ⟨B, j, none⟩ u).cell? ⟨B, j, none⟩ = some u := fun j u z hz => by
    rw [block_cell hB] at hz
    rw [block_cell (heap_setCell_same W B j _ _ u hB), Array.getElem?_setIfInBounds_self_of_lt (Array.getElem?_eq_some_iff.1 hz).1]
  have hbl : ∀ g, g ≠ B → ∀ j u, (W.setCell ⟨B, j, none⟩ u).heap[g]? = W.heap[g]? := fun g hg j u => Below.heap_setCell W _ _ _ hg
  have hvN := hv.mono hNK
  have hv2 : ∀ j u, TextIs N (W.setCell ⟨B, j, none⟩ u) (.slice (some ⟨gv, 0, none⟩) t.length cv) t := fun j u => hvN.same fun g e => by cases e; exact hbl gv hgB j u
  rcases hT with ⟨h0, h1, h2⟩ | ⟨x, r, v, g, h0, h1, h2, h3, h4, h5, h6⟩
  · subst h0
    have hres : TxAt N W.heap.size (W.setCell ⟨B, 2 * i, none⟩ (.slice (some ⟨gv, 0, none⟩) t.length cv)) B i [t] :=
      .inr ⟨t, [], _, gv, rfl, hsm _ _ _ h1, hv2 _ _, rfl, hvs, hgB, .inl ⟨rfl, (hot _ _ (by omega) _).trans h2⟩⟩
    have HP := hide hres
    clear hB h2 hv hres hot hsm hbl hv2 hvN hvB hvg
    go_enter Try.func68, Try.ntmps68
    go_wp2_with fail
    go_end0
    exact ⟨rfl, unhide HP, .inr ⟨_, .inl rfl, rfl⟩⟩
  · subst h0
    obtain ⟨gx, cx, rfl, hxg, -, hxs, -, -⟩ := h2.block
    have egx : g = gx := by have := h3.symm.trans hxg; simpa using this
    subst egx
    have hx2 : ∀ j u, TextIs N (W.setCell ⟨B, j, none⟩ u) (.slice (some ⟨g, 0, none⟩) x.length cx) x := fun j u => h2.same fun g' e => by cases e; exact hbl g h5 j u
    rcases h6 with ⟨k0, k1⟩ | ⟨y, u, g', k0, k1, k2, k3, k4, k5, k6⟩
    · have HE := hide (bequal_any h2 hv)
      by_cases ext : t = x
      · subst ext
        have hres : TxAt N W.heap.size W B i (t :: r ++ [t]) := .inr ⟨t, r ++ [t], _, g, rfl, h1, h2, rfl, hxs, h5, .inl ⟨by rw [firstTwo_snoc, k0]; simp, k1⟩⟩
        have HP := hide hres
        rw [decide_eq_true rfl] at HE
        clear hB hv hres hot hsm hbl hv2 hvN hvB hvg h2 hx2 k0 h3 hxg
        go_enter Try.func68, Try.ntmps68
        go_wp2_with (go_at_call 86; refine (unhide HE).mono ?_; rintro e w1 ⟨rfl, rfl⟩)
        go_end0
        exact ⟨rfl, unhide HP, .inl rfl⟩
      · have hres : TxAt N W.heap.size (W.setCell ⟨B, 2 * i + 1, none⟩ (.slice (some ⟨gv, 0, none⟩) t.length cv)) B i (x :: r ++ [t]) := .inr ⟨x, r ++ [t], _, g, rfl, (hot _ _ (by omega) _).trans h1, hx2 _ _, rfl, hxs, h5, .inr ⟨t, _, gv, by rw [firstTwo_snoc, k0]; simp [ext], hsm _ _ _ k1, hv2 _ _, rfl, hvs, hgB, by omega⟩⟩
        have HP := hide hres
        rw [decide_eq_false (fun e => ext e.symm)] at HE
        clear hB hv hres hot hsm hbl hv2 hvN hvB hvg h2 hx2 k0 h3 hxg
        go_enter Try.func68, Try.ntmps68
        go_wp2_with (go_at_call 86; refine (unhide HE).mono ?_; rintro e w1 ⟨rfl, rfl⟩)
        go_end0
        exact ⟨rfl, unhide HP, .inr ⟨_, .inr rfl, rfl⟩⟩
    · obtain ⟨gu, cu, rfl, hug, -, hus, -, -⟩ := k2.block
      have hres : TxAt N W.heap.size W B i (x :: r ++ [t]) := .inr ⟨x, r ++ [t], _, g, rfl, h1, h2, rfl, hxs, h5, .inr ⟨y, _, g', by rw [firstTwo_snoc, k0], k1, k2, k3, by omega, k5, k6⟩⟩
      have HP := hide hres
      clear hB hv hres hot hsm hbl hv2 hvN hvB hvg h2 hx2 k0 h3 hxg k2
      go_enter Try.func68, Try.ntmps68
      go_wp2_with fail
      go_end0
      exact ⟨rfl, unhide HP, .inl rfl⟩

end Go.Proofs.Ytbjobbkgelipmaa

/-
  The table of texts, and the walk of the step that notes them (follow's function value).
-/
namespace Go.Proofs.Ytbjobbkgelipmaa
open Go.RowKit

/-- One text more at a place. -/
def addT (f : Nat → Nat → List (List UInt8)) (lv0 pl0 : Nat) (t : List UInt8) (lv pl : Nat) : List (List UInt8) := if lv = lv0 ∧ pl = pl0 then f lv pl ++ [t] else f lv pl

/-- All places' texts in one block. -/
structure TabAt (N K : Nat) (W : World) (B h : Nat) (f : Nat → Nat → List (List UInt8)) : Prop where
  blk : ∃ cs, W.heap[B]? = some (.cells cs 125 (0, 0))
  tx : ∀ lv pl, lv ≤ h → pl < 2 ^ (h - lv) → TxAt N K W B (placeNo h lv pl) (f lv pl)
  z0 : W.cell? ⟨B, 0, none⟩ = some (.slice none 0 0)
  z1 : W.cell? ⟨B, 1, none⟩ = some (.slice none 0 0)
theorem TabAt.lt {N K : Nat} {W : World} {B h : Nat} {f : Nat → Nat → List (List UInt8)} (h : TabAt N K W B h f) : B < W.heap.size := (Array.getElem?_eq_some_iff.1 h.blk.choose_spec).1
theorem TabAt.same {N K K' : Nat} {W W' : World} {B h : Nat} {f : Nat → Nat → List (List UInt8)} (t : TabAt N K W B h f) (hK : K ≤ K') (hB : W'.heap[B]? = W.heap[B]?) (hb : ∀ g, g < K → g ≠ B → (∃ cur, W.heap[g]? = some (.cells cur 5 (0, 0))) → W'.heap[g]? = W.heap[g]?) : TabAt N K' W' B h f := by
  have ec : ∀ j, W'.cell? ⟨B, j, none⟩ = W.cell? ⟨B, j, none⟩ := fun j => World.cell?_of_block (w := W) hB
  exact ⟨⟨_, hB.trans t.blk.choose_spec⟩, fun lv pl h1 h2 => (t.tx lv pl h1 h2).same hK (fun j _ => ec j) hb, (ec 0).trans t.z0, (ec 1).trans t.z1⟩
theorem TabAt.later {N : Nat} {W W' : World} {B h : Nat} {f : Nat → Nat → List (List UInt8)} (t : TabAt N W.heap.size W B h f) (hb : Below W.heap.size W W') : TabAt N W'.heap.size W' B h f :=
  t.same hb.size (hb.block _ t.lt) (fun g hg _ _ => hb.block g hg)
theorem placeNo_pos (h lv pl : Nat) : 1 ≤ placeNo h lv pl := by
  have : 0 < 2 ^ (h - lv) := Nat.two_pow_pos _
  unfold placeNo
  omega
theorem TabAt.note {N K : Nat} {W W' : World} {B h : Nat} {f : Nat → Nat → List (List UInt8)} (t : TabAt N K W B h f) (hK : K ≤ W.heap.size) {lv0 pl0 : Nat} (h1 : lv0 ≤ h) (h2 : pl0 < 2 ^ (h - lv0)) {x : List UInt8} {v : Value} (hx : TxAt N W.heap.size W' B (placeNo h lv0 pl0) (f lv0 pl0 ++ [x]))
    (hW : W' = W ∨ ∃ j, (j = 2 * placeNo h lv0 pl0 ∨ j = 2 * placeNo h lv0 pl0 + 1) ∧ W' = W.setCell ⟨B, j, none⟩ v) : TabAt N W.heap.size W' B h (addT f lv0 pl0 x) ∧ Kept [B] W W' ∧ W'.heap.size = W.heap.size := by
  obtain ⟨cs, hB⟩ := t.blk
  have hp := placeNo_pos h lv0 pl0
  have key : (∃ cs, W'.heap[B]? = some (.cells cs 125 (0, 0))) ∧ (∀ j, j ≠ 2 * placeNo h lv0 pl0 → j ≠ 2 * placeNo h lv0 pl0 + 1 → W'.cell? ⟨B, j, none⟩ = W.cell? ⟨B, j, none⟩) ∧ (∀ g, g ≠ B → W'.heap[g]? = W.heap[g]?) ∧ Kept [B] W W' ∧ W'.heap.size = W.heap.size := by
    rcases hW with rfl | ⟨j, hj, rfl⟩
    · exact ⟨⟨cs, hB⟩, fun _ _ _ => rfl, fun _ _ => rfl, Kept.refl _ _, rfl⟩
    · refine ⟨⟨_, heap_setCell_same W B j _ _ v hB⟩, fun j' h3 h4 => ?_, fun g hg => Below.heap_setCell W _ _ _ hg, Kept.setCell (by simp) _, by simp⟩
      rw [block_cell (heap_setCell_same W B j _ _ v hB), block_cell hB, Array.getElem?_setIfInBounds_ne (by omega)]
  obtain ⟨k1, k2, k3, k4, k5⟩ := key
  refine ⟨⟨k1, fun lv pl g1 g2 => ?_, (k2 0 (by omega) (by omega)).trans t.z0, (k2 1 (by omega) (by omega)).trans t.z1⟩, k4, k5⟩
  unfold addT
  split
  · rename_i e
    obtain ⟨rfl, rfl⟩ := e
    exact hx
  · rename_i e
    have hne : placeNo h lv pl ≠ placeNo h lv0 pl0 := fun e' => e (placeNo_inj g1 h1 g2 h2 e')
    refine (t.tx lv pl g1 g2).same hK (fun j hj => k2 j ?_ ?_) (fun g _ hg _ => k3 g hg) <;> omega

/-- What follow's function value stands on: the place's number, the table. -/
structure FS (N : Nat) (W : World) (A C B h a : Nat) (f : Nat → Nat → List (List UInt8)) : Prop where
  at_ : W.heap[A]? = some (.cells #[.int .i64 (a : Int)] 3 (0, 0))
  all_ : W.heap[C]? = some (.cells #[.slice (some ⟨B, 0, none⟩) (2 ^ (h + 1)) (2 ^ (h + 1))] 122 (0, 0))
  tab : TabAt N W.heap.size W B h f
theorem FS.later {N : Nat} {W W' : World} {A C B h a : Nat} {f : Nat → Nat → List (List UInt8)} (s : FS N W A C B h a f) (hb : Below W.heap.size W W') : FS N W' A C B h a f :=
  ⟨(hb.block _ (Array.getElem?_eq_some_iff.1 s.at_).1).trans s.at_, (hb.block _ (Array.getElem?_eq_some_iff.1 s.all_).1).trans s.all_, s.tab.later hb⟩
theorem cells_ne' {W : World} {a b : Nat} {cs ds : Array Value} {t u : TypeId} {f g : Nat × Nat} (h : W.heap[a]? = some (.cells cs t f)) (k : W.heap[b]? = some (.cells ds u g)) (htu : t ≠ u) : a ≠ b := fun e => by
  rw [e, k] at h
  simp only [Option.some.injEq, Obj.cells.injEq] at h
  exact htu h.2.1.symm
theorem FS.ne {N : Nat} {W : World} {A C B h a : Nat} {f : Nat → Nat → List (List UInt8)} (s : FS N W A C B h a f) : A ≠ C ∧ A ≠ B ∧ C ≠ B := by
  obtain ⟨cs, hB⟩ := s.tab.blk
  exact ⟨cells_ne' s.at_ s.all_ (by decide), cells_ne' s.at_ hB (by decide), cells_ne' s.all_ hB (by decide)⟩
theorem FS.setA {N : Nat} {W : World} {A C B h a : Nat} {f : Nat → Nat → List (List UInt8)} (s : FS N W A C B h a f) (a' : Nat) : FS N (W.setCell ⟨A, 0, none⟩ (.int .i64 (a' : Int))) A C B h a' f := by
  obtain ⟨n1, n2, n3⟩ := s.ne
  have hA := heap_setCell_same W A 0 _ _ (.int .i64 (a' : Int)) s.at_
  have e : ∀ g, g ≠ A → (W.setCell ⟨A, 0, none⟩ (.int .i64 (a' : Int))).heap[g]? = W.heap[g]? := fun g hg => Below.heap_setCell W _ _ _ hg
  refine ⟨hA, (e C (Ne.symm n1)).trans s.all_, ?_⟩
  refine s.tab.same (by simp) (e B (Ne.symm n2)) (fun g _ _ ⟨cur, hc⟩ => e g (cells_ne' hc s.at_ (by decide)))
theorem FS.note {N : Nat} {W W' : World} {A C B h a : Nat} {f : Nat → Nat → List (List UInt8)} (s : FS N W A C B h a f) {lv0 pl0 : Nat} (h1 : lv0 ≤ h) (h2 : pl0 < 2 ^ (h - lv0)) {x : List UInt8} {v : Value} (hx : TxAt N W.heap.size W' B (placeNo h lv0 pl0) (f lv0 pl0 ++ [x]))
    (hW : W' = W ∨ ∃ j, (j = 2 * placeNo h lv0 pl0 ∨ j = 2 * placeNo h lv0 pl0 + 1) ∧ W' = W.setCell ⟨B, j, none⟩ v) : FS N W' A C B h a (addT f lv0 pl0 x) ∧ Kept [B] W W' := by
  obtain ⟨n1, n2, n3⟩ := s.ne
  obtain ⟨k1, k2, k3⟩ := s.tab.note (Nat.le_refl _) h1 h2 hx hW
  have e : ∀ g, g < W.heap.size → g ≠ B → W'.heap[g]? = W.heap[g]? := fun g hg hne => k2.block g hg (by simpa using hne)
  refine ⟨⟨(e A (Array.getElem?_eq_some_iff.1 s.at_).1 n2).trans s.at_, (e C (Array.getElem?_eq_some_iff.1 s.all_).1 n3).trans s.all_, ?_⟩, k2⟩
  rw [k3]
  exact k1

theorem upText_two (q : Nat) (now y : Dg × Int) : ∃ l r : Dg × Int, (if q % 2 = 0 then Value.tuple #[sideV now.1 now.2, sideV y.1 y.2] else .tuple #[sideV y.1 y.2, sideV now.1 now.2]) = .tuple #[sideV l.1 l.2, sideV r.1 r.2] ∧ upText q now y = 1 :: (sideB l ++ sideB r) ∧ ((l = now ∧ r = y) ∨ (l = y ∧ r = now)) := by
  by_cases e : q % 2 = 0
  · exact ⟨now, y, by rw [if_pos e], by unfold upText; rw [if_neg (by omega)], .inl ⟨rfl, rfl⟩⟩
  · exact ⟨y, now, by rw [if_neg e], by unfold upText; rw [if_pos (by omega)], .inr ⟨rfl, rfl⟩⟩

theorem TabAt.heap {N K : Nat} {W W' : World} {B h : Nat} {f : Nat → Nat → List (List UInt8)} (t : TabAt N K W B h f) (e : W'.heap = W.heap) : TabAt N K W' B h f := t.same (Nat.le_refl _) (by rw [e]) (fun g _ _ _ => by rw [e])
theorem FS.heap {N : Nat} {W W' : World} {A C B h a : Nat} {f : Nat → Nat → List (List UInt8)} (s : FS N W A C B h a f) (e : W'.heap = W.heap) : FS N W' A C B h a f := ⟨by rw [e]; exact s.at_, by rw [e]; exact s.all_, by rw [e]; exact s.tab.heap e⟩

theorem FS.poke {N : Nat} {W : World} {A C B h a R : Nat} {f : Nat → Nat → List (List UInt8)} {cs : Array Value} (s : FS N W A C B h a f) (hR : W.heap[R]? = some (.cells cs 88 (0, 0))) (j : Nat) (v : Value) : FS N (W.setCell ⟨R, j, none⟩ v) A C B h a f := by
  obtain ⟨ds, hB⟩ := s.tab.blk
  have e : ∀ g, g ≠ R → (W.setCell ⟨R, j, none⟩ v).heap[g]? = W.heap[g]? := fun g hg => Below.heap_setCell W _ _ _ hg
  exact ⟨(e _ (cells_ne' s.at_ hR (by decide))).trans s.at_, (e _ (cells_ne' s.all_ hR (by decide))).trans s.all_, s.tab.same (by simp) (e _ (cells_ne' hB hR (by decide))) (fun g _ _ ⟨cur, hc⟩ => e g (cells_ne' hc hR (by decide)))⟩
theorem FS.poke4 {N : Nat} {W : World} {A C B h a R : Nat} {f : Nat → Nat → List (List UInt8)} {cs : Array Value} (s : FS N W A C B h a f) (hR : W.heap[R]? = some (.cells cs 88 (0, 0))) (v0 v1 v2 v3 : Value) : FS N ((((W.setCell ⟨R, 0, none⟩ v0).setCell ⟨R, 1, none⟩ v1).setCell ⟨R, 2, none⟩ v2).setCell ⟨R, 3, none⟩ v3) A C B h a f := by
  have g1 := heap_setCell_same W R 0 _ _ v0 hR
  have g2 := heap_setCell_same _ R 1 _ _ v1 g1
  have g3 := heap_setCell_same _ R 2 _ _ v2 g2
  exact (((s.poke hR 0 v0).poke g1 1 v1).poke g2 2 v2).poke g3 3 v3
theorem Kept.fresh {S : List Nat} {w w' : World} {b i : Nat} (h : Kept S w w') (hb : w.heap.size ≤ b) (v : Value) : Kept S w (w'.setCell ⟨b, i, none⟩ v) :=
  ⟨h.os, h.tape, h.output, by simp [h.size], fun k hk hs => (Below.heap_setCell _ _ _ _ (by show k ≠ b; omega)).trans (h.block k hk hs)⟩

/-- What the step reads: the table's box, the number's, the two sides'. -/
abbrev F10 (W : World) (A C B P X Y : Nat) (i f0 f1 f2 nx g0 g1 g2 yx : Int) : Prop :=
  (W.cell? ⟨C, 0, none⟩ = some (.slice (some ⟨B, 0, none⟩) P P) ∧ W.cell? ⟨A, 0, none⟩ = some (.int .i64 i)) ∧
  (W.cell? ⟨X, 0, none⟩ = some (.int .u8 f0) ∧ W.cell? ⟨X, 1, none⟩ = some (.int .u8 f1) ∧ W.cell? ⟨X, 2, none⟩ = some (.int .u8 f2) ∧ W.cell? ⟨X, 3, none⟩ = some (.int .u64 nx)) ∧
  (W.cell? ⟨Y, 0, none⟩ = some (.int .u8 g0) ∧ W.cell? ⟨Y, 1, none⟩ = some (.int .u8 g1) ∧ W.cell? ⟨Y, 2, none⟩ = some (.int .u8 g2) ∧ W.cell? ⟨Y, 3, none⟩ = some (.int .u64 yx))
/-- .. as blocks. -/
structure FB (N : Nat) (W : World) (A C B h a X Y R : Nat) (f : Nat → Nat → List (List UInt8)) (f0 f1 f2 nx g0 g1 g2 yx : Int) : Prop where
  fs : FS N W A C B h a f
  x : W.heap[X]? = some (.cells #[.int .u8 f0, .int .u8 f1, .int .u8 f2, .int .u64 nx] 88 (0, 0))
  y : W.heap[Y]? = some (.cells #[.int .u8 g0, .int .u8 g1, .int .u8 g2, .int .u64 yx] 88 (0, 0))
  r : W.heap[R]? = some (.cells #[.int .u8 0, .int .u8 0, .int .u8 0, .int .u64 0] 88 (0, 0))
theorem FB.ten {N : Nat} {W : World} {A C B h a X Y R : Nat} {f : Nat → Nat → List (List UInt8)} {f0 f1 f2 nx g0 g1 g2 yx : Int} (b : FB N W A C B h a X Y R f f0 f1 f2 nx g0 g1 g2 yx) : F10 W A C B (2 ^ (h + 1)) X Y (a : Int) f0 f1 f2 nx g0 g1 g2 yx :=
  ⟨⟨block_cell b.fs.all_, block_cell b.fs.at_⟩, ⟨block_cell b.x, block_cell b.x, block_cell b.x, block_cell b.x⟩, ⟨block_cell b.y, block_cell b.y, block_cell b.y, block_cell b.y⟩⟩
theorem FB.later {N : Nat} {W W' : World} {A C B h a X Y R : Nat} {f : Nat → Nat → List (List UInt8)} {f0 f1 f2 nx g0 g1 g2 yx : Int} (b : FB N W A C B h a X Y R f f0 f1 f2 nx g0 g1 g2 yx) (hb : Below W.heap.size W W') : FB N W' A C B h a X Y R f f0 f1 f2 nx g0 g1 g2 yx :=
  ⟨b.fs.later hb, (hb.block _ (Array.getElem?_eq_some_iff.1 b.x).1).trans b.x, (hb.block _ (Array.getElem?_eq_some_iff.1 b.y).1).trans b.y, (hb.block _ (Array.getElem?_eq_some_iff.1 b.r).1).trans b.r⟩

theorem FB.kept {N : Nat} {W W' : World} {A C B h a X Y R : Nat} {f f' : Nat → Nat → List (List UInt8)} {f0 f1 f2 nx g0 g1 g2 yx : Int} (b : FB N W A C B h a X Y R f f0 f1 f2 nx g0 g1 g2 yx) (fs : FS N W' A C B h a f') (hk : Kept [B] W W') : FB N W' A C B h a X Y R f' f0 f1 f2 nx g0 g1 g2 yx := by
  obtain ⟨cs, hB⟩ := b.fs.tab.blk
  have e : ∀ (g : Nat) (ds : Array Value), W.heap[g]? = some (.cells ds 88 (0, 0)) → W'.heap[g]? = some (.cells ds 88 (0, 0)) := fun g ds hg => (hk.block g (Array.getElem?_eq_some_iff.1 hg).1 (by simpa using cells_ne' hg hB (by decide))).trans hg
  exact ⟨fs, e _ _ b.x, e _ _ b.y, e _ _ b.r⟩

def sideC (d0 d1 d2 x : Int) : Obj := Obj.cells #[Value.int IntKind.u8 d0, Value.int IntKind.u8 d1, Value.int IntKind.u8 d2, Value.int IntKind.u64 x] 88

set_option maxHeartbeats 2000000 in
set_option maxRecDepth 100000 in
theorem fstep_any {N : Nat} {W : World} {A C B h a : Nat} {f : Nat → Nat → List (List UInt8)} (s : FS N W A C B h a f) (hN : N ≤ W.heap.size) {lv q : Nat} {now y : Dg × Int} (h1 : lv ≤ h) (hh : h ≤ 6) (h2 : q / 2 < 2 ^ (h - lv)) (ha : a / 2 = placeNo h lv (q / 2)) (ha2 : a ≤ 255) (hq : q ≤ 255) (h0 : 0 ≤ now.2) (h0' : 0 ≤ y.2) (hs : now.2 + y.2 ≤ maxS) :
    Calls Try.prog 70 #[.int .i64 (q : Int), sideV now.1 now.2, sideV y.1 y.2, .pointer (some ⟨A, 0, none⟩), .pointer (some ⟨C, 0, none⟩)] W fun e W' => e = .returned (.tuple #[sideV (dg (upText q now y)) (now.2 + y.2), .bool true]) ∧ FS N W' A C B h (a / 2) (addT f lv (q / 2) (upText q now y)) ∧ Kept [A, B] W W' := by
  have HJ := fun w => hide (join_yes q now.1 y.1 now.2 y.2 w hq h0 h0' hs)
  have HI := fun w => hide (inorder_any q now.1 y.1 now.2 y.2 w hq)
  obtain ⟨l, r, e1, e2, e3⟩ := upText_two q now y
  have m64 : maxS < 18446744073709551616 := by unfold maxS; omega
  have HT := fun w => hide (nodetext_any l.1 r.1 l.2 r.2 w (by rcases e3 with ⟨rfl, rfl⟩ | ⟨rfl, rfl⟩ <;> assumption) (by rcases e3 with ⟨rfl, rfl⟩ | ⟨rfl, rfl⟩ <;> omega) (by rcases e3 with ⟨rfl, rfl⟩ | ⟨rfl, rfl⟩ <;> assumption) (by rcases e3 with ⟨rfl, rfl⟩ | ⟨rfl, rfl⟩ <;> omega))
  rw [e1] at HI
  have e4 : (1 :: (sideB (l.1, l.2) ++ sideB (r.1, r.2)) : List UInt8) = upText q now y := e2.symm
  rw [e4] at HT
  rw [show upText q (now.1, now.2) (y.1, y.2) = upText q now y from rfl] at HJ
  have hne : upText q now y ≠ [] := by rw [e2]; exact List.cons_ne_nil _ _
  generalize upText q now y = T at *
  have hA2 : ((a : Int) / 2) = ((a / 2 : Nat) : Int) := by omega
  obtain ⟨i, hi⟩ : ∃ i, a / 2 = i := ⟨_, rfl⟩
  rw [hi] at hA2 ha ⊢
  have hi2 : i < 2 ^ (h + 1) := by rw [ha]; exact placeNo_lt h2
  have hp7 : 2 ^ (h + 1) ≤ 2 ^ 7 := Nat.pow_le_pow_right (by omega) (by omega)
  have HX := hide (And.intro hA2 (And.intro ha (And.intro h2 h1)))
  clear e1 e2 e3 e4 h0 h0' hs m64 hA2 ha h2 h1
  have HFS := hide s
  clear s
  unfold sideV at *
  generalize (now.1.1.toNat : Int) = f0 at *
  generalize (now.1.2.1.toNat : Int) = f1 at *
  generalize (now.1.2.2.toNat : Int) = f2 at *
  generalize (y.1.1.toNat : Int) = g0 at *
  generalize (y.1.2.1.toNat : Int) = g1 at *
  generalize (y.1.2.2.toNat : Int) = g2 at *
  generalize (l.1.1.toNat : Int) = l0 at *
  generalize (l.1.2.1.toNat : Int) = l1 at *
  generalize (l.1.2.2.toNat : Int) = l2 at *
  generalize (r.1.1.toNat : Int) = r0 at *
  generalize (r.1.2.1.toNat : Int) = r1 at *
  generalize (r.1.2.2.toNat : Int) = r2 at *
  generalize ((dg T).1.toNat : Int) = s0 at *
  generalize ((dg T).2.1.toNat : Int) = s1 at *
  generalize ((dg T).2.2.toNat : Int) = s2 at *
  generalize now.2 = nx at *
  generalize y.2 = yx at *
  generalize l.2 = lx at *
  generalize r.2 = rx at *
  go_enter Try.func70, Try.ntmps70
  go_upto_region 1 with fail
  have hW1 : Below W.heap.size W (((W.alloc (sideC f0 f1 f2 nx)).alloc (sideC g0 g1 g2 yx)).alloc (sideC 0 0 0 0)) := (((Below.refl W.heap.size W).alloc (Nat.le_refl _) _).alloc (by simp) _).alloc (by simp; omega) _
  have x1 := heap_next (o := sideC 0 0 0 0) (heap_next (o := sideC g0 g1 g2 yx) (heap_alloc_new W (sideC f0 f1 f2 nx)))
  have y1 := heap_next (o := sideC 0 0 0 0) (heap_new1 W (sideC f0 f1 f2 nx) (sideC g0 g1 g2 yx))
  have z1 := heap_new2 W (sideC f0 f1 f2 nx) (sideC g0 g1 g2 yx) (sideC 0 0 0 0)
  have fs1 := (unhide HFS).later hW1
  unfold sideC at *
  generalize (((W.alloc (Obj.cells #[Value.int IntKind.u8 f0, Value.int IntKind.u8 f1, Value.int IntKind.u8 f2, Value.int IntKind.u64 nx] 88)).alloc (Obj.cells #[Value.int IntKind.u8 g0, Value.int IntKind.u8 g1, Value.int IntKind.u8 g2, Value.int IntKind.u64 yx] 88)).alloc (Obj.cells #[Value.int IntKind.u8 0, Value.int IntKind.u8 0, Value.int IntKind.u8 0, Value.int IntKind.u64 0] 88)) = W1 at *
  obtain ⟨R, hR⟩ : ∃ R, W.heap.size + 1 + 1 = R := ⟨_, rfl⟩
  obtain ⟨Y, hY⟩ : ∃ Y, W.heap.size + 1 = Y := ⟨_, rfl⟩
  obtain ⟨X, hX⟩ : ∃ X, W.heap.size = X := ⟨_, rfl⟩
  have a1 : W1.cell? ⟨A, 0, none⟩ = some (.int .i64 (a : Int)) := block_cell fs1.at_
  have fa1 : W1.frozen? ⟨A, 0, none⟩ = false := block_free fs1.at_
  have HW1 := hide (And.intro hW1 (And.intro x1 (And.intro y1 (And.intro z1 fs1))))
  rw [hR, hY, hX]
  clear hW1 x1 y1 z1 fs1
  go_upto_region 2 with fail
  rw [(unhide HX).1]
  have hb2 : FB N (W1.setCell ⟨A, 0, none⟩ (.int .i64 (i : Int))) A C B h i X Y R f f0 f1 f2 nx g0 g1 g2 yx := by
    obtain ⟨hW1, x1, y1, z1, fs1⟩ := unhide HW1
    rw [hX] at x1
    rw [hY] at y1
    rw [hR] at z1
    have e : ∀ (g : Nat) (cs : Array Value), W1.heap[g]? = some (.cells cs 88 (0, 0)) → (W1.setCell ⟨A, 0, none⟩ (.int .i64 (i : Int))).heap[g]? = some (.cells cs 88 (0, 0)) := fun g cs hg => (Below.heap_setCell W1 _ _ _ (cells_ne' hg fs1.at_ (by decide))).trans hg
    exact ⟨fs1.setA i, e _ _ x1, e _ _ y1, e _ _ z1⟩
  have HK2 : Hid (Kept [A, B] W (W1.setCell ⟨A, 0, none⟩ (.int .i64 (i : Int)))) := (Kept.of_below (unhide HW1).1).trans (Kept.setCell (by simp) _)
  generalize (W1.setCell ⟨A, 0, none⟩ (.int .i64 (i : Int))) = W2 at *
  have hbd : FB N W2.drew A C B h i X Y R f f0 f1 f2 nx g0 g1 g2 yx := ⟨hb2.fs.heap rfl, hb2.x, hb2.y, hb2.r⟩
  have k2 := hbd.ten
  obtain ⟨P, hP⟩ : ∃ P, 2 ^ (h + 1) = P := ⟨_, rfl⟩
  rw [hP] at k2 hi2 hp7
  have i1 : (0 : Int) ≤ (i : Int) := by omega
  have i2 : (i : Int) < (P : Int) := by omega
  have HN : Hid (∀ w3 w4 v, FB N w3 A C B h i X Y R f f0 f1 f2 nx g0 g1 g2 yx → N ≤ w3.heap.size → Below w3.heap.size w3 w4 → w4.ownsRow w3.heap.size 5 1 v 23 (byteVals T) → Calls Try.prog 68 #[.pointer (some ⟨B, i * 2, none⟩), v] w4 fun e W' => e = .returned (.tuple #[]) ∧ FS N W' A C B h i (addT f lv (q / 2) T) ∧ Kept [B] w4 W') := fun w3 w4 v b3 hN3 hb4 hv => by
    obtain ⟨_, ha, h2, h1⟩ := unhide HX
    have tab4 : TabAt N w3.heap.size w4 B h f := b3.fs.tab.same (Nat.le_refl _) (hb4.block _ b3.fs.tab.lt) (fun g hg _ _ => hb4.block g hg)
    obtain ⟨cs, hcs⟩ := tab4.blk
    have hvT := TextIs.of hv hne
    have hvB : v.ownBlock ≠ some B := fun e => by
      obtain ⟨g, _, _, e2, hg, _⟩ := hvT.block
      rw [e2] at e
      have := b3.fs.tab.lt
      simp only [Option.some.injEq] at e
      omega
    have := note_any hcs (tab4.tx lv (q / 2) h1 h2) hN3 hvT hvB
    rw [← ha, Nat.mul_comm 2 i] at this
    refine this.mono fun e W' ⟨he, hx, hW⟩ => ?_
    have hn := (b3.fs.later hb4).note h1 h2 (x := T) (v := v) (W' := W') (by rw [← ha]; exact hx) (by rw [← ha, Nat.mul_comm 2 i]; exact hW)
    exact ⟨he, hn⟩
  have HRW : Hid (W.heap.size ≤ R) := by show W.heap.size ≤ R; omega
  clear a1 fa1 HW1 hR hY hb2 hi
  go_region_held3 (fun w' => F10 w' A C B P X Y (i : Int) f0 f1 f2 nx g0 g1 g2 yx)
    (first
      | with_reducible exact k2
      | with_reducible exact k3
      | with_reducible exact k4
      | with_reducible exact k5
      | fail)
    (first
      | (go_at_call 72; (with_reducible refine (unhide (HI _)).mono ?_); rintro e w3 ⟨rfl, hb3⟩; have b3 := hbd.later hb3; have k3 := b3.ten; rw [hP] at k3)
      | (go_at_call 71; (with_reducible refine (unhide (HT _)).mono ?_); rintro e w4 ⟨⟨v, rfl, hv⟩, hb4⟩; have b4 := b3.later hb4; have k4 := b4.ten; rw [hP] at k4)
      | (go_at_call 68; (with_reducible refine (unhide HN _ _ _ b3 (by have := hb3.size; simp at this; have := (unhide HK2).size; omega) hb4 hv).mono ?_); rintro e w5 ⟨rfl, fs5, hk5⟩; have b5 := b4.kept fs5 hk5; have k5 := b5.ten; rw [hP] at k5)
      | fail)
  have hk4 : Kept [A, B] W w4 := ((unhide HK2).trans (Kept.of_below (w' := w3) ⟨hb3.os, hb3.tape, hb3.output, hb3.size, hb3.block⟩)).trans (Kept.of_below hb4)
  have HK5 := hide (hk4.trans (hk5.mono fun k hk => by simp at hk; simp [hk]))
  obtain ⟨x0, x1, x2, x3⟩ := k5.2.1
  obtain ⟨y0, y1, y2, y3⟩ := k5.2.2
  have HB5 := hide b5
  clear k2 k3 k4 k5 b3 b4 b5 hbd hb3 hb4 hv fs5 hk5 hk4 HN HT HI HK2
  go_wp2_with fail
  refine (unhide (HJ _)).mono ?_
  rintro e w6 ⟨rfl, hb6⟩
  have b6 := (unhide HB5).later hb6
  have z0 : w6.cell? ⟨R, 0, none⟩ = some (.int .u8 0) := block_cell b6.r
  have z1 : w6.cell? ⟨R, 1, none⟩ = some (.int .u8 0) := block_cell b6.r
  have z2 : w6.cell? ⟨R, 2, none⟩ = some (.int .u8 0) := block_cell b6.r
  have z3 : w6.cell? ⟨R, 3, none⟩ = some (.int .u64 0) := block_cell b6.r
  have zf : ∀ i, w6.frozen? ⟨R, i, none⟩ = false := fun i => block_free b6.r
  have HB6 := hide b6
  have HK6 := hide ((unhide HK5).trans (Kept.of_below hb6))
  clear b6 hb6 HB5 HK5 x0 x1 x2 x3 y0 y1 y2 y3 HJ
  go_wp2
  refine bodyPost_ret (v := .tuple #[.agg #[.int .u8 s0, .int .u8 s1, .int .u8 s2, .int .u64 (nx + yx)], .bool true]) ?_ rfl ⟨rfl, ?_, ?_⟩
  · simp [results, Try.results70, go_sem, z0, z1, z2, z3]
  · exact (unhide HB6).fs.poke4 (unhide HB6).r _ _ _ _
  · have hR := unhide HRW
    exact ((((unhide HK6).fresh hR _).fresh hR _).fresh hR _).fresh hR _

end Go.Proofs.Ytbjobbkgelipmaa

/-
  An honest proof is accepted: plain lists.
-/
namespace Go.Proofs.Ytbjobbkgelipmaa
open Go.RowKit

theorem numB_longB_take (n : Int) (h0 : 0 ≤ n) (h1 : n < 18446744073709551616) : ∀ k, k ≤ 8 → numB ((longB n).take k) = n / 256 ^ (8 - k)
  | 0, _ => by
    have e : (256 : Int) ^ (8 - 0) = 18446744073709551616 := by decide
    rw [e, Int.ediv_eq_zero_of_lt h0 h1]; rfl
  | k + 1, hk => by
    rw [longB_take_snoc n k (by omega), numB_snoc, numB_longB_take n h0 h1 k (by omega)]
    have e1 : ((longAt n k).toNat : Int) = n / 256 ^ (7 - k) % 256 := by
      unfold longAt
      rw [lowByte_toNat, show (2 : Int) ^ (8 * (7 - k)) = 256 ^ (7 - k) by rw [Int.pow_mul]; rfl]
    have e2 : (256 : Int) ^ (8 - k) = 256 ^ (7 - k) * 256 := by rw [show 8 - k = (7 - k) + 1 by omega, Int.pow_succ]
    rw [e1, e2, ← Int.ediv_ediv_of_nonneg (Int.le_of_lt (Int.pow_pos (by decide))), show 8 - (k + 1) = 7 - k by omega]
    omega
theorem numB_longB (n : Int) (h0 : 0 ≤ n) (h1 : n < 18446744073709551616) : numB (longB n) = n := by
  have h := numB_longB_take n h0 h1 8 (Nat.le_refl _)
  rw [List.take_of_length_le (by rw [longB_length]; omega)] at h
  rw [h]
  simp
/-- A side read back. -/
theorem sideAt_sideB (pre suf : List UInt8) (y : Dg × Int) (h0 : 0 ≤ y.2) (h1 : y.2 < 18446744073709551616) : sideAt (pre ++ (sideB y ++ suf)) pre.length = y := by
  obtain ⟨⟨a, b, c⟩, n⟩ := y
  have e : pre ++ (sideB ((a, b, c), n) ++ suf) = (pre ++ [a, b, c]) ++ (longB n ++ suf) := by simp [sideB, dgB]
  unfold sideAt
  have g : ∀ k, k < 3 → (pre ++ (sideB ((a, b, c), n) ++ suf)).getD (pre.length + k) 0 = [a, b, c].getD k 0 := fun k hk => by
    rw [List.getD_eq_getElem?_getD, List.getD_eq_getElem?_getD, List.getElem?_append_right (by omega), show pre.length + k - pre.length = k by omega]
    simp only [sideB, dgB]
    rw [List.append_assoc, List.getElem?_append_left (by simpa using hk)]
  have g0 := g 0 (by omega)
  have g1 := g 1 (by omega)
  have g2 := g 2 (by omega)
  rw [Nat.add_zero] at g0
  rw [g0, g1, g2]
  have d : ((pre ++ (sideB ((a, b, c), n) ++ suf)).drop (pre.length + 3)).take 8 = longB n := by
    rw [e, List.drop_left' (by simp), List.take_left' (longB_length n)]
  rw [d, numB_longB n h0 h1]
  rfl

/-- An honest proof's bytes. -/
def honP (ls : List LeafD) (h p : Nat) (x : LeafD) : List UInt8 := [UInt8.ofNat h, UInt8.ofNat p] ++ leafB x.nm.data.toList x.bal x.salt ++ sidesB (besideT ls p h)
theorem u8_small {n : Nat} (h : n < 256) : (UInt8.ofNat n).toNat = n := UInt8.toNat_ofNat_of_lt' h
theorem honP_form (ls : List LeafD) (h p : Nat) (x : LeafD) : honP ls h p x = UInt8.ofNat h :: UInt8.ofNat p :: UInt8.ofNat x.nm.size :: (x.nm.data.toList ++ (longB x.bal ++ (longB x.salt ++ sidesB (besideT ls p h)))) := by
  have hs : x.nm.data.toList.length = x.nm.size := by simp
  simp [honP, leafB]
theorem honP_len (ls : List LeafD) (h p : Nat) (x : LeafD) : (honP ls h p x).length = 19 + x.nm.size + 11 * h := by
  have hs : x.nm.data.toList.length = x.nm.size := by simp
  rw [honP_form]
  simp only [List.length_cons, List.length_append, longB_length, sidesB_len, besideT_len, hs]
  omega
theorem honP_bytes (ls : List LeafD) (h p : Nat) (x : LeafD) (hh : h ≤ 6) (hp : p < 256) (hn : x.nm.size ≤ 8) : bAt (honP ls h p x) 0 = h ∧ bAt (honP ls h p x) 1 = p ∧ bAt (honP ls h p x) 2 = x.nm.size := by
  rw [honP_form]
  unfold bAt
  exact ⟨u8_small (by omega), u8_small hp, u8_small (by omega)⟩
theorem honP_head (ls : List LeafD) (h p : Nat) (x : LeafD) (hh : h ≤ 6) (hp : p < 2 ^ h) (hn1 : 1 ≤ x.nm.size) (hn : x.nm.size ≤ 8) : accHead h (honP ls h p x) := by
  have h64 : 2 ^ h ≤ 2 ^ 6 := Nat.pow_le_pow_right (by omega) hh
  obtain ⟨b0, b1, b2⟩ := honP_bytes ls h p x hh (by omega) hn
  have hl := honP_len ls h p x
  refine ⟨by omega, b0, by rw [b1]; exact hp, by omega, by omega, by rw [b2]; exact hl⟩
theorem honP_name (ls : List LeafD) (h p : Nat) (x : LeafD) (hh : h ≤ 6) (hp : p < 256) (hn : x.nm.size ≤ 8) : accName (honP ls h p x) = x.nm.data.toList := by
  have hs : x.nm.data.toList.length = x.nm.size := by simp
  unfold accName
  rw [(honP_bytes ls h p x hh hp hn).2.2, honP_form]
  simp only [List.drop_succ_cons, List.drop_zero]
  rw [← hs, List.take_left]
theorem honP_nums (ls : List LeafD) (h p : Nat) (x : LeafD) (hh : h ≤ 6) (hp : p < 256) (hok : x.ok) : accBal (honP ls h p x) = x.bal ∧ accSalt (honP ls h p x) = x.salt := by
  have hs : x.nm.data.toList.length = x.nm.size := by simp
  obtain ⟨hn, k1, k2, k3, k4⟩ := hok
  unfold accBal accSalt
  rw [(honP_bytes ls h p x hh hp hn).2.2, honP_form]
  have e1 : (UInt8.ofNat h :: UInt8.ofNat p :: UInt8.ofNat x.nm.size :: (x.nm.data.toList ++ (longB x.bal ++ (longB x.salt ++ sidesB (besideT ls p h))))).drop (3 + x.nm.size) = longB x.bal ++ (longB x.salt ++ sidesB (besideT ls p h)) := by
    rw [show 3 + x.nm.size = x.nm.size + 1 + 1 + 1 by omega]
    simp only [List.drop_succ_cons]
    rw [← hs, List.drop_left]
  have e2 : (UInt8.ofNat h :: UInt8.ofNat p :: UInt8.ofNat x.nm.size :: (x.nm.data.toList ++ (longB x.bal ++ (longB x.salt ++ sidesB (besideT ls p h))))).drop (11 + x.nm.size) = longB x.salt ++ sidesB (besideT ls p h) := by
    rw [show 11 + x.nm.size = (3 + x.nm.size) + 8 by omega, ← List.drop_drop, e1, List.drop_left' (longB_length _)]
  rw [e1, e2, List.take_left' (longB_length _), List.take_left' (longB_length _), numB_longB _ k1 k2, numB_longB _ k3 k4]
  exact ⟨rfl, rfl⟩
theorem sidesB_split (ys : List (Dg × Int)) (k : Nat) (hk : k < ys.length) : sidesB ys = sidesB (ys.take k) ++ (sideB ys[k] ++ sidesB (ys.drop (k + 1))) := by
  have e : ys = ys.take k ++ (ys[k] :: ys.drop (k + 1)) := by rw [List.getElem_cons_drop, List.take_append_drop]
  unfold sidesB
  conv => lhs; rw [e]
  rw [List.map_append, List.map_cons, List.flatten_append, List.flatten_cons]
theorem honP_side (ls : List LeafD) (h p : Nat) (x : LeafD) (hh : h ≤ 6) (hp : p < 256) (hn : x.nm.size ≤ 8) (hb : ∀ y ∈ ls, 0 ≤ y.bal) (hm : sumL ls ≤ maxS) (k : Nat) (hk : k < h) : sideAt (honP ls h p x) (19 + bAt (honP ls h p x) 2 + 11 * k) = sideT ls k (sib (p / 2 ^ k)) := by
  have hs : x.nm.data.toList.length = x.nm.size := by simp
  rw [(honP_bytes ls h p x hh hp hn).2.2]
  have hkl : k < (besideT ls p h).length := by rw [besideT_len]; exact hk
  have hg : (besideT ls p h)[k] = sideT ls k (sib (p / 2 ^ k)) := by simp [besideT]
  have hr := side_range ls hb hm k (sib (p / 2 ^ k))
  have e : honP ls h p x = ([UInt8.ofNat h, UInt8.ofNat p] ++ leafB x.nm.data.toList x.bal x.salt ++ sidesB ((besideT ls p h).take k)) ++ (sideB (sideT ls k (sib (p / 2 ^ k))) ++ sidesB ((besideT ls p h).drop (k + 1))) := by
    unfold honP
    rw [sidesB_split _ k hkl, hg]
    simp
  have hl : ([UInt8.ofNat h, UInt8.ofNat p] ++ leafB x.nm.data.toList x.bal x.salt ++ sidesB ((besideT ls p h).take k)).length = 19 + x.nm.size + 11 * k := by
    simp only [List.length_append, leafB_length, sidesB_len, List.length_take, besideT_len, List.length_cons, List.length_nil, hs]
    omega
  rw [e, ← hl]
  exact sideAt_sideB _ _ _ hr.1 (by have := hr.2; unfold maxS at this; omega)
theorem hon_up (ls : List LeafD) (h p : Nat) (x : LeafD) (hh : h ≤ 6) (hp : p < 2 ^ h) (hn1 : 1 ≤ x.nm.size) (hok : x.ok) (hx : ls[p]? = some x) (hb : ∀ y ∈ ls, 0 ≤ y.bal) (hm : sumL ls ≤ maxS) : ∀ k, k ≤ h → ∃ ts, accUp (honP ls h p x) k = some (ts, sideT ls k (p / 2 ^ k))
  | 0, _ => by
    have h64 : 2 ^ h ≤ 2 ^ 6 := Nat.pow_le_pow_right (by omega) hh
    refine ⟨[accText0 (honP ls h p x)], ?_⟩
    unfold accUp
    rw [accText0_leaf h _ (honP_head ls h p x hh hp hn1 hok.1), honP_name ls h p x hh (by omega) hok.1, (honP_nums ls h p x hh (by omega) hok).1, (honP_nums ls h p x hh (by omega) hok).2]
    rw [Nat.pow_zero, Nat.div_one]
    unfold sideT
    rw [hx]
  | k + 1, hk => by
    have h64 : 2 ^ h ≤ 2 ^ 6 := Nat.pow_le_pow_right (by omega) hh
    obtain ⟨ts, hu⟩ := hon_up ls h p x hh hp hn1 hok hx hb hm k (by omega)
    have hsd := honP_side ls h p x hh (by omega) hok.1 hb hm k (by omega)
    obtain ⟨q, hq⟩ : ∃ q, p / 2 ^ k = q := ⟨_, rfl⟩
    have hq2 : p / 2 ^ (k + 1) = q / 2 := by rw [← hq, Nat.div_div_eq_div_mul, Nat.pow_succ]
    rw [hq] at hu hsd
    have r0 := side_range ls hb hm k q
    have r1 := side_range ls hb hm k (sib q)
    have r2 := side_range ls hb hm (k + 1) (q / 2)
    have hup := side_up ls hb hm k (q / 2)
    have hpair : upText q (sideT ls k q) (sideT ls k (sib q)) = 1 :: (sideB (sideT ls k (2 * (q / 2))) ++ sideB (sideT ls k (2 * (q / 2) + 1))) ∧ (sideT ls k q).2 + (sideT ls k (sib q)).2 = (sideT ls k (2 * (q / 2))).2 + (sideT ls k (2 * (q / 2) + 1)).2 := by
      unfold upText sib
      by_cases ho : q % 2 = 1
      · rw [if_pos ho, if_pos ho, show 2 * (q / 2) = q - 1 by omega, show q - 1 + 1 = q by omega]
        exact ⟨rfl, by omega⟩
      · rw [if_neg ho, if_neg ho, show 2 * (q / 2) = q by omega]
        exact ⟨rfl, rfl⟩
    have hsum : (sideT ls k q).2 + (sideT ls k (sib q)).2 = (sideT ls (k + 1) (q / 2)).2 := by rw [hpair.2, hup]; rfl
    have hb1 := (honP_bytes ls h p x hh (by omega) hok.1).2.1
    refine ⟨ts ++ [upText q (sideT ls k q) (sideT ls k (sib q))], ?_⟩
    rw [accUp_step hu hsd (fun h => by omega), hb1, hq, hq2, hup]
    unfold nodeS
    rw [hpair.1, hpair.2]
/-- An honest proof is accepted, and tells its leaf. -/
theorem honest (ls : List LeafD) (h p : Nat) (x : LeafD) (hh : h ≤ 6) (hp : p < 2 ^ h) (hn1 : 1 ≤ x.nm.size) (hok : x.ok) (hx : ls[p]? = some x) (hb : ∀ y ∈ ls, 0 ≤ y.bal) (hm : sumL ls ≤ maxS) :
    verAns (reportB ls h) (honP ls h p x) = (x.nm.data.toList, x.bal, 0) := by
  have h64 : 2 ^ h ≤ 2 ^ 6 := Nat.pow_le_pow_right (by omega) hh
  have hr := side_range ls hb hm h 0
  have hroot : repRoot (reportB ls h) = sideT ls h 0 := by
    unfold repRoot reportB
    have := sideAt_sideB [UInt8.ofNat h] [] (sideT ls h 0) hr.1 (by have := hr.2; unfold maxS at this; omega)
    simpa using this
  have hH : repH (reportB ls h) = h := by
    unfold repH reportB
    exact u8_small (by omega)
  have hlen : (reportB ls h).length = 12 := by unfold reportB; rw [List.length_cons, sideB_len]
  have hrep : repOk (reportB ls h) := ⟨⟨hlen, by have : repH (reportB ls h) ≤ 6 := by rw [hH]; exact hh
                                                 exact this⟩, by rw [hroot]; exact hr.2⟩
  obtain ⟨ts, hu⟩ := hon_up ls h p x hh hp hn1 hok hx hb hm h (Nat.le_refl _)
  rw [Nat.div_eq_of_lt hp] at hu
  have hbal := (honP_nums ls h p x hh (by omega) hok).1
  have hxm : x ∈ ls := List.mem_of_getElem? hx
  have hle : x.bal ≤ maxS := by
    have h0 := side_range ls hb hm 0 p
    have e : (sideT ls 0 p).2 = x.bal := by unfold sideT; rw [hx]
    omega
  have hacc : (accOk h (sideT ls h 0) (honP ls h p x)).isSome = true := by
    unfold accOk accTexts
    rw [hbal, if_neg (by omega), hu]
    simp
  rw [verAns_yes ⟨hrep, by rw [hH]; exact honP_head ls h p x hh hp hn1 hok.1, by rw [hH, hroot]; exact hacc⟩, honP_name ls h p x hh (by omega) hok.1, hbal]

end Go.Proofs.Ytbjobbkgelipmaa
