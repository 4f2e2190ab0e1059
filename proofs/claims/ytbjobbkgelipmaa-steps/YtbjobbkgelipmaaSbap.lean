/-
  The walk of tithe's accepts.
-/
import Derived.BigQuiet
import Derived.Deep.DeepCutAuto
import Derived.Test.YtbjobbkgelipmaaRows
import Derived.ProofKit
import Derived.SizedLaws
import Derived.Deep.Slices
import Derived.Test.YtbjobbkgelipmaaIter
import Derived.Test.YtbjobbkgelipmaaSban
import Derived.Test.YtbjobbkgelipmaaSbag
import Derived.Test.YtbjobbkgelipmaaSbao
import Derived.Test.YtbjobbkgelipmaaSbab
import Derived.Test.YtbjobbkgelipmaaSbal
import Derived.Test.YtbjobbkgelipmaaSbai
import Derived.Test.YtbjobbkgelipmaaSbaj
import Derived.Test.YtbjobbkgelipmaaSbaf
import Derived.Test.YtbjobbkgelipmaaSbad
namespace Go.Proofs.Ytbjobbkgelipmaa
open Go.RowKit

set_option maxHeartbeats 2000000 in
set_option maxRecDepth 100000 in
theorem accepts_any (h : Nat) (root : Dg × Int) (l : List UInt8) (sb : Nat) (w : World) (hh : h ≤ 6) (hacc : accHead h l) (hbal : accBal l ≤ maxS) (hsums : ∀ i, i < h → (sideAt l (19 + bAt l 2 + 11 * i)).2 ≤ maxS) (hlt : sb < w.heap.size)
    (hS : SidesAt w sb (sidesOf (l.drop (19 + bAt l 2)) h)) :
    Calls Try.prog 51 #[ownRepV (h : Int) (root.1.1.toNat : Int) (root.1.2.1.toNat : Int) (root.1.2.2.toNat : Int) root.2, proofV (bAt l 1 : Int) ⟨(accName l).toArray⟩ (accBal l) (accSalt l) (some ⟨sb, 0, none⟩) h h] w fun e w' => e = .returned (.bool (accTexts h root l).isSome) ∧ Below w.heap.size w w' := by
  have hC := fun w' (hb : Below w.heap.size w w') => climb_any h l sb w' hh hacc hbal hsums (by have := hb.size; omega) (hS.below hb hlt)
  obtain ⟨pl, hpl⟩ : ∃ pl : Int, (bAt l 1 : Int) = pl := ⟨_, rfl⟩
  obtain ⟨nm, hnm⟩ : ∃ nm : ByteArray, ⟨(accName l).toArray⟩ = nm := ⟨_, rfl⟩
  obtain ⟨bal, hbl⟩ : ∃ x, accBal l = x := ⟨_, rfl⟩
  obtain ⟨salt, hsl⟩ : ∃ x, accSalt l = x := ⟨_, rfl⟩
  rw [hpl, hnm, hbl, hsl] at hC ⊢
  obtain ⟨d0, hd0⟩ : ∃ d : Int, (root.1.1.toNat : Int) = d := ⟨_, rfl⟩
  obtain ⟨d1, hd1⟩ : ∃ d : Int, (root.1.2.1.toNat : Int) = d := ⟨_, rfl⟩
  obtain ⟨d2, hd2⟩ : ∃ d : Int, (root.1.2.2.toNat : Int) = d := ⟨_, rfl⟩
  rw [hd0, hd1, hd2]
  have hRV : sideV root.1 root.2 = .agg #[.int .u8 d0, .int .u8 d1, .int .u8 d2, .int .u64 root.2] := by rw [← hd0, ← hd1, ← hd2]; rfl
  have HRV := hide hRV
  have hq := eql_digest
  clear hacc hbal hsums hS hpl hnm hbl hsl hd0 hd1 hd2 hRV
  unfold proofV joinV at *
  cases hu : accUp l h with
  | none =>
    have hE : (accTexts h root l).isSome = false := by simp only [accTexts, hu]; rfl
    rw [hE]
    have HC : ∀ w', Below w.heap.size w w' → Hid (Calls Try.prog 65 #[.agg #[.func (.func 64) #[] #[]], .agg #[.int .i64 pl, .string nm, .int .u64 bal, .int .u64 salt, .slice (some ⟨sb, 0, none⟩) h h]] w' fun e w'' => e = .returned (.tuple #[.agg #[.int .u8 0, .int .u8 0, .int .u8 0, .int .u64 0], .bool false]) ∧ Below w'.heap.size w' w'') := fun w' hb => (hC w' hb).mono fun e w'' hp => by
      obtain ⟨p1, p2⟩ := hp
      rw [hu] at p2
      exact ⟨p2, p1⟩
    clear hC hE hu
    unfold ownRepV
    go_enter Try.func51, Try.ntmps51
    go_wp2_with fail
    have hA : Below w.heap.size w ((w.alloc (Obj.cells #[Value.int IntKind.i64 (h : Int), Value.int IntKind.u8 d0, Value.int IntKind.u8 d1, Value.int IntKind.u8 d2, Value.int IntKind.u64 root.2] 90)).alloc (Obj.cells #[Value.int IntKind.i64 pl, Value.string nm, Value.int IntKind.u64 bal, Value.int IntKind.u64 salt, Value.slice (some ⟨sb, 0, none⟩) h h] 79)) := ((Below.refl _ _).alloc (Nat.le_refl _) _).alloc (by simp) _
    refine (unhide (HC _ hA)).mono ?_
    rintro e w1 ⟨rfl, hb1⟩
    have hB := hA.trans (hb1.mono (by simp only [World.size_alloc]; omega))
    have HB := hide (hB.alloc hB.size (Obj.cells #[Value.int IntKind.u8 0, Value.int IntKind.u8 0, Value.int IntKind.u8 0, Value.int IntKind.u64 0] 88))
    clear hA hb1 hB HC
    go_wp2
    go_ret
    exact ⟨rfl, unhide HB⟩
  | some p =>
    obtain ⟨ts, now⟩ := p
    have hE : (accTexts h root l).isSome = decide (now = root) := by
      simp only [accTexts, hu]
      by_cases he : now = root
      · rw [if_pos he, decide_eq_true he]; rfl
      · rw [if_neg he, decide_eq_false he]; rfl
    rw [hE]
    obtain ⟨s0, s1, s2, hS1⟩ : ∃ s0 s1 s2 : Int, sideV now.1 now.2 = .agg #[.int .u8 s0, .int .u8 s1, .int .u8 s2, .int .u64 now.2] := ⟨_, _, _, rfl⟩
    have hEq := side_eq hS1 (unhide HRV)
    have e : (((now.1, now.2) : Dg × Int) = (root.1, root.2)) = (now = root) := rfl
    rw [show decide (now = root) = decide (((now.1, now.2) : Dg × Int) = (root.1, root.2)) from rfl, ← hEq]
    have HC : ∀ w', Below w.heap.size w w' → Hid (Calls Try.prog 65 #[.agg #[.func (.func 64) #[] #[]], .agg #[.int .i64 pl, .string nm, .int .u64 bal, .int .u64 salt, .slice (some ⟨sb, 0, none⟩) h h]] w' fun e w'' => e = .returned (.tuple #[.agg #[.int .u8 s0, .int .u8 s1, .int .u8 s2, .int .u64 now.2], .bool true]) ∧ Below w'.heap.size w' w'') := fun w' hb => (hC w' hb).mono fun e w'' hp => by
      obtain ⟨p1, p2⟩ := hp
      rw [hu] at p2
      rw [← hS1]
      exact ⟨p2, p1⟩
    generalize now.2 = nx at *
    generalize root.2 = rn at *
    clear hC hE hu hS1 hEq e
    unfold ownRepV
    generalize hD : (s0 == d0 && (s1 == d1 && s2 == d2)) = D
    replace hq : ∀ w : World, _ := fun w => eql_digest w s0 s1 s2 d0 d1 d2
    rw [hD] at hq
    go_enter Try.func51, Try.ntmps51
    go_wp2_with fail
    have k0 := heap_next (o := (Obj.cells #[Value.int IntKind.i64 pl, Value.string nm, Value.int IntKind.u64 bal, Value.int IntKind.u64 salt, Value.slice (some ⟨sb, 0, none⟩) h h] 79)) (heap_alloc_new w (Obj.cells #[Value.int IntKind.i64 (h : Int), Value.int IntKind.u8 d0, Value.int IntKind.u8 d1, Value.int IntKind.u8 d2, Value.int IntKind.u64 rn] 90))
    have hA : Below w.heap.size w ((w.alloc (Obj.cells #[Value.int IntKind.i64 (h : Int), Value.int IntKind.u8 d0, Value.int IntKind.u8 d1, Value.int IntKind.u8 d2, Value.int IntKind.u64 rn] 90)).alloc (Obj.cells #[Value.int IntKind.i64 pl, Value.string nm, Value.int IntKind.u64 bal, Value.int IntKind.u64 salt, Value.slice (some ⟨sb, 0, none⟩) h h] 79)) := ((Below.refl _ _).alloc (Nat.le_refl _) _).alloc (by simp) _
    refine (unhide (HC _ hA)).mono ?_
    rintro e w1 ⟨rfl, hb1⟩
    have hB := hA.trans (hb1.mono (by simp only [World.size_alloc]; omega))
    have m0 := heap_next (o := Obj.cells #[Value.int IntKind.u8 s0, Value.int IntKind.u8 s1, Value.int IntKind.u8 s2, Value.int IntKind.u64 nx] 88) ((hb1.block _ (Array.getElem?_eq_some_iff.1 k0).1).trans k0)
    have m1 := heap_alloc_new w1 (Obj.cells #[Value.int IntKind.u8 s0, Value.int IntKind.u8 s1, Value.int IntKind.u8 s2, Value.int IntKind.u64 nx] 88)
    have HB := hide (hB.alloc hB.size (Obj.cells #[Value.int IntKind.u8 s0, Value.int IntKind.u8 s1, Value.int IntKind.u8 s2, Value.int IntKind.u64 nx] 88))
    clear hA hb1 hB HC k0
    go_upto_region 2 with fail
    generalize (w1.alloc (Obj.cells #[Value.int IntKind.u8 s0, Value.int IntKind.u8 s1, Value.int IntKind.u8 s2, Value.int IntKind.u64 nx] 88)) = W2 at *
    generalize w1.heap.size = N at *
    have a0 : W2.cell? ⟨w.heap.size, 1, none⟩ = some (.int .u8 d0) := block_cell m0
    have a1 : W2.cell? ⟨w.heap.size, 2, none⟩ = some (.int .u8 d1) := block_cell m0
    have a2 : W2.cell? ⟨w.heap.size, 3, none⟩ = some (.int .u8 d2) := block_cell m0
    have a3 : W2.cell? ⟨w.heap.size, 4, none⟩ = some (.int .u64 rn) := block_cell m0
    have b0 : W2.cell? ⟨N, 0, none⟩ = some (.int .u8 s0) := block_cell m1
    have b1 : W2.cell? ⟨N, 1, none⟩ = some (.int .u8 s1) := block_cell m1
    have b2 : W2.cell? ⟨N, 2, none⟩ = some (.int .u8 s2) := block_cell m1
    have b3 : W2.cell? ⟨N, 3, none⟩ = some (.int .u64 nx) := block_cell m1
    have HD := hide hD
    clear m0 m1 hD
    cases D with
    | false =>
      go_wp2
      go_ret
      exact ⟨rfl, unhide HB⟩
    | true =>
      go_wp2
      go_ret
      exact ⟨by simp, unhide HB⟩

end Go.Proofs.Ytbjobbkgelipmaa

/-
  The walk of titheref's Verify.
-/
namespace Go.Proofs.Ytbjobbkgelipmaa
open Go.RowKit

def repOk (l : List UInt8) : Prop := repHead l ∧ (repRoot l).2 ≤ maxS
/-- The texts of a proof that a report accepts. -/
def accOk (h : Nat) (root : Dg × Int) (l : List UInt8) : Option (List (List UInt8)) := if maxS < accBal l then none else accTexts h root l
def verOk (rep prf : List UInt8) : Prop := repOk rep ∧ accHead (repH rep) prf ∧ (accOk (repH rep) (repRoot rep) prf).isSome = true
def verV (nm : List UInt8) (v : Int) (e : Int) : Value := .tuple #[strV nm, .int .u64 v, .int .i64 e]

end Go.Proofs.Ytbjobbkgelipmaa

/-
  What titheref's Verify answers, in plain words.
-/
namespace Go.Proofs.Ytbjobbkgelipmaa
open Go.RowKit

open Classical in
/-- What a Verify must answer: a name, a balance, an error. -/
noncomputable def verAns (rep prf : List UInt8) : List UInt8 × Int × Int :=
  if repOk rep then (if verOk rep prf then (accName prf, accBal prf, 0) else ([], 0, 9)) else ([], 0, 8)

theorem verAns_norep {rep prf : List UInt8} (h : ¬ repOk rep) : verAns rep prf = ([], 0, 8) := if_neg h
theorem verAns_no {rep prf : List UInt8} (h : repOk rep) (h2 : ¬ verOk rep prf) : verAns rep prf = ([], 0, 9) := by unfold verAns; rw [if_pos h, if_neg h2]
theorem verAns_yes {rep prf : List UInt8} (h2 : verOk rep prf) : verAns rep prf = (accName prf, accBal prf, 0) := by unfold verAns; rw [if_pos h2.1, if_pos h2]

end Go.Proofs.Ytbjobbkgelipmaa

/-
  The walk of tithe's readAccepted.
-/
namespace Go.Proofs.Ytbjobbkgelipmaa
open Go.RowKit

theorem accUp_over {l : List UInt8} {i h : Nat} (hi : i < h) (hx : maxS < (sideAt l (19 + bAt l 2 + 11 * i)).2) : accUp l h = none := by
  have h1 : accUp l (i + 1) = none := by
    cases hu : accUp l i with
    | none => simp only [accUp, hu]
    | some p => simp only [accUp, hu]; rw [if_pos (Or.inl hx)]
  have := accUp_none (j := h - (i + 1)) h1
  rwa [show i + 1 + (h - (i + 1)) = h by omega] at this

/-- A proof's bytes whose numbers are within bounds. -/
def prfOk (h : Nat) (l : List UInt8) : Prop := accHead h l ∧ accBal l ≤ maxS ∧ ∀ i, i < h → (sideAt l (19 + bAt l 2 + 11 * i)).2 ≤ maxS

theorem prfOk_great {h : Nat} {l : List UInt8} (ha : accHead h l) : greatB (accBal l) (sidesOf (l.drop (19 + bAt l 2)) h) ≤ maxS ↔ prfOk h l := by
  rw [greatB_le]
  constructor
  · rintro ⟨h1, h2⟩
    refine ⟨ha, h1, fun i hi => ?_⟩
    have := h2 _ (List.getElem_mem (l := sidesOf (l.drop (19 + bAt l 2)) h) (n := i) (by rw [sidesOf_len]; exact hi))
    rwa [sidesOf_at hi] at this
  · rintro ⟨_, h1, h2⟩
    refine ⟨h1, fun y hy => ?_⟩
    obtain ⟨i, hi, rfl⟩ := List.getElem_of_mem hy
    rw [sidesOf_len] at hi
    rw [sidesOf_at hi]
    exact h2 i hi

theorem notOk_of {rep prf : List UInt8} (hn : ¬ prfOk (repH rep) prf) : ¬ verOk rep prf := by
  rintro ⟨h0, h1, h2⟩
  refine hn ⟨h1, ?_, fun i hi => ?_⟩
  · refine Int.not_lt.1 fun h => ?_
    unfold accOk at h2
    rw [if_pos h] at h2
    cases h2
  · refine Int.not_lt.1 fun h => ?_
    unfold accOk accTexts at h2
    rw [accUp_over hi h] at h2
    split at h2 <;> cases h2

/-- readProof, in all cases. -/
theorem rdpr_all (b cap h : Nat) (l : List UInt8) (w : World) (hcap : l.length ≤ cap) (hc0 : h = 0 → l.length < cap) (hm : cap ≤ 9223372036854775807) (hh : h ≤ 6) (hb : b < w.heap.size) (hB : BytesAt w b 0 l) :
    Calls Try.prog 50 #[.slice (some ⟨b, 0, none⟩) l.length cap, .int .i64 (h : Int)] w fun e w' => Below w.heap.size w w' ∧
      ((¬ prfOk h l ∧ ∃ (pl : Int) (nm : ByteArray) (bal salt : Int) (a : Option Addr) (k c : Nat), e = .returned (.tuple #[proofV pl nm bal salt a k c, .bool false])) ∨
       (prfOk h l ∧ ∃ g, e = .returned (.tuple #[proofV (bAt l 1 : Int) ⟨(accName l).toArray⟩ (accBal l) (accSalt l) (some ⟨g, 0, none⟩) h h, .bool true]) ∧ g < w'.heap.size ∧ SidesAt w' g (sidesOf (l.drop (19 + bAt l 2)) h))) := by
  by_cases h3 : l.length < 3
  · refine (rdpr_short b l.length cap h w h3).mono fun e w' ⟨he, hb'⟩ => ⟨hb', .inl ⟨fun hp => by have := hp.1.1; omega, 0, ⟨#[]⟩, 0, 0, none, 0, 0, he⟩⟩
  · by_cases h0 : bAt l 0 = h
    · refine (rdpr_good b l.length cap h l w rfl (by omega) hcap hc0 hm hh hb hB h0).mono fun e w' ⟨hb', p1, p2⟩ => ⟨hb', ?_⟩
      by_cases ha : accHead h l
      · obtain ⟨g, he, hg, hs⟩ := p2 ha
        by_cases hk : prfOk h l
        · rw [decide_eq_true ((prfOk_great ha).2 hk)] at he
          exact .inr ⟨hk, g, he, hg, hs⟩
        · rw [decide_eq_false (fun h => hk ((prfOk_great ha).1 h))] at he
          exact .inl ⟨hk, _, _, _, _, _, _, _, he⟩
      · exact .inl ⟨fun hp => ha hp.1, 0, ⟨#[]⟩, 0, 0, none, 0, 0, p1 ha⟩
    · have c0 : w.cell? ⟨b, 0, none⟩ = some (.int .u8 (bAt l 0 : Int)) := by
        have := hB 0 (by omega)
        rw [this]; unfold bAt; rw [List.getD_eq_getElem?_getD, List.getElem?_eq_getElem (by omega)]; rfl
      refine (rdpr_height b l.length cap h (bAt l 0) w (by omega) hb c0 (by have := UInt8.toNat_lt (l.getD 0 0); unfold bAt; omega) h0).mono fun e w' ⟨he, hb'⟩ => ⟨hb', .inl ⟨fun hp => h0 hp.1.2.1, 0, ⟨#[]⟩, 0, 0, none, 0, 0, he⟩⟩

def proofC (pl : Int) (nm : ByteArray) (bal salt : Int) (a : Option Addr) (k c : Nat) : Obj := Obj.cells #[Value.int IntKind.i64 pl, Value.string nm, Value.int IntKind.u64 bal, Value.int IntKind.u64 salt, Value.slice a k c] 79
def repC (h d0 d1 d2 x : Int) : Obj := Obj.cells #[Value.int IntKind.i64 h, Value.int IntKind.u8 d0, Value.int IntKind.u8 d1, Value.int IntKind.u8 d2, Value.int IntKind.u64 x] 90

set_option maxHeartbeats 1000000 in
set_option maxRecDepth 100000 in
theorem rdacc_no (v : Value) (w : World) (h d0 d1 d2 x : Int)
    (hP : ∀ w', Below w.heap.size w w' → Calls Try.prog 50 #[v, .int .i64 h] w' fun e w'' => (∃ (pl : Int) (nm : ByteArray) (bal salt : Int) (a : Option Addr) (k c : Nat), e = .returned (.tuple #[proofV pl nm bal salt a k c, .bool false])) ∧ Below w'.heap.size w' w'') :
    Calls Try.prog 35 #[ownRepV h d0 d1 d2 x, v] w fun e w' => e = .returned (.tuple #[proofZ, .bool false]) ∧ Below w.heap.size w w' := by
  have HP := fun w' hb => hide (hP w' hb)
  clear hP
  unfold ownRepV at *
  go_enter Try.func35, Try.ntmps35
  go_wp2_with fail
  have hA : Below w.heap.size w ((w.alloc (repC h d0 d1 d2 x)).alloc (proofC 0 ⟨#[]⟩ 0 0 none 0 0)) := ((Below.refl _ _).alloc (Nat.le_refl _) _).alloc (by simp) _
  have kR := heap_new1 w (repC h d0 d1 d2 x) (proofC 0 ⟨#[]⟩ 0 0 none 0 0)
  refine (unhide (HP _ hA)).mono ?_
  rintro e w2 ⟨⟨pl, nm, bal, salt, a, k, c, rfl⟩, hb2⟩
  have mR := heap_next (o := proofC pl nm bal salt a k c) ((hb2.block _ (Array.getElem?_eq_some_iff.1 kR).1).trans kR)
  have hB := hA.trans (hb2.mono (by simp only [World.size_alloc]; omega))
  have HB := hide (hB.alloc hB.size (proofC pl nm bal salt a k c))
  clear hb2 hB hA HP kR
  unfold proofV
  go_upto_region 2 with fail
  unfold proofC at *
  generalize (w2.alloc (Obj.cells #[Value.int IntKind.i64 pl, Value.string nm, Value.int IntKind.u64 bal, Value.int IntKind.u64 salt, Value.slice a k c] 79)) = W3 at *
  generalize w2.heap.size = P at *
  obtain ⟨R, hR⟩ : ∃ R, w.heap.size + 1 = R := ⟨_, rfl⟩
  rw [hR] at mR ⊢
  have r0 : W3.cell? ⟨R, 0, none⟩ = some (.int .i64 0) := block_cell mR
  have r1 : W3.cell? ⟨R, 1, none⟩ = some (.string ⟨#[]⟩) := block_cell mR
  have r2 : W3.cell? ⟨R, 2, none⟩ = some (.int .u64 0) := block_cell mR
  have r3 : W3.cell? ⟨R, 3, none⟩ = some (.int .u64 0) := block_cell mR
  have r4 : W3.cell? ⟨R, 4, none⟩ = some (.slice none 0 0) := block_cell mR
  have rf : ∀ i, W3.frozen? ⟨R, i, none⟩ = false := fun i => block_free mR
  have HR := hide hR
  clear mR hR
  go_wp2
  refine bodyPost_ret (v := .tuple #[proofZ, .bool false]) ?_ rfl ⟨rfl, ?_⟩
  · simp [results, Try.results35, go_sem, proofZ, r0, r1, r2, r3, r4]
  · have hw := unhide HR
    exact (((((unhide HB).setCell (by show w.heap.size ≤ R; omega) _).setCell (by show w.heap.size ≤ R; omega) _).setCell (by show w.heap.size ≤ R; omega) _).setCell (by show w.heap.size ≤ R; omega) _).setCell (by show w.heap.size ≤ R; omega) _

/-- What readAccepted owes where readProof has read a proof. -/
def RdAccP (w : World) (pl bal salt : Int) (nm : ByteArray) (k c : Nat) (bb : Bool) (Q : Option Addr → World → Prop) (e : Ending) (w' : World) : Prop :=
  bb = false ∧ e = .returned (.tuple #[proofZ, .bool false]) ∨ bb = true ∧ ∃ a W, e = .returned (.tuple #[proofV pl nm bal salt a k c, .bool true]) ∧ Q a W ∧ W.cell? ⟨w.heap.size + 1, 0, none⟩ = some (.int .i64 0) ∧ w'.heap.size = W.heap.size ∧ ∀ b, b ≠ w.heap.size + 1 → w'.heap[b]? = W.heap[b]?

set_option maxHeartbeats 1000000 in
set_option maxRecDepth 100000 in
theorem rdacc_acc (v : Value) (w : World) (h d0 d1 d2 x : Int) (pl bal salt : Int) (nm : ByteArray) (k c : Nat) (bb : Bool) (Q : Option Addr → World → Prop) (hQ : ∀ a W W', Q a W → Below W.heap.size W W' → Q a W')
    (hP : ∀ w', Below w.heap.size w w' → Calls Try.prog 50 #[v, .int .i64 h] w' fun e w'' => (∃ a : Option Addr, e = .returned (.tuple #[proofV pl nm bal salt a k c, .bool true]) ∧ Q a w'' ∧
      ∀ w3, Below w''.heap.size w'' w3 → Calls Try.prog 51 #[ownRepV h d0 d1 d2 x, proofV pl nm bal salt a k c] w3 fun e w4 => e = .returned (.bool bb) ∧ Below w3.heap.size w3 w4) ∧ Below w'.heap.size w' w'') :
    Calls Try.prog 35 #[ownRepV h d0 d1 d2 x, v] w fun e w' => RdAccP w pl bal salt nm k c bb Q e w' ∧ Below w.heap.size w w' := by
  have HP := fun w' hb => hide (hP w' hb)
  have HQ := hide hQ
  clear hP hQ
  unfold ownRepV proofV at *
  go_enter Try.func35, Try.ntmps35
  go_wp2_with fail
  have hA : Below w.heap.size w ((w.alloc (repC h d0 d1 d2 x)).alloc (proofC 0 ⟨#[]⟩ 0 0 none 0 0)) := ((Below.refl _ _).alloc (Nat.le_refl _) _).alloc (by simp) _
  have kA := heap_next (o := proofC 0 ⟨#[]⟩ 0 0 none 0 0) (heap_alloc_new w (repC h d0 d1 d2 x))
  have kR := heap_new1 w (repC h d0 d1 d2 x) (proofC 0 ⟨#[]⟩ 0 0 none 0 0)
  refine (unhide (HP _ hA)).mono ?_
  rintro e w2 ⟨⟨a, rfl, hq, hAcc⟩, hb2⟩
  have mA := heap_next (o := proofC pl nm bal salt a k c) ((hb2.block _ (Array.getElem?_eq_some_iff.1 kA).1).trans kA)
  have mR := heap_next (o := proofC pl nm bal salt a k c) ((hb2.block _ (Array.getElem?_eq_some_iff.1 kR).1).trans kR)
  have mP := heap_alloc_new w2 (proofC pl nm bal salt a k c)
  have hB := hA.trans (hb2.mono (by simp only [World.size_alloc]; omega))
  have hB3 := hB.alloc hB.size (proofC pl nm bal salt a k c)
  have hz2 : w.heap.size + 2 ≤ w2.heap.size := by have := hb2.size; simp only [World.size_alloc] at this; omega
  have hn3 := (Below.refl w2.heap.size w2).alloc (Nat.le_refl _) (proofC pl nm bal salt a k c)
  have hq3 := unhide HQ _ _ _ hq hn3
  have HC := hide (hAcc _ hn3)
  have HB3 := hide (And.intro hB3 hq3)
  have hz3 := hB3.size
  clear hb2 hB hA HP kR kA hAcc hn3 hB3 hq hq3
  go_upto_region 2 with fail
  unfold proofC repC at *
  have hs3 : (w2.alloc (Obj.cells #[Value.int IntKind.i64 pl, Value.string nm, Value.int IntKind.u64 bal, Value.int IntKind.u64 salt, Value.slice a k c] 79)).heap.size = w2.heap.size + 1 := by simp
  generalize (w2.alloc (Obj.cells #[Value.int IntKind.i64 pl, Value.string nm, Value.int IntKind.u64 bal, Value.int IntKind.u64 salt, Value.slice a k c] 79)) = W3 at *
  generalize w2.heap.size = P at *
  obtain ⟨R, hR⟩ : ∃ R, w.heap.size + 1 = R := ⟨_, rfl⟩
  rw [hR] at mR ⊢
  have a0 : W3.cell? ⟨w.heap.size, 0, none⟩ = some (.int .i64 h) := block_cell mA
  have a1 : W3.cell? ⟨w.heap.size, 1, none⟩ = some (.int .u8 d0) := block_cell mA
  have a2 : W3.cell? ⟨w.heap.size, 2, none⟩ = some (.int .u8 d1) := block_cell mA
  have a3 : W3.cell? ⟨w.heap.size, 3, none⟩ = some (.int .u8 d2) := block_cell mA
  have a4 : W3.cell? ⟨w.heap.size, 4, none⟩ = some (.int .u64 x) := block_cell mA
  have e0 : W3.cell? ⟨P, 0, none⟩ = some (.int .i64 pl) := block_cell mP
  have e1 : W3.cell? ⟨P, 1, none⟩ = some (.string nm) := block_cell mP
  have e2 : W3.cell? ⟨P, 2, none⟩ = some (.int .u64 bal) := block_cell mP
  have e3 : W3.cell? ⟨P, 3, none⟩ = some (.int .u64 salt) := block_cell mP
  have e4 : W3.cell? ⟨P, 4, none⟩ = some (.slice a k c) := block_cell mP
  have MP := hide (And.intro mP mR)
  have HR := hide (And.intro hR (And.intro hz2 hs3))
  clear mA mR mP hR hz2 hs3
  go_wp2_with fail
  refine (unhide HC).mono ?_
  rintro e w4 ⟨rfl, hb4⟩
  have mP := (hb4.block _ (Array.getElem?_eq_some_iff.1 (unhide MP).1).1).trans (unhide MP).1
  have mR := (hb4.block _ (Array.getElem?_eq_some_iff.1 (unhide MP).2).1).trans (unhide MP).2
  have HB4 := hide (And.intro ((unhide HB3).1.trans (hb4.mono hz3)) (And.intro (unhide HQ _ _ _ (unhide HB3).2 hb4) hb4.size))
  clear a0 a1 a2 a3 a4 e0 e1 e2 e3 e4 hb4 HC MP HB3 HQ
  have r0 : w4.cell? ⟨R, 0, none⟩ = some (.int .i64 0) := block_cell mR
  have r1 : w4.cell? ⟨R, 1, none⟩ = some (.string ⟨#[]⟩) := block_cell mR
  have r2 : w4.cell? ⟨R, 2, none⟩ = some (.int .u64 0) := block_cell mR
  have r3 : w4.cell? ⟨R, 3, none⟩ = some (.int .u64 0) := block_cell mR
  have r4 : w4.cell? ⟨R, 4, none⟩ = some (.slice none 0 0) := block_cell mR
  have rf : ∀ i, w4.frozen? ⟨R, i, none⟩ = false := fun i => block_free mR
  clear mR
  have hbel : ∀ (v0 v1 v2 v3 v4 : Value), Below w.heap.size w (((((w4.setCell ⟨R, 0, none⟩ v0).setCell ⟨R, 1, none⟩ v1).setCell ⟨R, 2, none⟩ v2).setCell ⟨R, 3, none⟩ v3).setCell ⟨R, 4, none⟩ v4) := fun v0 v1 v2 v3 v4 => by
    have hw := (unhide HR).1
    exact (((((unhide HB4).1.setCell (by show w.heap.size ≤ R; omega) _).setCell (by show w.heap.size ≤ R; omega) _).setCell (by show w.heap.size ≤ R; omega) _).setCell (by show w.heap.size ≤ R; omega) _).setCell (by show w.heap.size ≤ R; omega) _
  have HBL := hide hbel
  clear hbel
  cases bb with
  | false =>
    clear mP
    go_wp2
    refine bodyPost_ret (v := .tuple #[proofZ, .bool false]) ?_ rfl ⟨.inl ⟨rfl, rfl⟩, ?_⟩
    · simp [results, Try.results35, go_sem, proofZ, r0, r1, r2, r3, r4]
    · exact unhide HBL _ _ _ _ _
  | true =>
    have e0 : w4.cell? ⟨P, 0, none⟩ = some (.int .i64 pl) := block_cell mP
    have e1 : w4.cell? ⟨P, 1, none⟩ = some (.string nm) := block_cell mP
    have e2 : w4.cell? ⟨P, 2, none⟩ = some (.int .u64 bal) := block_cell mP
    have e3 : w4.cell? ⟨P, 3, none⟩ = some (.int .u64 salt) := block_cell mP
    have e4 : w4.cell? ⟨P, 4, none⟩ = some (.slice a k c) := block_cell mP
    clear mP
    go_wp2
    refine bodyPost_ret (v := .tuple #[.agg #[.int .i64 pl, .string nm, .int .u64 bal, .int .u64 salt, .slice a k c], .bool true]) ?_ rfl ⟨.inr ⟨rfl, a, w4, rfl, (unhide HB4).2.1, ?_, ?_, ?_⟩, ?_⟩
    · simp [results, Try.results35, go_sem, r0, r1, r2, r3, r4]
    · rw [(unhide HR).1]; exact r0
    · simp
    · intro b hne
      have hw := (unhide HR).1
      have hne' : b ≠ R := by omega
      rw [Below.heap_setCell _ _ _ _ hne', Below.heap_setCell _ _ _ _ hne', Below.heap_setCell _ _ _ _ hne', Below.heap_setCell _ _ _ _ hne', Below.heap_setCell _ _ _ _ hne']
    · exact unhide HBL _ _ _ _ _

end Go.Proofs.Ytbjobbkgelipmaa

/-
  The walk of tithe's readReport: a head that fits.
-/
namespace Go.Proofs.Ytbjobbkgelipmaa
open Go.RowKit

def repZs : Array Value := #[.int .i64 0, .int .u8 0, .int .u8 0, .int .u8 0, .int .u64 0]

set_option maxHeartbeats 1000000 in
set_option maxRecDepth 100000 in
theorem rdrep_good (b cap : Nat) (l : List UInt8) (w : World) (hb : b < w.heap.size) (hB : BytesAt w b 0 l) (hg : repHead l) (hc : 12 ≤ cap) (hm : cap ≤ 9223372036854775807) :
    Calls Try.prog 34 #[.slice (some ⟨b, 0, none⟩) 12 cap] w fun e w' => e = .returned (.tuple #[ownRepV (repH l : Int) ((repRoot l).1.1.toNat : Int) ((repRoot l).1.2.1.toNat : Int) ((repRoot l).1.2.2.toNat : Int) (repRoot l).2, .bool (leMax (repRoot l).2)]) ∧ Below w.heap.size w w' := by
  have hl := hg.1
  have hne : b ≠ w.heap.size := by omega
  have h6 : repH l ≤ 6 := hg.2
  have c0 : w.cell? ⟨b, 0, none⟩ = some (.int .u8 (repH l : Int)) := by
    have := hB 0 (by omega)
    rw [this]; unfold repH; rw [List.getD_eq_getElem?_getD, List.getElem?_eq_getElem (by omega)]; rfl
  have HC : ∀ w', Below w.heap.size w w' → Hid (Calls Try.prog 49 #[.slice (some ⟨b, 1, none⟩) 11 (cap - 1)] w' fun e w'' => e = .returned (sideV (repRoot l).1 (repRoot l).2) ∧ Below w'.heap.size w' w'') := fun w' hbw => by
    have hBw : BytesAt w' b 0 l := fun j hj => (hbw.cell (p := ⟨b, 0 + j, none⟩) hb).trans (hB j hj)
    have h := rdside_any b (0 + 1) 11 (cap - 1) (l.drop 1) w' (by rw [List.length_drop]; omega) (by omega) (by omega) (by omega) (by have := hbw.size; omega) hBw.drop
    have e : sideAt (l.drop 1) 0 = repRoot l := by
      unfold repRoot sideAt
      simp only [List.getD_eq_getElem?_getD, List.getElem?_drop, List.drop_drop]
    rw [e] at h
    exact h
  generalize hrr : repRoot l = rr at *
  obtain ⟨⟨y0, y1, y2⟩, n⟩ := rr
  unfold sideV at HC
  simp only at HC ⊢
  generalize (y0.toNat : Int) = d0 at *
  generalize (y1.toNat : Int) = d1 at *
  generalize (y2.toNat : Int) = d2 at *
  generalize hh : repH l = h at *
  have hwr : IntKind.i64.wrap (h : Int) = (h : Int) := by rw [IntKind.wrap_i64]; omega
  have hh6 : ¬ (6 : Int) < (h : Int) := by omega
  have cb : ∀ w', Below w.heap.size w w' → w'.cell? ⟨b, 0, none⟩ = some (.int .u8 (h : Int)) := fun w' hbw => (hbw.cell (p := ⟨b, 0, none⟩) hb).trans c0
  have HCB := hide cb
  have hle : leMax n = decide (n ≤ 4611686018427387904) := rfl
  rw [hle]
  generalize hbb : decide (n ≤ 4611686018427387904) = bb
  have lc : cap ≠ 1 := by omega
  clear hB hg hl hh h6 hrr cb hle
  go_enter Try.func34, Try.ntmps34
  go_wp2_with fail
  generalize hW0 : (w.alloc (Obj.cells #[Value.int IntKind.i64 0, Value.int IntKind.u8 0, Value.int IntKind.u8 0, Value.int IntKind.u8 0, Value.int IntKind.u64 0] 90)) = W0
  have hR0 : RB w repZs 90 W0 := by rw [← hW0]; exact RB.new w _ _
  clear hW0 c0
  have hSd : W0.drew.cell? ⟨b, 0, none⟩ = some (.int .u8 (h : Int)) ∧ RB w repZs 90 W0.drew := ⟨unhide HCB _ hR0.drew.below, hR0.drew⟩
  have hz : w.heap.size < W0.heap.size := hR0.lt
  go_cut [4] (fun s4 wx => ∃ A, s4 = .pointer (some ⟨A, 0, none⟩) ∧ Hid (MB w repZs 90 A #[.int .i64 (h : Int), .int .u8 d0, .int .u8 d1, .int .u8 d2, .int .u64 n] 90 wx))
  case first =>
    go_region_held3 (fun w' => w'.cell? ⟨b, 0, none⟩ = some (.int .u8 (h : Int)) ∧ RB w repZs 90 w')
      (first
        | with_reducible exact hSd
        | with_reducible exact hS4
        | with_reducible exact ⟨unhide HCB _ (hS4.2.alloc _).below, hS4.2.alloc _⟩
        | with_reducible exact ⟨unhide HCB _ (hR0.alloc _).drew.below, (hR0.alloc _).drew⟩
        | with_reducible exact ⟨unhide HCB _ (((((hM4.set _ _).set _ _).set _ _).set _ _).set _ _).rb.below, (((((hM4.set _ _).set _ _).set _ _).set _ _).set _ _).rb⟩
        | fail)
      (first
        | (go_at_call 49; refine (unhide (HC _ hSd.2.below)).mono ?_; rintro e w4 ⟨rfl, hb4⟩; have hR4 := hSd.2.later hb4; have hS4 := And.intro (unhide HCB _ hR4.below) hR4; have oA := True.intro)
        | (go_at_call 49; refine (unhide (HC _ (hR0.alloc _).drew.below)).mono ?_; rintro e w4 ⟨rfl, hb4⟩; have hM4 : MB w repZs 90 W0.heap.size _ _ w4 := (MB.new hR0 _ _).drew.later hb4; have hS4 := And.intro (unhide HCB _ hM4.rb.below) hM4.rb; have u0 : w4.cell? ⟨W0.heap.size, 0, none⟩ = some (.int .i64 0) := hM4.cell 0; have u1 : w4.cell? ⟨W0.heap.size, 1, none⟩ = some (.int .u8 0) := hM4.cell 1; have u2 : w4.cell? ⟨W0.heap.size, 2, none⟩ = some (.int .u8 0) := hM4.cell 2; have u3 : w4.cell? ⟨W0.heap.size, 3, none⟩ = some (.int .u8 0) := hM4.cell 3; have u4 : w4.cell? ⟨W0.heap.size, 4, none⟩ = some (.int .u64 0) := hM4.cell 4; have v0 : ∀ i, w4.frozen? ⟨W0.heap.size, i, none⟩ = false := hM4.free))
    all_goals (go_wp2_with fail; go_meet; first | exact ⟨_, rfl, hide (MB.new hS4.2 _ _)⟩ | exact ⟨_, rfl, hide (((((hM4.set 0 (.int .i64 (h : Int))).set 1 (.int .u8 d0)).set 2 (.int .u8 d1)).set 3 (.int .u8 d2)).set 4 (.int .u64 n))⟩)
  case rest =>
  obtain ⟨A, rfl, HM⟩ := hcut
  clear hSd hR0 hz HC HCB hh6
  have hM := (unhide HM).drew
  have hA : A ≠ w.heap.size := by have := hM.gt; omega
  have a0 : wc.cell? ⟨A, 0, none⟩ = some (.int .i64 (h : Int)) := hM.cell 0
  have a1 : wc.cell? ⟨A, 1, none⟩ = some (.int .u8 d0) := hM.cell 1
  have a2 : wc.cell? ⟨A, 2, none⟩ = some (.int .u8 d1) := hM.cell 2
  have a3 : wc.cell? ⟨A, 3, none⟩ = some (.int .u8 d2) := hM.cell 3
  have a4 : wc.cell? ⟨A, 4, none⟩ = some (.int .u64 n) := hM.cell 4
  have r0 : wc.cell? ⟨w.heap.size, 0, none⟩ = some (.int .i64 0) := hM.rb.cell 0
  have r1 : wc.cell? ⟨w.heap.size, 1, none⟩ = some (.int .u8 0) := hM.rb.cell 1
  have r2 : wc.cell? ⟨w.heap.size, 2, none⟩ = some (.int .u8 0) := hM.rb.cell 2
  have r3 : wc.cell? ⟨w.heap.size, 3, none⟩ = some (.int .u8 0) := hM.rb.cell 3
  have r4 : wc.cell? ⟨w.heap.size, 4, none⟩ = some (.int .u64 0) := hM.rb.cell 4
  have rf : ∀ i, wc.frozen? ⟨w.heap.size, i, none⟩ = false := hM.rb.free
  clear hM
  go_wp2_with fail
  go_region
  go_wp2
  refine bodyPost_ret (v := .tuple #[ownRepV (h : Int) d0 d1 d2 n, .bool bb]) ?_ rfl ⟨rfl, ?_⟩
  · simp [results, Try.results34, go_sem, ownRepV, r0, r1, r2, r3, r4]
  · exact (((((((unhide HM).setR 0 _).setR 1 _).setR 2 _).setR 3 _).setR 4 _).drew).rb.below

end Go.Proofs.Ytbjobbkgelipmaa

/-
  The walk of tithe's Verify.
-/
namespace Go.Proofs.Ytbjobbkgelipmaa
open Go.RowKit

set_option maxHeartbeats 1000000 in
set_option maxRecDepth 100000 in
theorem ownver_norep (v1 v2 : Value) (w : World) (hR : Calls Try.prog 34 #[v1] w fun e w' => (∃ h d0 d1 d2 n : Int, e = .returned (.tuple #[ownRepV h d0 d1 d2 n, .bool false])) ∧ Below w.heap.size w w') :
    Calls Try.prog 20 #[v1, v2] w fun e w' => e = .returned (verV [] 0 8) ∧ Below w.heap.size w w' := by
  have HR := hide hR
  clear hR
  go_enter Try.func20, Try.ntmps20
  go_wp2_with fail
  refine (unhide HR).mono ?_
  rintro e w1 ⟨⟨h, d0, d1, d2, n, rfl⟩, hb1⟩
  have HB := hide hb1
  clear hb1 HR
  unfold ownRepV
  go_wp2
  go_ret3
  exact ⟨rfl, (unhide HB).alloc (unhide HB).size _⟩

set_option maxHeartbeats 1000000 in
set_option maxRecDepth 100000 in
theorem ownver_no (v1 v2 : Value) (w : World) (h d0 d1 d2 n : Int) (hR : Calls Try.prog 34 #[v1] w fun e w' => e = .returned (.tuple #[ownRepV h d0 d1 d2 n, .bool true]) ∧ Below w.heap.size w w')
    (hP : ∀ w', Below w.heap.size w w' → Calls Try.prog 35 #[ownRepV h d0 d1 d2 n, v2] w' fun e w'' => e = .returned (.tuple #[proofZ, .bool false]) ∧ Below w'.heap.size w' w'') :
    Calls Try.prog 20 #[v1, v2] w fun e w' => e = .returned (verV [] 0 9) ∧ Below w.heap.size w w' := by
  have HR := hide hR
  have HP := fun w' hb => hide (hP w' hb)
  clear hR hP
  unfold ownRepV at *
  go_enter Try.func20, Try.ntmps20
  go_wp2_with fail
  refine (unhide HR).mono ?_
  rintro e w1 ⟨rfl, hb1⟩
  have hA := hb1.alloc hb1.size (Obj.cells #[Value.int IntKind.i64 h, Value.int IntKind.u8 d0, Value.int IntKind.u8 d1, Value.int IntKind.u8 d2, Value.int IntKind.u64 n] 90)
  have HA := hide hA
  have hz := hb1.size
  clear hb1 HR hA
  go_wp2_with fail
  refine (unhide (HP _ (unhide HA))).mono ?_
  rintro e w2 ⟨rfl, hb2⟩
  have hB := (unhide HA).trans (hb2.mono (by simp; omega))
  have HB := hide (hB.alloc hB.size (Obj.cells #[Value.int IntKind.i64 0, Value.string ⟨#[]⟩, Value.int IntKind.u64 0, Value.int IntKind.u64 0, Value.slice none 0 0] 79))
  clear hb2 hB HA HP
  unfold proofZ
  go_wp2
  go_ret3
  exact ⟨rfl, unhide HB⟩

set_option maxHeartbeats 1000000 in
set_option maxRecDepth 100000 in
theorem ownver_yes (v1 v2 : Value) (w : World) (h d0 d1 d2 n : Int) (pl bal salt : Int) (nm : ByteArray) (k c : Nat) (hR : Calls Try.prog 34 #[v1] w fun e w' => e = .returned (.tuple #[ownRepV h d0 d1 d2 n, .bool true]) ∧ Below w.heap.size w w')
    (hP : ∀ w', Below w.heap.size w w' → Calls Try.prog 35 #[ownRepV h d0 d1 d2 n, v2] w' fun e w'' => (∃ a : Option Addr, e = .returned (.tuple #[proofV pl nm bal salt a k c, .bool true])) ∧ Below w'.heap.size w' w'') :
    Calls Try.prog 20 #[v1, v2] w fun e w' => e = .returned (.tuple #[.string nm, .int .u64 bal, .int .i64 0]) ∧ Below w.heap.size w w' := by
  have HR := hide hR
  have HP := fun w' hb => hide (hP w' hb)
  clear hR hP
  unfold ownRepV proofV at *
  go_enter Try.func20, Try.ntmps20
  go_wp2_with fail
  refine (unhide HR).mono ?_
  rintro e w1 ⟨rfl, hb1⟩
  have hA := hb1.alloc hb1.size (Obj.cells #[Value.int IntKind.i64 h, Value.int IntKind.u8 d0, Value.int IntKind.u8 d1, Value.int IntKind.u8 d2, Value.int IntKind.u64 n] 90)
  have HA := hide hA
  have hz := hb1.size
  clear hb1 HR hA
  go_wp2_with fail
  refine (unhide (HP _ (unhide HA))).mono ?_
  rintro e w2 ⟨⟨a, rfl⟩, hb2⟩
  have m3 := heap_alloc_new w2 (Obj.cells #[Value.int IntKind.i64 pl, Value.string nm, Value.int IntKind.u64 bal, Value.int IntKind.u64 salt, Value.slice a k c] 79)
  have hB := (unhide HA).trans (hb2.mono (by simp; omega))
  have HB3 := hide (hB.alloc hB.size (Obj.cells #[Value.int IntKind.i64 pl, Value.string nm, Value.int IntKind.u64 bal, Value.int IntKind.u64 salt, Value.slice a k c] 79))
  clear hb2 hB HA HP
  go_upto_region 5 with fail
  generalize (w2.alloc (Obj.cells #[Value.int IntKind.i64 pl, Value.string nm, Value.int IntKind.u64 bal, Value.int IntKind.u64 salt, Value.slice a k c] 79)) = W3 at *
  generalize w2.heap.size = B at *
  have e1 : W3.cell? ⟨B, 1, none⟩ = some (.string nm) := block_cell m3
  have e2 : W3.cell? ⟨B, 2, none⟩ = some (.int .u64 bal) := block_cell m3
  clear m3
  go_wp2_with fail
  go_quiet (fail)
  go_wp2
  go_ret3
  refine ⟨rfl, below_drewN (unhide HB3) _⟩

/-- What readAccepted answers by a report: of a proof that is none, or not of this report. -/
theorem rdacc_bad {R S : List UInt8} (v : Value) (w : World) (hok : repOk R) (hno : ¬ verOk R S) (hv : ∀ w', Below w.heap.size w w' → Calls Try.prog 50 #[v, .int .i64 (repH R : Int)] w' fun e w'' => Below w'.heap.size w' w'' ∧
      ((¬ prfOk (repH R) S ∧ ∃ (pl : Int) (nm : ByteArray) (bal salt : Int) (a : Option Addr) (k c : Nat), e = .returned (.tuple #[proofV pl nm bal salt a k c, .bool false])) ∨
       (prfOk (repH R) S ∧ ∃ g, e = .returned (.tuple #[proofV (bAt S 1 : Int) ⟨(accName S).toArray⟩ (accBal S) (accSalt S) (some ⟨g, 0, none⟩) (repH R) (repH R), .bool true]) ∧ g < w''.heap.size ∧ SidesAt w'' g (sidesOf (S.drop (19 + bAt S 2)) (repH R))))) :
    Calls Try.prog 35 #[ownRepV (repH R : Int) ((repRoot R).1.1.toNat : Int) ((repRoot R).1.2.1.toNat : Int) ((repRoot R).1.2.2.toNat : Int) (repRoot R).2, v] w fun e w' => e = .returned (.tuple #[proofZ, .bool false]) ∧ Below w.heap.size w w' := by
  by_cases hp : prfOk (repH R) S
  · have hao : accOk (repH R) (repRoot R) S = accTexts (repH R) (repRoot R) S := by unfold accOk; rw [if_neg (Int.not_lt.2 hp.2.1)]
    have hb : (accTexts (repH R) (repRoot R) S).isSome = false := by
      cases hb : (accTexts (repH R) (repRoot R) S).isSome with
      | false => rfl
      | true => exact absurd ⟨hok, hp.1, by rw [hao]; exact hb⟩ hno
    have := rdacc_acc v w (repH R : Int) ((repRoot R).1.1.toNat : Int) ((repRoot R).1.2.1.toNat : Int) ((repRoot R).1.2.2.toNat : Int) (repRoot R).2 (bAt S 1 : Int) (accBal S) (accSalt S) ⟨(accName S).toArray⟩ (repH R) (repH R) (accTexts (repH R) (repRoot R) S).isSome (fun _ _ => True) (fun _ _ _ _ _ => trivial) (fun w' hb' => (hv w' hb').mono fun e w'' ⟨hb'', hc⟩ => by
      rcases hc with ⟨hn, _⟩ | ⟨_, g, he, hg, hsd⟩
      · exact absurd hp hn
      · exact ⟨⟨_, he, trivial, fun w3 hb3 => accepts_any (repH R) (repRoot R) S g w3 hok.1.2 hp.1 hp.2.1 hp.2.2 (by have := hb3.size; omega) (hsd.below hb3 hg)⟩, hb''⟩)
    rw [hb] at this
    refine this.mono fun e w' ⟨hc, hb'⟩ => ?_
    rcases hc with ⟨_, he⟩ | ⟨hf, _⟩
    · exact ⟨he, hb'⟩
    · cases hf
  · refine rdacc_no v w _ _ _ _ _ (fun w' hb' => (hv w' hb').mono fun e w'' ⟨hb'', hc⟩ => ?_)
    rcases hc with ⟨_, he⟩ | ⟨hy, _⟩
    · exact ⟨he, hb''⟩
    · exact absurd hy hp

/-- What readAccepted answers by a report: of a proof that it accepts; where its sides lie. -/
theorem rdacc_yes {R S : List UInt8} (v : Value) (w : World) (hy : verOk R S) (hv : ∀ w', Below w.heap.size w w' → Calls Try.prog 50 #[v, .int .i64 (repH R : Int)] w' fun e w'' => Below w'.heap.size w' w'' ∧
      ((¬ prfOk (repH R) S ∧ ∃ (pl : Int) (nm : ByteArray) (bal salt : Int) (a : Option Addr) (k c : Nat), e = .returned (.tuple #[proofV pl nm bal salt a k c, .bool false])) ∨
       (prfOk (repH R) S ∧ ∃ g, e = .returned (.tuple #[proofV (bAt S 1 : Int) ⟨(accName S).toArray⟩ (accBal S) (accSalt S) (some ⟨g, 0, none⟩) (repH R) (repH R), .bool true]) ∧ g < w''.heap.size ∧ SidesAt w'' g (sidesOf (S.drop (19 + bAt S 2)) (repH R))))) :
    Calls Try.prog 35 #[ownRepV (repH R : Int) ((repRoot R).1.1.toNat : Int) ((repRoot R).1.2.1.toNat : Int) ((repRoot R).1.2.2.toNat : Int) (repRoot R).2, v] w fun e w' =>
      (∃ g, e = .returned (.tuple #[proofV (bAt S 1 : Int) ⟨(accName S).toArray⟩ (accBal S) (accSalt S) (some ⟨g, 0, none⟩) (repH R) (repH R), .bool true]) ∧ g < w'.heap.size ∧ SidesAt w' g (sidesOf (S.drop (19 + bAt S 2)) (repH R))) ∧ Below w.heap.size w w' := by
  have hp : prfOk (repH R) S := by
    by_cases hp : prfOk (repH R) S
    · exact hp
    · exact absurd hy (notOk_of hp)
  have hao : accOk (repH R) (repRoot R) S = accTexts (repH R) (repRoot R) S := by unfold accOk; rw [if_neg (Int.not_lt.2 hp.2.1)]
  have hb : (accTexts (repH R) (repRoot R) S).isSome = true := by rw [← hao]; exact hy.2.2
  have := rdacc_acc v w (repH R : Int) ((repRoot R).1.1.toNat : Int) ((repRoot R).1.2.1.toNat : Int) ((repRoot R).1.2.2.toNat : Int) (repRoot R).2 (bAt S 1 : Int) (accBal S) (accSalt S) ⟨(accName S).toArray⟩ (repH R) (repH R) (accTexts (repH R) (repRoot R) S).isSome
    (fun a W => ∃ g, a = some ⟨g, 0, none⟩ ∧ g < W.heap.size ∧ SidesAt W g (sidesOf (S.drop (19 + bAt S 2)) (repH R))) (fun a W W' ⟨g, e1, e2, e4⟩ hb => ⟨g, e1, by have := hb.size; omega, e4.below hb e2⟩) (fun w' hb' => (hv w' hb').mono fun e w'' ⟨hb'', hc⟩ => by
    rcases hc with ⟨hn, _⟩ | ⟨_, g, he, hg, hsd⟩
    · exact absurd hp hn
    · exact ⟨⟨_, he, ⟨g, rfl, hg, hsd⟩, fun w3 hb3 => accepts_any (repH R) (repRoot R) S g w3 hy.1.1.2 hp.1 hp.2.1 hp.2.2 (by have := hb3.size; omega) (hsd.below hb3 hg)⟩, hb''⟩)
  rw [hb] at this
  refine this.mono fun e w' ⟨hc, hb'⟩ => ?_
  rcases hc with ⟨hf, _⟩ | ⟨_, a, W, he, ⟨g, rfl, hg, hs⟩, hc0, hsz, hW⟩
  · cases hf
  · refine ⟨⟨g, he, by omega, fun k hk => ?_⟩, hb'⟩
    have hne : g ≠ w.heap.size + 1 := fun e => by
      subst e
      have h0 := (hs 0 (by omega)).1
      rw [show w.heap.size + 1 = w.heap.size + 1 from rfl, hc0] at h0
      simp at h0
    have hk' := hs k hk
    have ec : ∀ j, w'.cell? ⟨g, j, none⟩ = W.cell? ⟨g, j, none⟩ := fun j => World.cell?_of_block (w := W) (hW g hne)
    rw [ec, ec, ec, ec]
    exact hk'

/-- What readReport answers. -/
def RepSay (R : List UInt8) (e : Ending) : Prop := (repOk R ∧ e = .returned (.tuple #[ownRepV (repH R : Int) ((repRoot R).1.1.toNat : Int) ((repRoot R).1.2.1.toNat : Int) ((repRoot R).1.2.2.toNat : Int) (repRoot R).2, .bool true])) ∨ (¬ repOk R ∧ ∃ h d0 d1 d2 n : Int, e = .returned (.tuple #[ownRepV h d0 d1 d2 n, .bool false]))
theorem RepSay.yes {R : List UInt8} {e : Ending} (h : RepSay R e) (hok : repOk R) : e = .returned (.tuple #[ownRepV (repH R : Int) ((repRoot R).1.1.toNat : Int) ((repRoot R).1.2.1.toNat : Int) ((repRoot R).1.2.2.toNat : Int) (repRoot R).2, .bool true]) := by
  rcases h with ⟨_, h⟩ | ⟨hn, _⟩
  · exact h
  · exact absurd hok hn
theorem RepSay.no {R : List UInt8} {e : Ending} (h : RepSay R e) (hok : ¬ repOk R) : ∃ h d0 d1 d2 n : Int, e = .returned (.tuple #[ownRepV h d0 d1 d2 n, .bool false]) := by
  rcases h with ⟨hy, _⟩ | ⟨_, h⟩
  · exact absurd hy hok
  · exact h

/-- Verify, given what readReport and readProof answer. -/
theorem ownver_of (R S : List UInt8) (v1 v2 : Value) (w : World)
    (hR : Calls Try.prog 34 #[v1] w fun e w' => RepSay R e ∧ Below w.heap.size w w')
    (hv : repOk R → ∀ w', Below w.heap.size w w' → Calls Try.prog 50 #[v2, .int .i64 (repH R : Int)] w' fun e w'' => Below w'.heap.size w' w'' ∧
      ((¬ prfOk (repH R) S ∧ ∃ (pl : Int) (nm : ByteArray) (bal salt : Int) (a : Option Addr) (k c : Nat), e = .returned (.tuple #[proofV pl nm bal salt a k c, .bool false])) ∨
       (prfOk (repH R) S ∧ ∃ g, e = .returned (.tuple #[proofV (bAt S 1 : Int) ⟨(accName S).toArray⟩ (accBal S) (accSalt S) (some ⟨g, 0, none⟩) (repH R) (repH R), .bool true]) ∧ g < w''.heap.size ∧ SidesAt w'' g (sidesOf (S.drop (19 + bAt S 2)) (repH R))))) :
    Calls Try.prog 20 #[v1, v2] w fun e w' => e = .returned (verV (verAns R S).1 (verAns R S).2.1 (verAns R S).2.2) ∧ Below w.heap.size w w' := by
  by_cases hok : repOk R
  · replace hR := hR.mono fun e w' (h : RepSay R e ∧ _) => And.intro (h.1.yes hok) h.2
    by_cases hy : verOk R S
    · rw [verAns_yes hy]
      exact ownver_yes v1 v2 w _ _ _ _ _ (bAt S 1 : Int) (accBal S) (accSalt S) ⟨(accName S).toArray⟩ (repH R) (repH R) hR (fun w' hb => (rdacc_yes v2 w' hy fun w'' hb' => hv hok w'' (hb.trans (hb'.mono hb.size))).mono fun e w'' ⟨⟨g, he, _⟩, hb''⟩ => ⟨⟨_, he⟩, hb''⟩)
    · rw [verAns_no hok hy]
      exact ownver_no v1 v2 w _ _ _ _ _ hR (fun w' hb => rdacc_bad v2 w' hok hy fun w'' hb' => hv hok w'' (hb.trans (hb'.mono hb.size)))
  · replace hR := hR.mono fun e w' (h : RepSay R e ∧ _) => And.intro (h.1.no hok) h.2
    rw [verAns_norep hok]
    exact ownver_norep v1 v2 w hR

/-- readReport, in all cases. -/
theorem rdrep_all (R : List UInt8) (b c : Nat) (w : World) (hc : R.length ≤ c) (hm : c ≤ 9223372036854775807) (hb : b < w.heap.size) (hB : BytesAt w b 0 R) :
    Calls Try.prog 34 #[.slice (some ⟨b, 0, none⟩) R.length c] w fun e w' => RepSay R e ∧ Below w.heap.size w w' := by
  by_cases hh : repHead R
  · have hRR := rdrep_good b c R w hb hB hh (by have := hh.1; omega) (by omega)
    rw [← hh.1] at hRR
    by_cases hle : (repRoot R).2 ≤ maxS
    · rw [show leMax (repRoot R).2 = true from decide_eq_true hle] at hRR
      exact hRR.mono fun e w' ⟨he, hb⟩ => ⟨.inl ⟨⟨hh, hle⟩, he⟩, hb⟩
    · rw [show leMax (repRoot R).2 = false from decide_eq_false hle] at hRR
      exact hRR.mono fun e w' ⟨he, hb⟩ => ⟨.inr ⟨fun h => hle h.2, _, _, _, _, _, he⟩, hb⟩
  · exact (rdrep_bad b R.length c R w rfl hb hB hh).mono fun e w' ⟨he, hb⟩ => ⟨.inr ⟨fun h => hh h.1, _, _, _, _, _, he⟩, hb⟩

/-- Verify, whatever room lies behind. -/
theorem ownver_caps (R S : List UInt8) (b1 b2 c1 c2 : Nat) (w : World) (hr : R.length ≤ c1) (hr2 : c1 ≤ 9223372036854775807) (hs : S.length ≤ c2) (hs0 : repH R = 0 → S.length < c2) (hs2 : c2 ≤ 9223372036854775807) (h1 : b1 < w.heap.size) (h2 : b2 < w.heap.size) (hB1 : BytesAt w b1 0 R) (hB2 : BytesAt w b2 0 S) :
    Calls Try.prog 20 #[.slice (some ⟨b1, 0, none⟩) R.length c1, .slice (some ⟨b2, 0, none⟩) S.length c2] w fun e w' => e = .returned (verV (verAns R S).1 (verAns R S).2.1 (verAns R S).2.2) ∧ Below w.heap.size w w' :=
  ownver_of R S _ _ w (rdrep_all R b1 c1 w hr hr2 h1 hB1) (fun hok w' hb => rdpr_all b2 c2 (repH R) S w' hs hs0 hs2 hok.1.2 (by have := hb.size; omega) (fun j hj => (hb.cell (p := ⟨b2, 0 + j, none⟩) h2).trans (hB2 j hj)))

theorem ownver_any (r s : ByteArray) (b1 b2 : Nat) (w : World) (hr : r.size ≤ 140737488351232) (hs : s.size ≤ 140737488351232) (h1 : b1 < w.heap.size) (h2 : b2 < w.heap.size) (hB1 : BytesAt w b1 0 r.data.toList) (hB2 : BytesAt w b2 0 s.data.toList) :
    Calls Try.prog 20 #[.slice (some ⟨b1, 0, none⟩) r.size (r.size + 8), .slice (some ⟨b2, 0, none⟩) s.size (s.size + 8)] w fun e w' => e = .returned (verV (verAns r.data.toList s.data.toList).1 (verAns r.data.toList s.data.toList).2.1 (verAns r.data.toList s.data.toList).2.2) ∧ Below w.heap.size w w' := by
  have lr : r.data.toList.length = r.size := by simp
  have ls : s.data.toList.length = s.size := by simp
  have h := ownver_caps r.data.toList s.data.toList b1 b2 (r.size + 8) (s.size + 8) w (by omega) (by omega) (by omega) (fun _ => by omega) (by omega) h1 h2 hB1 hB2
  rw [lr, ls] at h
  exact h

end Go.Proofs.Ytbjobbkgelipmaa

/-
  An honest proof is accepted: plain lists.
-/
namespace Go.Proofs.Ytbjobbkgelipmaa
open Go.RowKit

theorem numB_longB_take (n : Int) (h0 : 0 ≤ n) (h1 : n < 18446744073709551616) : ∀ k, k ≤ 8 → numB ((longB n).take k) = n / 256 ^ (8 - k)
  | 0, _ => by
    have e : (256 : Int) ^ (8 - 0) = 18446744073709551616 := by decide
    rw [e, Int.ediv_eq_zero_of_lt h0 h1]; rfl
  | k + 1, hk => by
    rw [longB_take_snoc n k (by omega), numB_snoc, numB_longB_take n h0 h1 k (by omega)]
    have e1 : ((longAt n k).toNat : Int) = n / 256 ^ (7 - k) % 256 := by
      unfold longAt
      rw [lowByte_toNat, show (2 : Int) ^ (8 * (7 - k)) = 256 ^ (7 - k) by rw [Int.pow_mul]; rfl]
    have e2 : (256 : Int) ^ (8 - k) = 256 ^ (7 - k) * 256 := by rw [show 8 - k = (7 - k) + 1 by omega, Int.pow_succ]
    rw [e1, e2, ← Int.ediv_ediv_of_nonneg (Int.le_of_lt (Int.pow_pos (by decide))), show 8 - (k + 1) = 7 - k by omega]
    omega
theorem numB_longB (n : Int) (h0 : 0 ≤ n) (h1 : n < 18446744073709551616) : numB (longB n) = n := by
  have h := numB_longB_take n h0 h1 8 (Nat.le_refl _)
  rw [List.take_of_length_le (by rw [longB_length]; omega)] at h
  rw [h]
  simp
/-- A side read back. -/
theorem sideAt_sideB (pre suf : List UInt8) (y : Dg × Int) (h0 : 0 ≤ y.2) (h1 : y.2 < 18446744073709551616) : sideAt (pre ++ (sideB y ++ suf)) pre.length = y := by
  obtain ⟨⟨a, b, c⟩, n⟩ := y
  have e : pre ++ (sideB ((a, b, c), n) ++ suf) = (pre ++ [a, b, c]) ++ (longB n ++ suf) := by simp [sideB, dgB]
  unfold sideAt
  have g : ∀ k, k < 3 → (pre ++ (sideB ((a, b, c), n) ++ suf)).getD (pre.length + k) 0 = [a, b, c].getD k 0 := fun k hk => by
    rw [List.getD_eq_getElem?_getD, List.getD_eq_getElem?_getD, List.getElem?_append_right (by omega), show pre.length + k - pre.length = k by omega]
    simp only [sideB, dgB]
    rw [List.append_assoc, List.getElem?_append_left (by simpa using hk)]
  have g0 := g 0 (by omega)
  have g1 := g 1 (by omega)
  have g2 := g 2 (by omega)
  rw [Nat.add_zero] at g0
  rw [g0, g1, g2]
  have d : ((pre ++ (sideB ((a, b, c), n) ++ suf)).drop (pre.length + 3)).take 8 = longB n := by
    rw [e, List.drop_left' (by simp), List.take_left' (longB_length n)]
  rw [d, numB_longB n h0 h1]
  rfl

/-- An honest proof's bytes. -/
def honP (ls : List LeafD) (h p : Nat) (x : LeafD) : List UInt8 := [UInt8.ofNat h, UInt8.ofNat p] ++ leafB x.nm.data.toList x.bal x.salt ++ sidesB (besideT ls p h)
theorem u8_small {n : Nat} (h : n < 256) : (UInt8.ofNat n).toNat = n := UInt8.toNat_ofNat_of_lt' h
theorem honP_form (ls : List LeafD) (h p : Nat) (x : LeafD) : honP ls h p x = UInt8.ofNat h :: UInt8.ofNat p :: UInt8.ofNat x.nm.size :: (x.nm.data.toList ++ (longB x.bal ++ (longB x.salt ++ sidesB (besideT ls p h)))) := by
  have hs : x.nm.data.toList.length = x.nm.size := by simp
  simp [honP, leafB]
theorem honP_len (ls : List LeafD) (h p : Nat) (x : LeafD) : (honP ls h p x).length = 19 + x.nm.size + 11 * h := by
  have hs : x.nm.data.toList.length = x.nm.size := by simp
  rw [honP_form]
  simp only [List.length_cons, List.length_append, longB_length, sidesB_len, besideT_len, hs]
  omega
theorem honP_bytes (ls : List LeafD) (h p : Nat) (x : LeafD) (hh : h ≤ 6) (hp : p < 256) (hn : x.nm.size ≤ 8) : bAt (honP ls h p x) 0 = h ∧ bAt (honP ls h p x) 1 = p ∧ bAt (honP ls h p x) 2 = x.nm.size := by
  rw [honP_form]
  unfold bAt
  exact ⟨u8_small (by omega), u8_small hp, u8_small (by omega)⟩
theorem honP_head (ls : List LeafD) (h p : Nat) (x : LeafD) (hh : h ≤ 6) (hp : p < 2 ^ h) (hn1 : 1 ≤ x.nm.size) (hn : x.nm.size ≤ 8) : accHead h (honP ls h p x) := by
  have h64 : 2 ^ h ≤ 2 ^ 6 := Nat.pow_le_pow_right (by omega) hh
  obtain ⟨b0, b1, b2⟩ := honP_bytes ls h p x hh (by omega) hn
  have hl := honP_len ls h p x
  refine ⟨by omega, b0, by rw [b1]; exact hp, by omega, by omega, by rw [b2]; exact hl⟩
theorem honP_name (ls : List LeafD) (h p : Nat) (x : LeafD) (hh : h ≤ 6) (hp : p < 256) (hn : x.nm.size ≤ 8) : accName (honP ls h p x) = x.nm.data.toList := by
  have hs : x.nm.data.toList.length = x.nm.size := by simp
  unfold accName
  rw [(honP_bytes ls h p x hh hp hn).2.2, honP_form]
  simp only [List.drop_succ_cons, List.drop_zero]
  rw [← hs, List.take_left]
theorem honP_nums (ls : List LeafD) (h p : Nat) (x : LeafD) (hh : h ≤ 6) (hp : p < 256) (hok : x.ok) : accBal (honP ls h p x) = x.bal ∧ accSalt (honP ls h p x) = x.salt := by
  have hs : x.nm.data.toList.length = x.nm.size := by simp
  obtain ⟨hn, k1, k2, k3, k4⟩ := hok
  unfold accBal accSalt
  rw [(honP_bytes ls h p x hh hp hn).2.2, honP_form]
  have e1 : (UInt8.ofNat h :: UInt8.ofNat p :: UInt8.ofNat x.nm.size :: (x.nm.data.toList ++ (longB x.bal ++ (longB x.salt ++ sidesB (besideT ls p h))))).drop (3 + x.nm.size) = longB x.bal ++ (longB x.salt ++ sidesB (besideT ls p h)) := by
    rw [show 3 + x.nm.size = x.nm.size + 1 + 1 + 1 by omega]
    simp only [List.drop_succ_cons]
    rw [← hs, List.drop_left]
  have e2 : (UInt8.ofNat h :: UInt8.ofNat p :: UInt8.ofNat x.nm.size :: (x.nm.data.toList ++ (longB x.bal ++ (longB x.salt ++ sidesB (besideT ls p h))))).drop (11 + x.nm.size) = longB x.salt ++ sidesB (besideT ls p h) := by
    rw [show 11 + x.nm.size = (3 + x.nm.size) + 8 by omega, ← List.drop_drop, e1, List.drop_left' (longB_length _)]
  rw [e1, e2, List.take_left' (longB_length _), List.take_left' (longB_length _), numB_longB _ k1 k2, numB_longB _ k3 k4]
  exact ⟨rfl, rfl⟩
theorem sidesB_split (ys : List (Dg × Int)) (k : Nat) (hk : k < ys.length) : sidesB ys = sidesB (ys.take k) ++ (sideB ys[k] ++ sidesB (ys.drop (k + 1))) := by
  have e : ys = ys.take k ++ (ys[k] :: ys.drop (k + 1)) := by rw [List.getElem_cons_drop, List.take_append_drop]
  unfold sidesB
  conv => lhs; rw [e]
  rw [List.map_append, List.map_cons, List.flatten_append, List.flatten_cons]
theorem honP_side (ls : List LeafD) (h p : Nat) (x : LeafD) (hh : h ≤ 6) (hp : p < 256) (hn : x.nm.size ≤ 8) (hb : ∀ y ∈ ls, 0 ≤ y.bal) (hm : sumL ls ≤ maxS) (k : Nat) (hk : k < h) : sideAt (honP ls h p x) (19 + bAt (honP ls h p x) 2 + 11 * k) = sideT ls k (sib (p / 2 ^ k)) := by
  have hs : x.nm.data.toList.length = x.nm.size := by simp
  rw [(honP_bytes ls h p x hh hp hn).2.2]
  have hkl : k < (besideT ls p h).length := by rw [besideT_len]; exact hk
  have hg : (besideT ls p h)[k] = sideT ls k (sib (p / 2 ^ k)) := by simp [besideT]
  have hr := side_range ls hb hm k (sib (p / 2 ^ k))
  have e : honP ls h p x = ([UInt8.ofNat h, UInt8.ofNat p] ++ leafB x.nm.data.toList x.bal x.salt ++ sidesB ((besideT ls p h).take k)) ++ (sideB (sideT ls k (sib (p / 2 ^ k))) ++ sidesB ((besideT ls p h).drop (k + 1))) := by
    unfold honP
    rw [sidesB_split _ k hkl, hg]
    simp
  have hl : ([UInt8.ofNat h, UInt8.ofNat p] ++ leafB x.nm.data.toList x.bal x.salt ++ sidesB ((besideT ls p h).take k)).length = 19 + x.nm.size + 11 * k := by
    simp only [List.length_append, leafB_length, sidesB_len, List.length_take, besideT_len, List.length_cons, List.length_nil, hs]
    omega
  rw [e, ← hl]
  exact sideAt_sideB _ _ _ hr.1 (by have := hr.2; unfold maxS at this; omega)
theorem hon_up (ls : List LeafD) (h p : Nat) (x : LeafD) (hh : h ≤ 6) (hp : p < 2 ^ h) (hn1 : 1 ≤ x.nm.size) (hok : x.ok) (hx : ls[p]? = some x) (hb : ∀ y ∈ ls, 0 ≤ y.bal) (hm : sumL ls ≤ maxS) : ∀ k, k ≤ h → ∃ ts, accUp (honP ls h p x) k = some (ts, sideT ls k (p / 2 ^ k))
  | 0, _ => by
    have h64 : 2 ^ h ≤ 2 ^ 6 := Nat.pow_le_pow_right (by omega) hh
    refine ⟨[accText0 (honP ls h p x)], ?_⟩
    unfold accUp
    rw [accText0_leaf h _ (honP_head ls h p x hh hp hn1 hok.1), honP_name ls h p x hh (by omega) hok.1, (honP_nums ls h p x hh (by omega) hok).1, (honP_nums ls h p x hh (by omega) hok).2]
    rw [Nat.pow_zero, Nat.div_one]
    unfold sideT
    rw [hx]
  | k + 1, hk => by
    have h64 : 2 ^ h ≤ 2 ^ 6 := Nat.pow_le_pow_right (by omega) hh
    obtain ⟨ts, hu⟩ := hon_up ls h p x hh hp hn1 hok hx hb hm k (by omega)
    have hsd := honP_side ls h p x hh (by omega) hok.1 hb hm k (by omega)
    obtain ⟨q, hq⟩ : ∃ q, p / 2 ^ k = q := ⟨_, rfl⟩
    have hq2 : p / 2 ^ (k + 1) = q / 2 := by rw [← hq, Nat.div_div_eq_div_mul, Nat.pow_succ]
    rw [hq] at hu hsd
    have r0 := side_range ls hb hm k q
    have r1 := side_range ls hb hm k (sib q)
    have r2 := side_range ls hb hm (k + 1) (q / 2)
    have hup := side_up ls hb hm k (q / 2)
    have hpair : upText q (sideT ls k q) (sideT ls k (sib q)) = 1 :: (sideB (sideT ls k (2 * (q / 2))) ++ sideB (sideT ls k (2 * (q / 2) + 1))) ∧ (sideT ls k q).2 + (sideT ls k (sib q)).2 = (sideT ls k (2 * (q / 2))).2 + (sideT ls k (2 * (q / 2) + 1)).2 := by
      unfold upText sib
      by_cases ho : q % 2 = 1
      · rw [if_pos ho, if_pos ho, show 2 * (q / 2) = q - 1 by omega, show q - 1 + 1 = q by omega]
        exact ⟨rfl, by omega⟩
      · rw [if_neg ho, if_neg ho, show 2 * (q / 2) = q by omega]
        exact ⟨rfl, rfl⟩
    have hsum : (sideT ls k q).2 + (sideT ls k (sib q)).2 = (sideT ls (k + 1) (q / 2)).2 := by rw [hpair.2, hup]; rfl
    have hb1 := (honP_bytes ls h p x hh (by omega) hok.1).2.1
    refine ⟨ts ++ [upText q (sideT ls k q) (sideT ls k (sib q))], ?_⟩
    rw [accUp_step hu hsd (fun h => by omega), hb1, hq, hq2, hup]
    unfold nodeS
    rw [hpair.1, hpair.2]
/-- An honest proof is accepted, and tells its leaf. -/
theorem honest (ls : List LeafD) (h p : Nat) (x : LeafD) (hh : h ≤ 6) (hp : p < 2 ^ h) (hn1 : 1 ≤ x.nm.size) (hok : x.ok) (hx : ls[p]? = some x) (hb : ∀ y ∈ ls, 0 ≤ y.bal) (hm : sumL ls ≤ maxS) :
    verAns (reportB ls h) (honP ls h p x) = (x.nm.data.toList, x.bal, 0) := by
  have h64 : 2 ^ h ≤ 2 ^ 6 := Nat.pow_le_pow_right (by omega) hh
  have hr := side_range ls hb hm h 0
  have hroot : repRoot (reportB ls h) = sideT ls h 0 := by
    unfold repRoot reportB
    have := sideAt_sideB [UInt8.ofNat h] [] (sideT ls h 0) hr.1 (by have := hr.2; unfold maxS at this; omega)
    simpa using this
  have hH : repH (reportB ls h) = h := by
    unfold repH reportB
    exact u8_small (by omega)
  have hlen : (reportB ls h).length = 12 := by unfold reportB; rw [List.length_cons, sideB_len]
  have hrep : repOk (reportB ls h) := ⟨⟨hlen, by have : repH (reportB ls h) ≤ 6 := by rw [hH]; exact hh
                                                 exact this⟩, by rw [hroot]; exact hr.2⟩
  obtain ⟨ts, hu⟩ := hon_up ls h p x hh hp hn1 hok hx hb hm h (Nat.le_refl _)
  rw [Nat.div_eq_of_lt hp] at hu
  have hbal := (honP_nums ls h p x hh (by omega) hok).1
  have hxm : x ∈ ls := List.mem_of_getElem? hx
  have hle : x.bal ≤ maxS := by
    have h0 := side_range ls hb hm 0 p
    have e : (sideT ls 0 p).2 = x.bal := by unfold sideT; rw [hx]
    omega
  have hacc : (accOk h (sideT ls h 0) (honP ls h p x)).isSome = true := by
    unfold accOk accTexts
    rw [hbal, if_neg (by omega), hu]
    simp
  rw [verAns_yes ⟨hrep, by rw [hH]; exact honP_head ls h p x hh hp hn1 hok.1, by rw [hH, hroot]; exact hacc⟩, honP_name ls h p x hh (by omega) hok.1, hbal]

end Go.Proofs.Ytbjobbkgelipmaa

/-
  The walk of tithekeep's known.
-/
namespace Go.Proofs.Ytbjobbkgelipmaa
open Go.RowKit

theorem own_bytes {base n : Nat} {v : Value} {l : List UInt8} {w : World} (hown : w.ownsRow base 5 1 v n (byteVals l)) (h0 : 0 < n) :
    ∃ g cap, v = .slice (some ⟨g, 0, none⟩) n cap ∧ base ≤ g ∧ g < w.heap.size ∧ n ≤ cap ∧ cap ≤ 9223372036854775807 ∧ BytesAt w g 0 l := by
  rcases hown.2 with ⟨_, h⟩ | ⟨g, cap, cur, rfl, hg, hb, h1, h2, _, hx⟩
  · omega
  · refine ⟨g, cap, rfl, hg, (Array.getElem?_eq_some_iff.1 hb).1, h1, h2, ?_⟩
    intro j hj
    have h1 : (byteVals l)[j]? = some (.int .u8 (l[j].toNat : Int)) := by simp [byteVals, List.getElem?_eq_getElem hj]
    rw [← hx, List.getElem?_take] at h1
    split at h1
    · rw [Nat.zero_add]
      simp only [World.cell?, hb]
      simpa using h1
    · cases h1
theorem BytesAt.take {w : World} {b o k : Nat} {l : List UInt8} (h : BytesAt w b o l) : BytesAt w b o (l.take k) := by
  intro j hj
  rw [List.length_take] at hj
  rw [List.getElem_take]
  exact h j (by omega)

/-- What is cut short is refused. -/
theorem ver_short {R P : List UInt8} (h : (verAns R P).2.2 = 0) (k : Nat) (hk : k < P.length) (_hh : P.length ≤ 19 + 8 + 11 * 6) (h2 : k < 20 + 11 * repH R) : verAns R (P.take k) = ([], 0, 9) := by
  have hok : repOk R := Classical.byContradiction fun hn => by rw [verAns_norep hn] at h; cases h
  refine verAns_no hok fun hv => ?_
  have h3 := hv.2.1.2.2.2.2.2
  have h4 := hv.2.1.2.2.2.1
  rw [List.length_take] at h3
  omega

def kLeaf : LeafD := ⟨⟨#[107]⟩, 3, saltI 1 0⟩
theorem kAns : verAns (reportB [kLeaf] 2) (proofTo [kLeaf] 2 0 kLeaf 2) = ([107], 3, 0) := by
  rw [proofTo_beside]
  have hs := saltI_range 1 0
  have hx : LeafD.ok kLeaf := ⟨by decide, by decide, by decide, hs.1, hs.2⟩
  exact honest [kLeaf] 2 0 kLeaf (by omega) (by decide) (by decide) hx rfl (fun y hy => by simp at hy; rw [hy]; decide) (by unfold maxS sumL; simp [kLeaf])
theorem kRepH : repH (reportB [kLeaf] 2) = 2 := rfl
theorem kHalf : verAns (reportB [kLeaf] 2) ((proofTo [kLeaf] 2 0 kLeaf 2).take 21) = ([], 0, 9) := by
  have hl : (proofTo [kLeaf] 2 0 kLeaf 2).length = 42 := by rw [proofTo_length]; rfl
  exact ver_short (by rw [kAns]) 21 (by omega) (by omega) (by rw [kRepH]; omega)

set_option maxHeartbeats 1000000 in
set_option maxRecDepth 100000 in
theorem known_any (K : SortK) (w : World) :
    Calls Try.prog 7 #[] w fun e w' => e = .returned (.bool true) ∧ Below w.heap.size w w' := by
  have HK := hide K
  have HN := hide (new_good 2 1 w (by omega) (by omega))
  unfold cfgV at HN
  clear K
  obtain ⟨N, hN⟩ : ∃ N, w.heap.size = N := ⟨_, rfl⟩
  rw [hN] at HN ⊢
  go_enter Try.func7, Try.ntmps7
  go_wp2_with fail
  refine (unhide HN).mono ?_
  rintro e w1 ⟨rfl, hB1, hb1⟩
  have hz1 := hb1.size
  rw [hN] at hz1
  have HO := hide (open_yes hB1 ⟨#[107]⟩ rfl (by unfold maxLen; decide))
  have HB1 := hide hb1
  clear HN hB1 hb1
  go_wp2_with fail
  refine (unhide HO).mono ?_
  rintro e w2 ⟨rfl, ⟨A, hA, hB2⟩, hk2⟩
  have hb2 : Below N w w2 := (unhide HB1).trans (hk2.below hz1 (fun k hk => by simp [blksE] at hk; omega))
  have hz2 := hk2.size
  have HB2 := hide hb2
  have hpe : payE (insE ⟨(⟨#[107]⟩ : ByteArray).data.toList, A, 0⟩ []) (⟨#[107]⟩ : ByteArray).data.toList 3 = (0, [⟨[107], A, 3⟩]) := by simp [payE, insE, lookE, sumE, setE, maxS]
  have HP := hide (pay_any hB2 ⟨#[107]⟩ 3 (by unfold maxLen; decide) (by omega) (by omega))
  rw [hpe] at HP
  clear HO hB2 hk2 hb2 HB1 hpe
  go_wp2_with fail
  refine (unhide HP).mono ?_
  rintro e w3 ⟨rfl, hB3, hk3⟩
  have hz3 := hk3.size
  have hb3 : Below N w w3 := (unhide HB2).trans (hk3.below (by omega) (fun k hk => by simp [blksE, insE] at hk; omega))
  have HB3 := hide hb3
  have HU := hide (publish_ok (h := 2) (unhide HK) hB3 (by omega) (by simp) (fun a ha => by simp at ha; rw [ha]; simp))
  have hlv : leavesE 1 [⟨[107], A, 3⟩] ([⟨[107], A, 3⟩] : List Acct).length = [kLeaf] := rfl
  rw [hlv] at HU
  clear HP hB3 hk3 hb3 HB2 hlv
  go_wp2_with fail
  refine (unhide HU).mono ?_
  rintro e w4 ⟨⟨v, T, b, cap, V, vc, gs, rfl, hown4, hB4, hT4, _⟩, hk4⟩
  have hz4 := hk4.size
  have hb4 : Below N w w4 := (unhide HB3).trans (hk4.below (by omega) (fun k hk => by simp at hk; omega))
  have HB4 := hide hb4
  have HR := hide (bproof_yes hB4.toBookT hT4 ⟨#[107]⟩ (by omega) (by decide) (fun y hy => by simp at hy; rw [hy]; decide) (by unfold maxS sumL; simp [kLeaf]) 0 (by decide) rfl (fun j hj => by omega))
  have hg0 : ([kLeaf] : List LeafD)[0] = kLeaf := rfl
  rw [hg0] at HR
  obtain ⟨g1, c1, rfl, _, hg1, hc1, hc1', hY1⟩ := own_bytes hown4 (by omega)
  have HY1 := hide hY1
  clear HU hown4 hB4 hT4 hk4 hb4 HB3 hg0 hY1
  go_wp2_with fail
  refine (unhide HR).mono ?_
  rintro e w5 ⟨⟨v, rfl, hown5⟩, hb5⟩
  have hsz : (⟨#[107]⟩ : ByteArray).size = 1 := rfl
  rw [hsz] at hown5
  have hb5' : Below N w w5 := (unhide HB4).trans (hb5.mono (by omega))
  have hz5 := hb5.size
  have HB5 := hide hb5'
  obtain ⟨g2, c2, rfl, _, hg2, hc2, hc2', hY2⟩ := own_bytes hown5 (by omega)
  have hY1 := (unhide HY1).below hb5 hg1
  have hl : (proofTo [kLeaf] 2 0 kLeaf 2).length = 42 := by rw [proofTo_length]; rfl
  have hlr : (reportB [kLeaf] 2).length = 12 := by unfold reportB; rw [List.length_cons, sideB_length]
  have ans := kAns
  have half := kHalf
  have hrh := kRepH
  generalize proofTo [kLeaf] 2 0 kLeaf 2 = P at *
  generalize reportB [kLeaf] 2 = R at *
  have hV1 := ownver_caps R P g1 g2 c1 c2 w5 (by omega) hc1' (by omega) (fun h => by omega) hc2' (by omega) hg2 hY1 hY2
  have hlt : (P.take 21).length = 21 := by rw [List.length_take]; omega
  have hV2 := fun (w6 : World) (hw6 : Below w5.heap.size w5 w6) => ownver_caps R (P.take 21) g1 g2 c1 c2 w6 (by omega) hc1' (by omega) (fun h => by omega) hc2' (by have := hw6.size; omega) (by have := hw6.size; omega) (hY1.below hw6 (by omega)) (hY2.below hw6 (by omega)).take
  rw [ans, hl, hlr] at hV1
  rw [half, hlt, hlr] at hV2
  unfold verV strV at hV1 hV2
  have HV1 := hide hV1
  have HV2 := hide hV2
  clear hV1 hV2 ans half hrh hl hlr hlt hY1 hY2 HY1 HR hown5 hb5 hb5' hsz HB4 hg1 hg2 hN HK
  have hzN : N ≤ w5.heap.size := by omega
  clear hz1 hz2 hz3 hz4 hz5
  have c42 : 42 ≤ c2 := by omega
  go_wp2_with fail
  refine (unhide HV1).mono ?_
  rintro e w6 ⟨rfl, hb6⟩
  have HV3 := hide (unhide HV2 _ hb6)
  have HB6 := hide ((unhide HB5).trans (hb6.mono hzN))
  have hz6 := hb6.size
  clear HV1 HV2 hb6 HB5
  go_wp2_with fail
  refine (unhide HV3).mono ?_
  rintro e w7 ⟨rfl, hb7⟩
  have HB7 := hide ((unhide HB6).trans (hb7.mono (by omega)))
  clear HV3 HB6 hb7
  go_wp2
  go_ret
  exact ⟨rfl, unhide HB7⟩

end Go.Proofs.Ytbjobbkgelipmaa

/-
  Moves that were handed in lie in memory.
-/
namespace Go.Proofs.Ytbjobbkgelipmaa
open Go.ChangeShapes Go.WideShapes Go.ChangeAt Go.RowKit

theorem Try.kown : ownKnob Try.prog.godebug = none := by kernel_rfl
theorem Try.klaidOut : laidOutB Try.prog = true := by kernel_rfl
theorem Try.kcellsMove : Try.prog.cellsOf 32 = 4 := by kernel_rfl
theorem Try.kcellsInt : Try.prog.cellsOf 3 = 1 := by kernel_rfl
theorem Try.kcellsU64 : Try.prog.cellsOf 28 = 1 := by kernel_rfl
theorem Try.kbytesMove : Try.prog.bytesOf 32 = 32 := by kernel_rfl

def moveList (x : MoveD) : List Value := [.int .i64 x.k, .int .i64 x.a, .int .i64 x.b, .int .u64 x.n]

theorem wf_i64 {n : Int} (h : (Lit.int .i64 n).wf = true) : -9223372036854775808 ≤ n ∧ n < 9223372036854775808 := by
  simp only [Lit.wf, Bool.and_eq_true, decide_eq_true_eq] at h
  have e1 : IntKind.i64.min = -9223372036854775808 := rfl
  have e2 : IntKind.i64.max = 9223372036854775807 := rfl
  omega
theorem wf_u64 {n : Int} (h : (Lit.int .u64 n).wf = true) : 0 ≤ n ∧ n < 18446744073709551616 := by
  simp only [Lit.wf, Bool.and_eq_true, decide_eq_true_eq] at h
  have e1 : IntKind.u64.min = 0 := rfl
  have e2 : IntKind.u64.max = 18446744073709551615 := rfl
  omega

set_option maxRecDepth 100000 in
theorem move_open {H : Type} {enc : TypeId × Value → H} {W : World} {base : Nat} {spare : Nat → Bool} {held : Bool} {fuel : Nat} {cs : List Value} {y : DataW H × List MemPlace}
    (h : DataW.trod enc Try.prog W base spare held fuel 32 cs = some y) : ∃ x : MoveD, cs = moveList x ∧ x.ok := by
  obtain ⟨xs, n, _, rfl, hl, hlen, hf⟩ := DataW.trod_struct Try.underlying32 h
  rw [Try.kcellsMove] at hl
  have hlen4 : xs.length = 4 := hlen
  match xs, hlen4 with
  | [y0, y1, y2, y3], _ =>
  match cs, hl with
  | [c0, c1, c2, c3], _ =>
  have f0 : DataW.trod enc Try.prog W base spare held n 3 (([c0, c1, c2, c3].drop 0).take (Try.prog.cellsOf 3)) = ([y0, y1, y2, y3] : List (DataW H × List MemPlace))[0]? := hf 0 _ rfl
  have f1 : DataW.trod enc Try.prog W base spare held n 3 (([c0, c1, c2, c3].drop 1).take (Try.prog.cellsOf 3)) = ([y0, y1, y2, y3] : List (DataW H × List MemPlace))[1]? := hf 1 _ rfl
  have f2 : DataW.trod enc Try.prog W base spare held n 3 (([c0, c1, c2, c3].drop 2).take (Try.prog.cellsOf 3)) = ([y0, y1, y2, y3] : List (DataW H × List MemPlace))[2]? := hf 2 _ rfl
  have f3 : DataW.trod enc Try.prog W base spare held n 28 (([c0, c1, c2, c3].drop 3).take (Try.prog.cellsOf 28)) = ([y0, y1, y2, y3] : List (DataW H × List MemPlace))[3]? := hf 3 _ rfl
  rw [Try.kcellsInt] at f0 f1 f2
  rw [Try.kcellsU64] at f3
  have g0 : DataW.trod enc Try.prog W base spare held n 3 [c0] = some y0 := f0
  have g1 : DataW.trod enc Try.prog W base spare held n 3 [c1] = some y1 := f1
  have g2 : DataW.trod enc Try.prog W base spare held n 3 [c2] = some y2 := f2
  have g3 : DataW.trod enc Try.prog W base spare held n 28 [c3] = some y3 := f3
  obtain ⟨k, e0, _, w0⟩ := DataW.trod_int Try.underlying3 g0
  obtain ⟨a, e1, _, w1⟩ := DataW.trod_int Try.underlying3 g1
  obtain ⟨b, e2, _, w2⟩ := DataW.trod_int Try.underlying3 g2
  obtain ⟨m, e3, _, w3⟩ := DataW.trod_int Try.underlying28 g3
  simp only [List.cons.injEq, and_true] at e0 e1 e2 e3
  subst e0 e1 e2 e3
  exact ⟨⟨k, a, b, m⟩, rfl, wf_i64 w0, wf_i64 w1, wf_i64 w2, wf_u64 w3⟩

/-- Moves opened. -/
theorem moves_open {H : Type} {enc : TypeId × Value → H} {W : World} {fuel : Nat} {a0 : Option Addr} {len cap : Nat} {y : DataW H × List MemPlace}
    (h : DataW.trod enc Try.prog W 0 (fun _ => true) true fuel 22 [.slice a0 len cap] = some y) (hsz : ∀ m ∈ y.1.weights Try.prog 22, m ≤ reachBytes) :
    ∃ xs : List MoveD, xs.length = len ∧ len < 9223372036854775807 ∧ (0 < len → ∃ b off, a0 = some ⟨b, off, none⟩ ∧ MovesAt W b off xs) := by
  rcases Deep.open_slice Try.underlying22 h with ⟨hcs, _⟩ | ⟨a, len', cap', m, n, D, Pl, hcs, _, hl, hm, hmm, rfl, hel⟩
  · simp only [List.cons.injEq, Value.slice.injEq, and_true] at hcs
    exact ⟨[], by simp [hcs.2.1], by omega, fun h => by omega⟩
  · simp only [List.cons.injEq, Value.slice.injEq, and_true] at hcs
    obtain ⟨rfl, rfl, rfl⟩ := hcs
    simp only [if_true] at hmm
    subst hmm
    by_cases h0 : len = 0
    · exact ⟨[], by simp [h0], by omega, fun h => by omega⟩
    have hw : (DataW.slice ((List.range len).map D) ((List.range (m - len)).map fun j => D (len + j))).weights Try.prog 22 =
        (((List.range len).map D).length + ((List.range (m - len)).map fun j => D (len + j)).length) * Try.prog.bytesOf 32 :: (DataW.weightsAll Try.prog 32 ((List.range len).map D) ++ DataW.weightsAll Try.prog 32 ((List.range (m - len)).map fun j => D (len + j))) := by
      simp only [DataW.weights, Try.underlying22]
    rw [hw] at hsz
    have hb := hsz _ List.mem_cons_self
    rw [Try.kbytesMove] at hb
    simp only [List.length_map, List.length_range, reachBytes] at hb
    have hop : ∀ i, i < len → ∃ x : MoveD, (W.cells? 0 (a.add (i * 4)) 4 = some (moveList x)) ∧ x.ok := by
      intro i hi
      obtain ⟨cs', hc, ht⟩ := hel i (by omega)
      rw [Try.kcellsMove] at hc
      obtain ⟨x, rfl, h1⟩ := move_open ht
      exact ⟨x, hc, h1⟩
    have inh : Inhabited MoveD := ⟨⟨0, 0, 0, 0⟩⟩
    obtain ⟨f, hfx⟩ := Deep.choose_lt hop
    obtain ⟨b, off, spot⟩ := a
    have hspot : spot = none := by
      have h1 := (World.cells?_some (hfx 0 (by omega)).1).2.2 0 (by omega)
      have h2 : W.cell? ((⟨b, off, spot⟩ : Addr).add (0 * 4 + 0)) = some (Value.int .i64 (f 0).k) := by rw [← Deep.add_add]; exact h1
      simpa [Addr.add] using World.cell?_spot h2
    subst hspot
    have hcell : ∀ i, i < len → ∀ j, j < 4 → W.cell? ⟨b, off + i * 4 + j, none⟩ = (moveList (f i))[j]? := by
      intro i hi j hj
      have h1 := (World.cells?_some (hfx i hi).1).2.2 j hj
      rw [Deep.add_add, addr_add, ← Nat.add_assoc] at h1
      exact h1
    refine ⟨(List.range len).map f, by simp, by omega, fun _ => ⟨b, off, rfl, ?_⟩⟩
    have e : ∀ i (hi : i < ((List.range len).map f).length), ((List.range len).map f)[i] = f i := fun i hi => by simp
    have il : ∀ i, i < ((List.range len).map f).length → i < len := fun i hi => by simpa using hi
    refine ⟨World.cells?_block (hfx 0 (by omega)).1 (by omega), ?_, ?_, ?_, ?_, ?_⟩
    · intro i hi; rw [e i hi]; exact hcell i (il i hi) 0 (by omega)
    · intro i hi; rw [e i hi]; exact hcell i (il i hi) 1 (by omega)
    · intro i hi; rw [e i hi]; exact hcell i (il i hi) 2 (by omega)
    · intro i hi; rw [e i hi]; exact hcell i (il i hi) 3 (by omega)
    · intro x hx
      obtain ⟨i, hi, rfl⟩ := List.mem_map.1 hx
      exact (hfx i (by simpa using hi)).2

end Go.Proofs.Ytbjobbkgelipmaa

/-
  What slices.Sorted(maps.Keys(m)) gives, by the library's contracts.
-/
namespace Go.Proofs.Ytbjobbkgelipmaa
open Go.RowKit Go.Maps Go.Sort Go.Shelf

theorem Try.sortsL (m : Nat) : AnyZ.SortsIn Try.prog Try.sortedL_ren Fence.wide m :=
  ⟨fun blk off cap ss W hH hblk hsz => callsIn_wide.2 (AnyM.slices_Sort_string Try.sortL blk off cap ss W hH hblk hsz),
   fun p cap W => callsIn_wide.2 (AnyM.slices_Sort_string_none Try.sortL p cap W)⟩

set_option maxHeartbeats 1000000 in
theorem sortk : SortK := ⟨
  fun mb W => (callsIn_wide (n := 5)).1 (AnyZ.keys_in Try.keysL Fence.wide 5 trivial rfl mb W),
  fun b nn D0 w hown hsz => (callsIn_wide (n := 5)).1 (by
    have hbl := hown.lt
    have hseq : SeqGives Fence.wide 2 Try.prog 60 #[.pointer (some ⟨w.heap.size, 0, none⟩)] encStr (fun ss => ss.Perm (strKeys D0)) (Maps.size D0) (w.alloc (.cells #[.map (some b)] 61)) :=
      AnyZ.keys_gives (ρ := Try.keysL_ren) { Try.keysL with } Fence.wide _ trivial rfl (by omega) w.heap.size b nn D0 _ (by simp) (by simp) (by
        obtain ⟨es, clock, hb, Ft, hs, hD⟩ := hown
        exact ⟨es, clock, (Below.heap_alloc _ _ b hbl).trans hb, Ft, hs, hD⟩)
    exact AnyZ.sorted_in Try.sortedL Fence.wide 5 trivial trivial trivial trivial rfl (by omega) (Try.sortsL _) (enters_of Try.func52 (by kernel_rfl) rfl) 60 #[.pointer (some ⟨w.heap.size, 0, none⟩)] trivial (enters_of Try.func60 (by kernel_rfl) rfl) _ _ (by unfold maxLen; omega) (by omega) _ hseq)⟩

#print axioms sortk

end Go.Proofs.Ytbjobbkgelipmaa

/-
  Steps: the law lifted, and the statement.
-/
namespace Go.Proofs.Ytbjobbkgelipmaa
open Go.ChangeShapes Go.WideShapes Go.ChangeAt Go.RowKit

set_option maxRecDepth 100000 in
theorem steps_lifted (os : Os) (started : os.Started) (H : Type) (enc : TypeId × Value → H) :
    ReturnsInHanded {} Try.checked os 3 .any (Rows.stepsSpec.pre6 enc Try.prog Try.f3 Rows.stepsRow.domain false) (Rows.stepsSpec.post enc Try.prog Try.f3 false true false false) := by
  refine returnsInHanded_of_change_sized (C := Try.checked) Try.kown started (by kernel_rfl) Try.func3
    (ChangeSpec.witness6 (enc := enc) (C := Try.checked) false ⟨#[], #[.slice none 0 0], []⟩ 8 (by kernel_rfl) (by kernel_rfl) (by kernel_rfl) (by kernel_rfl)) ?_
  intro W base args ds gs before hval0 hW _ hsz0 _
  have hsz : (DataW.weightsEach Try.prog (Try.f3.params.toList ++ Rows.stepsSpec.plain.varTypes Try.prog) (ds ++ gs)).all (· ≤ reachBytes) = true := hsz0
  clear hsz0
  have hval : ∀ (j : Nat) t v, Try.f3.params[j]? = some t → args[j]? = some v → Value.okWide Try.prog W .any base t v := hval0
  have hW' := hW
  obtain ⟨p, q, hA0, hV, rfl, _, _⟩ := hW
  have hA : DataW.TrodAll enc Try.prog W 0 (fun _ => true) true Try.f3.params.toList args.toList ds p := hA0
  rw [Try.params3] at hA hval hsz
  obtain ⟨v0, d0, rfl, rfl, h0⟩ := trodAll_one hA
  obtain ⟨rfl, rfl⟩ := trodVars_none hV
  obtain ⟨a0, len, cap, rfl⟩ := okWide_slice Try.underlying22 (hval 0 22 v0 rfl rfl)
  have h0k := h0
  obtain ⟨fuel, hf⟩ := h0
  clear hA0 hval0
  simp only [List.append_nil] at hW'
  have hlt : ∀ x ∈ p, x.block < W.heap.size := fun x hx => by simpa using hW'.lt x hx
  have hargs : ∀ (W' : World), Below W.heap.size W W' → DataW.Trod enc Try.prog W' 0 (fun b => decide (b < W.heap.size)) true 22 (.slice a0 len cap) d0 p :=
    fun W' hn => Below.trod Try.klaidOut (by kernel_rfl) (of_decide_eq_true (by kernel_rfl)) h0k hn hlt
  obtain ⟨xs, hx1, hx2, hx3⟩ := moves_open (by simpa [Value.cells] using hf) (fun m hm => by
    have := List.all_eq_true.1 hsz m (DataW.weights_mem_each (j := 0) (t := 22) rfl rfl m hm)
    simpa using this)
  refine (steps_any a0 len cap xs W (known_any sortk W) hx1 hx2 hx3).mono fun e W' ⟨he, hnx⟩ => ?_
  subst he
  refine ⟨_, rfl, _, _, _, [], p, [], hW', ?_, ?_, rfl, hnx.frame _, fun h => by cases h⟩
  · exact trodAll_mk1 (shut_bool Try.underlying4 true)
  · exact trodAll_mk1 (hargs _ hnx)

theorem steps_holds : Rows.StepsSaid :=
  OpenClaim.holds_of_wide 3 Try.f3 rfl rfl rfl rfl rfl rfl rfl ⟨rfl, rfl, rfl, rfl, rfl⟩ rfl rfl rfl rfl rfl (by kernel_rfl) Try.func3 (by kernel_rfl)
    (of_decide_eq_true (by kernel_rfl)) (by unfold Func.isWrapper; first | (rw [if_pos (by decide +kernel)]; kernel_rfl) | (rw [if_neg (by decide +kernel)]; exact ⟨rfl, rfl⟩))
    (fun os started H enc _ => steps_lifted os started H enc)

#print axioms steps_holds

end Go.Proofs.Ytbjobbkgelipmaa
