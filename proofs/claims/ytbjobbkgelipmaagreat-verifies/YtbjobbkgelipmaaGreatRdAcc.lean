/-
  The walk of tithe's readAccepted.
-/
import Derived.Test.YtbjobbkgelipmaaGreatAccepts
import Derived.Test.YtbjobbkgelipmaaGreatRdPrG
import Derived.Test.YtbjobbkgelipmaaGreatVerJ
import Derived.BigQuiet
namespace Go.Proofs.YtbjobbkgelipmaaGreat
open Go.RowKit

theorem accUp_over {l : List UInt8} {i h : Nat} (hi : i < h) (hx : maxS < (sideAt l (19 + bAt l 2 + 11 * i)).2) : accUp l h = none := by
  have h1 : accUp l (i + 1) = none := by
    cases hu : accUp l i with
    | none => simp only [accUp, hu]
    | some p => simp only [accUp, hu]; rw [if_pos (Or.inl hx)]
  have := accUp_none (j := h - (i + 1)) h1
  rwa [show i + 1 + (h - (i + 1)) = h by omega] at this

/-- A proof's bytes whose numbers are within bounds. -/
def prfOk (h : Nat) (l : List UInt8) : Prop := accHead h l ∧ accBal l ≤ maxS ∧ ∀ i, i < h → (sideAt l (19 + bAt l 2 + 11 * i)).2 ≤ maxS

theorem prfOk_great {h : Nat} {l : List UInt8} (ha : accHead h l) : greatB (accBal l) (sidesOf (l.drop (19 + bAt l 2)) h) ≤ maxS ↔ prfOk h l := by
  rw [greatB_le]
  constructor
  · rintro ⟨h1, h2⟩
    refine ⟨ha, h1, fun i hi => ?_⟩
    have := h2 _ (List.getElem_mem (l := sidesOf (l.drop (19 + bAt l 2)) h) (n := i) (by rw [sidesOf_len]; exact hi))
    rwa [sidesOf_at hi] at this
  · rintro ⟨_, h1, h2⟩
    refine ⟨h1, fun y hy => ?_⟩
    obtain ⟨i, hi, rfl⟩ := List.getElem_of_mem hy
    rw [sidesOf_len] at hi
    rw [sidesOf_at hi]
    exact h2 i hi

theorem notOk_of {rep prf : List UInt8} (hn : ¬ prfOk (repH rep) prf) : ¬ verOk rep prf := by
  rintro ⟨h0, h1, h2⟩
  refine hn ⟨h1, ?_, fun i hi => ?_⟩
  · refine Int.not_lt.1 fun h => ?_
    unfold accOk at h2
    rw [if_pos h] at h2
    cases h2
  · refine Int.not_lt.1 fun h => ?_
    unfold accOk accTexts at h2
    rw [accUp_over hi h] at h2
    split at h2 <;> cases h2

/-- readProof, in all cases. -/
theorem rdpr_all (b cap h : Nat) (l : List UInt8) (w : World) (hcap : l.length ≤ cap) (hc0 : h = 0 → l.length < cap) (hm : cap ≤ 9223372036854775807) (hh : h ≤ 6) (hb : b < w.heap.size) (hB : BytesAt w b 0 l) :
    Calls Tryz.prog 77 #[.slice (some ⟨b, 0, none⟩) l.length cap, .int .i64 (h : Int)] w fun e w' => Below w.heap.size w w' ∧
      ((¬ prfOk h l ∧ ∃ (pl : Int) (nm : ByteArray) (bal salt : Int) (a : Option Addr) (k c : Nat), e = .returned (.tuple #[proofV pl nm bal salt a k c, .bool false])) ∨
       (prfOk h l ∧ ∃ g, e = .returned (.tuple #[proofV (bAt l 1 : Int) ⟨(accName l).toArray⟩ (accBal l) (accSalt l) (some ⟨g, 0, none⟩) h h, .bool true]) ∧ g < w'.heap.size ∧ SidesAt w' g (sidesOf (l.drop (19 + bAt l 2)) h))) := by
  by_cases h3 : l.length < 3
  · refine (rdpr_short b l.length cap h w h3).mono fun e w' ⟨he, hb'⟩ => ⟨hb', .inl ⟨fun hp => by have := hp.1.1; omega, 0, ⟨#[]⟩, 0, 0, none, 0, 0, he⟩⟩
  · by_cases h0 : bAt l 0 = h
    · refine (rdpr_good b l.length cap h l w rfl (by omega) hcap hc0 hm hh hb hB h0).mono fun e w' ⟨hb', p1, p2⟩ => ⟨hb', ?_⟩
      by_cases ha : accHead h l
      · obtain ⟨g, he, hg, hs⟩ := p2 ha
        by_cases hk : prfOk h l
        · rw [decide_eq_true ((prfOk_great ha).2 hk)] at he
          exact .inr ⟨hk, g, he, hg, hs⟩
        · rw [decide_eq_false (fun h => hk ((prfOk_great ha).1 h))] at he
          exact .inl ⟨hk, _, _, _, _, _, _, _, he⟩
      · exact .inl ⟨fun hp => ha hp.1, 0, ⟨#[]⟩, 0, 0, none, 0, 0, p1 ha⟩
    · have c0 : w.cell? ⟨b, 0, none⟩ = some (.int .u8 (bAt l 0 : Int)) := by
        have := hB 0 (by omega)
        rw [this]; unfold bAt; rw [List.getD_eq_getElem?_getD, List.getElem?_eq_getElem (by omega)]; rfl
      refine (rdpr_height b l.length cap h (bAt l 0) w (by omega) hb c0 (by have := UInt8.toNat_lt (l.getD 0 0); unfold bAt; omega) h0).mono fun e w' ⟨he, hb'⟩ => ⟨hb', .inl ⟨fun hp => h0 hp.1.2.1, 0, ⟨#[]⟩, 0, 0, none, 0, 0, he⟩⟩

def proofC (pl : Int) (nm : ByteArray) (bal salt : Int) (a : Option Addr) (k c : Nat) : Obj := Obj.cells #[Value.int IntKind.i64 pl, Value.string nm, Value.int IntKind.u64 bal, Value.int IntKind.u64 salt, Value.slice a k c] 118
def repC (h d0 d1 d2 x : Int) : Obj := Obj.cells #[Value.int IntKind.i64 h, Value.int IntKind.u8 d0, Value.int IntKind.u8 d1, Value.int IntKind.u8 d2, Value.int IntKind.u64 x] 108

set_option maxHeartbeats 1000000 in
set_option maxRecDepth 100000 in
theorem rdacc_no (v : Value) (w : World) (h d0 d1 d2 x : Int)
    (hP : ∀ w', Below w.heap.size w w' → Calls Tryz.prog 77 #[v, .int .i64 h] w' fun e w'' => (∃ (pl : Int) (nm : ByteArray) (bal salt : Int) (a : Option Addr) (k c : Nat), e = .returned (.tuple #[proofV pl nm bal salt a k c, .bool false])) ∧ Below w'.heap.size w' w'') :
    Calls Tryz.prog 61 #[ownRepV h d0 d1 d2 x, v] w fun e w' => e = .returned (.tuple #[proofZ, .bool false]) ∧ Below w.heap.size w w' := by
  have HP := fun w' hb => hide (hP w' hb)
  clear hP
  unfold ownRepV at *
  go_enter Tryz.func61, Tryz.ntmps61
  go_wp2_with fail
  have hA : Below w.heap.size w ((w.alloc (repC h d0 d1 d2 x)).alloc (proofC 0 ⟨#[]⟩ 0 0 none 0 0)) := ((Below.refl _ _).alloc (Nat.le_refl _) _).alloc (by simp) _
  have kR := heap_new1 w (repC h d0 d1 d2 x) (proofC 0 ⟨#[]⟩ 0 0 none 0 0)
  refine (unhide (HP _ hA)).mono ?_
  rintro e w2 ⟨⟨pl, nm, bal, salt, a, k, c, rfl⟩, hb2⟩
  have mR := heap_next (o := proofC pl nm bal salt a k c) ((hb2.block _ (Array.getElem?_eq_some_iff.1 kR).1).trans kR)
  have hB := hA.trans (hb2.mono (by simp only [World.size_alloc]; omega))
  have HB := hide (hB.alloc hB.size (proofC pl nm bal salt a k c))
  clear hb2 hB hA HP kR
  unfold proofV
  go_upto_region 2 with fail
  unfold proofC at *
  generalize (w2.alloc (Obj.cells #[Value.int IntKind.i64 pl, Value.string nm, Value.int IntKind.u64 bal, Value.int IntKind.u64 salt, Value.slice a k c] 118)) = W3 at *
  generalize w2.heap.size = P at *
  obtain ⟨R, hR⟩ : ∃ R, w.heap.size + 1 = R := ⟨_, rfl⟩
  rw [hR] at mR ⊢
  have r0 : W3.cell? ⟨R, 0, none⟩ = some (.int .i64 0) := block_cell mR
  have r1 : W3.cell? ⟨R, 1, none⟩ = some (.string ⟨#[]⟩) := block_cell mR
  have r2 : W3.cell? ⟨R, 2, none⟩ = some (.int .u64 0) := block_cell mR
  have r3 : W3.cell? ⟨R, 3, none⟩ = some (.int .u64 0) := block_cell mR
  have r4 : W3.cell? ⟨R, 4, none⟩ = some (.slice none 0 0) := block_cell mR
  have rf : ∀ i, W3.frozen? ⟨R, i, none⟩ = false := fun i => block_free mR
  have HR := hide hR
  clear mR hR
  go_wp2
  refine bodyPost_ret (v := .tuple #[proofZ, .bool false]) ?_ rfl ⟨rfl, ?_⟩
  · simp [results, Tryz.results61, go_sem, proofZ, r0, r1, r2, r3, r4]
  · have hw := unhide HR
    exact (((((unhide HB).setCell (by show w.heap.size ≤ R; omega) _).setCell (by show w.heap.size ≤ R; omega) _).setCell (by show w.heap.size ≤ R; omega) _).setCell (by show w.heap.size ≤ R; omega) _).setCell (by show w.heap.size ≤ R; omega) _

/-- What readAccepted owes where readProof has read a proof. -/
def RdAccP (w : World) (pl bal salt : Int) (nm : ByteArray) (k c : Nat) (bb : Bool) (Q : Option Addr → World → Prop) (e : Ending) (w' : World) : Prop :=
  bb = false ∧ e = .returned (.tuple #[proofZ, .bool false]) ∨ bb = true ∧ ∃ a W, e = .returned (.tuple #[proofV pl nm bal salt a k c, .bool true]) ∧ Q a W ∧ W.cell? ⟨w.heap.size + 1, 0, none⟩ = some (.int .i64 0) ∧ w'.heap.size = W.heap.size ∧ ∀ b, b ≠ w.heap.size + 1 → w'.heap[b]? = W.heap[b]?

set_option maxHeartbeats 1000000 in
set_option maxRecDepth 100000 in
theorem rdacc_acc (v : Value) (w : World) (h d0 d1 d2 x : Int) (pl bal salt : Int) (nm : ByteArray) (k c : Nat) (bb : Bool) (Q : Option Addr → World → Prop) (hQ : ∀ a W W', Q a W → Below W.heap.size W W' → Q a W')
    (hP : ∀ w', Below w.heap.size w w' → Calls Tryz.prog 77 #[v, .int .i64 h] w' fun e w'' => (∃ a : Option Addr, e = .returned (.tuple #[proofV pl nm bal salt a k c, .bool true]) ∧ Q a w'' ∧
      ∀ w3, Below w''.heap.size w'' w3 → Calls Tryz.prog 78 #[ownRepV h d0 d1 d2 x, proofV pl nm bal salt a k c] w3 fun e w4 => e = .returned (.bool bb) ∧ Below w3.heap.size w3 w4) ∧ Below w'.heap.size w' w'') :
    Calls Tryz.prog 61 #[ownRepV h d0 d1 d2 x, v] w fun e w' => RdAccP w pl bal salt nm k c bb Q e w' ∧ Below w.heap.size w w' := by
  have HP := fun w' hb => hide (hP w' hb)
  have HQ := hide hQ
  clear hP hQ
  unfold ownRepV proofV at *
  go_enter Tryz.func61, Tryz.ntmps61
  go_wp2_with fail
  have hA : Below w.heap.size w ((w.alloc (repC h d0 d1 d2 x)).alloc (proofC 0 ⟨#[]⟩ 0 0 none 0 0)) := ((Below.refl _ _).alloc (Nat.le_refl _) _).alloc (by simp) _
  have kA := heap_next (o := proofC 0 ⟨#[]⟩ 0 0 none 0 0) (heap_alloc_new w (repC h d0 d1 d2 x))
  have kR := heap_new1 w (repC h d0 d1 d2 x) (proofC 0 ⟨#[]⟩ 0 0 none 0 0)
  refine (unhide (HP _ hA)).mono ?_
  rintro e w2 ⟨⟨a, rfl, hq, hAcc⟩, hb2⟩
  have mA := heap_next (o := proofC pl nm bal salt a k c) ((hb2.block _ (Array.getElem?_eq_some_iff.1 kA).1).trans kA)
  have mR := heap_next (o := proofC pl nm bal salt a k c) ((hb2.block _ (Array.getElem?_eq_some_iff.1 kR).1).trans kR)
  have mP := heap_alloc_new w2 (proofC pl nm bal salt a k c)
  have hB := hA.trans (hb2.mono (by simp only [World.size_alloc]; omega))
  have hB3 := hB.alloc hB.size (proofC pl nm bal salt a k c)
  have hz2 : w.heap.size + 2 ≤ w2.heap.size := by have := hb2.size; simp only [World.size_alloc] at this; omega
  have hn3 := (Below.refl w2.heap.size w2).alloc (Nat.le_refl _) (proofC pl nm bal salt a k c)
  have hq3 := unhide HQ _ _ _ hq hn3
  have HC := hide (hAcc _ hn3)
  have HB3 := hide (And.intro hB3 hq3)
  have hz3 := hB3.size
  clear hb2 hB hA HP kR kA hAcc hn3 hB3 hq hq3
  go_upto_region 2 with fail
  unfold proofC repC at *
  have hs3 : (w2.alloc (Obj.cells #[Value.int IntKind.i64 pl, Value.string nm, Value.int IntKind.u64 bal, Value.int IntKind.u64 salt, Value.slice a k c] 118)).heap.size = w2.heap.size + 1 := by simp
  generalize (w2.alloc (Obj.cells #[Value.int IntKind.i64 pl, Value.string nm, Value.int IntKind.u64 bal, Value.int IntKind.u64 salt, Value.slice a k c] 118)) = W3 at *
  generalize w2.heap.size = P at *
  obtain ⟨R, hR⟩ : ∃ R, w.heap.size + 1 = R := ⟨_, rfl⟩
  rw [hR] at mR ⊢
  have a0 : W3.cell? ⟨w.heap.size, 0, none⟩ = some (.int .i64 h) := block_cell mA
  have a1 : W3.cell? ⟨w.heap.size, 1, none⟩ = some (.int .u8 d0) := block_cell mA
  have a2 : W3.cell? ⟨w.heap.size, 2, none⟩ = some (.int .u8 d1) := block_cell mA
  have a3 : W3.cell? ⟨w.heap.size, 3, none⟩ = some (.int .u8 d2) := block_cell mA
  have a4 : W3.cell? ⟨w.heap.size, 4, none⟩ = some (.int .u64 x) := block_cell mA
  have e0 : W3.cell? ⟨P, 0, none⟩ = some (.int .i64 pl) := block_cell mP
  have e1 : W3.cell? ⟨P, 1, none⟩ = some (.string nm) := block_cell mP
  have e2 : W3.cell? ⟨P, 2, none⟩ = some (.int .u64 bal) := block_cell mP
  have e3 : W3.cell? ⟨P, 3, none⟩ = some (.int .u64 salt) := block_cell mP
  have e4 : W3.cell? ⟨P, 4, none⟩ = some (.slice a k c) := block_cell mP
  have MP := hide (And.intro mP mR)
  have HR := hide (And.intro hR (And.intro hz2 hs3))
  clear mA mR mP hR hz2 hs3
  go_wp2_with fail
  refine (unhide HC).mono ?_
  rintro e w4 ⟨rfl, hb4⟩
  have mP := (hb4.block _ (Array.getElem?_eq_some_iff.1 (unhide MP).1).1).trans (unhide MP).1
  have mR := (hb4.block _ (Array.getElem?_eq_some_iff.1 (unhide MP).2).1).trans (unhide MP).2
  have HB4 := hide (And.intro ((unhide HB3).1.trans (hb4.mono hz3)) (And.intro (unhide HQ _ _ _ (unhide HB3).2 hb4) hb4.size))
  clear a0 a1 a2 a3 a4 e0 e1 e2 e3 e4 hb4 HC MP HB3 HQ
  have r0 : w4.cell? ⟨R, 0, none⟩ = some (.int .i64 0) := block_cell mR
  have r1 : w4.cell? ⟨R, 1, none⟩ = some (.string ⟨#[]⟩) := block_cell mR
  have r2 : w4.cell? ⟨R, 2, none⟩ = some (.int .u64 0) := block_cell mR
  have r3 : w4.cell? ⟨R, 3, none⟩ = some (.int .u64 0) := block_cell mR
  have r4 : w4.cell? ⟨R, 4, none⟩ = some (.slice none 0 0) := block_cell mR
  have rf : ∀ i, w4.frozen? ⟨R, i, none⟩ = false := fun i => block_free mR
  clear mR
  have hbel : ∀ (v0 v1 v2 v3 v4 : Value), Below w.heap.size w (((((w4.setCell ⟨R, 0, none⟩ v0).setCell ⟨R, 1, none⟩ v1).setCell ⟨R, 2, none⟩ v2).setCell ⟨R, 3, none⟩ v3).setCell ⟨R, 4, none⟩ v4) := fun v0 v1 v2 v3 v4 => by
    have hw := (unhide HR).1
    exact (((((unhide HB4).1.setCell (by show w.heap.size ≤ R; omega) _).setCell (by show w.heap.size ≤ R; omega) _).setCell (by show w.heap.size ≤ R; omega) _).setCell (by show w.heap.size ≤ R; omega) _).setCell (by show w.heap.size ≤ R; omega) _
  have HBL := hide hbel
  clear hbel
  cases bb with
  | false =>
    clear mP
    go_wp2
    refine bodyPost_ret (v := .tuple #[proofZ, .bool false]) ?_ rfl ⟨.inl ⟨rfl, rfl⟩, ?_⟩
    · simp [results, Tryz.results61, go_sem, proofZ, r0, r1, r2, r3, r4]
    · exact unhide HBL _ _ _ _ _
  | true =>
    have e0 : w4.cell? ⟨P, 0, none⟩ = some (.int .i64 pl) := block_cell mP
    have e1 : w4.cell? ⟨P, 1, none⟩ = some (.string nm) := block_cell mP
    have e2 : w4.cell? ⟨P, 2, none⟩ = some (.int .u64 bal) := block_cell mP
    have e3 : w4.cell? ⟨P, 3, none⟩ = some (.int .u64 salt) := block_cell mP
    have e4 : w4.cell? ⟨P, 4, none⟩ = some (.slice a k c) := block_cell mP
    clear mP
    go_wp2
    refine bodyPost_ret (v := .tuple #[.agg #[.int .i64 pl, .string nm, .int .u64 bal, .int .u64 salt, .slice a k c], .bool true]) ?_ rfl ⟨.inr ⟨rfl, a, w4, rfl, (unhide HB4).2.1, ?_, ?_, ?_⟩, ?_⟩
    · simp [results, Tryz.results61, go_sem, r0, r1, r2, r3, r4]
    · rw [(unhide HR).1]; exact r0
    · simp
    · intro b hne
      have hw := (unhide HR).1
      have hne' : b ≠ R := by omega
      rw [Below.heap_setCell _ _ _ _ hne', Below.heap_setCell _ _ _ _ hne', Below.heap_setCell _ _ _ _ hne', Below.heap_setCell _ _ _ _ hne', Below.heap_setCell _ _ _ _ hne']
    · exact unhide HBL _ _ _ _ _

end Go.Proofs.YtbjobbkgelipmaaGreat
