/-
  The walk of tithe's Verify.
-/
import Derived.Test.YtlpljkolpjgpnaaGreatAccepts
import Derived.Test.YtlpljkolpjgpnaaGreatRdRepG
import Derived.Test.YtlpljkolpjgpnaaGreatRdPrG
import Derived.Test.YtlpljkolpjgpnaaGreatVerJ
import Derived.BigQuiet
namespace Go.Proofs.YtlpljkolpjgpnaaGreat
open Go.RowKit

theorem accUp_over {l : List UInt8} {i h : Nat} (hi : i < h) (hx : maxS < (sideAt l (19 + bAt l 2 + 11 * i)).2) : accUp l h = none := by
  have h1 : accUp l (i + 1) = none := by
    cases hu : accUp l i with
    | none => simp only [accUp, hu]
    | some p => simp only [accUp, hu]; rw [if_pos (Or.inl hx)]
  have := accUp_none (j := h - (i + 1)) h1
  rwa [show i + 1 + (h - (i + 1)) = h by omega] at this

/-- A proof's bytes whose numbers are within bounds. -/
def prfOk (h : Nat) (l : List UInt8) : Prop := accHead h l ∧ accBal l ≤ maxS ∧ ∀ i, i < h → (sideAt l (19 + bAt l 2 + 11 * i)).2 ≤ maxS

theorem prfOk_great {h : Nat} {l : List UInt8} (ha : accHead h l) : greatB (accBal l) (sidesOf (l.drop (19 + bAt l 2)) h) ≤ maxS ↔ prfOk h l := by
  rw [greatB_le]
  constructor
  · rintro ⟨h1, h2⟩
    refine ⟨ha, h1, fun i hi => ?_⟩
    have := h2 _ (List.getElem_mem (l := sidesOf (l.drop (19 + bAt l 2)) h) (n := i) (by rw [sidesOf_len]; exact hi))
    rwa [sidesOf_at hi] at this
  · rintro ⟨_, h1, h2⟩
    refine ⟨h1, fun y hy => ?_⟩
    obtain ⟨i, hi, rfl⟩ := List.getElem_of_mem hy
    rw [sidesOf_len] at hi
    rw [sidesOf_at hi]
    exact h2 i hi

theorem notOk_of {rep prf : List UInt8} (hn : ¬ prfOk (repH rep) prf) : ¬ verOk rep prf := by
  rintro ⟨h0, h1, h2⟩
  refine hn ⟨h1, ?_, fun i hi => ?_⟩
  · refine Int.not_lt.1 fun h => ?_
    unfold accOk at h2
    rw [if_pos h] at h2
    cases h2
  · refine Int.not_lt.1 fun h => ?_
    unfold accOk accTexts at h2
    rw [accUp_over hi h] at h2
    split at h2 <;> cases h2

/-- readProof, in all cases. -/
theorem rdpr_all (b cap h : Nat) (l : List UInt8) (w : World) (hcap : l.length < cap) (hm : cap ≤ 140737488355328) (hh : h ≤ 6) (hb : b < w.heap.size) (hB : BytesAt w b 0 l) :
    Calls Tryz.prog 59 #[.slice (some ⟨b, 0, none⟩) l.length cap, .int .i64 (h : Int)] w fun e w' => Below w.heap.size w w' ∧
      ((¬ prfOk h l ∧ ∃ (pl : Int) (nm : ByteArray) (bal salt : Int) (a : Option Addr) (k c : Nat), e = .returned (.tuple #[proofV pl nm bal salt a k c, .bool false])) ∨
       (prfOk h l ∧ ∃ g, e = .returned (.tuple #[proofV (bAt l 1 : Int) ⟨(accName l).toArray⟩ (accBal l) (accSalt l) (some ⟨g, 0, none⟩) h h, .bool true]) ∧ g < w'.heap.size ∧ SidesAt w' g (sidesOf (l.drop (19 + bAt l 2)) h))) := by
  by_cases h3 : l.length < 3
  · refine (rdpr_short b l.length cap h w h3).mono fun e w' ⟨he, hb'⟩ => ⟨hb', .inl ⟨fun hp => by have := hp.1.1; omega, 0, ⟨#[]⟩, 0, 0, none, 0, 0, he⟩⟩
  · by_cases h0 : bAt l 0 = h
    · refine (rdpr_good b l.length cap h l w rfl (by omega) hcap hm hh hb hB h0).mono fun e w' ⟨hb', p1, p2⟩ => ⟨hb', ?_⟩
      by_cases ha : accHead h l
      · obtain ⟨g, he, hg, hs⟩ := p2 ha
        by_cases hk : prfOk h l
        · rw [decide_eq_true ((prfOk_great ha).2 hk)] at he
          exact .inr ⟨hk, g, he, hg, hs⟩
        · rw [decide_eq_false (fun h => hk ((prfOk_great ha).1 h))] at he
          exact .inl ⟨hk, _, _, _, _, _, _, _, he⟩
      · exact .inl ⟨fun hp => ha hp.1, 0, ⟨#[]⟩, 0, 0, none, 0, 0, p1 ha⟩
    · have c0 : w.cell? ⟨b, 0, none⟩ = some (.int .u8 (bAt l 0 : Int)) := by
        have := hB 0 (by omega)
        rw [this]; unfold bAt; rw [List.getD_eq_getElem?_getD, List.getElem?_eq_getElem (by omega)]; rfl
      refine (rdpr_height b l.length cap h (bAt l 0) w (by omega) hb c0 (by have := UInt8.toNat_lt (l.getD 0 0); unfold bAt; omega) h0).mono fun e w' ⟨he, hb'⟩ => ⟨hb', .inl ⟨fun hp => h0 hp.1.2.1, 0, ⟨#[]⟩, 0, 0, none, 0, 0, he⟩⟩

set_option maxHeartbeats 1000000 in
set_option maxRecDepth 100000 in
theorem ownver_norep (b1 b2 n1 c1 n2 c2 : Nat) (w : World) (hR : Calls Tryz.prog 58 #[.slice (some ⟨b1, 0, none⟩) n1 c1] w fun e w' => (∃ h d0 d1 d2 n : Int, e = .returned (.tuple #[ownRepV h d0 d1 d2 n, .bool false])) ∧ Below w.heap.size w w') :
    Calls Tryz.prog 40 #[.slice (some ⟨b1, 0, none⟩) n1 c1, .slice (some ⟨b2, 0, none⟩) n2 c2] w fun e w' => e = .returned (verV [] 0 8) ∧ Below w.heap.size w w' := by
  have HR := hide hR
  clear hR
  go_enter Tryz.func40, Tryz.ntmps40
  go_wp2_with fail
  refine (unhide HR).mono ?_
  rintro e w1 ⟨⟨h, d0, d1, d2, n, rfl⟩, hb1⟩
  have HB := hide hb1
  clear hb1 HR
  unfold ownRepV
  go_wp2
  go_ret3
  exact ⟨rfl, (unhide HB).alloc (unhide HB).size _⟩

set_option maxHeartbeats 1000000 in
set_option maxRecDepth 100000 in
theorem ownver_no (b1 b2 n1 c1 n2 c2 : Nat) (w : World) (h d0 d1 d2 n : Int) (hR : Calls Tryz.prog 58 #[.slice (some ⟨b1, 0, none⟩) n1 c1] w fun e w' => e = .returned (.tuple #[ownRepV h d0 d1 d2 n, .bool true]) ∧ Below w.heap.size w w')
    (hP : ∀ w', Below w.heap.size w w' → Calls Tryz.prog 59 #[.slice (some ⟨b2, 0, none⟩) n2 c2, .int .i64 h] w' fun e w'' => (∃ (pl : Int) (nm : ByteArray) (bal salt : Int) (a : Option Addr) (k c : Nat), e = .returned (.tuple #[proofV pl nm bal salt a k c, .bool false])) ∧ Below w'.heap.size w' w'') :
    Calls Tryz.prog 40 #[.slice (some ⟨b1, 0, none⟩) n1 c1, .slice (some ⟨b2, 0, none⟩) n2 c2] w fun e w' => e = .returned (verV [] 0 9) ∧ Below w.heap.size w w' := by
  have HR := hide hR
  have HP := fun w' hb => hide (hP w' hb)
  clear hR hP
  unfold ownRepV at *
  go_enter Tryz.func40, Tryz.ntmps40
  go_wp2_with fail
  refine (unhide HR).mono ?_
  rintro e w1 ⟨rfl, hb1⟩
  have hA := hb1.alloc hb1.size (Obj.cells #[Value.int IntKind.i64 h, Value.int IntKind.u8 d0, Value.int IntKind.u8 d1, Value.int IntKind.u8 d2, Value.int IntKind.u64 n] 108)
  have HA := hide hA
  have hz := hb1.size
  clear hb1 HR hA
  go_wp2_with fail
  refine (unhide (HP _ (unhide HA))).mono ?_
  rintro e w2 ⟨⟨pl, nm, bal, salt, a, k, c, rfl⟩, hb2⟩
  have hB := (unhide HA).trans (hb2.mono (by simp; omega))
  have HB := hide (hB.alloc hB.size (Obj.cells #[Value.int IntKind.i64 pl, Value.string nm, Value.int IntKind.u64 bal, Value.int IntKind.u64 salt, Value.slice a k c] 118))
  clear hb2 hB HA HP
  unfold proofV
  go_wp2
  go_ret3
  exact ⟨rfl, unhide HB⟩

set_option maxHeartbeats 1000000 in
set_option maxRecDepth 100000 in
theorem ownver_acc (b1 b2 n1 c1 n2 c2 : Nat) (w : World) (h d0 d1 d2 n : Int) (pl bal salt : Int) (nm : ByteArray) (k c : Nat) (bb : Bool) (hR : Calls Tryz.prog 58 #[.slice (some ⟨b1, 0, none⟩) n1 c1] w fun e w' => e = .returned (.tuple #[ownRepV h d0 d1 d2 n, .bool true]) ∧ Below w.heap.size w w')
    (hP : ∀ w', Below w.heap.size w w' → Calls Tryz.prog 59 #[.slice (some ⟨b2, 0, none⟩) n2 c2, .int .i64 h] w' fun e w'' => (∃ a : Option Addr, e = .returned (.tuple #[proofV pl nm bal salt a k c, .bool true]) ∧
      ∀ w3, Below w''.heap.size w'' w3 → Calls Tryz.prog 60 #[ownRepV h d0 d1 d2 n, proofV pl nm bal salt a k c] w3 fun e w4 => e = .returned (.bool bb) ∧ Below w3.heap.size w3 w4) ∧ Below w'.heap.size w' w'') :
    Calls Tryz.prog 40 #[.slice (some ⟨b1, 0, none⟩) n1 c1, .slice (some ⟨b2, 0, none⟩) n2 c2] w fun e w' => e = .returned (if bb then .tuple #[.string nm, .int .u64 bal, .int .i64 0] else verV [] 0 9) ∧ Below w.heap.size w w' := by
  have HR := hide hR
  have HP := fun w' hb => hide (hP w' hb)
  clear hR hP
  unfold ownRepV proofV at *
  go_enter Tryz.func40, Tryz.ntmps40
  go_wp2_with fail
  refine (unhide HR).mono ?_
  rintro e w1 ⟨rfl, hb1⟩
  have hA := hb1.alloc hb1.size (Obj.cells #[Value.int IntKind.i64 h, Value.int IntKind.u8 d0, Value.int IntKind.u8 d1, Value.int IntKind.u8 d2, Value.int IntKind.u64 n] 108)
  have m1 := heap_alloc_new w1 (Obj.cells #[Value.int IntKind.i64 h, Value.int IntKind.u8 d0, Value.int IntKind.u8 d1, Value.int IntKind.u8 d2, Value.int IntKind.u64 n] 108)
  have HA := hide hA
  have hz := hb1.size
  have M1 := hide m1
  clear hb1 HR hA m1
  go_wp2_with fail
  refine (unhide (HP _ (unhide HA))).mono ?_
  rintro e w2 ⟨⟨a, rfl, hAcc⟩, hb2⟩
  have m2 := heap_next (o := Obj.cells #[Value.int IntKind.i64 pl, Value.string nm, Value.int IntKind.u64 bal, Value.int IntKind.u64 salt, Value.slice a k c] 118) ((hb2.block _ (Array.getElem?_eq_some_iff.1 (unhide M1)).1).trans (unhide M1))
  have m3 := heap_alloc_new w2 (Obj.cells #[Value.int IntKind.i64 pl, Value.string nm, Value.int IntKind.u64 bal, Value.int IntKind.u64 salt, Value.slice a k c] 118)
  have hB := (unhide HA).trans (hb2.mono (by simp; omega))
  have hB3 := hB.alloc hB.size (Obj.cells #[Value.int IntKind.i64 pl, Value.string nm, Value.int IntKind.u64 bal, Value.int IntKind.u64 salt, Value.slice a k c] 118)
  have HC := hide (hAcc _ ((Below.refl w2.heap.size w2).alloc (Nat.le_refl _) (Obj.cells #[Value.int IntKind.i64 pl, Value.string nm, Value.int IntKind.u64 bal, Value.int IntKind.u64 salt, Value.slice a k c] 118)))
  have HB3 := hide hB3
  have hz3 := hB3.size
  clear hAcc hb2 hB HA HP hB3 M1
  go_upto_region 5 with fail
  generalize (w2.alloc (Obj.cells #[Value.int IntKind.i64 pl, Value.string nm, Value.int IntKind.u64 bal, Value.int IntKind.u64 salt, Value.slice a k c] 118)) = W3 at *
  generalize w1.heap.size = A at *
  generalize w2.heap.size = B at *
  have a0 : W3.cell? ⟨A, 0, none⟩ = some (.int .i64 h) := block_cell m2
  have a1 : W3.cell? ⟨A, 1, none⟩ = some (.int .u8 d0) := block_cell m2
  have a2 : W3.cell? ⟨A, 2, none⟩ = some (.int .u8 d1) := block_cell m2
  have a3 : W3.cell? ⟨A, 3, none⟩ = some (.int .u8 d2) := block_cell m2
  have a4 : W3.cell? ⟨A, 4, none⟩ = some (.int .u64 n) := block_cell m2
  have e0 : W3.cell? ⟨B, 0, none⟩ = some (.int .i64 pl) := block_cell m3
  have e1 : W3.cell? ⟨B, 1, none⟩ = some (.string nm) := block_cell m3
  have e2 : W3.cell? ⟨B, 2, none⟩ = some (.int .u64 bal) := block_cell m3
  have e3 : W3.cell? ⟨B, 3, none⟩ = some (.int .u64 salt) := block_cell m3
  have e4 : W3.cell? ⟨B, 4, none⟩ = some (.slice a k c) := block_cell m3
  have M3 := hide m3
  clear m2 m3
  go_wp2_with fail
  refine (unhide HC).mono ?_
  rintro e w4 ⟨rfl, hb4⟩
  have m4 := (hb4.block _ (Array.getElem?_eq_some_iff.1 (unhide M3)).1).trans (unhide M3)
  have HB4 := hide ((unhide HB3).trans (hb4.mono hz3))
  clear a0 a1 a2 a3 a4 e0 e1 e2 e3 e4 hb4 HC M3 HB3
  cases bb with
  | false =>
    clear m4
    go_wp2
    go_ret3
    exact ⟨rfl, unhide HB4⟩
  | true =>
    have e1 : w4.cell? ⟨B, 1, none⟩ = some (.string nm) := block_cell m4
    have e2 : w4.cell? ⟨B, 2, none⟩ = some (.int .u64 bal) := block_cell m4
    clear m4
    go_wp2_with fail
    go_quiet (fail)
    go_wp2
    go_ret3
    refine ⟨rfl, below_drewN (unhide HB4) _⟩

theorem ownver_any (r s : ByteArray) (b1 b2 : Nat) (w : World) (hr : r.size ≤ 140737488351232) (hs : s.size ≤ 140737488351232) (h1 : b1 < w.heap.size) (h2 : b2 < w.heap.size) (hB1 : BytesAt w b1 0 r.data.toList) (hB2 : BytesAt w b2 0 s.data.toList) :
    Calls Tryz.prog 40 #[.slice (some ⟨b1, 0, none⟩) r.size (r.size + 8), .slice (some ⟨b2, 0, none⟩) s.size (s.size + 8)] w fun e w' => e = .returned (verV (verAns r.data.toList s.data.toList).1 (verAns r.data.toList s.data.toList).2.1 (verAns r.data.toList s.data.toList).2.2) ∧ Below w.heap.size w w' := by
  have lr : r.data.toList.length = r.size := by simp
  have ls : s.data.toList.length = s.size := by simp
  rw [← lr, ← ls]
  rw [← lr] at hr
  rw [← ls] at hs
  generalize r.data.toList = R at *
  generalize s.data.toList = S at *
  by_cases hh : repHead R
  · have hRR := rdrep_good b1 (R.length + 8) R w h1 hB1 hh (by have := hh.1; omega) (by omega)
    rw [← hh.1] at hRR
    by_cases hle : (repRoot R).2 ≤ maxS
    · have hok : repOk R := ⟨hh, hle⟩
      have hl : leMax (repRoot R).2 = true := decide_eq_true hle
      rw [hl] at hRR
      have hPP := fun w' (hb : Below w.heap.size w w') => rdpr_all b2 (S.length + 8) (repH R) S w' (by omega) (by omega) hh.2 (by have := hb.size; omega) (fun j hj => (hb.cell (p := ⟨b2, 0 + j, none⟩) h2).trans (hB2 j hj))
      by_cases hp : prfOk (repH R) S
      · have hv := ownver_acc b1 b2 R.length (R.length + 8) S.length (S.length + 8) w _ _ _ _ _ (bAt S 1 : Int) (accBal S) (accSalt S) ⟨(accName S).toArray⟩ (repH R) (repH R) (accTexts (repH R) (repRoot R) S).isSome hRR (fun w' hb => (hPP w' hb).mono fun e w'' ⟨hb', hc⟩ => by
          rcases hc with ⟨hn, _⟩ | ⟨_, g, he, hg, hsd⟩
          · exact absurd hp hn
          · exact ⟨⟨_, he, fun w3 hb3 => accepts_any (repH R) (repRoot R) S g w3 hh.2 hp.1 hp.2.1 hp.2.2 (by have := hb3.size; omega) (hsd.below hb3 hg)⟩, hb'⟩)
        have hao : accOk (repH R) (repRoot R) S = accTexts (repH R) (repRoot R) S := by unfold accOk; rw [if_neg (Int.not_lt.2 hp.2.1)]
        cases hb : (accTexts (repH R) (repRoot R) S).isSome with
        | true =>
          rw [hb] at hv
          rw [verAns_yes ⟨hok, hp.1, by rw [hao]; exact hb⟩]
          exact hv
        | false =>
          rw [hb] at hv
          rw [verAns_no hok (fun h => by have := h.2.2; rw [hao, hb] at this; cases this)]
          exact hv
      · rw [verAns_no hok (notOk_of hp)]
        refine ownver_no b1 b2 R.length (R.length + 8) S.length (S.length + 8) w _ _ _ _ _ hRR (fun w' hb => (hPP w' hb).mono fun e w'' ⟨hb', hc⟩ => ?_)
        rcases hc with ⟨_, he⟩ | ⟨hy, _⟩
        · exact ⟨he, hb'⟩
        · exact absurd hy hp
    · have hl : leMax (repRoot R).2 = false := decide_eq_false hle
      rw [hl] at hRR
      rw [verAns_norep (fun h => hle h.2)]
      exact ownver_norep b1 b2 R.length (R.length + 8) S.length (S.length + 8) w (hRR.mono fun e w' ⟨he, hb⟩ => ⟨⟨_, _, _, _, _, he⟩, hb⟩)
  · rw [verAns_norep (fun h => hh h.1)]
    exact ownver_norep b1 b2 R.length (R.length + 8) S.length (S.length + 8) w ((rdrep_bad b1 R.length (R.length + 8) R w rfl h1 hB1 hh).mono fun e w' ⟨he, hb⟩ => ⟨⟨_, _, _, _, _, he⟩, hb⟩)

end Go.Proofs.YtlpljkolpjgpnaaGreat
