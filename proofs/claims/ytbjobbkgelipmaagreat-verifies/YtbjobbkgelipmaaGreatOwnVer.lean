/-
  The walk of tithe's Verify.
-/
import Derived.Test.YtbjobbkgelipmaaGreatRdAcc
import Derived.Test.YtbjobbkgelipmaaGreatRdRepG
import Derived.BigQuiet
namespace Go.Proofs.YtbjobbkgelipmaaGreat
open Go.RowKit

set_option maxHeartbeats 1000000 in
set_option maxRecDepth 100000 in
theorem ownver_norep (v1 v2 : Value) (w : World) (hR : Calls Tryz.prog 60 #[v1] w fun e w' => (∃ h d0 d1 d2 n : Int, e = .returned (.tuple #[ownRepV h d0 d1 d2 n, .bool false])) ∧ Below w.heap.size w w') :
    Calls Tryz.prog 42 #[v1, v2] w fun e w' => e = .returned (verV [] 0 8) ∧ Below w.heap.size w w' := by
  have HR := hide hR
  clear hR
  go_enter Tryz.func42, Tryz.ntmps42
  go_wp2_with fail
  refine (unhide HR).mono ?_
  rintro e w1 ⟨⟨h, d0, d1, d2, n, rfl⟩, hb1⟩
  have HB := hide hb1
  clear hb1 HR
  unfold ownRepV
  go_wp2
  go_ret3
  exact ⟨rfl, (unhide HB).alloc (unhide HB).size _⟩

set_option maxHeartbeats 1000000 in
set_option maxRecDepth 100000 in
theorem ownver_no (v1 v2 : Value) (w : World) (h d0 d1 d2 n : Int) (hR : Calls Tryz.prog 60 #[v1] w fun e w' => e = .returned (.tuple #[ownRepV h d0 d1 d2 n, .bool true]) ∧ Below w.heap.size w w')
    (hP : ∀ w', Below w.heap.size w w' → Calls Tryz.prog 61 #[ownRepV h d0 d1 d2 n, v2] w' fun e w'' => e = .returned (.tuple #[proofZ, .bool false]) ∧ Below w'.heap.size w' w'') :
    Calls Tryz.prog 42 #[v1, v2] w fun e w' => e = .returned (verV [] 0 9) ∧ Below w.heap.size w w' := by
  have HR := hide hR
  have HP := fun w' hb => hide (hP w' hb)
  clear hR hP
  unfold ownRepV at *
  go_enter Tryz.func42, Tryz.ntmps42
  go_wp2_with fail
  refine (unhide HR).mono ?_
  rintro e w1 ⟨rfl, hb1⟩
  have hA := hb1.alloc hb1.size (Obj.cells #[Value.int IntKind.i64 h, Value.int IntKind.u8 d0, Value.int IntKind.u8 d1, Value.int IntKind.u8 d2, Value.int IntKind.u64 n] 108)
  have HA := hide hA
  have hz := hb1.size
  clear hb1 HR hA
  go_wp2_with fail
  refine (unhide (HP _ (unhide HA))).mono ?_
  rintro e w2 ⟨rfl, hb2⟩
  have hB := (unhide HA).trans (hb2.mono (by simp; omega))
  have HB := hide (hB.alloc hB.size (Obj.cells #[Value.int IntKind.i64 0, Value.string ⟨#[]⟩, Value.int IntKind.u64 0, Value.int IntKind.u64 0, Value.slice none 0 0] 118))
  clear hb2 hB HA HP
  unfold proofZ
  go_wp2
  go_ret3
  exact ⟨rfl, unhide HB⟩

set_option maxHeartbeats 1000000 in
set_option maxRecDepth 100000 in
theorem ownver_yes (v1 v2 : Value) (w : World) (h d0 d1 d2 n : Int) (pl bal salt : Int) (nm : ByteArray) (k c : Nat) (hR : Calls Tryz.prog 60 #[v1] w fun e w' => e = .returned (.tuple #[ownRepV h d0 d1 d2 n, .bool true]) ∧ Below w.heap.size w w')
    (hP : ∀ w', Below w.heap.size w w' → Calls Tryz.prog 61 #[ownRepV h d0 d1 d2 n, v2] w' fun e w'' => (∃ a : Option Addr, e = .returned (.tuple #[proofV pl nm bal salt a k c, .bool true])) ∧ Below w'.heap.size w' w'') :
    Calls Tryz.prog 42 #[v1, v2] w fun e w' => e = .returned (.tuple #[.string nm, .int .u64 bal, .int .i64 0]) ∧ Below w.heap.size w w' := by
  have HR := hide hR
  have HP := fun w' hb => hide (hP w' hb)
  clear hR hP
  unfold ownRepV proofV at *
  go_enter Tryz.func42, Tryz.ntmps42
  go_wp2_with fail
  refine (unhide HR).mono ?_
  rintro e w1 ⟨rfl, hb1⟩
  have hA := hb1.alloc hb1.size (Obj.cells #[Value.int IntKind.i64 h, Value.int IntKind.u8 d0, Value.int IntKind.u8 d1, Value.int IntKind.u8 d2, Value.int IntKind.u64 n] 108)
  have HA := hide hA
  have hz := hb1.size
  clear hb1 HR hA
  go_wp2_with fail
  refine (unhide (HP _ (unhide HA))).mono ?_
  rintro e w2 ⟨⟨a, rfl⟩, hb2⟩
  have m3 := heap_alloc_new w2 (Obj.cells #[Value.int IntKind.i64 pl, Value.string nm, Value.int IntKind.u64 bal, Value.int IntKind.u64 salt, Value.slice a k c] 118)
  have hB := (unhide HA).trans (hb2.mono (by simp; omega))
  have HB3 := hide (hB.alloc hB.size (Obj.cells #[Value.int IntKind.i64 pl, Value.string nm, Value.int IntKind.u64 bal, Value.int IntKind.u64 salt, Value.slice a k c] 118))
  clear hb2 hB HA HP
  go_upto_region 5 with fail
  generalize (w2.alloc (Obj.cells #[Value.int IntKind.i64 pl, Value.string nm, Value.int IntKind.u64 bal, Value.int IntKind.u64 salt, Value.slice a k c] 118)) = W3 at *
  generalize w2.heap.size = B at *
  have e1 : W3.cell? ⟨B, 1, none⟩ = some (.string nm) := block_cell m3
  have e2 : W3.cell? ⟨B, 2, none⟩ = some (.int .u64 bal) := block_cell m3
  clear m3
  go_wp2_with fail
  go_quiet (fail)
  go_wp2
  go_ret3
  refine ⟨rfl, below_drewN (unhide HB3) _⟩

/-- What readAccepted answers by a report: of a proof that is none, or not of this report. -/
theorem rdacc_bad {R S : List UInt8} (v : Value) (w : World) (hok : repOk R) (hno : ¬ verOk R S) (hv : ∀ w', Below w.heap.size w w' → Calls Tryz.prog 77 #[v, .int .i64 (repH R : Int)] w' fun e w'' => Below w'.heap.size w' w'' ∧
      ((¬ prfOk (repH R) S ∧ ∃ (pl : Int) (nm : ByteArray) (bal salt : Int) (a : Option Addr) (k c : Nat), e = .returned (.tuple #[proofV pl nm bal salt a k c, .bool false])) ∨
       (prfOk (repH R) S ∧ ∃ g, e = .returned (.tuple #[proofV (bAt S 1 : Int) ⟨(accName S).toArray⟩ (accBal S) (accSalt S) (some ⟨g, 0, none⟩) (repH R) (repH R), .bool true]) ∧ g < w''.heap.size ∧ SidesAt w'' g (sidesOf (S.drop (19 + bAt S 2)) (repH R))))) :
    Calls Tryz.prog 61 #[ownRepV (repH R : Int) ((repRoot R).1.1.toNat : Int) ((repRoot R).1.2.1.toNat : Int) ((repRoot R).1.2.2.toNat : Int) (repRoot R).2, v] w fun e w' => e = .returned (.tuple #[proofZ, .bool false]) ∧ Below w.heap.size w w' := by
  by_cases hp : prfOk (repH R) S
  · have hao : accOk (repH R) (repRoot R) S = accTexts (repH R) (repRoot R) S := by unfold accOk; rw [if_neg (Int.not_lt.2 hp.2.1)]
    have hb : (accTexts (repH R) (repRoot R) S).isSome = false := by
      cases hb : (accTexts (repH R) (repRoot R) S).isSome with
      | false => rfl
      | true => exact absurd ⟨hok, hp.1, by rw [hao]; exact hb⟩ hno
    have := rdacc_acc v w (repH R : Int) ((repRoot R).1.1.toNat : Int) ((repRoot R).1.2.1.toNat : Int) ((repRoot R).1.2.2.toNat : Int) (repRoot R).2 (bAt S 1 : Int) (accBal S) (accSalt S) ⟨(accName S).toArray⟩ (repH R) (repH R) (accTexts (repH R) (repRoot R) S).isSome (fun _ _ => True) (fun _ _ _ _ _ => trivial) (fun w' hb' => (hv w' hb').mono fun e w'' ⟨hb'', hc⟩ => by
      rcases hc with ⟨hn, _⟩ | ⟨_, g, he, hg, hsd⟩
      · exact absurd hp hn
      · exact ⟨⟨_, he, trivial, fun w3 hb3 => accepts_any (repH R) (repRoot R) S g w3 hok.1.2 hp.1 hp.2.1 hp.2.2 (by have := hb3.size; omega) (hsd.below hb3 hg)⟩, hb''⟩)
    rw [hb] at this
    refine this.mono fun e w' ⟨hc, hb'⟩ => ?_
    rcases hc with ⟨_, he⟩ | ⟨hf, _⟩
    · exact ⟨he, hb'⟩
    · cases hf
  · refine rdacc_no v w _ _ _ _ _ (fun w' hb' => (hv w' hb').mono fun e w'' ⟨hb'', hc⟩ => ?_)
    rcases hc with ⟨_, he⟩ | ⟨hy, _⟩
    · exact ⟨he, hb''⟩
    · exact absurd hy hp

/-- What readAccepted answers by a report: of a proof that it accepts; where its sides lie. -/
theorem rdacc_yes {R S : List UInt8} (v : Value) (w : World) (hy : verOk R S) (hv : ∀ w', Below w.heap.size w w' → Calls Tryz.prog 77 #[v, .int .i64 (repH R : Int)] w' fun e w'' => Below w'.heap.size w' w'' ∧
      ((¬ prfOk (repH R) S ∧ ∃ (pl : Int) (nm : ByteArray) (bal salt : Int) (a : Option Addr) (k c : Nat), e = .returned (.tuple #[proofV pl nm bal salt a k c, .bool false])) ∨
       (prfOk (repH R) S ∧ ∃ g, e = .returned (.tuple #[proofV (bAt S 1 : Int) ⟨(accName S).toArray⟩ (accBal S) (accSalt S) (some ⟨g, 0, none⟩) (repH R) (repH R), .bool true]) ∧ g < w''.heap.size ∧ SidesAt w'' g (sidesOf (S.drop (19 + bAt S 2)) (repH R))))) :
    Calls Tryz.prog 61 #[ownRepV (repH R : Int) ((repRoot R).1.1.toNat : Int) ((repRoot R).1.2.1.toNat : Int) ((repRoot R).1.2.2.toNat : Int) (repRoot R).2, v] w fun e w' =>
      (∃ g, e = .returned (.tuple #[proofV (bAt S 1 : Int) ⟨(accName S).toArray⟩ (accBal S) (accSalt S) (some ⟨g, 0, none⟩) (repH R) (repH R), .bool true]) ∧ g < w'.heap.size ∧ SidesAt w' g (sidesOf (S.drop (19 + bAt S 2)) (repH R))) ∧ Below w.heap.size w w' := by
  have hp : prfOk (repH R) S := by
    by_cases hp : prfOk (repH R) S
    · exact hp
    · exact absurd hy (notOk_of hp)
  have hao : accOk (repH R) (repRoot R) S = accTexts (repH R) (repRoot R) S := by unfold accOk; rw [if_neg (Int.not_lt.2 hp.2.1)]
  have hb : (accTexts (repH R) (repRoot R) S).isSome = true := by rw [← hao]; exact hy.2.2
  have := rdacc_acc v w (repH R : Int) ((repRoot R).1.1.toNat : Int) ((repRoot R).1.2.1.toNat : Int) ((repRoot R).1.2.2.toNat : Int) (repRoot R).2 (bAt S 1 : Int) (accBal S) (accSalt S) ⟨(accName S).toArray⟩ (repH R) (repH R) (accTexts (repH R) (repRoot R) S).isSome
    (fun a W => ∃ g, a = some ⟨g, 0, none⟩ ∧ g < W.heap.size ∧ SidesAt W g (sidesOf (S.drop (19 + bAt S 2)) (repH R))) (fun a W W' ⟨g, e1, e2, e4⟩ hb => ⟨g, e1, by have := hb.size; omega, e4.below hb e2⟩) (fun w' hb' => (hv w' hb').mono fun e w'' ⟨hb'', hc⟩ => by
    rcases hc with ⟨hn, _⟩ | ⟨_, g, he, hg, hsd⟩
    · exact absurd hp hn
    · exact ⟨⟨_, he, ⟨g, rfl, hg, hsd⟩, fun w3 hb3 => accepts_any (repH R) (repRoot R) S g w3 hy.1.1.2 hp.1 hp.2.1 hp.2.2 (by have := hb3.size; omega) (hsd.below hb3 hg)⟩, hb''⟩)
  rw [hb] at this
  refine this.mono fun e w' ⟨hc, hb'⟩ => ?_
  rcases hc with ⟨hf, _⟩ | ⟨_, a, W, he, ⟨g, rfl, hg, hs⟩, hc0, hsz, hW⟩
  · cases hf
  · refine ⟨⟨g, he, by omega, fun k hk => ?_⟩, hb'⟩
    have hne : g ≠ w.heap.size + 1 := fun e => by
      subst e
      have h0 := (hs 0 (by omega)).1
      rw [show w.heap.size + 1 = w.heap.size + 1 from rfl, hc0] at h0
      simp at h0
    have hk' := hs k hk
    have ec : ∀ j, w'.cell? ⟨g, j, none⟩ = W.cell? ⟨g, j, none⟩ := fun j => World.cell?_of_block (w := W) (hW g hne)
    rw [ec, ec, ec, ec]
    exact hk'

/-- What readReport answers. -/
def RepSay (R : List UInt8) (e : Ending) : Prop := (repOk R ∧ e = .returned (.tuple #[ownRepV (repH R : Int) ((repRoot R).1.1.toNat : Int) ((repRoot R).1.2.1.toNat : Int) ((repRoot R).1.2.2.toNat : Int) (repRoot R).2, .bool true])) ∨ (¬ repOk R ∧ ∃ h d0 d1 d2 n : Int, e = .returned (.tuple #[ownRepV h d0 d1 d2 n, .bool false]))
theorem RepSay.yes {R : List UInt8} {e : Ending} (h : RepSay R e) (hok : repOk R) : e = .returned (.tuple #[ownRepV (repH R : Int) ((repRoot R).1.1.toNat : Int) ((repRoot R).1.2.1.toNat : Int) ((repRoot R).1.2.2.toNat : Int) (repRoot R).2, .bool true]) := by
  rcases h with ⟨_, h⟩ | ⟨hn, _⟩
  · exact h
  · exact absurd hok hn
theorem RepSay.no {R : List UInt8} {e : Ending} (h : RepSay R e) (hok : ¬ repOk R) : ∃ h d0 d1 d2 n : Int, e = .returned (.tuple #[ownRepV h d0 d1 d2 n, .bool false]) := by
  rcases h with ⟨hy, _⟩ | ⟨_, h⟩
  · exact absurd hy hok
  · exact h

/-- Verify, given what readReport and readProof answer. -/
theorem ownver_of (R S : List UInt8) (v1 v2 : Value) (w : World)
    (hR : Calls Tryz.prog 60 #[v1] w fun e w' => RepSay R e ∧ Below w.heap.size w w')
    (hv : repOk R → ∀ w', Below w.heap.size w w' → Calls Tryz.prog 77 #[v2, .int .i64 (repH R : Int)] w' fun e w'' => Below w'.heap.size w' w'' ∧
      ((¬ prfOk (repH R) S ∧ ∃ (pl : Int) (nm : ByteArray) (bal salt : Int) (a : Option Addr) (k c : Nat), e = .returned (.tuple #[proofV pl nm bal salt a k c, .bool false])) ∨
       (prfOk (repH R) S ∧ ∃ g, e = .returned (.tuple #[proofV (bAt S 1 : Int) ⟨(accName S).toArray⟩ (accBal S) (accSalt S) (some ⟨g, 0, none⟩) (repH R) (repH R), .bool true]) ∧ g < w''.heap.size ∧ SidesAt w'' g (sidesOf (S.drop (19 + bAt S 2)) (repH R))))) :
    Calls Tryz.prog 42 #[v1, v2] w fun e w' => e = .returned (verV (verAns R S).1 (verAns R S).2.1 (verAns R S).2.2) ∧ Below w.heap.size w w' := by
  by_cases hok : repOk R
  · replace hR := hR.mono fun e w' (h : RepSay R e ∧ _) => And.intro (h.1.yes hok) h.2
    by_cases hy : verOk R S
    · rw [verAns_yes hy]
      exact ownver_yes v1 v2 w _ _ _ _ _ (bAt S 1 : Int) (accBal S) (accSalt S) ⟨(accName S).toArray⟩ (repH R) (repH R) hR (fun w' hb => (rdacc_yes v2 w' hy fun w'' hb' => hv hok w'' (hb.trans (hb'.mono hb.size))).mono fun e w'' ⟨⟨g, he, _⟩, hb''⟩ => ⟨⟨_, he⟩, hb''⟩)
    · rw [verAns_no hok hy]
      exact ownver_no v1 v2 w _ _ _ _ _ hR (fun w' hb => rdacc_bad v2 w' hok hy fun w'' hb' => hv hok w'' (hb.trans (hb'.mono hb.size)))
  · replace hR := hR.mono fun e w' (h : RepSay R e ∧ _) => And.intro (h.1.no hok) h.2
    rw [verAns_norep hok]
    exact ownver_norep v1 v2 w hR

/-- readReport, in all cases. -/
theorem rdrep_all (R : List UInt8) (b c : Nat) (w : World) (hc : R.length ≤ c) (hm : c ≤ 9223372036854775807) (hb : b < w.heap.size) (hB : BytesAt w b 0 R) :
    Calls Tryz.prog 60 #[.slice (some ⟨b, 0, none⟩) R.length c] w fun e w' => RepSay R e ∧ Below w.heap.size w w' := by
  by_cases hh : repHead R
  · have hRR := rdrep_good b c R w hb hB hh (by have := hh.1; omega) (by omega)
    rw [← hh.1] at hRR
    by_cases hle : (repRoot R).2 ≤ maxS
    · rw [show leMax (repRoot R).2 = true from decide_eq_true hle] at hRR
      exact hRR.mono fun e w' ⟨he, hb⟩ => ⟨.inl ⟨⟨hh, hle⟩, he⟩, hb⟩
    · rw [show leMax (repRoot R).2 = false from decide_eq_false hle] at hRR
      exact hRR.mono fun e w' ⟨he, hb⟩ => ⟨.inr ⟨fun h => hle h.2, _, _, _, _, _, he⟩, hb⟩
  · exact (rdrep_bad b R.length c R w rfl hb hB hh).mono fun e w' ⟨he, hb⟩ => ⟨.inr ⟨fun h => hh h.1, _, _, _, _, _, he⟩, hb⟩

/-- Verify, whatever room lies behind. -/
theorem ownver_caps (R S : List UInt8) (b1 b2 c1 c2 : Nat) (w : World) (hr : R.length ≤ c1) (hr2 : c1 ≤ 9223372036854775807) (hs : S.length ≤ c2) (hs0 : repH R = 0 → S.length < c2) (hs2 : c2 ≤ 9223372036854775807) (h1 : b1 < w.heap.size) (h2 : b2 < w.heap.size) (hB1 : BytesAt w b1 0 R) (hB2 : BytesAt w b2 0 S) :
    Calls Tryz.prog 42 #[.slice (some ⟨b1, 0, none⟩) R.length c1, .slice (some ⟨b2, 0, none⟩) S.length c2] w fun e w' => e = .returned (verV (verAns R S).1 (verAns R S).2.1 (verAns R S).2.2) ∧ Below w.heap.size w w' :=
  ownver_of R S _ _ w (rdrep_all R b1 c1 w hr hr2 h1 hB1) (fun hok w' hb => rdpr_all b2 c2 (repH R) S w' hs hs0 hs2 hok.1.2 (by have := hb.size; omega) (fun j hj => (hb.cell (p := ⟨b2, 0 + j, none⟩) h2).trans (hB2 j hj)))

theorem ownver_any (r s : ByteArray) (b1 b2 : Nat) (w : World) (hr : r.size ≤ 140737488351232) (hs : s.size ≤ 140737488351232) (h1 : b1 < w.heap.size) (h2 : b2 < w.heap.size) (hB1 : BytesAt w b1 0 r.data.toList) (hB2 : BytesAt w b2 0 s.data.toList) :
    Calls Tryz.prog 42 #[.slice (some ⟨b1, 0, none⟩) r.size (r.size + 8), .slice (some ⟨b2, 0, none⟩) s.size (s.size + 8)] w fun e w' => e = .returned (verV (verAns r.data.toList s.data.toList).1 (verAns r.data.toList s.data.toList).2.1 (verAns r.data.toList s.data.toList).2.2) ∧ Below w.heap.size w w' := by
  have lr : r.data.toList.length = r.size := by simp
  have ls : s.data.toList.length = s.size := by simp
  have h := ownver_caps r.data.toList s.data.toList b1 b2 (r.size + 8) (s.size + 8) w (by omega) (by omega) (by omega) (fun _ => by omega) (by omega) h1 h2 hB1 hB2
  rw [lr, ls] at h
  exact h

end Go.Proofs.YtbjobbkgelipmaaGreat
