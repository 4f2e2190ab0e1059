/-
  The walk of tithe's Verify.
-/
import Derived.BigQuiet
import Derived.Lib.SliceRun
import Derived.Deep.RegionHeld3
import Derived.Test.YtbjobbkgelipmaaGreatXtae
import Derived.Test.YtbjobbkgelipmaaGreatXtac
import Derived.Test.YtbjobbkgelipmaaGreatBkac
import Derived.Test.YtbjobbkgelipmaaGreatBkae
import Derived.Test.YtbjobbkgelipmaaGreatBkai
import Derived.Test.YtbjobbkgelipmaaGreatBkap
namespace Go.Proofs.YtbjobbkgelipmaaGreat
open Go.RowKit

set_option maxHeartbeats 1000000 in
set_option maxRecDepth 100000 in
theorem ownver_norep (v1 v2 : Value) (w : World) (hR : Calls Tryz.prog 60 #[v1] w fun e w' => (∃ h d0 d1 d2 n : Int, e = .returned (.tuple #[ownRepV h d0 d1 d2 n, .bool false])) ∧ Below w.heap.size w w') :
    Calls Tryz.prog 42 #[v1, v2] w fun e w' => e = .returned (verV [] 0 8) ∧ Below w.heap.size w w' := by
  have HR := hide hR
  clear hR
  go_enter Tryz.func42, Tryz.ntmps42
  go_wp2_with fail
  refine (unhide HR).mono ?_
  rintro e w1 ⟨⟨h, d0, d1, d2, n, rfl⟩, hb1⟩
  have HB := hide hb1
  clear hb1 HR
  unfold ownRepV
  go_wp2
  go_ret3
  exact ⟨rfl, (unhide HB).alloc (unhide HB).size _⟩

set_option maxHeartbeats 1000000 in
set_option maxRecDepth 100000 in
theorem ownver_no (v1 v2 : Value) (w : World) (h d0 d1 d2 n : Int) (hR : Calls Tryz.prog 60 #[v1] w fun e w' => e = .returned (.tuple #[ownRepV h d0 d1 d2 n, .bool true]) ∧ Below w.heap.size w w')
    (hP : ∀ w', Below w.heap.size w w' → Calls Tryz.prog 61 #[ownRepV h d0 d1 d2 n, v2] w' fun e w'' => e = .returned (.tuple #[proofZ, .bool false]) ∧ Below w'.heap.size w' w'') :
    Calls Tryz.prog 42 #[v1, v2] w fun e w' => e = .returned (verV [] 0 9) ∧ Below w.heap.size w w' := by
  have HR := hide hR
  have HP := fun w' hb => hide (hP w' hb)
  clear hR hP
  unfold ownRepV at *
  go_enter Tryz.func42, Tryz.ntmps42
  go_wp2_with fail
  refine (unhide HR).mono ?_
  rintro e w1 ⟨rfl, hb1⟩
  have hA := hb1.alloc hb1.size (Obj.cells #[Value.int IntKind.i64 h, Value.int IntKind.u8 d0, Value.int IntKind.u8 d1, Value.int IntKind.u8 d2, Value.int IntKind.u64 n] 108)
  have HA := hide hA
  have hz := hb1.size
  clear hb1 HR hA
  go_wp2_with fail
  refine (unhide (HP _ (unhide HA))).mono ?_
  rintro e w2 ⟨rfl, hb2⟩
  have hB := (unhide HA).trans (hb2.mono (by simp; omega))
  have HB := hide (hB.alloc hB.size (Obj.cells #[Value.int IntKind.i64 0, Value.string ⟨#[]⟩, Value.int IntKind.u64 0, Value.int IntKind.u64 0, Value.slice none 0 0] 118))
  clear hb2 hB HA HP
  unfold proofZ
  go_wp2
  go_ret3
  exact ⟨rfl, unhide HB⟩

set_option maxHeartbeats 1000000 in
set_option maxRecDepth 100000 in
theorem ownver_yes (v1 v2 : Value) (w : World) (h d0 d1 d2 n : Int) (pl bal salt : Int) (nm : ByteArray) (k c : Nat) (hR : Calls Tryz.prog 60 #[v1] w fun e w' => e = .returned (.tuple #[ownRepV h d0 d1 d2 n, .bool true]) ∧ Below w.heap.size w w')
    (hP : ∀ w', Below w.heap.size w w' → Calls Tryz.prog 61 #[ownRepV h d0 d1 d2 n, v2] w' fun e w'' => (∃ a : Option Addr, e = .returned (.tuple #[proofV pl nm bal salt a k c, .bool true])) ∧ Below w'.heap.size w' w'') :
    Calls Tryz.prog 42 #[v1, v2] w fun e w' => e = .returned (.tuple #[.string nm, .int .u64 bal, .int .i64 0]) ∧ Below w.heap.size w w' := by
  have HR := hide hR
  have HP := fun w' hb => hide (hP w' hb)
  clear hR hP
  unfold ownRepV proofV at *
  go_enter Tryz.func42, Tryz.ntmps42
  go_wp2_with fail
  refine (unhide HR).mono ?_
  rintro e w1 ⟨rfl, hb1⟩
  have hA := hb1.alloc hb1.size (Obj.cells #[Value.int IntKind.i64 h, Value.int IntKind.u8 d0, Value.int IntKind.u8 d1, Value.int IntKind.u8 d2, Value.int IntKind.u64 n] 108)
  have HA := hide hA
  have hz := hb1.size
  clear hb1 HR hA
  go_wp2_with fail
  refine (unhide (HP _ (unhide HA))).mono ?_
  rintro e w2 ⟨⟨a, rfl⟩, hb2⟩
  have m3 := heap_alloc_new w2 (Obj.cells #[Value.int IntKind.i64 pl, Value.string nm, Value.int IntKind.u64 bal, Value.int IntKind.u64 salt, Value.slice a k c] 118)
  have hB := (unhide HA).trans (hb2.mono (by simp; omega))
  have HB3 := hide (hB.alloc hB.size (Obj.cells #[Value.int IntKind.i64 pl, Value.string nm, Value.int IntKind.u64 bal, Value.int IntKind.u64 salt, Value.slice a k c] 118))
  clear hb2 hB HA HP
  go_upto_region 5 with fail
  generalize (w2.alloc (Obj.cells #[Value.int IntKind.i64 pl, Value.string nm, Value.int IntKind.u64 bal, Value.int IntKind.u64 salt, Value.slice a k c] 118)) = W3 at *
  generalize w2.heap.size = B at *
  have e1 : W3.cell? ⟨B, 1, none⟩ = some (.string nm) := block_cell m3
  have e2 : W3.cell? ⟨B, 2, none⟩ = some (.int .u64 bal) := block_cell m3
  clear m3
  go_wp2_with fail
  go_quiet (fail)
  go_wp2
  go_ret3
  refine ⟨rfl, below_drewN (unhide HB3) _⟩

/-- What readAccepted answers by a report: of a proof that is none, or not of this report. -/
theorem rdacc_bad {R S : List UInt8} (v : Value) (w : World) (hok : repOk R) (hno : ¬ verOk R S) (hv : ∀ w', Below w.heap.size w w' → Calls Tryz.prog 77 #[v, .int .i64 (repH R : Int)] w' fun e w'' => Below w'.heap.size w' w'' ∧
      ((¬ prfOk (repH R) S ∧ ∃ (pl : Int) (nm : ByteArray) (bal salt : Int) (a : Option Addr) (k c : Nat), e = .returned (.tuple #[proofV pl nm bal salt a k c, .bool false])) ∨
       (prfOk (repH R) S ∧ ∃ g, e = .returned (.tuple #[proofV (bAt S 1 : Int) ⟨(accName S).toArray⟩ (accBal S) (accSalt S) (some ⟨g, 0, none⟩) (repH R) (repH R), .bool true]) ∧ g < w''.heap.size ∧ SidesAt w'' g (sidesOf (S.drop (19 + bAt S 2)) (repH R))))) :
    Calls Tryz.prog 61 #[ownRepV (repH R : Int) ((repRoot R).1.1.toNat : Int) ((repRoot R).1.2.1.toNat : Int) ((repRoot R).1.2.2.toNat : Int) (repRoot R).2, v] w fun e w' => e = .returned (.tuple #[proofZ, .bool false]) ∧ Below w.heap.size w w' := by
  by_cases hp : prfOk (repH R) S
  · have hao : accOk (repH R) (repRoot R) S = accTexts (repH R) (repRoot R) S := by unfold accOk; rw [if_neg (Int.not_lt.2 hp.2.1)]
    have hb : (accTexts (repH R) (repRoot R) S).isSome = false := by
      cases hb : (accTexts (repH R) (repRoot R) S).isSome with
      | false => rfl
      | true => exact absurd ⟨hok, hp.1, by rw [hao]; exact hb⟩ hno
    have := rdacc_acc v w (repH R : Int) ((repRoot R).1.1.toNat : Int) ((repRoot R).1.2.1.toNat : Int) ((repRoot R).1.2.2.toNat : Int) (repRoot R).2 (bAt S 1 : Int) (accBal S) (accSalt S) ⟨(accName S).toArray⟩ (repH R) (repH R) (accTexts (repH R) (repRoot R) S).isSome (fun _ _ => True) (fun _ _ _ _ _ => trivial) (fun w' hb' => (hv w' hb').mono fun e w'' ⟨hb'', hc⟩ => by
      rcases hc with ⟨hn, _⟩ | ⟨_, g, he, hg, hsd⟩
      · exact absurd hp hn
      · exact ⟨⟨_, he, trivial, fun w3 hb3 => accepts_any (repH R) (repRoot R) S g w3 hok.1.2 hp.1 hp.2.1 hp.2.2 (by have := hb3.size; omega) (hsd.below hb3 hg)⟩, hb''⟩)
    rw [hb] at this
    refine this.mono fun e w' ⟨hc, hb'⟩ => ?_
    rcases hc with ⟨_, he⟩ | ⟨hf, _⟩
    · exact ⟨he, hb'⟩
    · cases hf
  · refine rdacc_no v w _ _ _ _ _ (fun w' hb' => (hv w' hb').mono fun e w'' ⟨hb'', hc⟩ => ?_)
    rcases hc with ⟨_, he⟩ | ⟨hy, _⟩
    · exact ⟨he, hb''⟩
    · exact absurd hy hp

/-- What readAccepted answers by a report: of a proof that it accepts; where its sides lie. -/
theorem rdacc_yes {R S : List UInt8} (v : Value) (w : World) (hy : verOk R S) (hv : ∀ w', Below w.heap.size w w' → Calls Tryz.prog 77 #[v, .int .i64 (repH R : Int)] w' fun e w'' => Below w'.heap.size w' w'' ∧
      ((¬ prfOk (repH R) S ∧ ∃ (pl : Int) (nm : ByteArray) (bal salt : Int) (a : Option Addr) (k c : Nat), e = .returned (.tuple #[proofV pl nm bal salt a k c, .bool false])) ∨
       (prfOk (repH R) S ∧ ∃ g, e = .returned (.tuple #[proofV (bAt S 1 : Int) ⟨(accName S).toArray⟩ (accBal S) (accSalt S) (some ⟨g, 0, none⟩) (repH R) (repH R), .bool true]) ∧ g < w''.heap.size ∧ SidesAt w'' g (sidesOf (S.drop (19 + bAt S 2)) (repH R))))) :
    Calls Tryz.prog 61 #[ownRepV (repH R : Int) ((repRoot R).1.1.toNat : Int) ((repRoot R).1.2.1.toNat : Int) ((repRoot R).1.2.2.toNat : Int) (repRoot R).2, v] w fun e w' =>
      (∃ g, e = .returned (.tuple #[proofV (bAt S 1 : Int) ⟨(accName S).toArray⟩ (accBal S) (accSalt S) (some ⟨g, 0, none⟩) (repH R) (repH R), .bool true]) ∧ g < w'.heap.size ∧ SidesAt w' g (sidesOf (S.drop (19 + bAt S 2)) (repH R))) ∧ Below w.heap.size w w' := by
  have hp : prfOk (repH R) S := by
    by_cases hp : prfOk (repH R) S
    · exact hp
    · exact absurd hy (notOk_of hp)
  have hao : accOk (repH R) (repRoot R) S = accTexts (repH R) (repRoot R) S := by unfold accOk; rw [if_neg (Int.not_lt.2 hp.2.1)]
  have hb : (accTexts (repH R) (repRoot R) S).isSome = true := by rw [← hao]; exact hy.2.2
  have := rdacc_acc v w (repH R : Int) ((repRoot R).1.1.toNat : Int) ((repRoot R).1.2.1.toNat : Int) ((repRoot R).1.2.2.toNat : Int) (repRoot R).2 (bAt S 1 : Int) (accBal S) (accSalt S) ⟨(accName S).toArray⟩ (repH R) (repH R) (accTexts (repH R) (repRoot R) S).isSome
    (fun a W => ∃ g, a = some ⟨g, 0, none⟩ ∧ g < W.heap.size ∧ SidesAt W g (sidesOf (S.drop (19 + bAt S 2)) (repH R))) (fun a W W' ⟨g, e1, e2, e4⟩ hb => ⟨g, e1, by have := hb.size; omega, e4.below hb e2⟩) (fun w' hb' => (hv w' hb').mono fun e w'' ⟨hb'', hc⟩ => by
    rcases hc with ⟨hn, _⟩ | ⟨_, g, he, hg, hsd⟩
    · exact absurd hp hn
    · exact ⟨⟨_, he, ⟨g, rfl, hg, hsd⟩, fun w3 hb3 => accepts_any (repH R) (repRoot R) S g w3 hy.1.1.2 hp.1 hp.2.1 hp.2.2 (by have := hb3.size; omega) (hsd.below hb3 hg)⟩, hb''⟩)
  rw [hb] at this
  refine this.mono fun e w' ⟨hc, hb'⟩ => ?_
  rcases hc with ⟨hf, _⟩ | ⟨_, a, W, he, ⟨g, rfl, hg, hs⟩, hc0, hsz, hW⟩
  · cases hf
  · refine ⟨⟨g, he, by omega, fun k hk => ?_⟩, hb'⟩
    have hne : g ≠ w.heap.size + 1 := fun e => by
      subst e
      have h0 := (hs 0 (by omega)).1
      rw [show w.heap.size + 1 = w.heap.size + 1 from rfl, hc0] at h0
      simp at h0
    have hk' := hs k hk
    have ec : ∀ j, w'.cell? ⟨g, j, none⟩ = W.cell? ⟨g, j, none⟩ := fun j => World.cell?_of_block (w := W) (hW g hne)
    rw [ec, ec, ec, ec]
    exact hk'

/-- What readReport answers. -/
def RepSay (R : List UInt8) (e : Ending) : Prop := (repOk R ∧ e = .returned (.tuple #[ownRepV (repH R : Int) ((repRoot R).1.1.toNat : Int) ((repRoot R).1.2.1.toNat : Int) ((repRoot R).1.2.2.toNat : Int) (repRoot R).2, .bool true])) ∨ (¬ repOk R ∧ ∃ h d0 d1 d2 n : Int, e = .returned (.tuple #[ownRepV h d0 d1 d2 n, .bool false]))
theorem RepSay.yes {R : List UInt8} {e : Ending} (h : RepSay R e) (hok : repOk R) : e = .returned (.tuple #[ownRepV (repH R : Int) ((repRoot R).1.1.toNat : Int) ((repRoot R).1.2.1.toNat : Int) ((repRoot R).1.2.2.toNat : Int) (repRoot R).2, .bool true]) := by
  rcases h with ⟨_, h⟩ | ⟨hn, _⟩
  · exact h
  · exact absurd hok hn
theorem RepSay.no {R : List UInt8} {e : Ending} (h : RepSay R e) (hok : ¬ repOk R) : ∃ h d0 d1 d2 n : Int, e = .returned (.tuple #[ownRepV h d0 d1 d2 n, .bool false]) := by
  rcases h with ⟨hy, _⟩ | ⟨_, h⟩
  · exact absurd hy hok
  · exact h

/-- Verify, given what readReport and readProof answer. -/
theorem ownver_of (R S : List UInt8) (v1 v2 : Value) (w : World)
    (hR : Calls Tryz.prog 60 #[v1] w fun e w' => RepSay R e ∧ Below w.heap.size w w')
    (hv : repOk R → ∀ w', Below w.heap.size w w' → Calls Tryz.prog 77 #[v2, .int .i64 (repH R : Int)] w' fun e w'' => Below w'.heap.size w' w'' ∧
      ((¬ prfOk (repH R) S ∧ ∃ (pl : Int) (nm : ByteArray) (bal salt : Int) (a : Option Addr) (k c : Nat), e = .returned (.tuple #[proofV pl nm bal salt a k c, .bool false])) ∨
       (prfOk (repH R) S ∧ ∃ g, e = .returned (.tuple #[proofV (bAt S 1 : Int) ⟨(accName S).toArray⟩ (accBal S) (accSalt S) (some ⟨g, 0, none⟩) (repH R) (repH R), .bool true]) ∧ g < w''.heap.size ∧ SidesAt w'' g (sidesOf (S.drop (19 + bAt S 2)) (repH R))))) :
    Calls Tryz.prog 42 #[v1, v2] w fun e w' => e = .returned (verV (verAns R S).1 (verAns R S).2.1 (verAns R S).2.2) ∧ Below w.heap.size w w' := by
  by_cases hok : repOk R
  · replace hR := hR.mono fun e w' (h : RepSay R e ∧ _) => And.intro (h.1.yes hok) h.2
    by_cases hy : verOk R S
    · rw [verAns_yes hy]
      exact ownver_yes v1 v2 w _ _ _ _ _ (bAt S 1 : Int) (accBal S) (accSalt S) ⟨(accName S).toArray⟩ (repH R) (repH R) hR (fun w' hb => (rdacc_yes v2 w' hy fun w'' hb' => hv hok w'' (hb.trans (hb'.mono hb.size))).mono fun e w'' ⟨⟨g, he, _⟩, hb''⟩ => ⟨⟨_, he⟩, hb''⟩)
    · rw [verAns_no hok hy]
      exact ownver_no v1 v2 w _ _ _ _ _ hR (fun w' hb => rdacc_bad v2 w' hok hy fun w'' hb' => hv hok w'' (hb.trans (hb'.mono hb.size)))
  · replace hR := hR.mono fun e w' (h : RepSay R e ∧ _) => And.intro (h.1.no hok) h.2
    rw [verAns_norep hok]
    exact ownver_norep v1 v2 w hR

/-- readReport, in all cases. -/
theorem rdrep_all (R : List UInt8) (b c : Nat) (w : World) (hc : R.length ≤ c) (hm : c ≤ 9223372036854775807) (hb : b < w.heap.size) (hB : BytesAt w b 0 R) :
    Calls Tryz.prog 60 #[.slice (some ⟨b, 0, none⟩) R.length c] w fun e w' => RepSay R e ∧ Below w.heap.size w w' := by
  by_cases hh : repHead R
  · have hRR := rdrep_good b c R w hb hB hh (by have := hh.1; omega) (by omega)
    rw [← hh.1] at hRR
    by_cases hle : (repRoot R).2 ≤ maxS
    · rw [show leMax (repRoot R).2 = true from decide_eq_true hle] at hRR
      exact hRR.mono fun e w' ⟨he, hb⟩ => ⟨.inl ⟨⟨hh, hle⟩, he⟩, hb⟩
    · rw [show leMax (repRoot R).2 = false from decide_eq_false hle] at hRR
      exact hRR.mono fun e w' ⟨he, hb⟩ => ⟨.inr ⟨fun h => hle h.2, _, _, _, _, _, he⟩, hb⟩
  · exact (rdrep_bad b R.length c R w rfl hb hB hh).mono fun e w' ⟨he, hb⟩ => ⟨.inr ⟨fun h => hh h.1, _, _, _, _, _, he⟩, hb⟩

/-- Verify, whatever room lies behind. -/
theorem ownver_caps (R S : List UInt8) (b1 b2 c1 c2 : Nat) (w : World) (hr : R.length ≤ c1) (hr2 : c1 ≤ 9223372036854775807) (hs : S.length ≤ c2) (hs0 : repH R = 0 → S.length < c2) (hs2 : c2 ≤ 9223372036854775807) (h1 : b1 < w.heap.size) (h2 : b2 < w.heap.size) (hB1 : BytesAt w b1 0 R) (hB2 : BytesAt w b2 0 S) :
    Calls Tryz.prog 42 #[.slice (some ⟨b1, 0, none⟩) R.length c1, .slice (some ⟨b2, 0, none⟩) S.length c2] w fun e w' => e = .returned (verV (verAns R S).1 (verAns R S).2.1 (verAns R S).2.2) ∧ Below w.heap.size w w' :=
  ownver_of R S _ _ w (rdrep_all R b1 c1 w hr hr2 h1 hB1) (fun hok w' hb => rdpr_all b2 c2 (repH R) S w' hs hs0 hs2 hok.1.2 (by have := hb.size; omega) (fun j hj => (hb.cell (p := ⟨b2, 0 + j, none⟩) h2).trans (hB2 j hj)))

theorem ownver_any (r s : ByteArray) (b1 b2 : Nat) (w : World) (hr : r.size ≤ 140737488351232) (hs : s.size ≤ 140737488351232) (h1 : b1 < w.heap.size) (h2 : b2 < w.heap.size) (hB1 : BytesAt w b1 0 r.data.toList) (hB2 : BytesAt w b2 0 s.data.toList) :
    Calls Tryz.prog 42 #[.slice (some ⟨b1, 0, none⟩) r.size (r.size + 8), .slice (some ⟨b2, 0, none⟩) s.size (s.size + 8)] w fun e w' => e = .returned (verV (verAns r.data.toList s.data.toList).1 (verAns r.data.toList s.data.toList).2.1 (verAns r.data.toList s.data.toList).2.2) ∧ Below w.heap.size w w' := by
  have lr : r.data.toList.length = r.size := by simp
  have ls : s.data.toList.length = s.size := by simp
  have h := ownver_caps r.data.toList s.data.toList b1 b2 (r.size + 8) (s.size + 8) w (by omega) (by omega) (by omega) (fun _ => by omega) (by omega) h1 h2 hB1 hB2
  rw [lr, ls] at h
  exact h

end Go.Proofs.YtbjobbkgelipmaaGreat

/-
  The walks of bytes.Equal and of tithe's texts.note: the texts at one place.
-/
namespace Go.Proofs.YtbjobbkgelipmaaGreat
open Go.RowKit

/-- A text that lies in memory of its own. -/
def TextIs (N : Nat) (W : World) (v : Value) (t : List UInt8) : Prop := t ≠ [] ∧ ∃ g cap cur, v = .slice (some ⟨g, 0, none⟩) t.length cap ∧ N ≤ g ∧ W.heap[g]? = some (.cells cur 5 (0, 0)) ∧ t.length ≤ cap ∧ cap ≤ maxLen ∧ cur.size = cap ∧ cur.toList.take t.length = byteVals t

theorem TextIs.of {N : Nat} {W : World} {v : Value} {n : Nat} {t : List UInt8} (h : W.ownsRow N 5 1 v n (byteVals t)) (ht : t ≠ []) : TextIs N W v t := by
  have hl : (byteVals t).length = t.length := by simp [byteVals]
  have hn : n = t.length := by have := h.1; omega
  subst hn
  rcases h.2 with ⟨_, h0⟩ | ⟨g, cap, cur, hv, hb, hg, hn, hc, hs, hx⟩
  · exact absurd (List.eq_nil_of_length_eq_zero h0) ht
  · exact ⟨ht, g, cap, cur, hv, hb, hg, hn, hc, by omega, by rw [Nat.mul_one] at hx; exact hx⟩
theorem TextIs.owns {N : Nat} {W : World} {v : Value} {t : List UInt8} (h : TextIs N W v t) : W.ownsRow N 5 1 v t.length (byteVals t) := by
  obtain ⟨ht, g, cap, cur, hv, hb, hg, hn, hc, hs, hx⟩ := h
  exact ⟨by simp [byteVals], .inr ⟨g, cap, cur, hv, hb, hg, hn, hc, by omega, by rw [Nat.mul_one]; exact hx⟩⟩
theorem TextIs.same {N : Nat} {W W' : World} {v : Value} {t : List UInt8} (h : TextIs N W v t) (e : ∀ g, v.ownBlock = some g → W'.heap[g]? = W.heap[g]?) : TextIs N W' v t := by
  obtain ⟨ht, g, cap, cur, rfl, hb, hg, r⟩ := h
  exact ⟨ht, g, cap, cur, rfl, hb, (e g rfl).trans hg, r⟩
theorem TextIs.later {N : Nat} {W W' : World} {v : Value} {t : List UInt8} (h : TextIs N W v t) (hb : Below W.heap.size W W') : TextIs N W' v t := by
  obtain ⟨ht, g, cap, cur, rfl, hN, hg, r⟩ := h
  exact ⟨ht, g, cap, cur, rfl, hN, (hb.block _ (Array.getElem?_eq_some_iff.1 hg).1).trans hg, r⟩
theorem TextIs.mono {N M : Nat} {W : World} {v : Value} {t : List UInt8} (h : TextIs N W v t) (hM : M ≤ N) : TextIs M W v t := by
  obtain ⟨ht, g, cap, cur, rfl, hN, r⟩ := h
  exact ⟨ht, g, cap, cur, rfl, by omega, r⟩
theorem TextIs.block {N : Nat} {W : World} {v : Value} {t : List UInt8} (h : TextIs N W v t) : ∃ g cap, v = .slice (some ⟨g, 0, none⟩) t.length cap ∧ v.ownBlock = some g ∧ N ≤ g ∧ g < W.heap.size ∧ (∃ cur, W.heap[g]? = some (.cells cur 5 (0, 0))) ∧ ∀ j (hj : j < t.length), W.cell? ((⟨g, 0, none⟩ : Addr).add j) = some (.int .u8 (t[j].toNat : Int)) := by
  obtain ⟨ht, g, cap, cur, rfl, hN, hg, hn, hc, hs, hx⟩ := h
  refine ⟨g, cap, rfl, rfl, hN, (Array.getElem?_eq_some_iff.1 hg).1, ⟨cur, hg⟩, fun j hj => ?_⟩
  have h1 : (byteVals t)[j]? = some (.int .u8 (t[j].toNat : Int)) := by simp [byteVals, List.getElem?_eq_getElem hj]
  rw [← hx, List.getElem?_take] at h1
  split at h1
  · rw [addr_add, Nat.zero_add]
    simp only [World.cell?, hg]
    simpa using h1
  · omega

theorem TextIs.cells {N : Nat} {W : World} {v : Value} {t : List UInt8} {g : Nat} (h : TextIs N W v t) (hg : v.ownBlock = some g) : ∃ cur, W.heap[g]? = some (.cells cur 5 (0, 0)) := by
  obtain ⟨g', _, _, e, _, _, hc, _⟩ := h.block
  have := e.symm.trans hg
  simp only [Option.some.injEq] at this
  subst this
  exact hc

set_option maxRecDepth 100000 in
theorem bequal_any {N N' : Nat} {W : World} {v v' : Value} {t t' : List UInt8} (h : TextIs N W v t) (h' : TextIs N' W v' t') :
    Calls Tryz.prog 119 #[v, v'] W fun e W' => e = .returned (.bool (decide (t = t'))) ∧ W' = W := by
  obtain ⟨g, cap, rfl, _, _, _, _, hc⟩ := h.block
  obtain ⟨g', cap', rfl, _, _, _, _, hc'⟩ := h'.block
  have hcv := run_convert_bytes_back (P := Tryz.prog) W 51 9 5 ⟨g, 0, none⟩ cap t Tryz.underlying51 Tryz.underlying5 Tryz.underlying9 hc
  have hcv' := run_convert_bytes_back (P := Tryz.prog) W 51 9 5 ⟨g', 0, none⟩ cap' t' Tryz.underlying51 Tryz.underlying5 Tryz.underlying9 hc'
  have hE2 : (t == t') = decide (t = t') := by by_cases e : t = t' <;> simp [e]
  clear hc hc'
  go_enter Tryz.func119, Tryz.ntmps119
  go_wp2
  go_ret
  exact ⟨by simp, rfl⟩

/-- The texts at the place i of a table. -/
def TxAt (N K : Nat) (W : World) (B i : Nat) (ts : List (List UInt8)) : Prop :=
  (ts = [] ∧ W.cell? ⟨B, 2 * i, none⟩ = some (.slice none 0 0) ∧ W.cell? ⟨B, 2 * i + 1, none⟩ = some (.slice none 0 0)) ∨
  (∃ x r v g, ts = x :: r ∧ W.cell? ⟨B, 2 * i, none⟩ = some v ∧ TextIs N W v x ∧ v.ownBlock = some g ∧ g < K ∧ g ≠ B ∧
    ((firstTwo ts = none ∧ W.cell? ⟨B, 2 * i + 1, none⟩ = some (.slice none 0 0)) ∨
     (∃ y u g', firstTwo ts = some (x, y) ∧ W.cell? ⟨B, 2 * i + 1, none⟩ = some u ∧ TextIs N W u y ∧ u.ownBlock = some g' ∧ g' < K ∧ g' ≠ B ∧ g ≠ g')))

theorem TxAt.same {N K K' : Nat} {W W' : World} {B i : Nat} {ts : List (List UInt8)} (h : TxAt N K W B i ts) (hK : K ≤ K') (hc : ∀ j, j = 2 * i ∨ j = 2 * i + 1 → W'.cell? ⟨B, j, none⟩ = W.cell? ⟨B, j, none⟩) (hb : ∀ g, g < K → g ≠ B → (∃ cur, W.heap[g]? = some (.cells cur 5 (0, 0))) → W'.heap[g]? = W.heap[g]?) : TxAt N K' W' B i ts := by
  have c0 := hc _ (.inl rfl)
  have c1 := hc _ (.inr rfl)
  rcases h with ⟨h0, h1, h2⟩ | ⟨x, r, v, g, h0, h1, h2, h3, h4, h5, h6⟩
  · exact .inl ⟨h0, c0.trans h1, c1.trans h2⟩
  · refine .inr ⟨x, r, v, g, h0, c0.trans h1, h2.same (fun g' e => by rw [h3] at e; cases e; exact hb g h4 h5 (h2.cells h3)), h3, by omega, h5, ?_⟩
    rcases h6 with ⟨k0, k1⟩ | ⟨y, u, g', k0, k1, k2, k3, k4, k5, k6⟩
    · exact .inl ⟨k0, c1.trans k1⟩
    · exact .inr ⟨y, u, g', k0, c1.trans k1, k2.same (fun g'' e => by rw [k3] at e; cases e; exact hb g' k4 k5 (k2.cells k3)), k3, by omega, k5, k6⟩

set_option maxHeartbeats 1000000 in
set_option maxRecDepth 100000 in
theorem note_any {N K : Nat} {W : World} {B i : Nat} {ts : List (List UInt8)} {cs : Array Value} (hB : W.heap[B]? = some (.cells cs 185 (0, 0))) (hT : TxAt N K W B i ts) (hNK : N ≤ K) {v : Value} {t : List UInt8} (hv : TextIs K W v t) (hvB : v.ownBlock ≠ some B) :
    Calls Tryz.prog 106 #[.pointer (some ⟨B, 2 * i, none⟩), v] W fun e W' => e = .returned (.tuple #[]) ∧ TxAt N W.heap.size W' B i (ts ++ [t]) ∧ (W' = W ∨ ∃ j, (j = 2 * i ∨ j = 2 * i + 1) ∧ W' = W.setCell ⟨B, j, none⟩ v) := by
  have hBs : B < W.heap.size := (Array.getElem?_eq_some_iff.1 hB).1
  have q : ∀ (w : World) (a : Option Addr) (n c n' c' : Nat), (binOp .eql 51 (.slice a n c) (.slice none n' c')).run Tryz.prog w = .ok (.bool a.isNone) w := fun w a n c n' c' => Lib.run_eql_slice_nil w _ _ a n c n' c' Tryz.underlying51
  have fz : ∀ j, W.frozen? ⟨B, j, none⟩ = false := fun j => block_free hB
  obtain ⟨gv, cv, rfl, hvg, hvK, hvs, -, -⟩ := hv.block
  have hgB : gv ≠ B := fun e => hvB (by rw [hvg, e])
  have hot : ∀ j j', j ≠ j' → ∀ u, (W.setCell ⟨B, j, none⟩ u).cell? ⟨B, j', none⟩ = W.cell? ⟨B, j', none⟩ := fun j j' hj u => by
    rw [block_cell (heap_setCell_same W B j _ _ u hB), block_cell hB, Array.getElem?_setIfInBounds_ne hj]
  have hsm : ∀ j (u z : Value), W.cell? ⟨B, j, none⟩ = some z → (W.setCell ⟨B, j, none⟩ u).cell? ⟨B, j, none⟩ = some u := fun j u z hz => by
    rw [block_cell hB] at hz
    rw [block_cell (heap_setCell_same W B j _ _ u hB), Array.getElem?_setIfInBounds_self_of_lt (Array.getElem?_eq_some_iff.1 hz).1]
  have hbl : ∀ g, g ≠ B → ∀ j u, (W.setCell ⟨B, j, none⟩ u).heap[g]? = W.heap[g]? := fun g hg j u => Below.heap_setCell W _ _ _ hg
  have hvN := hv.mono hNK
  have hv2 : ∀ j u, TextIs N (W.setCell ⟨B, j, none⟩ u) (.slice (some ⟨gv, 0, none⟩) t.length cv) t := fun j u => hvN.same fun g e => by cases e; exact hbl gv hgB j u
  rcases hT with ⟨h0, h1, h2⟩ | ⟨x, r, v, g, h0, h1, h2, h3, h4, h5, h6⟩
  · subst h0
    have hres : TxAt N W.heap.size (W.setCell ⟨B, 2 * i, none⟩ (.slice (some ⟨gv, 0, none⟩) t.length cv)) B i [t] :=
      .inr ⟨t, [], _, gv, rfl, hsm _ _ _ h1, hv2 _ _, rfl, hvs, hgB, .inl ⟨rfl, (hot _ _ (by omega) _).trans h2⟩⟩
    have HP := hide hres
    clear hB h2 hv hres hot hsm hbl hv2 hvN hvB hvg
    go_enter Tryz.func106, Tryz.ntmps106
    go_wp2_with fail
    go_end0
    exact ⟨rfl, unhide HP, .inr ⟨_, .inl rfl, rfl⟩⟩
  · subst h0
    obtain ⟨gx, cx, rfl, hxg, -, hxs, -, -⟩ := h2.block
    have egx : g = gx := by have := h3.symm.trans hxg; simpa using this
    subst egx
    have hx2 : ∀ j u, TextIs N (W.setCell ⟨B, j, none⟩ u) (.slice (some ⟨g, 0, none⟩) x.length cx) x := fun j u => h2.same fun g' e => by cases e; exact hbl g h5 j u
    rcases h6 with ⟨k0, k1⟩ | ⟨y, u, g', k0, k1, k2, k3, k4, k5, k6⟩
    · have HE := hide (bequal_any h2 hv)
      by_cases ext : t = x
      · subst ext
        have hres : TxAt N W.heap.size W B i (t :: r ++ [t]) := .inr ⟨t, r ++ [t], _, g, rfl, h1, h2, rfl, hxs, h5, .inl ⟨by rw [firstTwo_snoc, k0]; simp, k1⟩⟩
        have HP := hide hres
        rw [decide_eq_true rfl] at HE
        clear hB hv hres hot hsm hbl hv2 hvN hvB hvg h2 hx2 k0 h3 hxg
        go_enter Tryz.func106, Tryz.ntmps106
        go_wp2_with (go_at_call 119; refine (unhide HE).mono ?_; rintro e w1 ⟨rfl, rfl⟩)
        go_end0
        exact ⟨rfl, unhide HP, .inl rfl⟩
      · have hres : TxAt N W.heap.size (W.setCell ⟨B, 2 * i + 1, none⟩ (.slice (some ⟨gv, 0, none⟩) t.length cv)) B i (x :: r ++ [t]) := .inr ⟨x, r ++ [t], _, g, rfl, (hot _ _ (by omega) _).trans h1, hx2 _ _, rfl, hxs, h5, .inr ⟨t, _, gv, by rw [firstTwo_snoc, k0]; simp [ext], hsm _ _ _ k1, hv2 _ _, rfl, hvs, hgB, by omega⟩⟩
        have HP := hide hres
        rw [decide_eq_false (fun e => ext e.symm)] at HE
        clear hB hv hres hot hsm hbl hv2 hvN hvB hvg h2 hx2 k0 h3 hxg
        go_enter Tryz.func106, Tryz.ntmps106
        go_wp2_with (go_at_call 119; refine (unhide HE).mono ?_; rintro e w1 ⟨rfl, rfl⟩)
        go_end0
        exact ⟨rfl, unhide HP, .inr ⟨_, .inr rfl, rfl⟩⟩
    · obtain ⟨gu, cu, rfl, hug, -, hus, -, -⟩ := k2.block
      have hres : TxAt N W.heap.size W B i (x :: r ++ [t]) := .inr ⟨x, r ++ [t], _, g, rfl, h1, h2, rfl, hxs, h5, .inr ⟨y, _, g', by rw [firstTwo_snoc, k0], k1, k2, k3, by omega, k5, k6⟩⟩
      have HP := hide hres
      clear hB hv hres hot hsm hbl hv2 hvN hvB hvg h2 hx2 k0 h3 hxg k2
      go_enter Tryz.func106, Tryz.ntmps106
      go_wp2_with fail
      go_end0
      exact ⟨rfl, unhide HP, .inl rfl⟩

end Go.Proofs.YtbjobbkgelipmaaGreat

/-
  The table of texts, and the walk of the step that notes them (follow's function value).
-/
namespace Go.Proofs.YtbjobbkgelipmaaGreat
open Go.RowKit

/-- One text more at a place. -/
def addT (f : Nat → Nat → List (List UInt8)) (lv0 pl0 : Nat) (t : List UInt8) (lv pl : Nat) : List (List UInt8) := if lv = lv0 ∧ pl = pl0 then f lv pl ++ [t] else f lv pl

/-- All places' texts in one block. -/
structure TabAt (N K : Nat) (W : World) (B h : Nat) (f : Nat → Nat → List (List UInt8)) : Prop where
  blk : ∃ cs, W.heap[B]? = some (.cells cs 185 (0, 0))
  tx : ∀ lv pl, lv ≤ h → pl < 2 ^ (h - lv) → TxAt N K W B (placeNo h lv pl) (f lv pl)
  z0 : W.cell? ⟨B, 0, none⟩ = some (.slice none 0 0)
  z1 : W.cell? ⟨B, 1, none⟩ = some (.slice none 0 0)
theorem TabAt.lt {N K : Nat} {W : World} {B h : Nat} {f : Nat → Nat → List (List UInt8)} (h : TabAt N K W B h f) : B < W.heap.size := (Array.getElem?_eq_some_iff.1 h.blk.choose_spec).1
theorem TabAt.same {N K K' : Nat} {W W' : World} {B h : Nat} {f : Nat → Nat → List (List UInt8)} (t : TabAt N K W B h f) (hK : K ≤ K') (hB : W'.heap[B]? = W.heap[B]?) (hb : ∀ g, g < K → g ≠ B → (∃ cur, W.heap[g]? = some (.cells cur 5 (0, 0))) → W'.heap[g]? = W.heap[g]?) : TabAt N K' W' B h f := by
  have ec : ∀ j, W'.cell? ⟨B, j, none⟩ = W.cell? ⟨B, j, none⟩ := fun j => World.cell?_of_block (w := W) hB
  exact ⟨⟨_, hB.trans t.blk.choose_spec⟩, fun lv pl h1 h2 => (t.tx lv pl h1 h2).same hK (fun j _ => ec j) hb, (ec 0).trans t.z0, (ec 1).trans t.z1⟩
theorem TabAt.later {N : Nat} {W W' : World} {B h : Nat} {f : Nat → Nat → List (List UInt8)} (t : TabAt N W.heap.size W B h f) (hb : Below W.heap.size W W') : TabAt N W'.heap.size W' B h f :=
  t.same hb.size (hb.block _ t.lt) (fun g hg _ _ => hb.block g hg)
theorem placeNo_pos (h lv pl : Nat) : 1 ≤ placeNo h lv pl := by
  have : 0 < 2 ^ (h - lv) := Nat.two_pow_pos _
  unfold placeNo
  omega
theorem TabAt.note {N K : Nat} {W W' : World} {B h : Nat} {f : Nat → Nat → List (List UInt8)} (t : TabAt N K W B h f) (hK : K ≤ W.heap.size) {lv0 pl0 : Nat} (h1 : lv0 ≤ h) (h2 : pl0 < 2 ^ (h - lv0)) {x : List UInt8} {v : Value} (hx : TxAt N W.heap.size W' B (placeNo h lv0 pl0) (f lv0 pl0 ++ [x]))
    (hW : W' = W ∨ ∃ j, (j = 2 * placeNo h lv0 pl0 ∨ j = 2 * placeNo h lv0 pl0 + 1) ∧ W' = W.setCell ⟨B, j, none⟩ v) : TabAt N W.heap.size W' B h (addT f lv0 pl0 x) ∧ Kept [B] W W' ∧ W'.heap.size = W.heap.size := by
  obtain ⟨cs, hB⟩ := t.blk
  have hp := placeNo_pos h lv0 pl0
  have key : (∃ cs, W'.heap[B]? = some (.cells cs 185 (0, 0))) ∧ (∀ j, j ≠ 2 * placeNo h lv0 pl0 → j ≠ 2 * placeNo h lv0 pl0 + 1 → W'.cell? ⟨B, j, none⟩ = W.cell? ⟨B, j, none⟩) ∧ (∀ g, g ≠ B → W'.heap[g]? = W.heap[g]?) ∧ Kept [B] W W' ∧ W'.heap.size = W.heap.size := by
    rcases hW with rfl | ⟨j, hj, rfl⟩
    · exact ⟨⟨cs, hB⟩, fun _ _ _ => rfl, fun _ _ => rfl, Kept.refl _ _, rfl⟩
    · refine ⟨⟨_, heap_setCell_same W B j _ _ v hB⟩, fun j' h3 h4 => ?_, fun g hg => Below.heap_setCell W _ _ _ hg, Kept.setCell (by simp) _, by simp⟩
      rw [block_cell (heap_setCell_same W B j _ _ v hB), block_cell hB, Array.getElem?_setIfInBounds_ne (by omega)]
  obtain ⟨k1, k2, k3, k4, k5⟩ := key
  refine ⟨⟨k1, fun lv pl g1 g2 => ?_, (k2 0 (by omega) (by omega)).trans t.z0, (k2 1 (by omega) (by omega)).trans t.z1⟩, k4, k5⟩
  unfold addT
  split
  · rename_i e
    obtain ⟨rfl, rfl⟩ := e
    exact hx
  · rename_i e
    have hne : placeNo h lv pl ≠ placeNo h lv0 pl0 := fun e' => e (placeNo_inj g1 h1 g2 h2 e')
    refine (t.tx lv pl g1 g2).same hK (fun j hj => k2 j ?_ ?_) (fun g _ hg _ => k3 g hg) <;> omega

/-- What follow's function value stands on: the place's number, the table. -/
structure FS (N : Nat) (W : World) (A C B h a : Nat) (f : Nat → Nat → List (List UInt8)) : Prop where
  at_ : W.heap[A]? = some (.cells #[.int .i64 (a : Int)] 3 (0, 0))
  all_ : W.heap[C]? = some (.cells #[.slice (some ⟨B, 0, none⟩) (2 ^ (h + 1)) (2 ^ (h + 1))] 182 (0, 0))
  tab : TabAt N W.heap.size W B h f
theorem FS.later {N : Nat} {W W' : World} {A C B h a : Nat} {f : Nat → Nat → List (List UInt8)} (s : FS N W A C B h a f) (hb : Below W.heap.size W W') : FS N W' A C B h a f :=
  ⟨(hb.block _ (Array.getElem?_eq_some_iff.1 s.at_).1).trans s.at_, (hb.block _ (Array.getElem?_eq_some_iff.1 s.all_).1).trans s.all_, s.tab.later hb⟩
theorem cells_ne' {W : World} {a b : Nat} {cs ds : Array Value} {t u : TypeId} {f g : Nat × Nat} (h : W.heap[a]? = some (.cells cs t f)) (k : W.heap[b]? = some (.cells ds u g)) (htu : t ≠ u) : a ≠ b := fun e => by
  rw [e, k] at h
  simp only [Option.some.injEq, Obj.cells.injEq] at h
  exact htu h.2.1.symm
theorem FS.ne {N : Nat} {W : World} {A C B h a : Nat} {f : Nat → Nat → List (List UInt8)} (s : FS N W A C B h a f) : A ≠ C ∧ A ≠ B ∧ C ≠ B := by
  obtain ⟨cs, hB⟩ := s.tab.blk
  exact ⟨cells_ne' s.at_ s.all_ (by decide), cells_ne' s.at_ hB (by decide), cells_ne' s.all_ hB (by decide)⟩
theorem FS.setA {N : Nat} {W : World} {A C B h a : Nat} {f : Nat → Nat → List (List UInt8)} (s : FS N W A C B h a f) (a' : Nat) : FS N (W.setCell ⟨A, 0, none⟩ (.int .i64 (a' : Int))) A C B h a' f := by
  obtain ⟨n1, n2, n3⟩ := s.ne
  have hA := heap_setCell_same W A 0 _ _ (.int .i64 (a' : Int)) s.at_
  have e : ∀ g, g ≠ A → (W.setCell ⟨A, 0, none⟩ (.int .i64 (a' : Int))).heap[g]? = W.heap[g]? := fun g hg => Below.heap_setCell W _ _ _ hg
  refine ⟨hA, (e C (Ne.symm n1)).trans s.all_, ?_⟩
  refine s.tab.same (by simp) (e B (Ne.symm n2)) (fun g _ _ ⟨cur, hc⟩ => e g (cells_ne' hc s.at_ (by decide)))
theorem FS.note {N : Nat} {W W' : World} {A C B h a : Nat} {f : Nat → Nat → List (List UInt8)} (s : FS N W A C B h a f) {lv0 pl0 : Nat} (h1 : lv0 ≤ h) (h2 : pl0 < 2 ^ (h - lv0)) {x : List UInt8} {v : Value} (hx : TxAt N W.heap.size W' B (placeNo h lv0 pl0) (f lv0 pl0 ++ [x]))
    (hW : W' = W ∨ ∃ j, (j = 2 * placeNo h lv0 pl0 ∨ j = 2 * placeNo h lv0 pl0 + 1) ∧ W' = W.setCell ⟨B, j, none⟩ v) : FS N W' A C B h a (addT f lv0 pl0 x) ∧ Kept [B] W W' := by
  obtain ⟨n1, n2, n3⟩ := s.ne
  obtain ⟨k1, k2, k3⟩ := s.tab.note (Nat.le_refl _) h1 h2 hx hW
  have e : ∀ g, g < W.heap.size → g ≠ B → W'.heap[g]? = W.heap[g]? := fun g hg hne => k2.block g hg (by simpa using hne)
  refine ⟨⟨(e A (Array.getElem?_eq_some_iff.1 s.at_).1 n2).trans s.at_, (e C (Array.getElem?_eq_some_iff.1 s.all_).1 n3).trans s.all_, ?_⟩, k2⟩
  rw [k3]
  exact k1

theorem upText_two (q : Nat) (now y : Dg × Int) : ∃ l r : Dg × Int, (if q % 2 = 0 then Value.tuple #[sideV now.1 now.2, sideV y.1 y.2] else .tuple #[sideV y.1 y.2, sideV now.1 now.2]) = .tuple #[sideV l.1 l.2, sideV r.1 r.2] ∧ upText q now y = 1 :: (sideB l ++ sideB r) ∧ ((l = now ∧ r = y) ∨ (l = y ∧ r = now)) := by
  by_cases e : q % 2 = 0
  · exact ⟨now, y, by rw [if_pos e], by unfold upText; rw [if_neg (by omega)], .inl ⟨rfl, rfl⟩⟩
  · exact ⟨y, now, by rw [if_neg e], by unfold upText; rw [if_pos (by omega)], .inr ⟨rfl, rfl⟩⟩

theorem TabAt.heap {N K : Nat} {W W' : World} {B h : Nat} {f : Nat → Nat → List (List UInt8)} (t : TabAt N K W B h f) (e : W'.heap = W.heap) : TabAt N K W' B h f := t.same (Nat.le_refl _) (by rw [e]) (fun g _ _ _ => by rw [e])
theorem FS.heap {N : Nat} {W W' : World} {A C B h a : Nat} {f : Nat → Nat → List (List UInt8)} (s : FS N W A C B h a f) (e : W'.heap = W.heap) : FS N W' A C B h a f := ⟨by rw [e]; exact s.at_, by rw [e]; exact s.all_, by rw [e]; exact s.tab.heap e⟩

theorem FS.poke {N : Nat} {W : World} {A C B h a R : Nat} {f : Nat → Nat → List (List UInt8)} {cs : Array Value} (s : FS N W A C B h a f) (hR : W.heap[R]? = some (.cells cs 106 (0, 0))) (j : Nat) (v : Value) : FS N (W.setCell ⟨R, j, none⟩ v) A C B h a f := by
  obtain ⟨ds, hB⟩ := s.tab.blk
  have e : ∀ g, g ≠ R → (W.setCell ⟨R, j, none⟩ v).heap[g]? = W.heap[g]? := fun g hg => Below.heap_setCell W _ _ _ hg
  exact ⟨(e _ (cells_ne' s.at_ hR (by decide))).trans s.at_, (e _ (cells_ne' s.all_ hR (by decide))).trans s.all_, s.tab.same (by simp) (e _ (cells_ne' hB hR (by decide))) (fun g _ _ ⟨cur, hc⟩ => e g (cells_ne' hc hR (by decide)))⟩
theorem FS.poke4 {N : Nat} {W : World} {A C B h a R : Nat} {f : Nat → Nat → List (List UInt8)} {cs : Array Value} (s : FS N W A C B h a f) (hR : W.heap[R]? = some (.cells cs 106 (0, 0))) (v0 v1 v2 v3 : Value) : FS N ((((W.setCell ⟨R, 0, none⟩ v0).setCell ⟨R, 1, none⟩ v1).setCell ⟨R, 2, none⟩ v2).setCell ⟨R, 3, none⟩ v3) A C B h a f := by
  have g1 := heap_setCell_same W R 0 _ _ v0 hR
  have g2 := heap_setCell_same _ R 1 _ _ v1 g1
  have g3 := heap_setCell_same _ R 2 _ _ v2 g2
  exact (((s.poke hR 0 v0).poke g1 1 v1).poke g2 2 v2).poke g3 3 v3
theorem Kept.fresh {S : List Nat} {w w' : World} {b i : Nat} (h : Kept S w w') (hb : w.heap.size ≤ b) (v : Value) : Kept S w (w'.setCell ⟨b, i, none⟩ v) :=
  ⟨h.os, h.tape, h.output, by simp [h.size], fun k hk hs => (Below.heap_setCell _ _ _ _ (by show k ≠ b; omega)).trans (h.block k hk hs)⟩

/-- What the step reads: the table's box, the number's, the two sides'. -/
abbrev F10 (W : World) (A C B P X Y : Nat) (i f0 f1 f2 nx g0 g1 g2 yx : Int) : Prop :=
  (W.cell? ⟨C, 0, none⟩ = some (.slice (some ⟨B, 0, none⟩) P P) ∧ W.cell? ⟨A, 0, none⟩ = some (.int .i64 i)) ∧
  (W.cell? ⟨X, 0, none⟩ = some (.int .u8 f0) ∧ W.cell? ⟨X, 1, none⟩ = some (.int .u8 f1) ∧ W.cell? ⟨X, 2, none⟩ = some (.int .u8 f2) ∧ W.cell? ⟨X, 3, none⟩ = some (.int .u64 nx)) ∧
  (W.cell? ⟨Y, 0, none⟩ = some (.int .u8 g0) ∧ W.cell? ⟨Y, 1, none⟩ = some (.int .u8 g1) ∧ W.cell? ⟨Y, 2, none⟩ = some (.int .u8 g2) ∧ W.cell? ⟨Y, 3, none⟩ = some (.int .u64 yx))
/-- .. as blocks. -/
structure FB (N : Nat) (W : World) (A C B h a X Y R : Nat) (f : Nat → Nat → List (List UInt8)) (f0 f1 f2 nx g0 g1 g2 yx : Int) : Prop where
  fs : FS N W A C B h a f
  x : W.heap[X]? = some (.cells #[.int .u8 f0, .int .u8 f1, .int .u8 f2, .int .u64 nx] 106 (0, 0))
  y : W.heap[Y]? = some (.cells #[.int .u8 g0, .int .u8 g1, .int .u8 g2, .int .u64 yx] 106 (0, 0))
  r : W.heap[R]? = some (.cells #[.int .u8 0, .int .u8 0, .int .u8 0, .int .u64 0] 106 (0, 0))
theorem FB.ten {N : Nat} {W : World} {A C B h a X Y R : Nat} {f : Nat → Nat → List (List UInt8)} {f0 f1 f2 nx g0 g1 g2 yx : Int} (b : FB N W A C B h a X Y R f f0 f1 f2 nx g0 g1 g2 yx) : F10 W A C B (2 ^ (h + 1)) X Y (a : Int) f0 f1 f2 nx g0 g1 g2 yx :=
  ⟨⟨block_cell b.fs.all_, block_cell b.fs.at_⟩, ⟨block_cell b.x, block_cell b.x, block_cell b.x, block_cell b.x⟩, ⟨block_cell b.y, block_cell b.y, block_cell b.y, block_cell b.y⟩⟩
theorem FB.later {N : Nat} {W W' : World} {A C B h a X Y R : Nat} {f : Nat → Nat → List (List UInt8)} {f0 f1 f2 nx g0 g1 g2 yx : Int} (b : FB N W A C B h a X Y R f f0 f1 f2 nx g0 g1 g2 yx) (hb : Below W.heap.size W W') : FB N W' A C B h a X Y R f f0 f1 f2 nx g0 g1 g2 yx :=
  ⟨b.fs.later hb, (hb.block _ (Array.getElem?_eq_some_iff.1 b.x).1).trans b.x, (hb.block _ (Array.getElem?_eq_some_iff.1 b.y).1).trans b.y, (hb.block _ (Array.getElem?_eq_some_iff.1 b.r).1).trans b.r⟩

theorem FB.kept {N : Nat} {W W' : World} {A C B h a X Y R : Nat} {f f' : Nat → Nat → List (List UInt8)} {f0 f1 f2 nx g0 g1 g2 yx : Int} (b : FB N W A C B h a X Y R f f0 f1 f2 nx g0 g1 g2 yx) (fs : FS N W' A C B h a f') (hk : Kept [B] W W') : FB N W' A C B h a X Y R f' f0 f1 f2 nx g0 g1 g2 yx := by
  obtain ⟨cs, hB⟩ := b.fs.tab.blk
  have e : ∀ (g : Nat) (ds : Array Value), W.heap[g]? = some (.cells ds 106 (0, 0)) → W'.heap[g]? = some (.cells ds 106 (0, 0)) := fun g ds hg => (hk.block g (Array.getElem?_eq_some_iff.1 hg).1 (by simpa using cells_ne' hg hB (by decide))).trans hg
  exact ⟨fs, e _ _ b.x, e _ _ b.y, e _ _ b.r⟩

def sideC (d0 d1 d2 x : Int) : Obj := Obj.cells #[Value.int IntKind.u8 d0, Value.int IntKind.u8 d1, Value.int IntKind.u8 d2, Value.int IntKind.u64 x] 106

set_option maxHeartbeats 2000000 in
set_option maxRecDepth 100000 in
theorem fstep_any {N : Nat} {W : World} {A C B h a : Nat} {f : Nat → Nat → List (List UInt8)} (s : FS N W A C B h a f) (hN : N ≤ W.heap.size) {lv q : Nat} {now y : Dg × Int} (h1 : lv ≤ h) (hh : h ≤ 6) (h2 : q / 2 < 2 ^ (h - lv)) (ha : a / 2 = placeNo h lv (q / 2)) (ha2 : a ≤ 255) (hq : q ≤ 255) (h0 : 0 ≤ now.2) (h0' : 0 ≤ y.2) (hs : now.2 + y.2 ≤ maxS) :
    Calls Tryz.prog 107 #[.int .i64 (q : Int), sideV now.1 now.2, sideV y.1 y.2, .pointer (some ⟨A, 0, none⟩), .pointer (some ⟨C, 0, none⟩)] W fun e W' => e = .returned (.tuple #[sideV (dg (upText q now y)) (now.2 + y.2), .bool true]) ∧ FS N W' A C B h (a / 2) (addT f lv (q / 2) (upText q now y)) ∧ Kept [A, B] W W' := by
  have HJ := fun w => hide (join_yes q now.1 y.1 now.2 y.2 w hq h0 h0' hs)
  have HI := fun w => hide (inorder_any q now.1 y.1 now.2 y.2 w hq)
  obtain ⟨l, r, e1, e2, e3⟩ := upText_two q now y
  have m64 : maxS < 18446744073709551616 := by unfold maxS; omega
  have HT := fun w => hide (nodetext_any l.1 r.1 l.2 r.2 w (by rcases e3 with ⟨rfl, rfl⟩ | ⟨rfl, rfl⟩ <;> assumption) (by rcases e3 with ⟨rfl, rfl⟩ | ⟨rfl, rfl⟩ <;> omega) (by rcases e3 with ⟨rfl, rfl⟩ | ⟨rfl, rfl⟩ <;> assumption) (by rcases e3 with ⟨rfl, rfl⟩ | ⟨rfl, rfl⟩ <;> omega))
  rw [e1] at HI
  have e4 : (1 :: (sideB (l.1, l.2) ++ sideB (r.1, r.2)) : List UInt8) = upText q now y := e2.symm
  rw [e4] at HT
  rw [show upText q (now.1, now.2) (y.1, y.2) = upText q now y from rfl] at HJ
  have hne : upText q now y ≠ [] := by rw [e2]; exact List.cons_ne_nil _ _
  generalize upText q now y = T at *
  have hA2 : ((a : Int) / 2) = ((a / 2 : Nat) : Int) := by omega
  obtain ⟨i, hi⟩ : ∃ i, a / 2 = i := ⟨_, rfl⟩
  rw [hi] at hA2 ha ⊢
  have hi2 : i < 2 ^ (h + 1) := by rw [ha]; exact placeNo_lt h2
  have hp7 : 2 ^ (h + 1) ≤ 2 ^ 7 := Nat.pow_le_pow_right (by omega) (by omega)
  have HX := hide (And.intro hA2 (And.intro ha (And.intro h2 h1)))
  clear e1 e2 e3 e4 h0 h0' hs m64 hA2 ha h2 h1
  have HFS := hide s
  clear s
  unfold sideV at *
  generalize (now.1.1.toNat : Int) = f0 at *
  generalize (now.1.2.1.toNat : Int) = f1 at *
  generalize (now.1.2.2.toNat : Int) = f2 at *
  generalize (y.1.1.toNat : Int) = g0 at *
  generalize (y.1.2.1.toNat : Int) = g1 at *
  generalize (y.1.2.2.toNat : Int) = g2 at *
  generalize (l.1.1.toNat : Int) = l0 at *
  generalize (l.1.2.1.toNat : Int) = l1 at *
  generalize (l.1.2.2.toNat : Int) = l2 at *
  generalize (r.1.1.toNat : Int) = r0 at *
  generalize (r.1.2.1.toNat : Int) = r1 at *
  generalize (r.1.2.2.toNat : Int) = r2 at *
  generalize ((dg T).1.toNat : Int) = s0 at *
  generalize ((dg T).2.1.toNat : Int) = s1 at *
  generalize ((dg T).2.2.toNat : Int) = s2 at *
  generalize now.2 = nx at *
  generalize y.2 = yx at *
  generalize l.2 = lx at *
  generalize r.2 = rx at *
  go_enter Tryz.func107, Tryz.ntmps107
  go_upto_region 1 with fail
  have hW1 : Below W.heap.size W (((W.alloc (sideC f0 f1 f2 nx)).alloc (sideC g0 g1 g2 yx)).alloc (sideC 0 0 0 0)) := (((Below.refl W.heap.size W).alloc (Nat.le_refl _) _).alloc (by simp) _).alloc (by simp; omega) _
  have x1 := heap_next (o := sideC 0 0 0 0) (heap_next (o := sideC g0 g1 g2 yx) (heap_alloc_new W (sideC f0 f1 f2 nx)))
  have y1 := heap_next (o := sideC 0 0 0 0) (heap_new1 W (sideC f0 f1 f2 nx) (sideC g0 g1 g2 yx))
  have z1 := heap_new2 W (sideC f0 f1 f2 nx) (sideC g0 g1 g2 yx) (sideC 0 0 0 0)
  have fs1 := (unhide HFS).later hW1
  unfold sideC at *
  generalize (((W.alloc (Obj.cells #[Value.int IntKind.u8 f0, Value.int IntKind.u8 f1, Value.int IntKind.u8 f2, Value.int IntKind.u64 nx] 106)).alloc (Obj.cells #[Value.int IntKind.u8 g0, Value.int IntKind.u8 g1, Value.int IntKind.u8 g2, Value.int IntKind.u64 yx] 106)).alloc (Obj.cells #[Value.int IntKind.u8 0, Value.int IntKind.u8 0, Value.int IntKind.u8 0, Value.int IntKind.u64 0] 106)) = W1 at *
  obtain ⟨R, hR⟩ : ∃ R, W.heap.size + 1 + 1 = R := ⟨_, rfl⟩
  obtain ⟨Y, hY⟩ : ∃ Y, W.heap.size + 1 = Y := ⟨_, rfl⟩
  obtain ⟨X, hX⟩ : ∃ X, W.heap.size = X := ⟨_, rfl⟩
  have a1 : W1.cell? ⟨A, 0, none⟩ = some (.int .i64 (a : Int)) := block_cell fs1.at_
  have fa1 : W1.frozen? ⟨A, 0, none⟩ = false := block_free fs1.at_
  have HW1 := hide (And.intro hW1 (And.intro x1 (And.intro y1 (And.intro z1 fs1))))
  rw [hR, hY, hX]
  clear hW1 x1 y1 z1 fs1
  go_upto_region 2 with fail
  rw [(unhide HX).1]
  have hb2 : FB N (W1.setCell ⟨A, 0, none⟩ (.int .i64 (i : Int))) A C B h i X Y R f f0 f1 f2 nx g0 g1 g2 yx := by
    obtain ⟨hW1, x1, y1, z1, fs1⟩ := unhide HW1
    rw [hX] at x1
    rw [hY] at y1
    rw [hR] at z1
    have e : ∀ (g : Nat) (cs : Array Value), W1.heap[g]? = some (.cells cs 106 (0, 0)) → (W1.setCell ⟨A, 0, none⟩ (.int .i64 (i : Int))).heap[g]? = some (.cells cs 106 (0, 0)) := fun g cs hg => (Below.heap_setCell W1 _ _ _ (cells_ne' hg fs1.at_ (by decide))).trans hg
    exact ⟨fs1.setA i, e _ _ x1, e _ _ y1, e _ _ z1⟩
  have HK2 : Hid (Kept [A, B] W (W1.setCell ⟨A, 0, none⟩ (.int .i64 (i : Int)))) := (Kept.of_below (unhide HW1).1).trans (Kept.setCell (by simp) _)
  generalize (W1.setCell ⟨A, 0, none⟩ (.int .i64 (i : Int))) = W2 at *
  have hbd : FB N W2.drew A C B h i X Y R f f0 f1 f2 nx g0 g1 g2 yx := ⟨hb2.fs.heap rfl, hb2.x, hb2.y, hb2.r⟩
  have k2 := hbd.ten
  obtain ⟨P, hP⟩ : ∃ P, 2 ^ (h + 1) = P := ⟨_, rfl⟩
  rw [hP] at k2 hi2 hp7
  have i1 : (0 : Int) ≤ (i : Int) := by omega
  have i2 : (i : Int) < (P : Int) := by omega
  have HN : Hid (∀ w3 w4 v, FB N w3 A C B h i X Y R f f0 f1 f2 nx g0 g1 g2 yx → N ≤ w3.heap.size → Below w3.heap.size w3 w4 → w4.ownsRow w3.heap.size 5 1 v 23 (byteVals T) → Calls Tryz.prog 106 #[.pointer (some ⟨B, i * 2, none⟩), v] w4 fun e W' => e = .returned (.tuple #[]) ∧ FS N W' A C B h i (addT f lv (q / 2) T) ∧ Kept [B] w4 W') := fun w3 w4 v b3 hN3 hb4 hv => by
    obtain ⟨_, ha, h2, h1⟩ := unhide HX
    have tab4 : TabAt N w3.heap.size w4 B h f := b3.fs.tab.same (Nat.le_refl _) (hb4.block _ b3.fs.tab.lt) (fun g hg _ _ => hb4.block g hg)
    obtain ⟨cs, hcs⟩ := tab4.blk
    have hvT := TextIs.of hv hne
    have hvB : v.ownBlock ≠ some B := fun e => by
      obtain ⟨g, _, _, e2, hg, _⟩ := hvT.block
      rw [e2] at e
      have := b3.fs.tab.lt
      simp only [Option.some.injEq] at e
      omega
    have := note_any hcs (tab4.tx lv (q / 2) h1 h2) hN3 hvT hvB
    rw [← ha, Nat.mul_comm 2 i] at this
    refine this.mono fun e W' ⟨he, hx, hW⟩ => ?_
    have hn := (b3.fs.later hb4).note h1 h2 (x := T) (v := v) (W' := W') (by rw [← ha]; exact hx) (by rw [← ha, Nat.mul_comm 2 i]; exact hW)
    exact ⟨he, hn⟩
  have HRW : Hid (W.heap.size ≤ R) := by show W.heap.size ≤ R; omega
  clear a1 fa1 HW1 hR hY hb2 hi
  go_region_held3 (fun w' => F10 w' A C B P X Y (i : Int) f0 f1 f2 nx g0 g1 g2 yx)
    (first
      | with_reducible exact k2
      | with_reducible exact k3
      | with_reducible exact k4
      | with_reducible exact k5
      | fail)
    (first
      | (go_at_call 105; (with_reducible refine (unhide (HI _)).mono ?_); rintro e w3 ⟨rfl, hb3⟩; have b3 := hbd.later hb3; have k3 := b3.ten; rw [hP] at k3)
      | (go_at_call 101; (with_reducible refine (unhide (HT _)).mono ?_); rintro e w4 ⟨⟨v, rfl, hv⟩, hb4⟩; have b4 := b3.later hb4; have k4 := b4.ten; rw [hP] at k4)
      | (go_at_call 106; (with_reducible refine (unhide HN _ _ _ b3 (by have := hb3.size; simp at this; have := (unhide HK2).size; omega) hb4 hv).mono ?_); rintro e w5 ⟨rfl, fs5, hk5⟩; have b5 := b4.kept fs5 hk5; have k5 := b5.ten; rw [hP] at k5)
      | fail)
  have hk4 : Kept [A, B] W w4 := ((unhide HK2).trans (Kept.of_below (w' := w3) ⟨hb3.os, hb3.tape, hb3.output, hb3.size, hb3.block⟩)).trans (Kept.of_below hb4)
  have HK5 := hide (hk4.trans (hk5.mono fun k hk => by simp at hk; simp [hk]))
  obtain ⟨x0, x1, x2, x3⟩ := k5.2.1
  obtain ⟨y0, y1, y2, y3⟩ := k5.2.2
  have HB5 := hide b5
  clear k2 k3 k4 k5 b3 b4 b5 hbd hb3 hb4 hv fs5 hk5 hk4 HN HT HI HK2
  go_wp2_with fail
  refine (unhide (HJ _)).mono ?_
  rintro e w6 ⟨rfl, hb6⟩
  have b6 := (unhide HB5).later hb6
  have z0 : w6.cell? ⟨R, 0, none⟩ = some (.int .u8 0) := block_cell b6.r
  have z1 : w6.cell? ⟨R, 1, none⟩ = some (.int .u8 0) := block_cell b6.r
  have z2 : w6.cell? ⟨R, 2, none⟩ = some (.int .u8 0) := block_cell b6.r
  have z3 : w6.cell? ⟨R, 3, none⟩ = some (.int .u64 0) := block_cell b6.r
  have zf : ∀ i, w6.frozen? ⟨R, i, none⟩ = false := fun i => block_free b6.r
  have HB6 := hide b6
  have HK6 := hide ((unhide HK5).trans (Kept.of_below hb6))
  clear b6 hb6 HB5 HK5 x0 x1 x2 x3 y0 y1 y2 y3 HJ
  go_wp2
  refine bodyPost_ret (v := .tuple #[.agg #[.int .u8 s0, .int .u8 s1, .int .u8 s2, .int .u64 (nx + yx)], .bool true]) ?_ rfl ⟨rfl, ?_, ?_⟩
  · simp [results, Tryz.results107, go_sem, z0, z1, z2, z3]
  · exact (unhide HB6).fs.poke4 (unhide HB6).r _ _ _ _
  · have hR := unhide HRW
    exact ((((unhide HK6).fresh hR _).fresh hR _).fresh hR _).fresh hR _

end Go.Proofs.YtbjobbkgelipmaaGreat

/-
  An honest proof is accepted: plain lists.
-/
namespace Go.Proofs.YtbjobbkgelipmaaGreat
open Go.RowKit

theorem numB_longB_take (n : Int) (h0 : 0 ≤ n) (h1 : n < 18446744073709551616) : ∀ k, k ≤ 8 → numB ((longB n).take k) = n / 256 ^ (8 - k)
  | 0, _ => by
    have e : (256 : Int) ^ (8 - 0) = 18446744073709551616 := by decide
    rw [e, Int.ediv_eq_zero_of_lt h0 h1]; rfl
  | k + 1, hk => by
    rw [longB_take_snoc n k (by omega), numB_snoc, numB_longB_take n h0 h1 k (by omega)]
    have e1 : ((longAt n k).toNat : Int) = n / 256 ^ (7 - k) % 256 := by
      unfold longAt
      rw [lowByte_toNat, show (2 : Int) ^ (8 * (7 - k)) = 256 ^ (7 - k) by rw [Int.pow_mul]; rfl]
    have e2 : (256 : Int) ^ (8 - k) = 256 ^ (7 - k) * 256 := by rw [show 8 - k = (7 - k) + 1 by omega, Int.pow_succ]
    rw [e1, e2, ← Int.ediv_ediv_of_nonneg (Int.le_of_lt (Int.pow_pos (by decide))), show 8 - (k + 1) = 7 - k by omega]
    omega
theorem numB_longB (n : Int) (h0 : 0 ≤ n) (h1 : n < 18446744073709551616) : numB (longB n) = n := by
  have h := numB_longB_take n h0 h1 8 (Nat.le_refl _)
  rw [List.take_of_length_le (by rw [longB_length]; omega)] at h
  rw [h]
  simp
/-- A side read back. -/
theorem sideAt_sideB (pre suf : List UInt8) (y : Dg × Int) (h0 : 0 ≤ y.2) (h1 : y.2 < 18446744073709551616) : sideAt (pre ++ (sideB y ++ suf)) pre.length = y := by
  obtain ⟨⟨a, b, c⟩, n⟩ := y
  have e : pre ++ (sideB ((a, b, c), n) ++ suf) = (pre ++ [a, b, c]) ++ (longB n ++ suf) := by simp [sideB, dgB]
  unfold sideAt
  have g : ∀ k, k < 3 → (pre ++ (sideB ((a, b, c), n) ++ suf)).getD (pre.length + k) 0 = [a, b, c].getD k 0 := fun k hk => by
    rw [List.getD_eq_getElem?_getD, List.getD_eq_getElem?_getD, List.getElem?_append_right (by omega), show pre.length + k - pre.length = k by omega]
    simp only [sideB, dgB]
    rw [List.append_assoc, List.getElem?_append_left (by simpa using hk)]
  have g0 := g 0 (by omega)
  have g1 := g 1 (by omega)
  have g2 := g 2 (by omega)
  rw [Nat.add_zero] at g0
  rw [g0, g1, g2]
  have d : ((pre ++ (sideB ((a, b, c), n) ++ suf)).drop (pre.length + 3)).take 8 = longB n := by
    rw [e, List.drop_left' (by simp), List.take_left' (longB_length n)]
  rw [d, numB_longB n h0 h1]
  rfl

/-- An honest proof's bytes. -/
def honP (ls : List LeafD) (h p : Nat) (x : LeafD) : List UInt8 := [UInt8.ofNat h, UInt8.ofNat p] ++ leafB x.nm.data.toList x.bal x.salt ++ sidesB (besideT ls p h)
theorem u8_small {n : Nat} (h : n < 256) : (UInt8.ofNat n).toNat = n := UInt8.toNat_ofNat_of_lt' h
theorem honP_form (ls : List LeafD) (h p : Nat) (x : LeafD) : honP ls h p x = UInt8.ofNat h :: UInt8.ofNat p :: UInt8.ofNat x.nm.size :: (x.nm.data.toList ++ (longB x.bal ++ (longB x.salt ++ sidesB (besideT ls p h)))) := by
  have hs : x.nm.data.toList.length = x.nm.size := by simp
  simp [honP, leafB]
theorem honP_len (ls : List LeafD) (h p : Nat) (x : LeafD) : (honP ls h p x).length = 19 + x.nm.size + 11 * h := by
  have hs : x.nm.data.toList.length = x.nm.size := by simp
  rw [honP_form]
  simp only [List.length_cons, List.length_append, longB_length, sidesB_len, besideT_len, hs]
  omega
theorem honP_bytes (ls : List LeafD) (h p : Nat) (x : LeafD) (hh : h ≤ 6) (hp : p < 256) (hn : x.nm.size ≤ 8) : bAt (honP ls h p x) 0 = h ∧ bAt (honP ls h p x) 1 = p ∧ bAt (honP ls h p x) 2 = x.nm.size := by
  rw [honP_form]
  unfold bAt
  exact ⟨u8_small (by omega), u8_small hp, u8_small (by omega)⟩
theorem honP_head (ls : List LeafD) (h p : Nat) (x : LeafD) (hh : h ≤ 6) (hp : p < 2 ^ h) (hn1 : 1 ≤ x.nm.size) (hn : x.nm.size ≤ 8) : accHead h (honP ls h p x) := by
  have h64 : 2 ^ h ≤ 2 ^ 6 := Nat.pow_le_pow_right (by omega) hh
  obtain ⟨b0, b1, b2⟩ := honP_bytes ls h p x hh (by omega) hn
  have hl := honP_len ls h p x
  refine ⟨by omega, b0, by rw [b1]; exact hp, by omega, by omega, by rw [b2]; exact hl⟩
theorem honP_name (ls : List LeafD) (h p : Nat) (x : LeafD) (hh : h ≤ 6) (hp : p < 256) (hn : x.nm.size ≤ 8) : accName (honP ls h p x) = x.nm.data.toList := by
  have hs : x.nm.data.toList.length = x.nm.size := by simp
  unfold accName
  rw [(honP_bytes ls h p x hh hp hn).2.2, honP_form]
  simp only [List.drop_succ_cons, List.drop_zero]
  rw [← hs, List.take_left]
theorem honP_nums (ls : List LeafD) (h p : Nat) (x : LeafD) (hh : h ≤ 6) (hp : p < 256) (hok : x.ok) : accBal (honP ls h p x) = x.bal ∧ accSalt (honP ls h p x) = x.salt := by
  have hs : x.nm.data.toList.length = x.nm.size := by simp
  obtain ⟨hn, k1, k2, k3, k4⟩ := hok
  unfold accBal accSalt
  rw [(honP_bytes ls h p x hh hp hn).2.2, honP_form]
  have e1 : (UInt8.ofNat h :: UInt8.ofNat p :: UInt8.ofNat x.nm.size :: (x.nm.data.toList ++ (longB x.bal ++ (longB x.salt ++ sidesB (besideT ls p h))))).drop (3 + x.nm.size) = longB x.bal ++ (longB x.salt ++ sidesB (besideT ls p h)) := by
    rw [show 3 + x.nm.size = x.nm.size + 1 + 1 + 1 by omega]
    simp only [List.drop_succ_cons]
    rw [← hs, List.drop_left]
  have e2 : (UInt8.ofNat h :: UInt8.ofNat p :: UInt8.ofNat x.nm.size :: (x.nm.data.toList ++ (longB x.bal ++ (longB x.salt ++ sidesB (besideT ls p h))))).drop (11 + x.nm.size) = longB x.salt ++ sidesB (besideT ls p h) := by
    rw [show 11 + x.nm.size = (3 + x.nm.size) + 8 by omega, ← List.drop_drop, e1, List.drop_left' (longB_length _)]
  rw [e1, e2, List.take_left' (longB_length _), List.take_left' (longB_length _), numB_longB _ k1 k2, numB_longB _ k3 k4]
  exact ⟨rfl, rfl⟩
theorem sidesB_split (ys : List (Dg × Int)) (k : Nat) (hk : k < ys.length) : sidesB ys = sidesB (ys.take k) ++ (sideB ys[k] ++ sidesB (ys.drop (k + 1))) := by
  have e : ys = ys.take k ++ (ys[k] :: ys.drop (k + 1)) := by rw [List.getElem_cons_drop, List.take_append_drop]
  unfold sidesB
  conv => lhs; rw [e]
  rw [List.map_append, List.map_cons, List.flatten_append, List.flatten_cons]
theorem honP_side (ls : List LeafD) (h p : Nat) (x : LeafD) (hh : h ≤ 6) (hp : p < 256) (hn : x.nm.size ≤ 8) (hb : ∀ y ∈ ls, 0 ≤ y.bal) (hm : sumL ls ≤ maxS) (k : Nat) (hk : k < h) : sideAt (honP ls h p x) (19 + bAt (honP ls h p x) 2 + 11 * k) = sideT ls k (sib (p / 2 ^ k)) := by
  have hs : x.nm.data.toList.length = x.nm.size := by simp
  rw [(honP_bytes ls h p x hh hp hn).2.2]
  have hkl : k < (besideT ls p h).length := by rw [besideT_len]; exact hk
  have hg : (besideT ls p h)[k] = sideT ls k (sib (p / 2 ^ k)) := by simp [besideT]
  have hr := side_range ls hb hm k (sib (p / 2 ^ k))
  have e : honP ls h p x = ([UInt8.ofNat h, UInt8.ofNat p] ++ leafB x.nm.data.toList x.bal x.salt ++ sidesB ((besideT ls p h).take k)) ++ (sideB (sideT ls k (sib (p / 2 ^ k))) ++ sidesB ((besideT ls p h).drop (k + 1))) := by
    unfold honP
    rw [sidesB_split _ k hkl, hg]
    simp
  have hl : ([UInt8.ofNat h, UInt8.ofNat p] ++ leafB x.nm.data.toList x.bal x.salt ++ sidesB ((besideT ls p h).take k)).length = 19 + x.nm.size + 11 * k := by
    simp only [List.length_append, leafB_length, sidesB_len, List.length_take, besideT_len, List.length_cons, List.length_nil, hs]
    omega
  rw [e, ← hl]
  exact sideAt_sideB _ _ _ hr.1 (by have := hr.2; unfold maxS at this; omega)
theorem hon_up (ls : List LeafD) (h p : Nat) (x : LeafD) (hh : h ≤ 6) (hp : p < 2 ^ h) (hn1 : 1 ≤ x.nm.size) (hok : x.ok) (hx : ls[p]? = some x) (hb : ∀ y ∈ ls, 0 ≤ y.bal) (hm : sumL ls ≤ maxS) : ∀ k, k ≤ h → ∃ ts, accUp (honP ls h p x) k = some (ts, sideT ls k (p / 2 ^ k))
  | 0, _ => by
    have h64 : 2 ^ h ≤ 2 ^ 6 := Nat.pow_le_pow_right (by omega) hh
    refine ⟨[accText0 (honP ls h p x)], ?_⟩
    unfold accUp
    rw [accText0_leaf h _ (honP_head ls h p x hh hp hn1 hok.1), honP_name ls h p x hh (by omega) hok.1, (honP_nums ls h p x hh (by omega) hok).1, (honP_nums ls h p x hh (by omega) hok).2]
    rw [Nat.pow_zero, Nat.div_one]
    unfold sideT
    rw [hx]
  | k + 1, hk => by
    have h64 : 2 ^ h ≤ 2 ^ 6 := Nat.pow_le_pow_right (by omega) hh
    obtain ⟨ts, hu⟩ := hon_up ls h p x hh hp hn1 hok hx hb hm k (by omega)
    have hsd := honP_side ls h p x hh (by omega) hok.1 hb hm k (by omega)
    obtain ⟨q, hq⟩ : ∃ q, p / 2 ^ k = q := ⟨_, rfl⟩
    have hq2 : p / 2 ^ (k + 1) = q / 2 := by rw [← hq, Nat.div_div_eq_div_mul, Nat.pow_succ]
    rw [hq] at hu hsd
    have r0 := side_range ls hb hm k q
    have r1 := side_range ls hb hm k (sib q)
    have r2 := side_range ls hb hm (k + 1) (q / 2)
    have hup := side_up ls hb hm k (q / 2)
    have hpair : upText q (sideT ls k q) (sideT ls k (sib q)) = 1 :: (sideB (sideT ls k (2 * (q / 2))) ++ sideB (sideT ls k (2 * (q / 2) + 1))) ∧ (sideT ls k q).2 + (sideT ls k (sib q)).2 = (sideT ls k (2 * (q / 2))).2 + (sideT ls k (2 * (q / 2) + 1)).2 := by
      unfold upText sib
      by_cases ho : q % 2 = 1
      · rw [if_pos ho, if_pos ho, show 2 * (q / 2) = q - 1 by omega, show q - 1 + 1 = q by omega]
        exact ⟨rfl, by omega⟩
      · rw [if_neg ho, if_neg ho, show 2 * (q / 2) = q by omega]
        exact ⟨rfl, rfl⟩
    have hsum : (sideT ls k q).2 + (sideT ls k (sib q)).2 = (sideT ls (k + 1) (q / 2)).2 := by rw [hpair.2, hup]; rfl
    have hb1 := (honP_bytes ls h p x hh (by omega) hok.1).2.1
    refine ⟨ts ++ [upText q (sideT ls k q) (sideT ls k (sib q))], ?_⟩
    rw [accUp_step hu hsd (fun h => by omega), hb1, hq, hq2, hup]
    unfold nodeS
    rw [hpair.1, hpair.2]
/-- An honest proof is accepted, and tells its leaf. -/
theorem honest (ls : List LeafD) (h p : Nat) (x : LeafD) (hh : h ≤ 6) (hp : p < 2 ^ h) (hn1 : 1 ≤ x.nm.size) (hok : x.ok) (hx : ls[p]? = some x) (hb : ∀ y ∈ ls, 0 ≤ y.bal) (hm : sumL ls ≤ maxS) :
    verAns (reportB ls h) (honP ls h p x) = (x.nm.data.toList, x.bal, 0) := by
  have h64 : 2 ^ h ≤ 2 ^ 6 := Nat.pow_le_pow_right (by omega) hh
  have hr := side_range ls hb hm h 0
  have hroot : repRoot (reportB ls h) = sideT ls h 0 := by
    unfold repRoot reportB
    have := sideAt_sideB [UInt8.ofNat h] [] (sideT ls h 0) hr.1 (by have := hr.2; unfold maxS at this; omega)
    simpa using this
  have hH : repH (reportB ls h) = h := by
    unfold repH reportB
    exact u8_small (by omega)
  have hlen : (reportB ls h).length = 12 := by unfold reportB; rw [List.length_cons, sideB_len]
  have hrep : repOk (reportB ls h) := ⟨⟨hlen, by have : repH (reportB ls h) ≤ 6 := by rw [hH]; exact hh
                                                 exact this⟩, by rw [hroot]; exact hr.2⟩
  obtain ⟨ts, hu⟩ := hon_up ls h p x hh hp hn1 hok hx hb hm h (Nat.le_refl _)
  rw [Nat.div_eq_of_lt hp] at hu
  have hbal := (honP_nums ls h p x hh (by omega) hok).1
  have hxm : x ∈ ls := List.mem_of_getElem? hx
  have hle : x.bal ≤ maxS := by
    have h0 := side_range ls hb hm 0 p
    have e : (sideT ls 0 p).2 = x.bal := by unfold sideT; rw [hx]
    omega
  have hacc : (accOk h (sideT ls h 0) (honP ls h p x)).isSome = true := by
    unfold accOk accTexts
    rw [hbal, if_neg (by omega), hu]
    simp
  rw [verAns_yes ⟨hrep, by rw [hH]; exact honP_head ls h p x hh hp hn1 hok.1, by rw [hH, hroot]; exact hacc⟩, honP_name ls h p x hh (by omega) hok.1, hbal]

end Go.Proofs.YtbjobbkgelipmaaGreat
