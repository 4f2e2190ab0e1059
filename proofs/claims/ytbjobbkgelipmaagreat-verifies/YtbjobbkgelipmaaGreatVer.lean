/-
  The walk of titheref's Verify.
-/
import Derived.Test.YtbjobbkgelipmaaGreatAcc2
namespace Go.Proofs.YtbjobbkgelipmaaGreat
open Go.RowKit

def repOk (l : List UInt8) : Prop := repHead l ∧ (repRoot l).2 ≤ maxS
/-- The texts of a proof that a report accepts. -/
def accOk (h : Nat) (root : Dg × Int) (l : List UInt8) : Option (List (List UInt8)) := if maxS < accBal l then none else accTexts h root l
def verOk (rep prf : List UInt8) : Prop := repOk rep ∧ accHead (repH rep) prf ∧ (accOk (repH rep) (repRoot rep) prf).isSome = true
def verV (nm : List UInt8) (v : Int) (e : Int) : Value := .tuple #[strV nm, .int .u64 v, .int .i64 e]

set_option maxHeartbeats 1000000 in
set_option maxRecDepth 100000 in
theorem refver_norep (r s : ByteArray) (w : World) (hr : r.size ≤ 140737488351232) (hb : ¬ repOk r.data.toList) :
    Calls Tryz.prog 43 #[.string r, .string s] w fun e w' => e = .returned (verV [] 0 8) ∧ Below w.heap.size w w' := by
  by_cases hh : repHead r.data.toList
  · have hle : leMax (repRoot r.data.toList).2 = false := by
      unfold leMax
      exact decide_eq_false (fun h => hb ⟨hh, h⟩)
    have HC := fun w => hide (report_good r w hh)
    obtain ⟨d0, d1, d2, hD⟩ : ∃ d0 d1 d2 : Int, sideV (repRoot r.data.toList).1 (repRoot r.data.toList).2 = .agg #[.int .u8 d0, .int .u8 d1, .int .u8 d2, .int .u64 (repRoot r.data.toList).2] := ⟨_, _, _, rfl⟩
    rw [hD, hle] at HC
    generalize (repRoot r.data.toList).2 = n at *
    clear hD hle hb hh
    go_enter Tryz.func43, Tryz.ntmps43
    go_wp2_with fail
    refine (unhide (HC _)).mono ?_
    rintro e w1 ⟨rfl, hb1⟩
    have HB := hide hb1
    clear hb1
    go_wp2
    go_ret3
    exact ⟨rfl, (unhide HB).alloc (unhide HB).size _⟩
  · have HC := fun w => hide (report_bad r w hr hh)
    unfold sideZ at HC
    clear hb hh
    go_enter Tryz.func43, Tryz.ntmps43
    go_wp2_with fail
    refine (unhide (HC _)).mono ?_
    rintro e w1 ⟨rfl, hb1⟩
    have HB := hide hb1
    clear hb1
    go_wp2
    go_ret3
    exact ⟨rfl, (unhide HB).alloc (unhide HB).size _⟩

set_option maxHeartbeats 1000000 in
set_option maxRecDepth 100000 in
/-- A report that is one; the proof is not accepted. -/
theorem refver_no (r s : ByteArray) (w : World) (hb : repOk r.data.toList)
    (hA : ∀ w, Calls Tryz.prog 63 #[.int .i64 (repH r.data.toList : Int), sideV (repRoot r.data.toList).1 (repRoot r.data.toList).2, .string s] w fun e w' => (∃ (pl : Int) (nm : ByteArray) (bal salt : Int) (a : Option Addr) (k c : Nat), e = .returned (.tuple #[proofV pl nm bal salt a k c, .bool false])) ∧ Below w.heap.size w w') :
    Calls Tryz.prog 43 #[.string r, .string s] w fun e w' => e = .returned (verV [] 0 9) ∧ Below w.heap.size w w' := by
  have hle : leMax (repRoot r.data.toList).2 = true := by
    unfold leMax
    exact decide_eq_true hb.2
  have HC := fun w => hide (report_good r w hb.1)
  obtain ⟨d0, d1, d2, hD⟩ : ∃ d0 d1 d2 : Int, sideV (repRoot r.data.toList).1 (repRoot r.data.toList).2 = .agg #[.int .u8 d0, .int .u8 d1, .int .u8 d2, .int .u64 (repRoot r.data.toList).2] := ⟨_, _, _, rfl⟩
  rw [hD, hle] at HC
  rw [hD] at hA
  have HA := fun w => hide (hA w)
  generalize (repRoot r.data.toList).2 = n at *
  generalize repH r.data.toList = h at *
  clear hD hle hb hA
  go_enter Tryz.func43, Tryz.ntmps43
  go_wp2_with fail
  refine (unhide (HC _)).mono ?_
  rintro e w1 ⟨rfl, hb1⟩
  have HB := hide ((hb1.alloc hb1.size) (Obj.cells #[Value.int IntKind.u8 d0, Value.int IntKind.u8 d1, Value.int IntKind.u8 d2, Value.int IntKind.u64 n] 49))
  have hz := hb1.size
  clear hb1 HC
  go_wp2_with fail
  refine (unhide (HA _)).mono ?_
  rintro e w2 ⟨⟨pl, nm, bal, salt, a, k, c, rfl⟩, hb2⟩
  have HB2 := hide ((unhide HB).trans (hb2.mono (by simp; omega)))
  clear hb2 HB HA
  unfold proofV
  go_wp2
  go_ret3
  exact ⟨rfl, (unhide HB2).alloc (unhide HB2).size _⟩

set_option maxHeartbeats 1000000 in
set_option maxRecDepth 100000 in
/-- A proof that is accepted. -/
theorem refver_yes (r s : ByteArray) (w : World) (nl : List UInt8) (bal : Int) (hb : repOk r.data.toList)
    (hA : ∀ w, Calls Tryz.prog 63 #[.int .i64 (repH r.data.toList : Int), sideV (repRoot r.data.toList).1 (repRoot r.data.toList).2, .string s] w fun e w' => (∃ (pl salt : Int) (a : Option Addr) (k c : Nat), e = .returned (.tuple #[proofV pl ⟨nl.toArray⟩ bal salt a k c, .bool true])) ∧ Below w.heap.size w w') :
    Calls Tryz.prog 43 #[.string r, .string s] w fun e w' => e = .returned (verV nl bal 0) ∧ Below w.heap.size w w' := by
  have hle : leMax (repRoot r.data.toList).2 = true := by
    unfold leMax
    exact decide_eq_true hb.2
  have HC := fun w => hide (report_good r w hb.1)
  obtain ⟨d0, d1, d2, hD⟩ : ∃ d0 d1 d2 : Int, sideV (repRoot r.data.toList).1 (repRoot r.data.toList).2 = .agg #[.int .u8 d0, .int .u8 d1, .int .u8 d2, .int .u64 (repRoot r.data.toList).2] := ⟨_, _, _, rfl⟩
  rw [hD, hle] at HC
  rw [hD] at hA
  have HA := fun w => hide (hA w)
  generalize (repRoot r.data.toList).2 = n at *
  generalize repH r.data.toList = h at *
  obtain ⟨nm, hnm⟩ : ∃ nm : ByteArray, nm = ⟨nl.toArray⟩ := ⟨_, rfl⟩
  rw [← hnm] at HA
  have HNM := hide hnm
  clear hD hle hb hA hnm
  go_enter Tryz.func43, Tryz.ntmps43
  go_wp2_with fail
  refine (unhide (HC _)).mono ?_
  rintro e w1 ⟨rfl, hb1⟩
  have HB := hide ((hb1.alloc hb1.size) (Obj.cells #[Value.int IntKind.u8 d0, Value.int IntKind.u8 d1, Value.int IntKind.u8 d2, Value.int IntKind.u64 n] 49))
  have hz := hb1.size
  clear hb1 HC
  go_wp2_with fail
  refine (unhide (HA _)).mono ?_
  rintro e w2 ⟨⟨pl, salt, a, k, c, rfl⟩, hb2⟩
  have HB2 := hide ((unhide HB).trans (hb2.mono (by simp; omega)))
  clear hb2 HB HA
  unfold proofV
  go_wp2_with fail
  go_quiet (fail)
  go_wp2
  go_ret3
  refine ⟨?_, below_drewN ((unhide HB2).alloc (unhide HB2).size _) _⟩
  rw [unhide HNM]
  rfl

end Go.Proofs.YtbjobbkgelipmaaGreat
