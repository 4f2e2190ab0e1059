/-
  What titheref's Verify answers, in plain words.
-/
import Derived.Test.YtbjobbkgelipmaaGreatVer
import Derived.Test.YtbjobbkgelipmaaGreatAcc1
namespace Go.Proofs.YtbjobbkgelipmaaGreat
open Go.RowKit

open Classical in
/-- What a Verify must answer: a name, a balance, an error. -/
noncomputable def verAns (rep prf : List UInt8) : List UInt8 × Int × Int :=
  if repOk rep then (if verOk rep prf then (accName prf, accBal prf, 0) else ([], 0, 9)) else ([], 0, 8)

theorem verAns_norep {rep prf : List UInt8} (h : ¬ repOk rep) : verAns rep prf = ([], 0, 8) := if_neg h
theorem verAns_no {rep prf : List UInt8} (h : repOk rep) (h2 : ¬ verOk rep prf) : verAns rep prf = ([], 0, 9) := by unfold verAns; rw [if_pos h, if_neg h2]
theorem verAns_yes {rep prf : List UInt8} (h2 : verOk rep prf) : verAns rep prf = (accName prf, accBal prf, 0) := by unfold verAns; rw [if_pos h2.1, if_pos h2]

theorem refver_any (r s : ByteArray) (w : World) (hr : r.size ≤ 140737488351232) (hs : s.size ≤ 140737488351232) :
    Calls Tryz.prog 43 #[.string r, .string s] w fun e w' => e = .returned (verV (verAns r.data.toList s.data.toList).1 (verAns r.data.toList s.data.toList).2.1 (verAns r.data.toList s.data.toList).2.2) ∧ Below w.heap.size w w' := by
  by_cases h0 : repOk r.data.toList
  · by_cases h1 : accHead (repH r.data.toList) s.data.toList
    · have hG := fun w => accepted_good (repH r.data.toList) (repRoot r.data.toList).1 (repRoot r.data.toList).2 s w h0.1.2 h1
      cases h2 : accOk (repH r.data.toList) (repRoot r.data.toList) s.data.toList with
      | none =>
        have h2' : (if maxS < accBal s.data.toList then none else accTexts (repH r.data.toList) (repRoot r.data.toList) s.data.toList) = none := h2
        rw [verAns_no h0 (fun h => by have := h.2.2; rw [h2] at this; cases this)]
        refine refver_no r s w h0 fun w => (hG w).mono fun e w' ⟨hb, pl, nm, bal, salt, a, k, c, he⟩ => ⟨⟨pl, nm, bal, salt, a, k, c, ?_⟩, hb⟩
        rw [h2'] at he
        exact he
      | some ts =>
        have h2' : (if maxS < accBal s.data.toList then none else accTexts (repH r.data.toList) (repRoot r.data.toList) s.data.toList) = some ts := h2
        rw [verAns_yes ⟨h0, h1, by rw [h2]; rfl⟩]
        refine refver_yes r s w _ _ h0 fun w => (hG w).mono fun e w' ⟨hb, pl, nm, bal, salt, a, k, c, he⟩ => ⟨⟨(bAt s.data.toList 1 : Int), accSalt s.data.toList, a, ts.length, c, ?_⟩, hb⟩
        rw [h2'] at he
        exact he.1
    · rw [verAns_no h0 (fun h => h1 h.2.1)]
      exact refver_no r s w h0 fun w => (accepted_bad (repH r.data.toList) (repRoot r.data.toList).1 (repRoot r.data.toList).2 s w h0.1.2 hs h1).mono fun e w' ⟨he, hb⟩ => ⟨⟨0, ⟨#[]⟩, 0, 0, none, 0, 0, he⟩, hb⟩
  · rw [verAns_norep h0]
    exact refver_norep r s w hr h0

end Go.Proofs.YtbjobbkgelipmaaGreat
