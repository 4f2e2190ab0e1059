/-
  The walk of titheref's Verify.
-/
import Derived.Deep.AppendLies
import Derived.Test.YtbjobbkgelipmaaGreatXtab
import Derived.Test.YtbjobbkgelipmaaGreatBkad
import Derived.Test.YtbjobbkgelipmaaGreatXtaa
import Derived.Test.YtbjobbkgelipmaaGreatBkaf
namespace Go.Proofs.YtbjobbkgelipmaaGreat
open Go.RowKit

def repOk (l : List UInt8) : Prop := repHead l ∧ (repRoot l).2 ≤ maxS
/-- The texts of a proof that a report accepts. -/
def accOk (h : Nat) (root : Dg × Int) (l : List UInt8) : Option (List (List UInt8)) := if maxS < accBal l then none else accTexts h root l
def verOk (rep prf : List UInt8) : Prop := repOk rep ∧ accHead (repH rep) prf ∧ (accOk (repH rep) (repRoot rep) prf).isSome = true
def verV (nm : List UInt8) (v : Int) (e : Int) : Value := .tuple #[strV nm, .int .u64 v, .int .i64 e]

set_option maxHeartbeats 1000000 in
set_option maxRecDepth 100000 in
theorem refver_norep (r s : ByteArray) (w : World) (hr : r.size ≤ 140737488351232) (hb : ¬ repOk r.data.toList) :
    Calls Tryz.prog 43 #[.string r, .string s] w fun e w' => e = .returned (verV [] 0 8) ∧ Below w.heap.size w w' := by
  by_cases hh : repHead r.data.toList
  · have hle : leMax (repRoot r.data.toList).2 = false := by
      unfold leMax
      exact decide_eq_false (fun h => hb ⟨hh, h⟩)
    have HC := fun w => hide (report_good r w hh)
    obtain ⟨d0, d1, d2, hD⟩ : ∃ d0 d1 d2 : Int, sideV (repRoot r.data.toList).1 (repRoot r.data.toList).2 = .agg #[.int .u8 d0, .int .u8 d1, .int .u8 d2, .int .u64 (repRoot r.data.toList).2] := ⟨_, _, _, rfl⟩
    rw [hD, hle] at HC
    generalize (repRoot r.data.toList).2 = n at *
    clear hD hle hb hh
    go_enter Tryz.func43, Tryz.ntmps43
    go_wp2_with fail
    refine (unhide (HC _)).mono ?_
    rintro e w1 ⟨rfl, hb1⟩
    have HB := hide hb1
    clear hb1
    go_wp2
    go_ret3
    exact ⟨rfl, (unhide HB).alloc (unhide HB).size _⟩
  · have HC := fun w => hide (report_bad r w hr hh)
    unfold sideZ at HC
    clear hb hh
    go_enter Tryz.func43, Tryz.ntmps43
    go_wp2_with fail
    refine (unhide (HC _)).mono ?_
    rintro e w1 ⟨rfl, hb1⟩
    have HB := hide hb1
    clear hb1
    go_wp2
    go_ret3
    exact ⟨rfl, (unhide HB).alloc (unhide HB).size _⟩

set_option maxHeartbeats 1000000 in
set_option maxRecDepth 100000 in
/-- A report that is one; the proof is not accepted. -/
theorem refver_no (r s : ByteArray) (w : World) (hb : repOk r.data.toList)
    (hA : ∀ w, Calls Tryz.prog 63 #[.int .i64 (repH r.data.toList : Int), sideV (repRoot r.data.toList).1 (repRoot r.data.toList).2, .string s] w fun e w' => (∃ (pl : Int) (nm : ByteArray) (bal salt : Int) (a : Option Addr) (k c : Nat), e = .returned (.tuple #[proofV pl nm bal salt a k c, .bool false])) ∧ Below w.heap.size w w') :
    Calls Tryz.prog 43 #[.string r, .string s] w fun e w' => e = .returned (verV [] 0 9) ∧ Below w.heap.size w w' := by
  have hle : leMax (repRoot r.data.toList).2 = true := by
    unfold leMax
    exact decide_eq_true hb.2
  have HC := fun w => hide (report_good r w hb.1)
  obtain ⟨d0, d1, d2, hD⟩ : ∃ d0 d1 d2 : Int, sideV (repRoot r.data.toList).1 (repRoot r.data.toList).2 = .agg #[.int .u8 d0, .int .u8 d1, .int .u8 d2, .int .u64 (repRoot r.data.toList).2] := ⟨_, _, _, rfl⟩
  rw [hD, hle] at HC
  rw [hD] at hA
  have HA := fun w => hide (hA w)
  generalize (repRoot r.data.toList).2 = n at *
  generalize repH r.data.toList = h at *
  clear hD hle hb hA
  go_enter Tryz.func43, Tryz.ntmps43
  go_wp2_with fail
  refine (unhide (HC _)).mono ?_
  rintro e w1 ⟨rfl, hb1⟩
  have HB := hide ((hb1.alloc hb1.size) (Obj.cells #[Value.int IntKind.u8 d0, Value.int IntKind.u8 d1, Value.int IntKind.u8 d2, Value.int IntKind.u64 n] 49))
  have hz := hb1.size
  clear hb1 HC
  go_wp2_with fail
  refine (unhide (HA _)).mono ?_
  rintro e w2 ⟨⟨pl, nm, bal, salt, a, k, c, rfl⟩, hb2⟩
  have HB2 := hide ((unhide HB).trans (hb2.mono (by simp; omega)))
  clear hb2 HB HA
  unfold proofV
  go_wp2
  go_ret3
  exact ⟨rfl, (unhide HB2).alloc (unhide HB2).size _⟩

set_option maxHeartbeats 1000000 in
set_option maxRecDepth 100000 in
/-- A proof that is accepted. -/
theorem refver_yes (r s : ByteArray) (w : World) (nl : List UInt8) (bal : Int) (hb : repOk r.data.toList)
    (hA : ∀ w, Calls Tryz.prog 63 #[.int .i64 (repH r.data.toList : Int), sideV (repRoot r.data.toList).1 (repRoot r.data.toList).2, .string s] w fun e w' => (∃ (pl salt : Int) (a : Option Addr) (k c : Nat), e = .returned (.tuple #[proofV pl ⟨nl.toArray⟩ bal salt a k c, .bool true])) ∧ Below w.heap.size w w') :
    Calls Tryz.prog 43 #[.string r, .string s] w fun e w' => e = .returned (verV nl bal 0) ∧ Below w.heap.size w w' := by
  have hle : leMax (repRoot r.data.toList).2 = true := by
    unfold leMax
    exact decide_eq_true hb.2
  have HC := fun w => hide (report_good r w hb.1)
  obtain ⟨d0, d1, d2, hD⟩ : ∃ d0 d1 d2 : Int, sideV (repRoot r.data.toList).1 (repRoot r.data.toList).2 = .agg #[.int .u8 d0, .int .u8 d1, .int .u8 d2, .int .u64 (repRoot r.data.toList).2] := ⟨_, _, _, rfl⟩
  rw [hD, hle] at HC
  rw [hD] at hA
  have HA := fun w => hide (hA w)
  generalize (repRoot r.data.toList).2 = n at *
  generalize repH r.data.toList = h at *
  obtain ⟨nm, hnm⟩ : ∃ nm : ByteArray, nm = ⟨nl.toArray⟩ := ⟨_, rfl⟩
  rw [← hnm] at HA
  have HNM := hide hnm
  clear hD hle hb hA hnm
  go_enter Tryz.func43, Tryz.ntmps43
  go_wp2_with fail
  refine (unhide (HC _)).mono ?_
  rintro e w1 ⟨rfl, hb1⟩
  have HB := hide ((hb1.alloc hb1.size) (Obj.cells #[Value.int IntKind.u8 d0, Value.int IntKind.u8 d1, Value.int IntKind.u8 d2, Value.int IntKind.u64 n] 49))
  have hz := hb1.size
  clear hb1 HC
  go_wp2_with fail
  refine (unhide (HA _)).mono ?_
  rintro e w2 ⟨⟨pl, salt, a, k, c, rfl⟩, hb2⟩
  have HB2 := hide ((unhide HB).trans (hb2.mono (by simp; omega)))
  clear hb2 HB HA
  unfold proofV
  go_wp2_with fail
  go_quiet (fail)
  go_wp2
  go_ret3
  refine ⟨?_, below_drewN ((unhide HB2).alloc (unhide HB2).size _) _⟩
  rw [unhide HNM]
  rfl

end Go.Proofs.YtbjobbkgelipmaaGreat

/-
  What titheref's Verify answers, in plain words.
-/
namespace Go.Proofs.YtbjobbkgelipmaaGreat
open Go.RowKit

open Classical in
/-- What a Verify must answer: a name, a balance, an error. -/
noncomputable def verAns (rep prf : List UInt8) : List UInt8 × Int × Int :=
  if repOk rep then (if verOk rep prf then (accName prf, accBal prf, 0) else ([], 0, 9)) else ([], 0, 8)

theorem verAns_norep {rep prf : List UInt8} (h : ¬ repOk rep) : verAns rep prf = ([], 0, 8) := if_neg h
theorem verAns_no {rep prf : List UInt8} (h : repOk rep) (h2 : ¬ verOk rep prf) : verAns rep prf = ([], 0, 9) := by unfold verAns; rw [if_pos h, if_neg h2]
theorem verAns_yes {rep prf : List UInt8} (h2 : verOk rep prf) : verAns rep prf = (accName prf, accBal prf, 0) := by unfold verAns; rw [if_pos h2.1, if_pos h2]

theorem refver_any (r s : ByteArray) (w : World) (hr : r.size ≤ 140737488351232) (hs : s.size ≤ 140737488351232) :
    Calls Tryz.prog 43 #[.string r, .string s] w fun e w' => e = .returned (verV (verAns r.data.toList s.data.toList).1 (verAns r.data.toList s.data.toList).2.1 (verAns r.data.toList s.data.toList).2.2) ∧ Below w.heap.size w w' := by
  by_cases h0 : repOk r.data.toList
  · by_cases h1 : accHead (repH r.data.toList) s.data.toList
    · have hG := fun w => accepted_good (repH r.data.toList) (repRoot r.data.toList).1 (repRoot r.data.toList).2 s w h0.1.2 h1
      cases h2 : accOk (repH r.data.toList) (repRoot r.data.toList) s.data.toList with
      | none =>
        have h2' : (if maxS < accBal s.data.toList then none else accTexts (repH r.data.toList) (repRoot r.data.toList) s.data.toList) = none := h2
        rw [verAns_no h0 (fun h => by have := h.2.2; rw [h2] at this; cases this)]
        refine refver_no r s w h0 fun w => (hG w).mono fun e w' ⟨hb, pl, nm, bal, salt, a, k, c, he⟩ => ⟨⟨pl, nm, bal, salt, a, k, c, ?_⟩, hb⟩
        rw [h2'] at he
        exact he
      | some ts =>
        have h2' : (if maxS < accBal s.data.toList then none else accTexts (repH r.data.toList) (repRoot r.data.toList) s.data.toList) = some ts := h2
        rw [verAns_yes ⟨h0, h1, by rw [h2]; rfl⟩]
        refine refver_yes r s w _ _ h0 fun w => (hG w).mono fun e w' ⟨hb, pl, nm, bal, salt, a, k, c, he⟩ => ⟨⟨(bAt s.data.toList 1 : Int), accSalt s.data.toList, a, ts.length, c, ?_⟩, hb⟩
        rw [h2'] at he
        exact he.1
    · rw [verAns_no h0 (fun h => h1 h.2.1)]
      exact refver_no r s w h0 fun w => (accepted_bad (repH r.data.toList) (repRoot r.data.toList).1 (repRoot r.data.toList).2 s w h0.1.2 hs h1).mono fun e w' ⟨he, hb⟩ => ⟨⟨0, ⟨#[]⟩, 0, 0, none, 0, 0, he⟩, hb⟩
  · rw [verAns_norep h0]
    exact refver_norep r s w hr h0

end Go.Proofs.YtbjobbkgelipmaaGreat

/-
  What Extract answers, in plain words.
-/
namespace Go.Proofs.YtbjobbkgelipmaaGreat
open Go.RowKit

/-- A proof's place and texts. -/
def dataOf (h : Nat) (root : Dg × Int) (l : List UInt8) : Nat × List (List UInt8) := (bAt l 1, (accOk h root l).getD [])

/-- What Extract answers. -/
def ExtAns (R : List UInt8) (Ls : List (List UInt8)) (x y : List UInt8) (e : Int) : Prop :=
  (¬ repOk R ∧ x = [] ∧ y = [] ∧ e = 8) ∨ (repOk R ∧ (∃ l ∈ Ls, ¬ verOk R l) ∧ x = [] ∧ y = [] ∧ e = 9) ∨
  (repOk R ∧ (∀ l ∈ Ls, verOk R l) ∧ ¬ (Ls.map accName).Nodup ∧ x = [] ∧ y = [] ∧ e = 3) ∨
  (repOk R ∧ (∀ l ∈ Ls, verOk R l) ∧ (Ls.map accName).Nodup ∧ ExtR (repH R) (Ls.map (dataOf (repH R) (repRoot R))) x y ∧ e = 0)

theorem ExtAns.unique {R : List UInt8} {Ls : List (List UInt8)} {x y x' y' : List UInt8} {e e' : Int} (a : ExtAns R Ls x y e) (b : ExtAns R Ls x' y' e') : x = x' ∧ y = y' ∧ e = e' := by
  rcases a with ⟨a1, rfl, rfl, rfl⟩ | ⟨a1, ⟨l, hl, hn⟩, rfl, rfl, rfl⟩ | ⟨a1, a2, a3, rfl, rfl, rfl⟩ | ⟨a1, a2, a3, a4, rfl⟩ <;>
  rcases b with ⟨b1, rfl, rfl, rfl⟩ | ⟨b1, ⟨l', hl', hn'⟩, rfl, rfl, rfl⟩ | ⟨b1, b2, b3, rfl, rfl, rfl⟩ | ⟨b1, b2, b3, b4, rfl⟩
  all_goals first
    | exact ⟨rfl, rfl, rfl⟩
    | exact absurd a1 b1
    | exact absurd b1 a1
    | exact absurd (b2 l hl) hn
    | exact absurd (a2 l' hl') hn'
    | exact absurd b3 a3
    | exact absurd a3 b3
    | exact ⟨(a4.unique b4).1, (a4.unique b4).2, rfl⟩

end Go.Proofs.YtbjobbkgelipmaaGreat

/-
  titheref's Extract: what lies in memory; the contract of accepted, whole.
-/
namespace Go.Proofs.YtbjobbkgelipmaaGreat
open Go.RowKit

/-- What accepted answers. -/
def AccS (h : Nat) (root : Dg × Int) (l : List UInt8) (w : World) (e : Ending) (w' : World) : Prop :=
  Below w.heap.size w w' ∧ ((accHead h l ∧ ∃ ts g c, accOk h root l = some ts ∧ ts.length = h + 1 ∧ e = .returned (.tuple #[proofV (bAt l 1 : Int) ⟨(accName l).toArray⟩ (accBal l) (accSalt l) (some ⟨g, 0, none⟩) (h + 1) c, .bool true]) ∧ w'.ownsRow w.heap.size 9 1 (.slice (some ⟨g, 0, none⟩) (h + 1) c) (h + 1) (ts.map strV)) ∨
    (¬ (accHead h l ∧ (accOk h root l).isSome = true) ∧ ∃ (pl : Int) (nm : ByteArray) (bal salt : Int) (a : Option Addr) (k c : Nat), e = .returned (.tuple #[proofV pl nm bal salt a k c, .bool false])))

theorem accOk_len {h : Nat} {root : Dg × Int} {l : List UInt8} {ts : List (List UInt8)} (e : accOk h root l = some ts) : ts.length = h + 1 := by
  unfold accOk at e
  split at e
  · cases e
  · rename_i hb
    unfold accTexts at e
    split at e
    · rename_i ts' now hu
      split at e
      · have e' : ts' = ts := Option.some.inj e
        subst e'
        exact (accUp_le (by omega) (accBal_range l).1 hu).2.2
      · cases e
    · cases e
theorem accUp_ne {l : List UInt8} : ∀ {k : Nat} {ts : List (List UInt8)} {now : Dg × Int}, accUp l k = some (ts, now) → ∀ t ∈ ts, t ≠ []
  | 0, ts, now, h => by
    simp only [accUp, Option.some.injEq, Prod.mk.injEq] at h
    obtain ⟨rfl, _⟩ := h
    intro t ht
    simp at ht
    subst ht
    unfold accText0
    simp
  | k + 1, ts, now, h => by
    simp only [accUp] at h
    split at h
    · cases h
    · rename_i ts0 now0 hu
      split at h
      · cases h
      · simp only [Option.some.injEq, Prod.mk.injEq] at h
        obtain ⟨rfl, _⟩ := h
        intro t ht
        rcases List.mem_append.1 ht with ht | ht
        · exact accUp_ne hu t ht
        · simp at ht
          subst ht
          unfold upText
          split <;> simp
theorem accOk_ne {h : Nat} {root : Dg × Int} {l : List UInt8} {ts : List (List UInt8)} (e : accOk h root l = some ts) : ∀ t ∈ ts, t ≠ [] := by
  unfold accOk at e
  split at e
  · cases e
  · unfold accTexts at e
    split at e
    · rename_i ts' now hu
      split at e
      · have e' : ts' = ts := Option.some.inj e
        subst e'
        exact accUp_ne hu
      · cases e
    · cases e

theorem accepted_any (h : Nat) (d : Dg) (n : Int) (s : ByteArray) (w : World) (hh : h ≤ 6) (hm : s.size ≤ 140737488351232) :
    Calls Tryz.prog 63 #[.int .i64 (h : Int), sideV d n, .string s] w (AccS h (d, n) s.data.toList w) := by
  by_cases hb : accHead h s.data.toList
  · refine (accepted_good h d n s w hh hb).mono ?_
    rintro e w' ⟨hB, pl, nm, bal, salt, a, k, c, hm⟩
    refine ⟨hB, ?_⟩
    cases hA : accOk h (d, n) s.data.toList with
    | none =>
      have hA' : (if maxS < accBal s.data.toList then none else accTexts h (d, n) s.data.toList) = none := hA
      rw [hA'] at hm
      exact .inr ⟨fun hx => by simp at hx, pl, nm, bal, salt, a, k, c, hm⟩
    | some ts =>
      have hA' : (if maxS < accBal s.data.toList then none else accTexts h (d, n) s.data.toList) = some ts := hA
      rw [hA'] at hm
      have hl := accOk_len hA
      obtain ⟨he, hown⟩ := hm
      rw [hl] at he hown
      obtain ⟨g, cap, ea, _⟩ := hown.form (by omega)
      cases ea
      exact .inl ⟨hb, ts, g, c, rfl, hl, he, hown⟩
  · refine (accepted_bad h d n s w hh hm hb).mono ?_
    rintro e w' ⟨he, hB⟩
    exact ⟨hB, .inr ⟨fun hx => hb hx.1, 0, ⟨#[]⟩, 0, 0, none, 0, 0, he⟩⟩

/-- The same, in one form. -/
def AccF (h : Nat) (root : Dg × Int) (l : List UInt8) (w w' : World) (pl : Int) (nm : ByteArray) (bal salt : Int) (a : Option Addr) (k c : Nat) (ok : Bool) : Prop :=
  (ok = true ∧ accHead h l ∧ ∃ ts g, accOk h root l = some ts ∧ ts.length = h + 1 ∧ pl = (bAt l 1 : Int) ∧ nm = ⟨(accName l).toArray⟩ ∧ bal = accBal l ∧ salt = accSalt l ∧ a = some ⟨g, 0, none⟩ ∧ k = h + 1 ∧ w'.ownsRow w.heap.size 9 1 (.slice (some ⟨g, 0, none⟩) (h + 1) c) (h + 1) (ts.map strV)) ∨
  (ok = false ∧ ¬ (accHead h l ∧ (accOk h root l).isSome = true))
theorem AccS.one {h : Nat} {root : Dg × Int} {l : List UInt8} {w w' : World} {e : Ending} (a : AccS h root l w e w') : ∃ (pl : Int) (nm : ByteArray) (bal salt : Int) (ad : Option Addr) (k c : Nat) (ok : Bool), e = .returned (.tuple #[.agg #[.int .i64 pl, .string nm, .int .u64 bal, .int .u64 salt, .slice ad k c], .bool ok]) ∧ Below w.heap.size w w' ∧ Hid (AccF h root l w w' pl nm bal salt ad k c ok) := by
  obtain ⟨hb, ⟨h1, ts, g, c, h2, h3, h4, h5⟩ | ⟨h1, pl, nm, bal, salt, ad, k, c, h2⟩⟩ := a
  · exact ⟨_, _, _, _, _, _, _, true, h4, hb, hide (.inl ⟨rfl, h1, ts, g, h2, h3, rfl, rfl, rfl, rfl, rfl, rfl, h5⟩)⟩
  · exact ⟨pl, nm, bal, salt, ad, k, c, false, h2, hb, hide (.inr ⟨rfl, h1⟩)⟩

theorem AccF.to {h : Nat} {root : Dg × Int} {l : List UInt8} {w w0 w3 w4 : World} {pl : Int} {nm : ByteArray} {bal salt : Int} {ad : Option Addr} {k c : Nat} {ok : Bool} (a : AccF h root l w w3 pl nm bal salt ad k c ok) (h0 : w0.heap.size ≤ w.heap.size) (hs : ∀ g, w.heap.size ≤ g → g < w3.heap.size → w4.heap[g]? = w3.heap[g]?) : AccF h root l w0 w4 pl nm bal salt ad k c ok := by
  rcases a with ⟨h1, h2, ts, g, h3, h4, h5, h6, h7, h8, h9, h10, h11⟩ | h
  · refine .inl ⟨h1, h2, ts, g, h3, h4, h5, h6, h7, h8, h9, h10, own_lower (own_same h11 (fun b hb => ?_)) h0⟩
    have := h11.lt b hb
    exact hs b this.1 this.2
  · exact .inr h

/-- A proof's five cells. -/
def rvals (h : Nat) (r : List UInt8 × Nat × Nat) : List Value := [.int .i64 (bAt r.1 1 : Int), .string ⟨(accName r.1).toArray⟩, .int .u64 (accBal r.1), .int .u64 (accSalt r.1), .slice (some ⟨r.2.1, 0, none⟩) (h + 1) r.2.2]
theorem flat5 {α β : Type} (f : α → List β) (hf : ∀ r, (f r).length = 5) : ∀ (rows : List α) (k j : Nat) (hk : k < rows.length), j < 5 → (rows.flatMap f)[k * 5 + j]? = (f rows[k])[j]?
  | r :: rows, 0, j, _, hj => by
    rw [List.flatMap_cons, List.getElem?_append_left (by rw [hf]; omega)]
    simp
  | r :: rows, k + 1, j, hk, hj => by
    rw [List.flatMap_cons, List.getElem?_append_right (by rw [hf]; omega), hf, show (k + 1) * 5 + j - 5 = k * 5 + j by omega]
    have := flat5 f hf rows k j (by simpa using hk) hj
    simpa using this

/-- The proofs that have been accepted so far. -/
structure AllR (w : World) (N h : Nat) (root : Dg × Int) (v : Value) (rows : List (List UInt8 × Nat × Nat)) : Prop where
  own : w.ownsRow N 130 5 v rows.length (rows.flatMap (rvals h))
  txt : ∀ r ∈ rows, accHead h r.1 ∧ ∃ ts, accOk h root r.1 = some ts ∧ ts.length = h + 1 ∧ w.ownsRow N 9 1 (.slice (some ⟨r.2.1, 0, none⟩) (h + 1) r.2.2) (h + 1) (ts.map strV)

theorem AllR.cell {w : World} {N h : Nat} {root : Dg × Int} {v : Value} {rows : List (List UInt8 × Nat × Nat)} (a : AllR w N h root v rows) : ∃ b c, v = .slice b rows.length c ∧ rows.length ≤ c ∧ ∀ i (hi : i < rows.length), ∃ G, b = some ⟨G, 0, none⟩ ∧ ∀ j, j < 5 → w.cell? ⟨G, i * 5 + j, none⟩ = (rvals h rows[i])[j]? := by
  rcases a.own.2 with ⟨e1, e2⟩ | ⟨G, cap, cur, e1, e2, e3, e4, e5, e6, e7⟩
  · exact ⟨none, 0, by rw [e1, e2], by omega, fun i hi => by omega⟩
  · refine ⟨some ⟨G, 0, none⟩, cap, e1, e4, fun i hi => ⟨G, rfl, fun j hj => ?_⟩⟩
    have hown := a.own
    rw [e1] at hown
    rw [hown.cellAt _ (by omega), flat5 (rvals h) (fun _ => rfl) rows i j hi hj]

theorem AllR.ano {w : World} {N h : Nat} {root : Dg × Int} {v : Value} {rows : List (List UInt8 × Nat × Nat)} {Ls : List (List UInt8)} (a : AllR w N h root v rows) (hh : h ≤ 6) (hL : rows.map Prod.fst = Ls) : AnoM w v h (Ls.map (dataOf h root)) := by
  obtain ⟨b, c, e, hc, hg⟩ := a.cell
  have hlen : (Ls.map (dataOf h root)).length = rows.length := by rw [← hL]; simp
  have hD : ∀ i (hi : i < rows.length) (hi' : i < (Ls.map (dataOf h root)).length), (Ls.map (dataOf h root))[i] = dataOf h root (rows[i]).1 := fun i hi hi' => by
    subst hL; simp
  have hmem : ∀ d ∈ Ls.map (dataOf h root), ∃ r ∈ rows, d = dataOf h root r.1 := fun d hd => by
    subst hL
    rw [List.map_map] at hd
    obtain ⟨r, hr, rfl⟩ := List.mem_map.1 hd
    exact ⟨r, hr, rfl⟩
  refine ⟨⟨b, c, by rw [hlen]; exact e, by omega, fun i hi => ?_⟩, fun d hd j hj => ?_, fun d hd => ?_⟩
  · have hi' : i < rows.length := by omega
    obtain ⟨G, eb, hcs⟩ := hg i hi'
    obtain ⟨_, ts, k1, k2, k3⟩ := a.txt _ (List.getElem_mem hi')
    refine ⟨G, (rows[i]).2.1, (rows[i]).2.2, eb, ?_, ?_, ?_, fun j hj => ?_⟩
    · have := hcs 0 (by omega)
      rw [hD i hi' hi]
      simpa [rvals, dataOf] using this
    · simpa [rvals] using hcs 4 (by omega)
    · rcases k3.2 with ⟨e1, _⟩ | ⟨g', cap, cur, e1, e2, e3, e4, _⟩
      · cases e1
      · cases e1; exact e4
    · rw [k3.cellAt j (by omega), hD i hi' hi]
      unfold dataOf
      rw [k1]
      simp only [Option.getD_some]
      rw [List.getElem?_map, List.getElem?_eq_getElem (by omega), List.getD_eq_getElem?_getD, List.getElem?_eq_getElem (by omega)]
      rfl
  · obtain ⟨r, hr, rfl⟩ := hmem d hd
    obtain ⟨_, ts, k1, k2, _⟩ := a.txt r hr
    unfold dataOf
    rw [k1]
    simp only [Option.getD_some]
    rw [List.getD_eq_getElem?_getD, List.getElem?_eq_getElem (by omega)]
    exact accOk_ne k1 _ (List.getElem_mem _)
  · obtain ⟨r, hr, rfl⟩ := hmem d hd
    have h1 := (a.txt r hr).1.2.2.1
    have h2 : 2 ^ h ≤ 2 ^ 6 := Nat.pow_le_pow_right (by omega) hh
    show bAt r.1 1 < 256
    omega

theorem AllR.drew {w : World} {N h : Nat} {root : Dg × Int} {v : Value} {rows : List (List UInt8 × Nat × Nat)} (a : AllR w N h root v rows) (d : Nat) : AllR (w.drewN d) N h root v rows :=
  ⟨own_same a.own (fun _ _ => rfl), fun r hr => by
    obtain ⟨h1, ts, h2, h3, h4⟩ := a.txt r hr
    exact ⟨h1, ts, h2, h3, own_same h4 (fun _ _ => rfl)⟩⟩

/-- One proof more. -/
theorem AllR.more {wr w3 w4 w5 : World} {N h : Nat} {root : Dg × Int} {v : Value} {rows : List (List UInt8 × Nat × Nat)} (a : AllR wr N h root v rows) {l : List UInt8} {ts : List (List UInt8)} {g c G cap : Nat} (hN : N ≤ wr.heap.size) (b3 : Below wr.heap.size wr w3) (hh : accHead h l) (hts : accOk h root l = some ts) (hl : ts.length = h + 1) (ht : w3.ownsRow wr.heap.size 9 1 (.slice (some ⟨g, 0, none⟩) (h + 1) c) (h + 1) (ts.map strV))
    (b4 : Below w3.heap.size w3 w4) (hg : w4.grownBy w5 v.ownBlock) (hown : w5.ownsRow N 130 5 (.slice (some ⟨G, 0, none⟩) (rows.length + 1) cap) (rows.length + 1) (rows.flatMap (rvals h) ++ rvals h (l, g, c))) :
    AllR w5 N h root (.slice (some ⟨G, 0, none⟩) (rows.length + 1) cap) (rows ++ [(l, g, c)]) := by
  have z3 := b3.size
  have z4 := b4.size
  have vlt : ∀ k, v.ownBlock = some k → k < wr.heap.size ∧ ∃ cur, wr.heap[k]? = some (.cells cur 130 (0, 0)) := fun k hk => ⟨own_lt a.own hk, own_type a.own hk⟩
  refine ⟨by rw [List.length_append, List.flatMap_append]; simpa using hown, fun r hr => ?_⟩
  rcases List.mem_append.1 hr with hr | hr
  · obtain ⟨h1, ts', h2, h3, h4⟩ := a.txt r hr
    refine ⟨h1, ts', h2, h3, own_same h4 (fun k hk => ?_)⟩
    have hlt := own_lt h4 hk
    refine (hg.block k (by omega) (fun e => ?_)).trans ((b4.block k (by omega)).trans (b3.block k hlt))
    obtain ⟨_, cur, hc⟩ := vlt k e.symm
    obtain ⟨cur', hc'⟩ := own_type h4 hk
    rw [hc] at hc'
    simp at hc'
  · simp at hr
    subst hr
    refine ⟨hh, ts, hts, hl, own_lower (own_same ht (fun k hk => ?_)) hN⟩
    have hlt := ht.lt k hk
    refine (hg.block k (by omega) (fun e => ?_)).trans (b4.block k hlt.2)
    have := (vlt k e.symm).1
    omega

end Go.Proofs.YtbjobbkgelipmaaGreat
