/-
  What titheref's accepted answers, in plain words.
-/
import Derived.Test.YtbjobbkgelipmaaGreatRep
namespace Go.Proofs.YtbjobbkgelipmaaGreat
open Go.RowKit

def bAt (l : List UInt8) (k : Nat) : Nat := (l.getD k 0).toNat
/-- The head of a proof's bytes fits a height. -/
def accHead (h : Nat) (l : List UInt8) : Prop := 3 ≤ l.length ∧ bAt l 0 = h ∧ bAt l 1 < 2 ^ h ∧ 1 ≤ bAt l 2 ∧ bAt l 2 ≤ 8 ∧ l.length = 19 + bAt l 2 + 11 * h
def accBal (l : List UInt8) : Int := numB ((l.drop (3 + bAt l 2)).take 8)
def accSalt (l : List UInt8) : Int := numB ((l.drop (11 + bAt l 2)).take 8)
def accName (l : List UInt8) : List UInt8 := (l.drop 3).take (bAt l 2)
def accText0 (l : List UInt8) : List UInt8 := 0 :: (l.drop 2).take (17 + bAt l 2)
def maxS : Int := 4611686018427387904
/-- The text one level further up. -/
def upText (place : Nat) (now x : Dg × Int) : List UInt8 := if place % 2 = 1 then 1 :: (sideB x ++ sideB now) else 1 :: (sideB now ++ sideB x)
/-- The way up: its texts, and what stands there now; or it must not go on. -/
def accUp (l : List UInt8) : Nat → Option (List (List UInt8) × (Dg × Int))
  | 0 => some ([accText0 l], (dg (accText0 l), accBal l))
  | k + 1 => match accUp l k with
    | none => none
    | some (ts, now) => if maxS < (sideAt l (19 + bAt l 2 + 11 * k)).2 ∨ maxS < now.2 + (sideAt l (19 + bAt l 2 + 11 * k)).2 then none
      else some (ts ++ [upText (bAt l 1 / 2 ^ k) now (sideAt l (19 + bAt l 2 + 11 * k))], (dg (upText (bAt l 1 / 2 ^ k) now (sideAt l (19 + bAt l 2 + 11 * k))), now.2 + (sideAt l (19 + bAt l 2 + 11 * k)).2))
/-- Is the proof accepted by a height and a root? Its texts, then. -/
def accTexts (h : Nat) (root : Dg × Int) (l : List UInt8) : Option (List (List UInt8)) :=
  match accUp l h with
  | some (ts, now) => if now = root then some ts else none
  | none => none

theorem accUp_none {l : List UInt8} : ∀ {k j : Nat}, accUp l k = none → accUp l (k + j) = none
  | k, 0, h => h
  | k, j + 1, h => by
    have := accUp_none (j := j) h
    rw [show k + (j + 1) = (k + j) + 1 by omega]
    simp only [accUp, this]
theorem accUp_le {l : List UInt8} (hb : accBal l ≤ maxS) (hb0 : 0 ≤ accBal l) : ∀ {k : Nat} {ts : List (List UInt8)} {now : Dg × Int}, accUp l k = some (ts, now) → 0 ≤ now.2 ∧ now.2 ≤ maxS ∧ ts.length = k + 1
  | 0, ts, now, h => by
    simp only [accUp, Option.some.injEq, Prod.mk.injEq] at h
    obtain ⟨rfl, rfl⟩ := h
    exact ⟨hb0, hb, rfl⟩
  | k + 1, ts, now, h => by
    simp only [accUp] at h
    split at h
    · cases h
    · rename_i ts' now' h'
      have ih := accUp_le hb hb0 h'
      split at h
      · cases h
      · rename_i hc
        simp only [Option.some.injEq, Prod.mk.injEq] at h
        obtain ⟨rfl, rfl⟩ := h
        have hx := sideAt_range l (19 + bAt l 2 + 11 * k)
        refine ⟨?_, ?_, ?_⟩
        · simp only; omega
        · simp only; omega
        · rw [List.length_append, ih.2.2]; rfl

theorem accUp_step {l : List UInt8} {j : Nat} {ts : List (List UInt8)} {now x : Dg × Int} (h : accUp l j = some (ts, now)) (hx : sideAt l (19 + bAt l 2 + 11 * j) = x) (hc : ¬ (maxS < x.2 ∨ maxS < now.2 + x.2)) :
    accUp l (j + 1) = some (ts ++ [upText (bAt l 1 / 2 ^ j) now x], (dg (upText (bAt l 1 / 2 ^ j) now x), now.2 + x.2)) := by
  simp only [accUp, h, hx]
  rw [if_neg hc]
theorem accUp_stop {l : List UInt8} {j h : Nat} {root : Dg × Int} {ts : List (List UInt8)} {now x : Dg × Int} (hu : accUp l j = some (ts, now)) (hx : sideAt l (19 + bAt l 2 + 11 * j) = x) (hc : maxS < x.2 ∨ maxS < now.2 + x.2) (hjh : j < h) :
    (if maxS < accBal l then Option.none else accTexts h root l) = Option.none := by
  have h1 : accUp l (j + 1) = none := by
    simp only [accUp, hu, hx]
    rw [if_pos hc]
  have h2 : accUp l h = none := by
    have := accUp_none (j := h - (j + 1)) h1
    rwa [show j + 1 + (h - (j + 1)) = h by omega] at this
  split
  · rfl
  · simp only [accTexts, h2]
theorem accTexts_end {l : List UInt8} {h : Nat} {root : Dg × Int} {ts : List (List UInt8)} {now : Dg × Int} (hu : accUp l h = some (ts, now)) (hb : ¬ maxS < accBal l) :
    (if maxS < accBal l then Option.none else accTexts h root l) = if now = root then some ts else Option.none := by
  rw [if_neg hb]
  simp only [accTexts, hu]

def proofV (place : Int) (nm : ByteArray) (bal salt : Int) (a : Option Addr) (n c : Nat) : Value := .agg #[.int .i64 place, .string nm, .int .u64 bal, .int .u64 salt, .slice a n c]
def proofZ : Value := .agg #[.int .i64 0, .string ⟨#[]⟩, .int .u64 0, .int .u64 0, .slice none 0 0]

end Go.Proofs.YtbjobbkgelipmaaGreat
