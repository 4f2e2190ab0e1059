/-
  keep, its state between the steps.
-/
import Derived.Test.YtbjobbkgelipmaaGreatKeep
namespace Go.Proofs.YtbjobbkgelipmaaGreat
open Go.RowKit

/-- Where a kept list may lie: among the old ones, in the list that is kept now, or in new memory. -/
def Origin (w0 : World) (hs0 : List HoldD) (vb0 : Value) (x : HoldD) : Prop := x ∈ hs0 ∨ x.v.ownBlock = none ∨ x.v.ownBlock = vb0.ownBlock ∨ ∃ g, x.v.ownBlock = some g ∧ w0.heap.size ≤ g

structure St (w0 wr : World) (B : Nat) (ps hv0 vb0 : Value) (hs0 : List HoldD) (m : Int) (hv vb : Value) (hs : List HoldD) (N : Nat) : Prop where
  inv : Inv wr B ps hv hs
  own : wr.ownsRow (B + 1) 5 1 vb N (markV m N)
  sep : ∀ x ∈ hs, x.v.ownBlock = none ∨ x.v.ownBlock ≠ vb.ownBlock ∨ x.n ≤ N
  frame : Frame w0 wr B vb0 hv0
  oldh : OldOr w0 hv hv0
  oldb : OldOr w0 vb vb0
  orig : ∀ x ∈ hs, Origin w0 hs0 vb0 x

theorem OldOr.is {w : World} {u u0 : Value} (h : OldOr w u u0) : ∀ g, u.ownBlock = some g → some g = u0.ownBlock ∨ w.heap.size ≤ g := by
  intro g hg
  rcases h with h | ⟨g', h, hle⟩
  · exact Or.inl (hg.symm.trans h)
  · rw [hg] at h; cases h; exact Or.inr hle

/-- A byte more at the list's end. -/
theorem St.app {w0 wr w1 : World} {B : Nat} {ps hv0 vb0 hv vb : Value} {hs0 hs : List HoldD} {m : Int} {N g cap : Nat} (h : St w0 wr B ps hv0 vb0 hs0 m hv vb hs N)
    (hown : w1.ownsRow (B + 1) 5 1 (.slice (some ⟨g, 0, none⟩) (N + 1) cap) (N + 1) (markV m N ++ [.int .u8 (signI m (N : Int))])) (hold : w1.ownsRow (B + 1) 5 1 vb N (markV m N))
    (hg : (wr.alloc (.cells #[.int .u8 (signI m (N : Int))] 5)).grownBy w1 vb.ownBlock) (hnew : vb.ownBlock = some g ∨ wr.heap.size + 1 ≤ g) :
    St w0 w1 B ps hv0 vb0 hs0 m hv (.slice (some ⟨g, 0, none⟩) (N + 1) cap) hs (N + 1) := by
  have hsz : (wr.alloc (.cells #[.int .u8 (signI m (N : Int))] 5)).heap.size = wr.heap.size + 1 := by simp
  have h1 : ∀ k, k < wr.heap.size → some k ≠ vb.ownBlock → w1.heap[k]? = wr.heap[k]? := fun k hk hne => (hg.block k (by rw [hsz]; omega) hne).trans (Below.heap_alloc _ _ _ hk)
  have tne : ∀ (gg : Nat) (t : TypeId) (cur : Array Value), t ≠ 5 → wr.heap[gg]? = some (.cells cur t (0, 0)) → some gg ≠ vb.ownBlock := fun gg t cur ht hc e => by
    obtain ⟨cur', hc'⟩ := own_type h.own e.symm
    rw [hc] at hc'; simp at hc'; exact ht hc'.2
  have hlt : ∀ {gg : Nat} {o : Obj}, wr.heap[gg]? = some o → gg < wr.heap.size := fun hc => (Array.getElem?_eq_some_iff.1 hc).1
  refine ⟨⟨?_, ?_, ?_⟩, by rw [markV_succ]; exact hown, ?_, ?_, h.oldh, ?_, h.orig⟩
  · exact (h1 B (hlt h.inv.cell) (tne _ _ _ (by decide) h.inv.cell)).trans h.inv.cell
  · refine own_same h.inv.own (fun gg hgg => ?_)
    obtain ⟨cur, hc⟩ := own_type h.inv.own hgg
    exact h1 gg (hlt hc) (tne _ _ _ (by decide) hc)
  · intro x hx
    have hk := h.inv.ok x hx
    refine hk.kept (h1 x.p (hlt hk.cell) (tne _ _ _ (by decide) hk.cell)) ?_
    by_cases hs : x.v.ownBlock = vb.ownBlock
    · rcases h.sep x hx with h0 | h0 | h0
      · exact own_same hk.own (fun gg hgg => by rw [h0] at hgg; cases hgg)
      · exact absurd hs h0
      · exact own_sub h.own hold hk.own hs h0
    · exact own_same hk.own (fun gg hgg => h1 gg (own_lt hk.own hgg) (fun e => hs (hgg.trans e)))
  · intro x hx
    rcases h.sep x hx with h0 | h0 | h0
    · exact Or.inl h0
    · rcases hnew with hn | hn
      · right; left; intro e; exact h0 (e.trans hn.symm)
      · right; left
        intro e
        have e2 : x.v.ownBlock = some g := e
        have := own_lt (h.inv.ok x hx).own e2
        omega
    · exact Or.inr (Or.inr (by omega))
  · refine (h.frame.grown (World.grownBy_alloc wr _ none) (fun g hg => by cases hg)).grown hg (fun gg hgg => ?_)
    rcases h.oldb.is gg hgg with e | e
    · exact Or.inr (Or.inl e)
    · exact Or.inr (Or.inr (Or.inr e))
  · rcases hnew with hn | hn
    · rcases h.oldb with e | ⟨g', e, hle⟩
      · exact Or.inl (hn.symm.trans e)
      · rw [hn] at e; cases e
        exact Or.inr ⟨g, rfl, hle⟩
    · exact Or.inr ⟨g, rfl, by have := h.frame.size; omega⟩

/-- The list goes on the record. -/
theorem St.hold {w0 wr w3 : World} {B : Nat} {ps hv0 vb0 hv vb : Value} {hs0 hs : List HoldD} {m : Int} {N g cap : Nat} (h : St w0 wr B ps hv0 vb0 hs0 m hv vb hs N) (hN : N ≤ 140737488355328)
    (hown : w3.ownsRow (B + 1) 71 1 (.slice (some ⟨g, 0, none⟩) (hs.length + 1) cap) (hs.length + 1) ((hs.map fun x => ptrV x.p) ++ [ptrV wr.heap.size]))
    (hg : ((wr.alloc (.cells #[vb, .int .i64 m] 113)).alloc (.cells #[ptrV wr.heap.size] 71)).grownBy w3 hv.ownBlock)
    (hold : hv.ownBlock = some g ∨ wr.heap.size + 1 + 1 ≤ g) :
    St w0 (w3.setCell ⟨B, 1, none⟩ (.slice (some ⟨g, 0, none⟩) (hs.length + 1) cap)) B ps hv0 vb0 hs0 m (.slice (some ⟨g, 0, none⟩) (hs.length + 1) cap) vb (hs ++ [⟨wr.heap.size, vb, N, m⟩]) N := by
  obtain ⟨i1, i2, i3, i4, i5, i6, i7⟩ := hold_step h.inv h.own hN hown hg hold
  refine ⟨i1, i2, ?_, ⟨i4.trans h.frame.os, i5.trans h.frame.tape, i6.trans h.frame.output, by have := h.frame.size; omega, fun k hk hB hb hh => ?_⟩, ?_, h.oldb, ?_⟩
  · intro x hx
    rcases List.mem_append.1 hx with hx | hx
    · exact h.sep x hx
    · simp at hx; subst hx; exact Or.inr (Or.inr (Nat.le_refl _))
  · refine (i7 k (by have := h.frame.size; omega) hB (fun e => ?_)).trans (h.frame.block k hk hB hb hh)
    rcases h.oldh.is k e.symm with e' | e'
    · exact hh e'
    · omega
  · rcases hold with hn | hn
    · rcases h.oldh with e | ⟨g', e, hle⟩
      · exact Or.inl (hn.symm.trans e)
      · rw [hn] at e; cases e
        exact Or.inr ⟨g, rfl, hle⟩
    · exact Or.inr ⟨g, rfl, by have := h.frame.size; omega⟩
  · intro x hx
    rcases List.mem_append.1 hx with hx | hx
    · exact h.orig x hx
    · simp at hx; subst hx
      rcases h.oldb with e | e
      · exact Or.inr (Or.inr (Or.inl e))
      · exact Or.inr (Or.inr (Or.inr e))

theorem St.as {w0 wr : World} {B : Nat} {ps hv0 vb0 hv vb v' : Value} {hs0 hs : List HoldD} {m : Int} {N : Nat} (h : St w0 wr B ps hv0 vb0 hs0 m hv vb hs N) (e : vb = v') : St w0 wr B ps hv0 vb0 hs0 m hv v' hs N := by
  subst e; exact h

/-- The beginning: the list has been written full. -/
theorem St.start {w0 wr : World} {B : Nat} {ps hv vb : Value} {hs : List HoldD} {m : Int} {N : Nat} {xs : List Value} (hI : Inv w0 B ps hv hs) (h0 : w0.ownsRow (B + 1) 5 1 vb N xs) (hsep : ∀ x ∈ hs, x.v.ownBlock = none ∨ x.v.ownBlock ≠ vb.ownBlock)
    (hown : wr.ownsRow (B + 1) 5 1 vb N (markV m N)) (hg : w0.grownBy wr vb.ownBlock) : St w0 wr B ps hv vb hs m hv vb hs N := by
  have tne : ∀ (gg : Nat) (t : TypeId) (cur : Array Value), t ≠ 5 → w0.heap[gg]? = some (.cells cur t (0, 0)) → some gg ≠ vb.ownBlock := fun gg t cur ht hc e => by
    obtain ⟨cur', hc'⟩ := own_type h0 e.symm
    rw [hc] at hc'; simp at hc'; exact ht hc'.2
  have hlt : ∀ {gg : Nat} {o : Obj}, w0.heap[gg]? = some o → gg < w0.heap.size := fun hc => (Array.getElem?_eq_some_iff.1 hc).1
  refine ⟨⟨(hg.block B (hlt hI.cell) (tne _ _ _ (by decide) hI.cell)).trans hI.cell, ?_, ?_⟩, hown, ?_, ?_, Or.inl rfl, Or.inl rfl, fun x hx => Or.inl hx⟩
  · refine own_same hI.own (fun gg hgg => ?_)
    obtain ⟨cur, hc⟩ := own_type hI.own hgg
    exact hg.block gg (hlt hc) (tne _ _ _ (by decide) hc)
  · intro x hx
    have hk := hI.ok x hx
    refine hk.kept (hg.block x.p (hlt hk.cell) (tne _ _ _ (by decide) hk.cell)) (own_same hk.own (fun gg hgg => hg.block gg (own_lt hk.own hgg) (fun e => ?_)))
    rcases hsep x hx with h1 | h1
    · rw [h1] at hgg; cases hgg
    · exact h1 (hgg.trans e)
  · intro x hx
    rcases hsep x hx with h1 | h1
    · exact Or.inl h1
    · exact Or.inr (Or.inl h1)
  · exact (Frame.refl w0 B vb hv).grown hg (fun g hgg => Or.inr (Or.inl hgg.symm))

end Go.Proofs.YtbjobbkgelipmaaGreat
