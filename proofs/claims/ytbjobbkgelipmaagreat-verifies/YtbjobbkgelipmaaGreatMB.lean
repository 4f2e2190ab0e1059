/-
  A result's room and a new block beside it, wherever it lies.
-/
import Derived.Test.YtbjobbkgelipmaaGreatOwnSide
namespace Go.Proofs.YtbjobbkgelipmaaGreat
open Go.RowKit

/-- The room of a result, at the first new block. -/
structure RB (w : World) (zs : Array Value) (t : TypeId) (w' : World) : Prop where
  res : w'.heap[w.heap.size]? = some (.cells zs t (0, 0))
  below : Below w.heap.size w w'
theorem RB.lt {w w' : World} {zs : Array Value} {t : TypeId} (h : RB w zs t w') : w.heap.size < w'.heap.size := (Array.getElem?_eq_some_iff.1 h.res).1
theorem RB.later {w W w4 : World} {zs : Array Value} {t : TypeId} (h : RB w zs t W) (hb : Below W.heap.size W w4) : RB w zs t w4 :=
  ⟨(hb.block _ h.lt).trans h.res, h.below.trans (hb.mono (Nat.le_of_lt h.lt))⟩
theorem RB.new (w : World) (zs : Array Value) (t : TypeId) : RB w zs t (w.alloc (.cells zs t)) := ⟨heap_alloc_new w _, (Below.refl _ _).alloc (Nat.le_refl _) _⟩
theorem RB.drew {w w' : World} {zs : Array Value} {t : TypeId} (h : RB w zs t w') : RB w zs t w'.drew := ⟨h.res, h.below.drew⟩
theorem RB.alloc {w w' : World} {zs : Array Value} {t : TypeId} (h : RB w zs t w') (o : Obj) : RB w zs t (w'.alloc o) := h.later ((Below.refl _ _).alloc (Nat.le_refl _) _)
theorem RB.set {w w' : World} {zs : Array Value} {t : TypeId} (h : RB w zs t w') {A : Nat} (hA : w.heap.size < A) (i : Nat) (v : Value) : RB w zs t (w'.setCell ⟨A, i, none⟩ v) :=
  ⟨(Below.heap_setCell _ _ _ _ (by show w.heap.size ≠ A; omega)).trans h.res, h.below.setCell (by show w.heap.size ≤ A; omega) _⟩

/-- Beside it a new block. -/
structure MB (w : World) (zs : Array Value) (t : TypeId) (A : Nat) (cs : Array Value) (u : TypeId) (w' : World) : Prop where
  blk : w'.heap[A]? = some (.cells cs u (0, 0))
  gt : w.heap.size < A
  rb : RB w zs t w'
theorem MB.lt {w w' : World} {zs cs : Array Value} {t u : TypeId} {A : Nat} (h : MB w zs t A cs u w') : A < w'.heap.size := (Array.getElem?_eq_some_iff.1 h.blk).1
theorem MB.new {w w' : World} {zs : Array Value} {t : TypeId} (h : RB w zs t w') (cs : Array Value) (u : TypeId) : MB w zs t w'.heap.size cs u (w'.alloc (.cells cs u)) :=
  ⟨heap_alloc_new w' _, h.lt, h.alloc _⟩
theorem MB.later {w W w4 : World} {zs cs : Array Value} {t u : TypeId} {A : Nat} (h : MB w zs t A cs u W) (hb : Below W.heap.size W w4) : MB w zs t A cs u w4 :=
  ⟨(hb.block _ h.lt).trans h.blk, h.gt, h.rb.later hb⟩
theorem MB.drew {w w' : World} {zs cs : Array Value} {t u : TypeId} {A : Nat} (h : MB w zs t A cs u w') : MB w zs t A cs u w'.drew := ⟨h.blk, h.gt, h.rb.drew⟩
theorem MB.set {w w' : World} {zs cs : Array Value} {t u : TypeId} {A : Nat} (h : MB w zs t A cs u w') (i : Nat) (v : Value) : MB w zs t A (cs.setIfInBounds i v) u (w'.setCell ⟨A, i, none⟩ v) :=
  ⟨heap_setCell_same _ A i _ _ v h.blk, h.gt, h.rb.set h.gt i v⟩
theorem MB.cell {w w' : World} {zs cs : Array Value} {t u : TypeId} {A : Nat} (h : MB w zs t A cs u w') (i : Nat) : w'.cell? ⟨A, i, none⟩ = cs[i]? := block_cell h.blk
theorem MB.free {w w' : World} {zs cs : Array Value} {t u : TypeId} {A : Nat} (h : MB w zs t A cs u w') (i : Nat) : w'.frozen? ⟨A, i, none⟩ = false := block_free h.blk
theorem RB.cell {w w' : World} {zs : Array Value} {t : TypeId} (h : RB w zs t w') (i : Nat) : w'.cell? ⟨w.heap.size, i, none⟩ = zs[i]? := block_cell h.res
theorem RB.free {w w' : World} {zs : Array Value} {t : TypeId} (h : RB w zs t w') (i : Nat) : w'.frozen? ⟨w.heap.size, i, none⟩ = false := block_free h.res
theorem MB.setR {w w' : World} {zs cs : Array Value} {t u : TypeId} {A : Nat} (h : MB w zs t A cs u w') (i : Nat) (v : Value) : MB w (zs.setIfInBounds i v) t A cs u (w'.setCell ⟨w.heap.size, i, none⟩ v) :=
  ⟨(Below.heap_setCell _ _ _ _ (by have := h.gt; show A ≠ w.heap.size; omega)).trans h.blk, h.gt, ⟨heap_setCell_same _ _ i _ _ v h.rb.res, h.rb.below.setCell (by show w.heap.size ≤ w.heap.size; omega) _⟩⟩
theorem RB.setR {w w' : World} {zs : Array Value} {t : TypeId} (h : RB w zs t w') (i : Nat) (v : Value) : RB w (zs.setIfInBounds i v) t (w'.setCell ⟨w.heap.size, i, none⟩ v) :=
  ⟨heap_setCell_same _ _ i _ _ v h.res, h.below.setCell (by show w.heap.size ≤ w.heap.size; omega) _⟩

end Go.Proofs.YtbjobbkgelipmaaGreat
