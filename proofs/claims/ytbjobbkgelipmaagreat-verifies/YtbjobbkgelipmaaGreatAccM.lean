/-
  What lies in memory while titheref's accepted goes up.
-/
import Derived.Test.YtbjobbkgelipmaaGreatAcc1
import Derived.Test.YtbjobbkgelipmaaGreatKeep
namespace Go.Proofs.YtbjobbkgelipmaaGreat
open Go.RowKit

def quadB (d0 d1 d2 n : Int) : Array Value := #[.int .u8 d0, .int .u8 d1, .int .u8 d2, .int .u64 n]
def proofCells (pl : Int) (nm : ByteArray) (bal salt : Int) (tv : Value) : Array Value := #[.int .i64 pl, .string nm, .int .u64 bal, .int .u64 salt, tv]

/-- The root's box, the answer's room, the proof with its texts, and what stands there now. -/
structure AM (w wx : World) (P N : Nat) (d0 d1 d2 n : Int) (pl : Int) (nm : ByteArray) (bal salt : Int) (tv : Value) (ts : List (List UInt8)) (e0 e1 e2 m : Int) : Prop where
  root : wx.heap[w.heap.size]? = some (.cells (quadB d0 d1 d2 n) 49 (0, 0))
  room : wx.heap[w.heap.size + 1]? = some (.cells (proofCells 0 ⟨#[]⟩ 0 0 (.slice none 0 0)) 130 (0, 0))
  prf : wx.heap[P]? = some (.cells (proofCells pl nm bal salt tv) 130 (0, 0))
  now : wx.heap[N]? = some (.cells (quadB e0 e1 e2 m) 49 (0, 0))
  txt : wx.ownsRow (w.heap.size + 2) 9 1 tv ts.length (ts.map strV)
  hP : w.heap.size + 1 < P
  hN : P < N
  below : Below w.heap.size w wx

theorem AM.size {w wx : World} {P N : Nat} {d0 d1 d2 n pl bal salt e0 e1 e2 m : Int} {nm : ByteArray} {tv : Value} {ts : List (List UInt8)} (h : AM w wx P N d0 d1 d2 n pl nm bal salt tv ts e0 e1 e2 m) : N < wx.heap.size :=
  (Array.getElem?_eq_some_iff.1 h.now).1

/-- New memory turns nothing of it. -/
theorem AM.later {w wx w' : World} {P N : Nat} {d0 d1 d2 n pl bal salt e0 e1 e2 m : Int} {nm : ByteArray} {tv : Value} {ts : List (List UInt8)} (h : AM w wx P N d0 d1 d2 n pl nm bal salt tv ts e0 e1 e2 m) (hb : Below wx.heap.size wx w') : AM w w' P N d0 d1 d2 n pl nm bal salt tv ts e0 e1 e2 m := by
  have hs := h.size
  have h1 := h.hP
  have h2 := h.hN
  have hw : w.heap.size ≤ wx.heap.size := by omega
  exact ⟨(hb.block _ (by omega)).trans h.root, (hb.block _ (by omega)).trans h.room, (hb.block _ (by omega)).trans h.prf, (hb.block _ hs).trans h.now, own_same h.txt (fun g hg => hb.block g (own_lt h.txt hg)), h1, h2, h.below.trans (hb.mono hw)⟩

/-- Something else stands there now. -/
theorem AM.set {w wx : World} {P N : Nat} {d0 d1 d2 n pl bal salt e0 e1 e2 m : Int} {nm : ByteArray} {tv : Value} {ts : List (List UInt8)} (h : AM w wx P N d0 d1 d2 n pl nm bal salt tv ts e0 e1 e2 m) (f0 f1 f2 q : Int) :
    AM w ((((wx.setCell ⟨N, 0, none⟩ (.int .u8 f0)).setCell ⟨N, 1, none⟩ (.int .u8 f1)).setCell ⟨N, 2, none⟩ (.int .u8 f2)).setCell ⟨N, 3, none⟩ (.int .u64 q)) P N d0 d1 d2 n pl nm bal salt tv ts f0 f1 f2 q := by
  have h1 := h.hP
  have h2 := h.hN
  have e : ∀ k, k ≠ N → ((((wx.setCell ⟨N, 0, none⟩ (.int .u8 f0)).setCell ⟨N, 1, none⟩ (.int .u8 f1)).setCell ⟨N, 2, none⟩ (.int .u8 f2)).setCell ⟨N, 3, none⟩ (.int .u64 q)).heap[k]? = wx.heap[k]? := fun k hk => by
    rw [Below.heap_setCell _ _ _ _ hk, Below.heap_setCell _ _ _ _ hk, Below.heap_setCell _ _ _ _ hk, Below.heap_setCell _ _ _ _ hk]
  refine ⟨(e _ (by omega)).trans h.root, (e _ (by omega)).trans h.room, (e _ (by omega)).trans h.prf, ?_, own_same h.txt (fun g hg => e g (fun hgN => ?_)), h1, h2, ?_⟩
  · have g1 := heap_setCell_same wx N 0 _ _ (.int .u8 f0) h.now
    have g2 := heap_setCell_same _ N 1 _ _ (.int .u8 f1) g1
    have g3 := heap_setCell_same _ N 2 _ _ (.int .u8 f2) g2
    have g4 := heap_setCell_same _ N 3 _ _ (.int .u64 q) g3
    exact g4
  · obtain ⟨cur, hc⟩ := own_type h.txt hg
    rw [hgN, h.now] at hc; simp at hc
  · exact (((h.below.setCell (by show w.heap.size ≤ N; omega) _).setCell (by show w.heap.size ≤ N; omega) _).setCell (by show w.heap.size ≤ N; omega) _).setCell (by show w.heap.size ≤ N; omega) _

/-- A text more. -/
theorem AM.app {w wx w1 : World} {P N g cap : Nat} {d0 d1 d2 n pl bal salt e0 e1 e2 m : Int} {nm : ByteArray} {tv v : Value} {ts : List (List UInt8)} {t : List UInt8} (h : AM w wx P N d0 d1 d2 n pl nm bal salt tv ts e0 e1 e2 m) (hv : v = strV t)
    (hown : w1.ownsRow (w.heap.size + 2) 9 1 (.slice (some ⟨g, 0, none⟩) (ts.length + 1) cap) (ts.length + 1) (ts.map strV ++ [v])) (hg : (wx.alloc (.cells #[v] 9)).grownBy w1 tv.ownBlock) (_hnew : tv.ownBlock = some g ∨ wx.heap.size + 1 ≤ g) :
    AM w (w1.setCell ⟨P, 4, none⟩ (.slice (some ⟨g, 0, none⟩) (ts.length + 1) cap)) P N d0 d1 d2 n pl nm bal salt (.slice (some ⟨g, 0, none⟩) (ts.length + 1) cap) (ts ++ [t]) e0 e1 e2 m ∧ w1.cell? ⟨P, 4, none⟩ = some tv ∧ w1.frozen? ⟨P, 4, none⟩ = false := by
  have h1 := h.hP
  have h2 := h.hN
  have hs := h.size
  have hsz : (wx.alloc (.cells #[v] 9)).heap.size = wx.heap.size + 1 := by simp
  have tne : ∀ (gg : Nat) (ty : TypeId) (cur : Array Value), ty ≠ 9 → wx.heap[gg]? = some (.cells cur ty (0, 0)) → some gg ≠ tv.ownBlock := fun gg ty cur ht hc e => by
    obtain ⟨cur', hc'⟩ := own_type h.txt e.symm
    rw [hc] at hc'; simp at hc'; exact ht hc'.2
  have h3 : ∀ k, k < wx.heap.size → some k ≠ tv.ownBlock → w1.heap[k]? = wx.heap[k]? := fun k hk hne => (hg.block k (by rw [hsz]; omega) hne).trans (Below.heap_alloc _ _ _ hk)
  have e : ∀ k, k ≠ P → (w1.setCell ⟨P, 4, none⟩ (.slice (some ⟨g, 0, none⟩) (ts.length + 1) cap)).heap[k]? = w1.heap[k]? := fun k hk => Below.heap_setCell _ _ _ _ hk
  have hP1 := (h3 P (by omega) (tne _ _ _ (by decide) h.prf)).trans h.prf
  refine ⟨⟨(e _ (by omega)).trans ((h3 _ (by omega) (tne _ _ _ (by decide) h.root)).trans h.root), (e _ (by omega)).trans ((h3 _ (by omega) (tne _ _ _ (by decide) h.room)).trans h.room), heap_setCell_same w1 P 4 _ _ _ hP1, (e _ (by omega)).trans ((h3 _ hs (tne _ _ _ (by decide) h.now)).trans h.now), ?_, h1, h2, ?_⟩, by rw [block_cell hP1]; rfl, block_free hP1⟩
  · have : (w1.setCell ⟨P, 4, none⟩ (.slice (some ⟨g, 0, none⟩) (ts.length + 1) cap)).ownsRow (w.heap.size + 2) 9 1 (.slice (some ⟨g, 0, none⟩) (ts.length + 1) cap) (ts.length + 1) (ts.map strV ++ [v]) := own_same hown (fun gg hgg => by
      cases hgg
      refine e g (fun hgP => ?_)
      obtain ⟨cur, hc⟩ := own_type hown (g := g) rfl
      rw [hgP, hP1] at hc; simp at hc)
    rw [hv] at this
    simpa using this
  · have hb1 : Below w.heap.size w w1 := (h.below.alloc (by omega) _).grown hg (by rw [hsz]; omega) (fun k hk => by have := (h.txt.lt k hk).1; omega)
    exact hb1.setCell (by show w.heap.size ≤ P; omega) _

/-- The same, ahead of what stands there now. -/
structure PM (w wx : World) (P : Nat) (d0 d1 d2 n : Int) (pl : Int) (nm : ByteArray) (bal salt : Int) (tv : Value) (ts : List (List UInt8)) : Prop where
  root : wx.heap[w.heap.size]? = some (.cells (quadB d0 d1 d2 n) 49 (0, 0))
  room : wx.heap[w.heap.size + 1]? = some (.cells (proofCells 0 ⟨#[]⟩ 0 0 (.slice none 0 0)) 130 (0, 0))
  prf : wx.heap[P]? = some (.cells (proofCells pl nm bal salt tv) 130 (0, 0))
  txt : wx.ownsRow (w.heap.size + 2) 9 1 tv ts.length (ts.map strV)
  hP : w.heap.size + 1 < P
  below : Below w.heap.size w wx

/-- The balance's cell, and all that. -/
abbrev SP (w wx : World) (P : Nat) (d0 d1 d2 n : Int) (pl : Int) (nm : ByteArray) (bal salt : Int) (tv : Value) (ts : List (List UInt8)) : Prop :=
  wx.cell? ⟨P, 2, none⟩ = some (.int .u64 bal) ∧ PM w wx P d0 d1 d2 n pl nm bal salt tv ts

theorem PM.lt {w wx : World} {P : Nat} {d0 d1 d2 n pl bal salt : Int} {nm : ByteArray} {tv : Value} {ts : List (List UInt8)} (h : PM w wx P d0 d1 d2 n pl nm bal salt tv ts) : P < wx.heap.size := (Array.getElem?_eq_some_iff.1 h.prf).1
theorem PM.later {w wx w' : World} {P : Nat} {d0 d1 d2 n pl bal salt : Int} {nm : ByteArray} {tv : Value} {ts : List (List UInt8)} (h : PM w wx P d0 d1 d2 n pl nm bal salt tv ts) (hb : Below wx.heap.size wx w') : PM w w' P d0 d1 d2 n pl nm bal salt tv ts := by
  have hs := h.lt
  have h1 := h.hP
  exact ⟨(hb.block _ (by omega)).trans h.root, (hb.block _ (by omega)).trans h.room, (hb.block _ hs).trans h.prf, own_same h.txt (fun g hg => hb.block g (own_lt h.txt hg)), h1, h.below.trans (hb.mono (by omega))⟩
theorem PM.sp {w wx : World} {P : Nat} {d0 d1 d2 n pl bal salt : Int} {nm : ByteArray} {tv : Value} {ts : List (List UInt8)} (h : PM w wx P d0 d1 d2 n pl nm bal salt tv ts) : SP w wx P d0 d1 d2 n pl nm bal salt tv ts := ⟨by rw [block_cell h.prf]; rfl, h⟩
theorem PM.drew {w wx : World} {P : Nat} {d0 d1 d2 n pl bal salt : Int} {nm : ByteArray} {tv : Value} {ts : List (List UInt8)} (h : PM w wx P d0 d1 d2 n pl nm bal salt tv ts) : PM w wx.drew P d0 d1 d2 n pl nm bal salt tv ts := ⟨h.root, h.room, h.prf, h.txt, h.hP, h.below.drew⟩
theorem PM.alloc {w wx : World} {P : Nat} {d0 d1 d2 n pl bal salt : Int} {nm : ByteArray} {tv : Value} {ts : List (List UInt8)} (h : PM w wx P d0 d1 d2 n pl nm bal salt tv ts) (e0 e1 e2 m : Int) :
    AM w (wx.alloc (.cells (quadB e0 e1 e2 m) 49)) P wx.heap.size d0 d1 d2 n pl nm bal salt tv ts e0 e1 e2 m := by
  have h' := h.later ((Below.refl wx.heap.size wx).alloc (Nat.le_refl _) (.cells (quadB e0 e1 e2 m) 49))
  exact ⟨h'.root, h'.room, h'.prf, heap_alloc_new wx _, h'.txt, h'.hP, h.lt, h'.below⟩
theorem AM.pm {w wx : World} {P N : Nat} {d0 d1 d2 n pl bal salt e0 e1 e2 m : Int} {nm : ByteArray} {tv : Value} {ts : List (List UInt8)} (h : AM w wx P N d0 d1 d2 n pl nm bal salt tv ts e0 e1 e2 m) : PM w wx P d0 d1 d2 n pl nm bal salt tv ts := ⟨h.root, h.room, h.prf, h.txt, h.hP, h.below⟩
theorem AM.drew {w wx : World} {P N : Nat} {d0 d1 d2 n pl bal salt e0 e1 e2 m : Int} {nm : ByteArray} {tv : Value} {ts : List (List UInt8)} (h : AM w wx P N d0 d1 d2 n pl nm bal salt tv ts e0 e1 e2 m) : AM w wx.drew P N d0 d1 d2 n pl nm bal salt tv ts e0 e1 e2 m := ⟨h.root, h.room, h.prf, h.now, h.txt, h.hP, h.hN, h.below.drew⟩

/-- Beside it the one that was read. -/
structure AMX (w wx : World) (P N X : Nat) (d0 d1 d2 n : Int) (pl : Int) (nm : ByteArray) (bal salt : Int) (tv : Value) (ts : List (List UInt8)) (e0 e1 e2 m x0 x1 x2 xn : Int) : Prop where
  am : AM w wx P N d0 d1 d2 n pl nm bal salt tv ts e0 e1 e2 m
  xb : wx.heap[X]? = some (.cells (quadB x0 x1 x2 xn) 49 (0, 0))
  hX : N < X
theorem AMX.later {w wx w' : World} {P N X : Nat} {d0 d1 d2 n pl bal salt e0 e1 e2 m x0 x1 x2 xn : Int} {nm : ByteArray} {tv : Value} {ts : List (List UInt8)} (h : AMX w wx P N X d0 d1 d2 n pl nm bal salt tv ts e0 e1 e2 m x0 x1 x2 xn) (hb : Below wx.heap.size wx w') : AMX w w' P N X d0 d1 d2 n pl nm bal salt tv ts e0 e1 e2 m x0 x1 x2 xn :=
  ⟨h.am.later hb, (hb.block _ (Array.getElem?_eq_some_iff.1 h.xb).1).trans h.xb, h.hX⟩
theorem AMX.drew {w wx : World} {P N X : Nat} {d0 d1 d2 n pl bal salt e0 e1 e2 m x0 x1 x2 xn : Int} {nm : ByteArray} {tv : Value} {ts : List (List UInt8)} (h : AMX w wx P N X d0 d1 d2 n pl nm bal salt tv ts e0 e1 e2 m x0 x1 x2 xn) : AMX w wx.drew P N X d0 d1 d2 n pl nm bal salt tv ts e0 e1 e2 m x0 x1 x2 xn := ⟨h.am.drew, h.xb, h.hX⟩
theorem AMX.app {w wx w1 : World} {P N X g cap : Nat} {d0 d1 d2 n pl bal salt e0 e1 e2 m x0 x1 x2 xn : Int} {nm : ByteArray} {tv v : Value} {ts : List (List UInt8)} {t : List UInt8} (h : AMX w wx P N X d0 d1 d2 n pl nm bal salt tv ts e0 e1 e2 m x0 x1 x2 xn) (hv : v = strV t)
    (hown : w1.ownsRow (w.heap.size + 2) 9 1 (.slice (some ⟨g, 0, none⟩) (ts.length + 1) cap) (ts.length + 1) (ts.map strV ++ [v])) (hg : (wx.alloc (.cells #[v] 9)).grownBy w1 tv.ownBlock) (hnew : tv.ownBlock = some g ∨ wx.heap.size + 1 ≤ g) :
    AMX w (w1.setCell ⟨P, 4, none⟩ (.slice (some ⟨g, 0, none⟩) (ts.length + 1) cap)) P N X d0 d1 d2 n pl nm bal salt (.slice (some ⟨g, 0, none⟩) (ts.length + 1) cap) (ts ++ [t]) e0 e1 e2 m x0 x1 x2 xn ∧ w1.cell? ⟨P, 4, none⟩ = some tv ∧ w1.frozen? ⟨P, 4, none⟩ = false := by
  obtain ⟨a1, a2, a3⟩ := h.am.app hv hown hg hnew
  refine ⟨⟨a1, ?_, h.hX⟩, a2, a3⟩
  have h2 := h.am.hN
  have h3 := h.hX
  have hlt : X < wx.heap.size := (Array.getElem?_eq_some_iff.1 h.xb).1
  have hne : some X ≠ tv.ownBlock := fun e => by
    obtain ⟨cur', hc'⟩ := own_type h.am.txt e.symm
    rw [h.xb] at hc'; simp at hc'
  rw [Below.heap_setCell _ _ _ _ (show X ≠ P by omega), hg.block X (by simp; omega) hne, Below.heap_alloc _ _ _ hlt]
  exact h.xb
theorem quad_of {wx : World} {X : Nat} {x0 x1 x2 xn : Int} {t : TypeId} (h : wx.heap[X]? = some (.cells (quadB x0 x1 x2 xn) t (0, 0))) : Quad wx X x0 x1 x2 xn :=
  ⟨by rw [block_cell h]; rfl, by rw [block_cell h]; rfl, by rw [block_cell h]; rfl, by rw [block_cell h]; rfl⟩
abbrev SX (w wx : World) (P N X : Nat) (d0 d1 d2 n : Int) (pl : Int) (nm : ByteArray) (bal salt : Int) (tv : Value) (ts : List (List UInt8)) (e0 e1 e2 m x0 x1 x2 xn : Int) : Prop :=
  (wx.cell? ⟨N, 0, none⟩ = some (.int .u8 e0) ∧ wx.cell? ⟨N, 1, none⟩ = some (.int .u8 e1) ∧ wx.cell? ⟨N, 2, none⟩ = some (.int .u8 e2) ∧ wx.cell? ⟨N, 3, none⟩ = some (.int .u64 m)) ∧
  (wx.cell? ⟨X, 0, none⟩ = some (.int .u8 x0) ∧ wx.cell? ⟨X, 1, none⟩ = some (.int .u8 x1) ∧ wx.cell? ⟨X, 2, none⟩ = some (.int .u8 x2) ∧ wx.cell? ⟨X, 3, none⟩ = some (.int .u64 xn)) ∧
  AMX w wx P N X d0 d1 d2 n pl nm bal salt tv ts e0 e1 e2 m x0 x1 x2 xn
theorem AMX.sx {w wx : World} {P N X : Nat} {d0 d1 d2 n pl bal salt e0 e1 e2 m x0 x1 x2 xn : Int} {nm : ByteArray} {tv : Value} {ts : List (List UInt8)} (h : AMX w wx P N X d0 d1 d2 n pl nm bal salt tv ts e0 e1 e2 m x0 x1 x2 xn) : SX w wx P N X d0 d1 d2 n pl nm bal salt tv ts e0 e1 e2 m x0 x1 x2 xn := ⟨quad_of h.am.now, quad_of h.xb, h⟩

theorem cell_setR (W : World) (R b' o i : Nat) (x : Value) (hne : b' ≠ R) : (W.setCell ⟨R, i, none⟩ x).cell? ⟨b', o, none⟩ = W.cell? ⟨b', o, none⟩ :=
  World.cell?_of_block (w := W) (Below.heap_setCell W _ _ _ (by simpa using hne))
/-- What the last region reads. -/
abbrev S30 (wx : World) (P N A : Nat) (pl : Int) (nm : ByteArray) (bal salt : Int) (tv : Value) (e0 e1 e2 m d0 d1 d2 n : Int) : Prop :=
  (wx.cell? ⟨P, 0, none⟩ = some (.int .i64 pl) ∧ wx.cell? ⟨P, 1, none⟩ = some (.string nm) ∧ wx.cell? ⟨P, 2, none⟩ = some (.int .u64 bal) ∧ wx.cell? ⟨P, 3, none⟩ = some (.int .u64 salt) ∧ wx.cell? ⟨P, 4, none⟩ = some tv) ∧
  (wx.cell? ⟨N, 0, none⟩ = some (.int .u8 e0) ∧ wx.cell? ⟨N, 1, none⟩ = some (.int .u8 e1) ∧ wx.cell? ⟨N, 2, none⟩ = some (.int .u8 e2) ∧ wx.cell? ⟨N, 3, none⟩ = some (.int .u64 m)) ∧
  (wx.cell? ⟨A, 0, none⟩ = some (.int .u8 d0) ∧ wx.cell? ⟨A, 1, none⟩ = some (.int .u8 d1) ∧ wx.cell? ⟨A, 2, none⟩ = some (.int .u8 d2) ∧ wx.cell? ⟨A, 3, none⟩ = some (.int .u64 n))
theorem S30.drew {wx : World} {P N A : Nat} {pl bal salt e0 e1 e2 m d0 d1 d2 n : Int} {nm : ByteArray} {tv : Value} (h : S30 wx P N A pl nm bal salt tv e0 e1 e2 m d0 d1 d2 n) : S30 wx.drew P N A pl nm bal salt tv e0 e1 e2 m d0 d1 d2 n :=
  ⟨⟨h.1.1, h.1.2.1, h.1.2.2.1, h.1.2.2.2.1, h.1.2.2.2.2⟩, ⟨h.2.1.1, h.2.1.2.1, h.2.1.2.2.1, h.2.1.2.2.2⟩, ⟨h.2.2.1, h.2.2.2.1, h.2.2.2.2.1, h.2.2.2.2.2⟩⟩
theorem S30.set {wx : World} {P N A R i : Nat} {pl bal salt e0 e1 e2 m d0 d1 d2 n : Int} {nm : ByteArray} {tv x : Value} (h : S30 wx P N A pl nm bal salt tv e0 e1 e2 m d0 d1 d2 n) (h1 : P ≠ R) (h2 : N ≠ R) (h3 : A ≠ R) : S30 (wx.setCell ⟨R, i, none⟩ x) P N A pl nm bal salt tv e0 e1 e2 m d0 d1 d2 n := by
  obtain ⟨⟨a0, a1, a2, a3, a4⟩, ⟨b0, b1, b2, b3⟩, ⟨c0, c1, c2, c3⟩⟩ := h
  have eP := fun o => cell_setR wx R P o i x h1
  have eN := fun o => cell_setR wx R N o i x h2
  have eA := fun o => cell_setR wx R A o i x h3
  exact ⟨⟨(eP 0).trans a0, (eP 1).trans a1, (eP 2).trans a2, (eP 3).trans a3, (eP 4).trans a4⟩, ⟨(eN 0).trans b0, (eN 1).trans b1, (eN 2).trans b2, (eN 3).trans b3⟩, ⟨(eA 0).trans c0, (eA 1).trans c1, (eA 2).trans c2, (eA 3).trans c3⟩⟩
theorem AM.s30 {w wx : World} {P N : Nat} {d0 d1 d2 n pl bal salt e0 e1 e2 m : Int} {nm : ByteArray} {tv : Value} {ts : List (List UInt8)} (h : AM w wx P N d0 d1 d2 n pl nm bal salt tv ts e0 e1 e2 m) : S30 wx P N w.heap.size pl nm bal salt tv e0 e1 e2 m d0 d1 d2 n :=
  ⟨⟨by rw [block_cell h.prf]; rfl, by rw [block_cell h.prf]; rfl, by rw [block_cell h.prf]; rfl, by rw [block_cell h.prf]; rfl, by rw [block_cell h.prf]; rfl⟩, quad_of h.now, quad_of h.root⟩

end Go.Proofs.YtbjobbkgelipmaaGreat
