/-
  The walk of keep: a list more that is its owner's.
-/
import Derived.Test.YtbjobbkgelipmaaGreatHolds
import Derived.Laws.OwnMore
namespace Go.Proofs.YtbjobbkgelipmaaGreat
open Go.RowKit

/-- An append onto a list of the call's own: what was owned is owned still, and so is the new one. -/
theorem wpList_append_both {P : Program} {w : World} {ops : Array Oper} {rest : List Oper} {o : Oper} {a : Act} {Q : Exit → Act → World → Prop} (hgd : o.guard = none) (s x : Operand) (t : TypeId)
    (ho : o.op = .call { callee := .builtin .append, args := #[s, x], argTypes := #[t, t] })
    (base : Nat) (e : TypeId) (i : TypeInfo) (z : Value) (bytes : Nat) (ht : P.underlying t = some (.slice e)) (hi : P.info? e = some i) (hz : i.zero = some z)
    (hsize : i.size = 1) (hby : i.bytes = bytes) (hzs : z.cells.size = 1)
    (v : Value) (n : Nat) (xs : List Value) (hs : a.eval s = v) (hown : w.ownsRow base e 1 v n xs)
    (ad : Addr) (m c : Nat) (news : List Value) (hx : a.eval x = .slice (some ad) m c) (hl : news.length = m * 1) (hnews : ∀ j u, news[j]? = some u → w.cell? (ad.add j) = some u) (h1 : ∀ u ∈ news, u.oneCell' = true)
    (hm : 0 < m) (h63 : n + m ≤ maxLen) (hbytes : (n + m) * bytes ≤ 140737488355328) (hbase : base ≤ w.heap.size)
    (h : ∀ g cap w', w'.ownsRow base e 1 (.slice (some ⟨g, 0, none⟩) (n + m) cap) (n + m) (xs ++ news) → w'.ownsRow base e 1 v n xs → w.grownBy w' v.ownBlock → (v.ownBlock = some g ∨ w.heap.size ≤ g) →
      wpList P ops Q rest (a.put o.dst (.slice (some ⟨g, 0, none⟩) (n + m) cap)) w') : wpList P ops Q (o :: rest) a w := by
  have hown0 := hown
  rcases hown.2 with ⟨hv, hn⟩ | ⟨g, cap, cur, hv, hb, hh, hnc, hcm, hcs, htake⟩
  · refine wpList_append_grows w hgd s x t ho e i z 1 bytes ht hi hz hsize hby hzs (by decide) none 0 0 xs (by rw [hs, hv]) (fun _ => ⟨rfl, rfl⟩) (by rw [hown.1, hn]) (fun b hb => by cases hb) ad m c news hx hl hnews h1 (by omega) (by omega) (by rw [hn] at hbytes; exact hbytes) ?_
    intro v' w' hown' hg'
    rcases hown'.2 with ⟨_, h0⟩ | ⟨g', cap', cur', hv', hb', hh', r1, r2, r3, r4⟩
    · omega
    · subst hv'
      have hw : w'.ownsRow base e 1 (.slice (some ⟨g', 0, none⟩) (n + m) cap') (n + m) (xs ++ news) := by
        subst hn
        exact ⟨hown'.1, .inr ⟨g', cap', cur', rfl, by omega, hh', r1, r2, r3, r4⟩⟩
      have hg2 : w.grownBy w' v.ownBlock := by rw [hv]; exact hg'
      have := h g' cap' w' hw (hown0.kept hg2 (Or.inl (by rw [hv]; rfl))) hg2 (Or.inr hb')
      subst hn
      exact this
  · by_cases hroom : n + m ≤ cap
    · subst hv
      refine wpList_append_fits w hgd s x t ho base e i 1 ht hi hsize g n cap xs hs hown ad m c news hx hl hnews h1 hroom ?_
      intro w' hown' hg'
      refine h g cap w' hown' ?_ hg' (Or.inl rfl)
      refine ⟨hown0.1, ?_⟩
      rcases hown'.2 with ⟨h0, _⟩ | ⟨g', cap', cur', hv', hb', hh', r1, r2, r3, r4⟩
      · cases h0
      · cases hv'
        refine .inr ⟨g, cap, cur', rfl, hb, hh', hnc, hcm, r3, ?_⟩
        have h2 := congrArg (List.take (n * 1)) r4
        have e3 : (xs ++ news).take (n * 1) = xs := by
          rw [List.take_append_of_le_length (by rw [hown0.1]; exact Nat.le_refl _)]
          exact List.take_of_length_le (by rw [hown0.1]; exact Nat.le_refl _)
        rw [List.take_take, Nat.min_eq_left (by omega), e3] at h2
        exact h2
    · subst hv
      refine wpList_append_grows w hgd s x t ho e i z 1 bytes ht hi hz hsize hby hzs (by decide) (some ⟨g, 0, none⟩) n cap xs hs (fun h0 => by cases h0) hown.1 (fun b hb => by cases hb; exact hown0.cells rfl) ad m c news hx hl hnews h1 (by omega) h63 hbytes ?_
      intro v' w' hown' hg'
      rcases hown'.2 with ⟨_, h0⟩ | ⟨g', cap', cur', hv', hb', hh', r1, r2, r3, r4⟩
      · omega
      · subst hv'
        have hg2 : w.grownBy w' (some g) := ⟨hg'.os, hg'.tape, hg'.output, hg'.size, fun k hk _ => hg'.block k hk (by simp)⟩
        exact h g' cap' w' ⟨hown'.1, .inr ⟨g', cap', cur', rfl, by omega, hh', r1, r2, r3, r4⟩⟩ (hown0.kept hg' (Or.inr (by simp [Value.ownBlock]))) hg2 (Or.inr hb')

theorem grown_trans {w w1 w2 : World} {r : Option Nat} (h : w.grownBy w1 r) (k : w1.grownBy w2 r) : w.grownBy w2 r :=
  ⟨k.os.trans h.os, k.tape.trans h.tape, k.output.trans h.output, Nat.le_trans h.size k.size, fun i hi hne => (k.block i (Nat.lt_of_lt_of_le hi h.size) hne).trans (h.block i hi hne)⟩
theorem grown_setCell (w : World) (b i : Nat) (v : Value) : w.grownBy (w.setCell ⟨b, i, none⟩ v) (some b) :=
  ⟨rfl, rfl, rfl, by simp [World.setCell], fun k _ hk => Below.heap_setCell _ _ _ _ (fun e => hk (by simp [e]))⟩
theorem own_lt {w : World} {base : Nat} {e : TypeId} {size : Nat} {v : Value} {n : Nat} {xs : List Value} (h : w.ownsRow base e size v n xs) {g : Nat} (hg : v.ownBlock = some g) : g < w.heap.size := (h.lt g hg).2
/-- The block of an owned list bears its element's type. -/
theorem own_type {w : World} {base : Nat} {e : TypeId} {size : Nat} {v : Value} {n : Nat} {xs : List Value} (h : w.ownsRow base e size v n xs) {g : Nat} (hg : v.ownBlock = some g) : ∃ cur, w.heap[g]? = some (.cells cur e (0, 0)) := by
  rcases h.2 with ⟨rfl, _⟩ | ⟨g', cap, cur, rfl, _, hh, _⟩
  · cases hg
  · cases hg; exact ⟨cur, hh⟩
theorem own_same {w w' : World} {base : Nat} {e : TypeId} {size : Nat} {v : Value} {n : Nat} {xs : List Value} (h : w.ownsRow base e size v n xs) (hb : ∀ g, v.ownBlock = some g → w'.heap[g]? = w.heap[g]?) : w'.ownsRow base e size v n xs := by
  refine ⟨h.1, ?_⟩
  rcases h.2 with h0 | ⟨g, cap, cur, rfl, hbb, hh, r⟩
  · exact .inl h0
  · exact .inr ⟨g, cap, cur, rfl, hbb, (hb g rfl).trans hh, r⟩
/-- A shorter list in the same block. -/
theorem own_sub {w w' : World} {base : Nat} {e : TypeId} {u v : Value} {k n : Nat} {xs ys : List Value} (h : w.ownsRow base e 1 v n xs) (h' : w'.ownsRow base e 1 v n xs) (hu : w.ownsRow base e 1 u k ys) (hblk : u.ownBlock = v.ownBlock) (hk : k ≤ n) : w'.ownsRow base e 1 u k ys := by
  refine ⟨hu.1, ?_⟩
  rcases hu.2 with h0 | ⟨g, cap, cur, rfl, hb, hh, r1, r2, r3, r4⟩
  · exact .inl h0
  · rcases h.2 with ⟨rfl, _⟩ | ⟨g2, cap2, cur2, rfl, _, hh2, q1, q2, q3, q4⟩
    · cases hblk
    · cases hblk
      rw [hh] at hh2
      cases hh2
      rcases h'.2 with ⟨h0, _⟩ | ⟨g3, cap3, cur3, h3, _, hh3, s1, s2, s3, s4⟩
      · cases h0
      · cases h3
        refine .inr ⟨g, cap, cur3, rfl, hb, hh3, r1, r2, by omega, ?_⟩
        have e1 := congrArg (List.take (k * 1)) q4
        have e2 := congrArg (List.take (k * 1)) s4
        rw [List.take_take, Nat.min_eq_left (by omega)] at e1 e2
        rw [e2, ← e1]; exact r4

theorem HoldOk.kept {w w' : World} {B : Nat} {x : HoldD} (h : HoldOk w B x) (hp : w'.heap[x.p]? = w.heap[x.p]?) (ho : w'.ownsRow (B + 1) 5 1 x.v x.n (markV x.m x.n)) : HoldOk w' B x := ⟨h.above, hp.trans h.cell, ho, h.small⟩

/-- Where a list lies now: where it lay, or in new memory. -/
def OldOr (w : World) (u u0 : Value) : Prop := u.ownBlock = u0.ownBlock ∨ ∃ g, u.ownBlock = some g ∧ w.heap.size ≤ g

/-- Nothing else has turned. -/
structure Frame (w w' : World) (B : Nat) (vb hv : Value) : Prop where
  os : w'.os = w.os
  tape : w'.tape = w.tape
  output : w'.output = w.output
  size : w.heap.size ≤ w'.heap.size
  block : ∀ k, k < w.heap.size → k ≠ B → some k ≠ vb.ownBlock → some k ≠ hv.ownBlock → w'.heap[k]? = w.heap[k]?

theorem Frame.refl (w : World) (B : Nat) (vb hv : Value) : Frame w w B vb hv := ⟨rfl, rfl, rfl, Nat.le_refl _, fun _ _ _ _ _ => rfl⟩
theorem Frame.grown {w w1 w2 : World} {B : Nat} {vb hv : Value} {r : Option Nat} (h : Frame w w1 B vb hv) (hg : w1.grownBy w2 r) (hr : ∀ g, r = some g → g = B ∨ some g = vb.ownBlock ∨ some g = hv.ownBlock ∨ w.heap.size ≤ g) : Frame w w2 B vb hv :=
  ⟨hg.os.trans h.os, hg.tape.trans h.tape, hg.output.trans h.output, Nat.le_trans h.size hg.size, fun k hk hB hb hh => (hg.block k (Nat.lt_of_lt_of_le hk h.size) (fun e => by
    rcases hr k e.symm with h1 | h1 | h1 | h1
    · exact hB h1
    · exact hb h1
    · exact hh h1
    · omega)).trans (h.block k hk hB hb hh)⟩

/-- One list more on the record: the append to the world's own list, and the store of it. -/
theorem hold_step {w w3 : World} {B : Nat} {ps hv vb : Value} {hs : List HoldD} {n g cap : Nat} {m : Int} (hI : Inv w B ps hv hs) (hb : w.ownsRow (B + 1) 5 1 vb n (markV m n)) (hn : n ≤ 140737488355328)
    (hown : w3.ownsRow (B + 1) 71 1 (.slice (some ⟨g, 0, none⟩) (hs.length + 1) cap) (hs.length + 1) ((hs.map fun x => ptrV x.p) ++ [ptrV w.heap.size]))
    (hg : ((w.alloc (.cells #[vb, .int .i64 m] 113)).alloc (.cells #[ptrV w.heap.size] 71)).grownBy w3 hv.ownBlock)
    (hold : hv.ownBlock = some g ∨ w.heap.size + 2 ≤ g) :
    let w4 := w3.setCell ⟨B, 1, none⟩ (.slice (some ⟨g, 0, none⟩) (hs.length + 1) cap)
    Inv w4 B ps (.slice (some ⟨g, 0, none⟩) (hs.length + 1) cap) (hs ++ [⟨w.heap.size, vb, n, m⟩]) ∧ w4.ownsRow (B + 1) 5 1 vb n (markV m n) ∧ w.heap.size + 2 ≤ w4.heap.size ∧
      w4.os = w.os ∧ w4.tape = w.tape ∧ w4.output = w.output ∧ (∀ k, k < w.heap.size → k ≠ B → some k ≠ hv.ownBlock → w4.heap[k]? = w.heap[k]?) := by
  intro w4
  have hBlt : B < w.heap.size := (Array.getElem?_eq_some_iff.1 hI.cell).1
  have hold' : ∀ k, k < w.heap.size → ((w.alloc (.cells #[vb, .int .i64 m] 113)).alloc (.cells #[ptrV w.heap.size] 71)).heap[k]? = w.heap[k]? := fun k hk => by
    rw [Below.heap_alloc _ _ _ (by simp; omega), Below.heap_alloc _ _ _ hk]
  have hsz2 : ((w.alloc (.cells #[vb, .int .i64 m] 113)).alloc (.cells #[ptrV w.heap.size] 71)).heap.size = w.heap.size + 2 := by simp
  have hs3 : w.heap.size + 2 ≤ w3.heap.size := by have := hg.size; omega
  have hnB : hv.ownBlock ≠ some B := fun e => by
    obtain ⟨cur, hc⟩ := own_type hI.own e
    rw [hI.cell] at hc; simp at hc
  have h3 : ∀ k, k < w.heap.size → some k ≠ hv.ownBlock → w3.heap[k]? = w.heap[k]? := fun k hk hne => (hg.block k (by omega) hne).trans (hold' k hk)
  have h4 : ∀ k, k ≠ B → w4.heap[k]? = w3.heap[k]? := fun k hk => Below.heap_setCell _ _ _ _ hk
  have h4' : ∀ k, k < w.heap.size → k ≠ B → some k ≠ hv.ownBlock → w4.heap[k]? = w.heap[k]? := fun k hk hB hne => (h4 k hB).trans (h3 k hk hne)
  have hgB : g ≠ B := fun e => by
    subst e
    rcases hold with h | h
    · exact hnB h
    · omega
  have hrecB : w3.heap[B]? = some (.cells #[ps, hv] 43 (0, 0)) := (h3 B hBlt (fun e => hnB e.symm)).trans hI.cell
  have hp : w3.heap[w.heap.size]? = some (.cells #[vb, .int .i64 m] 113 (0, 0)) := by
    have e1 : some w.heap.size ≠ hv.ownBlock := fun e => by have := own_lt hI.own e.symm; omega
    rw [hg.block _ (by omega) e1, Below.heap_alloc _ _ _ (by simp)]
    exact heap_alloc_new w _
  have tne : ∀ (gg : Nat) (t : TypeId) (cur : Array Value), t ≠ 71 → w.heap[gg]? = some (.cells cur t (0, 0)) → some gg ≠ hv.ownBlock := fun gg t cur ht hc e => by
    obtain ⟨cur', hc'⟩ := own_type hI.own e.symm
    rw [hc] at hc'; simp at hc'; exact ht hc'.2
  have tneB : ∀ (gg : Nat) (t : TypeId) (cur : Array Value), t ≠ 43 → w.heap[gg]? = some (.cells cur t (0, 0)) → gg ≠ B := fun gg t cur ht hc e => by
    rw [e, hI.cell] at hc; simp at hc; exact ht hc.2.symm
  have hown4 : ∀ (u : Value) (k : Nat) (ys : List Value), w.ownsRow (B + 1) 5 1 u k ys → w4.ownsRow (B + 1) 5 1 u k ys := fun u k ys hu => own_same hu (fun gg hgg => by
    obtain ⟨cur, hc⟩ := own_type hu hgg
    exact h4' gg (own_lt hu hgg) (tneB gg _ cur (by decide) hc) (tne gg _ cur (by decide) hc))
  refine ⟨⟨?_, ?_, ?_⟩, hown4 _ _ _ hb, by simp [w4]; omega, hg.os, hg.tape, hg.output, h4'⟩
  · exact heap_setCell_same w3 B 1 #[ps, hv] 43 _ hrecB
  · have := own_same (w' := w4) hown (fun gg hgg => by cases hgg; exact h4 g hgB)
    simpa using this
  · intro x hx
    rcases List.mem_append.1 hx with hx | hx
    · have hk := hI.ok x hx
      have hlt : x.p < w.heap.size := (Array.getElem?_eq_some_iff.1 hk.cell).1
      exact hk.kept (h4' x.p hlt (tneB _ _ _ (by decide) hk.cell) (tne _ _ _ (by decide) hk.cell)) (hown4 _ _ _ hk.own)
    · simp at hx
      subst hx
      exact ⟨hBlt, (h4 w.heap.size (by omega)).trans hp, hown4 _ _ _ hb, hn⟩

end Go.Proofs.YtbjobbkgelipmaaGreat
