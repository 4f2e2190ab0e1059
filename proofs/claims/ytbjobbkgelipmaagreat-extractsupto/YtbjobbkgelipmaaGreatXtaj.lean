/-
  The walk of example: a small tree, its report and proofs, a script of them.
-/
import Derived.Test.YtbjobbkgelipmaaGreatBkai
import Derived.Test.YtbjobbkgelipmaaGreatBkaa
namespace Go.Proofs.YtbjobbkgelipmaaGreat
open Go.RowKit

def exLeaves : List LeafD := [⟨⟨#[97]⟩, 5, 6⟩, ⟨⟨#[98]⟩, 7, 8⟩]
theorem exLeaves_ok : ∀ x ∈ exLeaves, x.ok := by
  intro x hx
  simp [exLeaves] at hx
  rcases hx with rfl | rfl
  · exact ⟨by decide, by decide, by decide, by decide, by decide⟩
  · exact ⟨by decide, by decide, by decide, by decide, by decide⟩

theorem exLeaves_at (w : World) (b : Nat) (hlt : b < w.heap.size) (h0 : w.cell? ⟨b, 0, none⟩ = some (.string ⟨#[97]⟩)) (h1 : w.cell? ⟨b, 1, none⟩ = some (.int .u64 5)) (h2 : w.cell? ⟨b, 2, none⟩ = some (.int .u64 6))
    (h3 : w.cell? ⟨b, 3, none⟩ = some (.string ⟨#[98]⟩)) (h4 : w.cell? ⟨b, 4, none⟩ = some (.int .u64 7)) (h5 : w.cell? ⟨b, 5, none⟩ = some (.int .u64 8)) : LeavesAt w b 0 exLeaves :=
  ⟨hlt, fun i hi => by
    match i, hi with
    | 0, _ => exact ⟨h0, h1, h2⟩
    | 1, _ => exact ⟨h3, h4, h5⟩, exLeaves_ok⟩

/-- The three texts of the example, by contracts: what matters of them is how long they are. -/
theorem ex_report (w : World) (b : Nat) (hl : LeavesAt w b 0 exLeaves) :
    Calls Tryz.prog 10 #[.agg #[.int .i64 1, .slice (some ⟨b, 0, none⟩) 2 2]] w fun e w' => (∃ r : ByteArray, r.size ≤ 100 ∧ e = .returned (.string r)) ∧ Below w.heap.size w w' :=
  (report_any 1 (some ⟨b, 0, none⟩) 2 exLeaves w (by decide) (by decide) (Or.inr ⟨b, 0, rfl, hl⟩)).mono fun e w' h => ⟨⟨_, by simp [ByteArray.size, reportB, sideB_length], h.1⟩, h.2⟩
theorem ex_proof (w : World) (b p : Nat) (hp : p < 2) (hl : LeavesAt w b 0 exLeaves) :
    Calls Tryz.prog 11 #[.agg #[.int .i64 1, .slice (some ⟨b, 0, none⟩) 2 2], .int .i64 (p : Int)] w fun e w' => (∃ r : ByteArray, 5 ≤ r.size ∧ r.size ≤ 100 ∧ e = .returned (.string r)) ∧ Below w.heap.size w w' := by
  have hx : exLeaves[p]? = some exLeaves[p] := List.getElem?_eq_getElem hp
  have hs : exLeaves[p].nm.size ≤ 8 := (exLeaves_ok _ (List.getElem_mem hp)).1
  refine (proof_any 1 b 0 2 p exLeaves exLeaves[p] w (by decide) (by decide) hl hx (by simpa using hp)).mono fun e w' h => ⟨⟨⟨(proofTo exLeaves 1 p exLeaves[p] 1).toArray⟩, ?_, ?_, h.1⟩, h.2⟩
  · have := proofTo_length exLeaves 1 p exLeaves[p] 1
    simp [ByteArray.size]; omega
  · have := proofTo_length exLeaves 1 p exLeaves[p] 1
    simp [ByteArray.size]; omega

/-- What UpTo owes: of every script that lies in memory: -1. -/
def UpToOwes (least last : Int) : Prop := ∀ (b off cap : Nat) (xs : List OpD) (w : World), xs.length ≤ 1466015503701 → ScriptAt w b off xs →
  Calls Tryz.prog 9 #[.slice (some ⟨b, off, none⟩) xs.length cap, .int .i64 least, .int .i64 last] w fun e w' => e = .returned (.int .i64 (-1)) ∧ Below w.heap.size w w'

/-- The ranges of a step's numbers. -/
def OpRange (x : OpD) : Prop := -9223372036854775808 ≤ x.n ∧ x.n < 9223372036854775808 ∧ 0 ≤ x.a ∧ x.a < 18446744073709551616
/-- The texts that a step hands over lie in memory. -/
def OpTexts (w : World) (x : OpD) (ls : List ByteArray) : Prop := ls.length = x.ll ∧ (ls = [] ∨ ∃ g o, x.la = some ⟨g, o, none⟩ ∧ g < w.heap.size ∧ ∀ j (hj : j < ls.length), w.cell? ⟨g, o + j, none⟩ = some (.string ls[j]))
/-- What UpTo owes, of a script of which more is known. -/
def UpToOwesR (least last : Int) : Prop := ∀ (b off cap : Nat) (xs : List OpD) (w : World), xs.length ≤ 1048576 → ScriptAt w b off xs → (∀ x ∈ xs, OpRange x ∧ ∃ ls, OpTexts w x ls ∧ ls.length ≤ 2 ∧ ∀ s ∈ ls, s.size ≤ 100) →
  Calls Tryz.prog 9 #[.slice (some ⟨b, off, none⟩) xs.length cap, .int .i64 least, .int .i64 last] w fun e w' => e = .returned (.int .i64 (-1)) ∧ Below w.heap.size w w'
theorem UpToOwes.more {least last : Int} (h : UpToOwes least last) : UpToOwesR least last := fun b off cap xs w hm hS _ => h b off cap xs w (by omega) hS

theorem owes_at {least last : Int} (hU : UpToOwesR least last) (b off cap n : Nat) (xs : List OpD) (w : World) (hn : xs.length = n) (hm : n ≤ 1048576) (hS : ScriptAt w b off xs) (hR : ∀ x ∈ xs, OpRange x ∧ ∃ ls, OpTexts w x ls ∧ ls.length ≤ 2 ∧ ∀ s ∈ ls, s.size ≤ 100) :
    Calls Tryz.prog 9 #[.slice (some ⟨b, off, none⟩) n cap, .int .i64 least, .int .i64 last] w fun e w' => e = .returned (.int .i64 (-1)) ∧ Below w.heap.size w w' := by
  subst hn
  exact hU b off cap xs w hm hS hR

/-- A step's eight cells. -/
def opCells (x : OpD) : List Value := [.int .i64 x.k, .int .i64 x.n, .int .i64 x.h, .int .u64 x.sd, .string x.s, .string x.t, .slice x.la x.ll x.lc, .int .u64 x.a]

theorem flat_at : ∀ (xs : List OpD) (i : Nat) (h : i < xs.length) (j : Nat), j < 8 → (xs.flatMap opCells)[i * 8 + j]? = (opCells xs[i])[j]?
  | [], i, h, _, _ => by simp at h
  | x :: xs, 0, _, j, hj => by
    have hl : j < (opCells x).length := by simpa [opCells] using hj
    simp only [List.flatMap_cons, Nat.zero_mul, Nat.zero_add, List.getElem_cons_zero]
    rw [List.getElem?_append_left hl]
  | x :: xs, i + 1, h, j, hj => by
    have hl : (opCells x).length = 8 := rfl
    have e : (i + 1) * 8 + j = (opCells x).length + (i * 8 + j) := by omega
    simp only [List.flatMap_cons, List.getElem_cons_succ]
    rw [e, List.getElem?_append_right (by omega), Nat.add_sub_cancel_left]
    exact flat_at xs i (by simpa using h) j hj

theorem script_block (W : World) (cs : Array Value) (T : TypeId) (n : Nat) (xs : List OpD) (hc : cs = (xs.flatMap opCells).toArray) (hn : n = W.heap.size)
    (hsm : ∀ x ∈ xs, x.s.size ≤ 140737488351232 ∧ x.t.size ≤ 140737488351232) : ScriptAt (W.alloc (.cells cs T)) n 0 xs := by
  subst hc hn
  refine ⟨by simp, fun i hi => ?_, hsm⟩
  have e : ∀ j, j < 8 → (W.alloc (.cells (xs.flatMap opCells).toArray T)).cell? ⟨W.heap.size, 0 + i * 8 + j, none⟩ = (opCells xs[i])[j]? := by
    intro j hj
    rw [World.cell?_alloc_at _ _ _ _ rfl, Nat.zero_add, ← flat_at xs i hi j hj]
    simp
  exact ⟨e 0 (by omega), e 1 (by omega), e 2 (by omega), e 3 (by omega), e 4 (by omega), e 5 (by omega), e 6 (by omega), e 7 (by omega)⟩

def bA : ByteArray := ⟨#[97]⟩
def bB : ByteArray := ⟨#[98]⟩
def bE : ByteArray := ⟨#[]⟩
/-- The example's script. -/
def exScript (r p q : ByteArray) (B : Nat) : List OpD :=
  [⟨1, 0, 0, 0, bE, bE, none, 0, 0, 0⟩, ⟨1, 0, 0, 0, r, bE, none, 0, 0, 0⟩, ⟨2, 0, 0, 0, r, p, none, 0, 0, 0⟩, ⟨2, 0, 0, 0, r, q, none, 0, 0, 0⟩, ⟨2, 0, 0, 0, r, p.extract 0 5, none, 0, 0, 0⟩,
   ⟨3, 0, 0, 0, r, bE, some ⟨B, 0, none⟩, 2, 2, 0⟩, ⟨3, 0, 0, 0, r, bE, some ⟨B + 1, 0, none⟩, 2, 2, 0⟩, ⟨4, 0, 1, 3, bE, bE, none, 0, 0, 0⟩, ⟨5, 0, 0, 0, bA, bE, none, 0, 0, 0⟩, ⟨5, 0, 0, 0, bB, bE, none, 0, 0, 0⟩,
   ⟨7, 0, 0, 0, bB, bE, none, 0, 0, 9⟩, ⟨9, 0, 0, 0, bB, bA, none, 0, 0, 4⟩, ⟨10, 0, 0, 0, bA, bE, none, 0, 0, 0⟩, ⟨11, 0, 0, 0, bE, bE, none, 0, 0, 0⟩, ⟨12, 0, 0, 0, bA, bE, none, 0, 0, 0⟩,
   ⟨8, 0, 0, 0, bA, bE, none, 0, 0, 4⟩, ⟨6, 0, 0, 0, bA, bE, none, 0, 0, 0⟩, ⟨12, 0, 0, 0, bA, bE, none, 0, 0, 0⟩, ⟨10, 0, 0, 0, bA, bE, none, 0, 0, 0⟩]

theorem exScript_small (r p q : ByteArray) (B : Nat) (hr : r.size ≤ 100) (hp : p.size ≤ 100) (hq : q.size ≤ 100) : ∀ x ∈ exScript r p q B, x.s.size ≤ 140737488351232 ∧ x.t.size ≤ 140737488351232 := by
  have eA : bA.size = 1 := rfl
  have eB : bB.size = 1 := rfl
  have eE : bE.size = 0 := rfl
  have ep : (p.extract 0 5).size ≤ 5 := by rw [ByteArray.size_extract]; omega
  intro x hx
  simp only [exScript, List.mem_cons, List.not_mem_nil, or_false] at hx
  rcases hx with rfl | rfl | rfl | rfl | rfl | rfl | rfl | rfl | rfl | rfl | rfl | rfl | rfl | rfl | rfl | rfl | rfl | rfl | rfl <;> simp only <;> omega

theorem exScript_more (r p q : ByteArray) (B : Nat) (W : World) (hp : p.size ≤ 100) (hq : q.size ≤ 100) (hB : B + 1 < W.heap.size) (h0 : W.cell? ⟨B, 0, none⟩ = some (.string p)) (h1 : W.cell? ⟨B, 1, none⟩ = some (.string q)) (h2 : W.cell? ⟨B + 1, 0, none⟩ = some (.string p)) (h3 : W.cell? ⟨B + 1, 1, none⟩ = some (.string p)) :
    ∀ x ∈ exScript r p q B, OpRange x ∧ ∃ ls, OpTexts W x ls ∧ ls.length ≤ 2 ∧ ∀ s ∈ ls, s.size ≤ 100 := by
  have none_ : ∀ (x : OpD), x.ll = 0 → OpRange x → OpRange x ∧ ∃ ls, OpTexts W x ls ∧ ls.length ≤ 2 ∧ ∀ s ∈ ls, s.size ≤ 100 := fun x hx hr => ⟨hr, [], ⟨hx.symm, .inl rfl⟩, by simp, fun s hs => by cases hs⟩
  have two_ : ∀ (x : OpD) (g : Nat) (a b : ByteArray), x.ll = 2 → x.la = some ⟨g, 0, none⟩ → g < W.heap.size → W.cell? ⟨g, 0, none⟩ = some (.string a) → W.cell? ⟨g, 1, none⟩ = some (.string b) → a.size ≤ 100 → b.size ≤ 100 → OpRange x → OpRange x ∧ ∃ ls, OpTexts W x ls ∧ ls.length ≤ 2 ∧ ∀ s ∈ ls, s.size ≤ 100 := fun x g a b hx hl hg c0 c1 ha hb hr => by
    refine ⟨hr, [a, b], ⟨hx.symm, .inr ⟨g, 0, hl, hg, fun j hj => ?_⟩⟩, by simp, fun s hs => ?_⟩
    · match j, hj with
      | 0, _ => simpa using c0
      | 1, _ => simpa using c1
    · simp at hs
      rcases hs with rfl | rfl <;> assumption
  intro x hx
  simp only [exScript, List.mem_cons, List.not_mem_nil, or_false] at hx
  rcases hx with rfl | rfl | rfl | rfl | rfl | rfl | rfl | rfl | rfl | rfl | rfl | rfl | rfl | rfl | rfl | rfl | rfl | rfl | rfl
  case inr.inr.inr.inr.inr.inl => exact two_ _ B p q rfl rfl (by omega) h0 h1 hp hq (by unfold OpRange; simp only; omega)
  case inr.inr.inr.inr.inr.inr.inl => exact two_ _ (B + 1) p p rfl rfl hB h2 h3 hp hp (by unfold OpRange; simp only; omega)
  all_goals exact none_ _ rfl (by unfold OpRange; simp only; omega)

set_option maxRecDepth 100000 in
set_option maxHeartbeats 1000000 in
theorem example_any (least last : Int) (hU : UpToOwesR least last) (w : World) :
    Calls Tryz.prog 8 #[.int .i64 least, .int .i64 last] w fun e w' => e = .returned (.bool true) ∧ Below w.heap.size w w' := by
  go_enter Tryz.func8, Tryz.ntmps8
  go_wp2_with fail
  generalize hW0 : ((w.alloc (Obj.cells #[Value.string ⟨#[97]⟩, Value.int IntKind.u64 5, Value.int IntKind.u64 6, Value.string ⟨#[98]⟩, Value.int IntKind.u64 7, Value.int IntKind.u64 8] 28)).alloc (Obj.cells #[Value.int IntKind.i64 1, Value.slice (some ⟨w.heap.size, 0, none⟩) 2 2] 31)) = W0
  have hs0 : W0.heap.size = w.heap.size + 2 := by rw [← hW0]; simp
  have hl0 : LeavesAt W0 w.heap.size 0 exLeaves := by
    rw [← hW0]
    exact exLeaves_at _ _ (by simp; omega) (by simp) (by simp) (by simp) (by simp) (by simp) (by simp)
  have t0 : W0.cell? ⟨w.heap.size + 1, 0, none⟩ = some (.int .i64 1) := by rw [← hW0]; simp
  have t1 : W0.cell? ⟨w.heap.size + 1, 1, none⟩ = some (.slice (some ⟨w.heap.size, 0, none⟩) 2 2) := by rw [← hW0]; simp
  have hA0 : Below w.heap.size w W0 := by rw [← hW0]; exact ((Below.refl w.heap.size w).alloc (Nat.le_refl _) _).alloc (by simp) _
  clear hW0
  refine (ex_report _ _ hl0).mono ?_
  rintro e w1 ⟨⟨r, hr, rfl⟩, hb1⟩
  have hs1 : w.heap.size + 1 < w1.heap.size := by have := hb1.size; omega
  have hl1 : Hid (LeavesAt w1 w.heap.size 0 exLeaves) := hl0.below hb1 (by omega)
  have t0' := keepB hb1 (by omega) t0
  have t1' := keepB hb1 (by omega) t1
  have HA1 := hide (hA0.trans (hb1.mono (by omega)))
  clear hs0 hl0 t0 t1 hA0 hb1
  go_wp2_with fail
  refine (ex_proof _ _ 0 (by decide) (unhide hl1)).mono ?_
  rintro e w2 ⟨⟨p, hp, hp', rfl⟩, hb2⟩
  have hs2 : w.heap.size + 1 < w2.heap.size := by have := hb2.size; omega
  have hl2 : Hid (LeavesAt w2 w.heap.size 0 exLeaves) := (unhide hl1).below hb2 (by omega)
  have t0'' := keepB hb2 (by omega) t0'
  have t1'' := keepB hb2 (by omega) t1'
  have HA2 := hide ((unhide HA1).trans (hb2.mono (by omega)))
  clear hs1 hl1 t0' t1' HA1 hb2
  go_wp2_with fail
  refine (ex_proof _ _ 1 (by decide) (unhide hl2)).mono ?_
  rintro e w3 ⟨⟨q, hq, hq', rfl⟩, hb3⟩
  have hs3 : w.heap.size + 1 < w3.heap.size := by have := hb3.size; omega
  have HA3 := hide ((unhide HA2).trans (hb3.mono (by omega)))
  clear hs2 hl2 t0'' t1'' HA2 hb3
  go_wp2_with fail
  refine (owes_at hU _ _ _ 19 (exScript r p q w3.heap.size) _ rfl (by decide) ?sc ?sm).mono ?_
  case sc => exact script_block _ _ _ _ _ rfl (by simp) (exScript_small r p q _ hr hp' hq')
  case sm =>
    refine exScript_more r p q _ _ hp' hq' (by simp) ?_ ?_ ?_ ?_
    · exact (World.cell?_alloc_lt _ _ _ (by simp only [World.size_alloc]; omega)).trans ((World.cell?_alloc_lt _ _ _ (by simp only [World.size_alloc]; omega)).trans (World.cell?_alloc_at _ _ _ _ rfl))
    · exact (World.cell?_alloc_lt _ _ _ (by simp only [World.size_alloc]; omega)).trans ((World.cell?_alloc_lt _ _ _ (by simp only [World.size_alloc]; omega)).trans (World.cell?_alloc_at _ _ _ _ rfl))
    · exact (World.cell?_alloc_lt _ _ _ (by simp only [World.size_alloc]; omega)).trans (World.cell?_alloc_at _ _ _ _ (by simp))
    · exact (World.cell?_alloc_lt _ _ _ (by simp only [World.size_alloc]; omega)).trans (World.cell?_alloc_at _ _ _ _ (by simp))
  rintro e w4 ⟨rfl, hb4⟩
  have HA4 := hide ((((((unhide HA3).alloc (by omega) _).alloc (by simp; omega) _).alloc (by simp; omega) _)).trans (hb4.mono (B' := w.heap.size) (by simp; omega)))
  clear hb4 HA3
  go_wp2
  go_ret
  exact ⟨rfl, unhide HA4⟩

end Go.Proofs.YtbjobbkgelipmaaGreat
