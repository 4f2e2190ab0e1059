/-
  The argument opened: a script that was handed in lies in memory.
-/
import Derived.Test.YtbjobbkgelipmaaGreatUpTo
import Derived.Test.YtbjobbkgelipmaaGreatLong
import Derived.Test.YtbjobbkgelipmaaGreatRows
import Derived.ProofKit
import Derived.SizedLaws
import Derived.Deep.Slices
namespace Go.Proofs.YtbjobbkgelipmaaGreat
open Go.ChangeShapes Go.WideShapes Go.ChangeAt Go.RowKit

theorem Tryz.own : ownKnob Tryz.prog.godebug = none := by kernel_rfl
theorem Tryz.laidOut : laidOutB Tryz.prog = true := by kernel_rfl
theorem Tryz.cellsOp : Tryz.prog.cellsOf 38 = 8 := by kernel_rfl
theorem Tryz.cellsInt : Tryz.prog.cellsOf 3 = 1 := by kernel_rfl
theorem Tryz.cellsStr : Tryz.prog.cellsOf 9 = 1 := by kernel_rfl
theorem Tryz.cellsStrs : Tryz.prog.cellsOf 36 = 1 := by kernel_rfl
theorem Tryz.cellsU64 : Tryz.prog.cellsOf 26 = 1 := by kernel_rfl
theorem Tryz.cellsCfg : Tryz.prog.cellsOf 35 = 2 := by kernel_rfl
theorem Tryz.bytesOp : Tryz.prog.bytesOf 38 = 96 := by kernel_rfl

def opList (x : OpD) : List Value := [.int .i64 x.k, .int .i64 x.n, .int .i64 x.h, .int .u64 x.sd, .string x.s, .string x.t, .slice x.la x.ll x.lc, .int .u64 x.a]

set_option maxRecDepth 100000 in
/-- A step opened: its eight cells; how long its texts are. -/
theorem op_open {H : Type} {enc : TypeId × Value → H} {W : World} {base : Nat} {spare : Nat → Bool} {held : Bool} {fuel : Nat} {cs : List Value} {y : DataW H × List MemPlace}
    (h : DataW.trod enc Tryz.prog W base spare held fuel 38 cs = some y) (hsz : ∀ m ∈ y.1.weights Tryz.prog 38, m ≤ reachBytes) :
    ∃ x : OpD, cs = opList x ∧ x.s.size ≤ 140737488351232 ∧ x.t.size ≤ 140737488351232 := by
  obtain ⟨xs, n, _, rfl, hl, hlen, hf⟩ := DataW.trod_struct Tryz.underlying38 h
  rw [Tryz.cellsOp] at hl
  have hlen7 : xs.length = 7 := hlen
  match xs, hlen7 with
  | [y0, y1, y2, y3, y4, y5, y6], _ =>
  match cs, hl with
  | [c0, c1, c2, c3, c4, c5, c6, c7], _ =>
  have f0 : DataW.trod enc Tryz.prog W base spare held n 3 (([c0, c1, c2, c3, c4, c5, c6, c7].drop 0).take (Tryz.prog.cellsOf 3)) = ([y0, y1, y2, y3, y4, y5, y6] : List (DataW H × List MemPlace))[0]? := hf 0 _ rfl
  rw [Tryz.cellsInt] at f0
  have g0 : DataW.trod enc Tryz.prog W base spare held n 3 [c0] = some y0 := f0
  have f1 : DataW.trod enc Tryz.prog W base spare held n 3 (([c0, c1, c2, c3, c4, c5, c6, c7].drop 1).take (Tryz.prog.cellsOf 3)) = ([y0, y1, y2, y3, y4, y5, y6] : List (DataW H × List MemPlace))[1]? := hf 1 _ rfl
  rw [Tryz.cellsInt] at f1
  have g1 : DataW.trod enc Tryz.prog W base spare held n 3 [c1] = some y1 := f1
  have f2 : DataW.trod enc Tryz.prog W base spare held n 35 (([c0, c1, c2, c3, c4, c5, c6, c7].drop 2).take (Tryz.prog.cellsOf 35)) = ([y0, y1, y2, y3, y4, y5, y6] : List (DataW H × List MemPlace))[2]? := hf 2 _ rfl
  rw [Tryz.cellsCfg] at f2
  have g2 : DataW.trod enc Tryz.prog W base spare held n 35 [c2, c3] = some y2 := f2
  have f3 : DataW.trod enc Tryz.prog W base spare held n 9 (([c0, c1, c2, c3, c4, c5, c6, c7].drop 4).take (Tryz.prog.cellsOf 9)) = ([y0, y1, y2, y3, y4, y5, y6] : List (DataW H × List MemPlace))[3]? := hf 3 _ rfl
  rw [Tryz.cellsStr] at f3
  have g3 : DataW.trod enc Tryz.prog W base spare held n 9 [c4] = some y3 := f3
  have f4 : DataW.trod enc Tryz.prog W base spare held n 9 (([c0, c1, c2, c3, c4, c5, c6, c7].drop 5).take (Tryz.prog.cellsOf 9)) = ([y0, y1, y2, y3, y4, y5, y6] : List (DataW H × List MemPlace))[4]? := hf 4 _ rfl
  rw [Tryz.cellsStr] at f4
  have g4 : DataW.trod enc Tryz.prog W base spare held n 9 [c5] = some y4 := f4
  have f5 : DataW.trod enc Tryz.prog W base spare held n 36 (([c0, c1, c2, c3, c4, c5, c6, c7].drop 6).take (Tryz.prog.cellsOf 36)) = ([y0, y1, y2, y3, y4, y5, y6] : List (DataW H × List MemPlace))[5]? := hf 5 _ rfl
  rw [Tryz.cellsStrs] at f5
  have g5 : DataW.trod enc Tryz.prog W base spare held n 36 [c6] = some y5 := f5
  have f6 : DataW.trod enc Tryz.prog W base spare held n 26 (([c0, c1, c2, c3, c4, c5, c6, c7].drop 7).take (Tryz.prog.cellsOf 26)) = ([y0, y1, y2, y3, y4, y5, y6] : List (DataW H × List MemPlace))[6]? := hf 6 _ rfl
  rw [Tryz.cellsU64] at f6
  have g6 : DataW.trod enc Tryz.prog W base spare held n 26 [c7] = some y6 := f6
  clear f0 f1 f2 f3 f4 f5 f6 hf
  obtain ⟨k, e0, rfl, _⟩ := DataW.trod_int Tryz.underlying3 g0
  obtain ⟨nn, e1, rfl, _⟩ := DataW.trod_int Tryz.underlying3 g1
  obtain ⟨z0, z1, m, rfl, _, t0, t1⟩ := trod_struct2 Tryz.underlying35 g2
  have t0a : DataW.trod enc Tryz.prog W base spare held m 3 (([c2, c3].drop 0).take (Tryz.prog.cellsOf 3)) = some z0 := t0
  have t1a : DataW.trod enc Tryz.prog W base spare held m 26 (([c2, c3].drop 1).take (Tryz.prog.cellsOf 26)) = some z1 := t1
  rw [Tryz.cellsInt] at t0a
  rw [Tryz.cellsU64] at t1a
  have t0' : DataW.trod enc Tryz.prog W base spare held m 3 [c2] = some z0 := t0a
  have t1' : DataW.trod enc Tryz.prog W base spare held m 26 [c3] = some z1 := t1a
  obtain ⟨hh, e2, rfl, _⟩ := DataW.trod_int Tryz.underlying3 t0'
  obtain ⟨sd, e3, rfl, _⟩ := DataW.trod_int Tryz.underlying26 t1'
  obtain ⟨s, e4, rfl, _⟩ := DataW.trod_string Tryz.underlying9 g3
  obtain ⟨t, e5, rfl, _⟩ := DataW.trod_string Tryz.underlying9 g4
  obtain ⟨a, e7, rfl, _⟩ := DataW.trod_int Tryz.underlying26 g6
  obtain ⟨la, ll, lc, e6⟩ : ∃ la ll lc, [c6] = [Value.slice la ll lc] := by
    rcases Deep.open_slice Tryz.underlying36 g5 with ⟨h, _⟩ | ⟨a, len, cap, _, _, _, _, h, _⟩
    · exact ⟨_, _, _, h⟩
    · exact ⟨_, _, _, h⟩
  simp only [List.cons.injEq, and_true] at e0 e1 e2 e3 e4 e5 e6 e7
  subst e0 e1 e2 e3 e4 e5 e6 e7
  refine ⟨⟨k, nn, hh, sd, s, t, la, ll, lc, a⟩, rfl, ?_, ?_⟩
  · have := hsz s.data.toList.length (by simp [DataW.weights, DataW.weightsEach, Tryz.underlying38])
    simpa [reachBytes] using this
  · have := hsz t.data.toList.length (by simp [DataW.weights, DataW.weightsEach, Tryz.underlying38])
    simpa [reachBytes] using this

theorem weightsAll_mem {H : Type} {P : Program} {e : TypeId} : ∀ {l : List (DataW H)} {d : DataW H}, d ∈ l → ∀ m ∈ d.weights P e, m ∈ DataW.weightsAll P e l
  | [], _, h, _, _ => by cases h
  | x :: l, d, h, m, hm => by
    rw [DataW.weightsAll, List.mem_append]
    rcases List.mem_cons.1 h with rfl | h
    · exact Or.inl hm
    · exact Or.inr (weightsAll_mem h m hm)

/-- A script opened. -/
theorem script_open {H : Type} {enc : TypeId × Value → H} {W : World} {fuel : Nat} {a0 : Option Addr} {len cap : Nat} {y : DataW H × List MemPlace}
    (h : DataW.trod enc Tryz.prog W 0 (fun _ => true) true fuel 22 [.slice a0 len cap] = some y) (hsz : ∀ m ∈ y.1.weights Tryz.prog 22, m ≤ reachBytes) :
    len = 0 ∨ ∃ b off xs, a0 = some ⟨b, off, none⟩ ∧ xs.length = len ∧ len ≤ 1466015503701 ∧ ScriptAt W b off xs := by
  rcases Deep.open_slice Tryz.underlying22 h with ⟨hcs, _⟩ | ⟨a, len', cap', m, n, D, Pl, hcs, _, hl, hm, hmm, rfl, hel⟩
  · simp only [List.cons.injEq, Value.slice.injEq, and_true] at hcs
    exact Or.inl hcs.2.1
  · simp only [List.cons.injEq, Value.slice.injEq, and_true] at hcs
    obtain ⟨rfl, rfl, rfl⟩ := hcs
    simp only [if_true] at hmm
    subst hmm
    by_cases h0 : len = 0
    · exact Or.inl h0
    right
    have hw : (DataW.slice ((List.range len).map D) ((List.range (m - len)).map fun j => D (len + j))).weights Tryz.prog 22 =
        (((List.range len).map D).length + ((List.range (m - len)).map fun j => D (len + j)).length) * Tryz.prog.bytesOf 38 :: (DataW.weightsAll Tryz.prog 38 ((List.range len).map D) ++ DataW.weightsAll Tryz.prog 38 ((List.range (m - len)).map fun j => D (len + j))) := by
      simp only [DataW.weights, Tryz.underlying22]
    rw [hw] at hsz
    have hb := hsz _ List.mem_cons_self
    rw [Tryz.bytesOp] at hb
    simp only [List.length_map, List.length_range, reachBytes] at hb
    have hop : ∀ i, i < len → ∃ x : OpD, (W.cells? 0 (a.add (i * 8)) 8 = some (opList x)) ∧ x.s.size ≤ 140737488351232 ∧ x.t.size ≤ 140737488351232 := by
      intro i hi
      obtain ⟨cs', hc, ht⟩ := hel i (by omega)
      rw [Tryz.cellsOp] at hc
      obtain ⟨x, rfl, h1, h2⟩ := op_open ht (fun k hk => hsz k (List.mem_cons_of_mem _ (List.mem_append_left _ (weightsAll_mem (List.mem_map.2 ⟨i, by simpa using hi, rfl⟩) k hk))))
      exact ⟨x, hc, h1, h2⟩
    have inh : Inhabited OpD := ⟨⟨0, 0, 0, 0, ⟨#[]⟩, ⟨#[]⟩, none, 0, 0, 0⟩⟩
    obtain ⟨f, hfx⟩ := Deep.choose_lt hop
    obtain ⟨b, off, spot⟩ := a
    have hspot : spot = none := by
      have h1 := (World.cells?_some (hfx 0 (by omega)).1).2.2 0 (by omega)
      have h2 : W.cell? ((⟨b, off, spot⟩ : Addr).add (0 * 8 + 0)) = some (Value.int .i64 (f 0).k) := by rw [← Deep.add_add]; exact h1
      simpa [Addr.add] using World.cell?_spot h2
    subst hspot
    have hcell : ∀ i, i < len → ∀ j, j < 8 → W.cell? ⟨b, off + i * 8 + j, none⟩ = (opList (f i))[j]? := by
      intro i hi j hj
      have h1 := (World.cells?_some (hfx i hi).1).2.2 j hj
      rw [Deep.add_add, addr_add, ← Nat.add_assoc] at h1
      exact h1
    refine ⟨b, off, (List.range len).map f, rfl, by simp, by omega, ?_, ?_, ?_⟩
    · exact World.cells?_block (hfx 0 (by omega)).1 (by omega)
    · intro i hi
      have hi' : i < len := by simpa using hi
      have e : ((List.range len).map f)[i] = f i := by simp
      rw [e]
      have c := hcell i hi'
      exact ⟨c 0 (by omega), c 1 (by omega), c 2 (by omega), c 3 (by omega), c 4 (by omega), c 5 (by omega), c 6 (by omega), c 7 (by omega)⟩
    · intro x hx
      obtain ⟨i, hi, rfl⟩ := List.mem_map.1 hx
      exact (hfx i (by simpa using hi)).2

end Go.Proofs.YtbjobbkgelipmaaGreat
