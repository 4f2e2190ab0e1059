/-
  The argument opened: a script that was handed in lies in memory.
-/
import Derived.Test.YtbjobbkgelipmaaGreatRows
import Derived.ProofKit
import Derived.SizedLaws
import Derived.Deep.Slices
import Derived.Test.YtbjobbkgelipmaaGreatBkaa
import Derived.Test.YtbjobbkgelipmaaGreatBkaj
namespace Go.Proofs.YtbjobbkgelipmaaGreat
open Go.ChangeShapes Go.WideShapes Go.ChangeAt Go.RowKit

theorem Tryz.own : ownKnob Tryz.prog.godebug = none := by kernel_rfl
theorem Tryz.laidOut : laidOutB Tryz.prog = true := by kernel_rfl
theorem Tryz.cellsOp : Tryz.prog.cellsOf 38 = 8 := by kernel_rfl
theorem Tryz.cellsInt : Tryz.prog.cellsOf 3 = 1 := by kernel_rfl
theorem Tryz.cellsStr : Tryz.prog.cellsOf 9 = 1 := by kernel_rfl
theorem Tryz.cellsStrs : Tryz.prog.cellsOf 36 = 1 := by kernel_rfl
theorem Tryz.cellsU64 : Tryz.prog.cellsOf 26 = 1 := by kernel_rfl
theorem Tryz.cellsCfg : Tryz.prog.cellsOf 35 = 2 := by kernel_rfl
theorem Tryz.bytesOp : Tryz.prog.bytesOf 38 = 96 := by kernel_rfl

def opList (x : OpD) : List Value := [.int .i64 x.k, .int .i64 x.n, .int .i64 x.h, .int .u64 x.sd, .string x.s, .string x.t, .slice x.la x.ll x.lc, .int .u64 x.a]

set_option maxRecDepth 100000 in
/-- A step opened: its eight cells; how long its texts are. -/
theorem op_open {H : Type} {enc : TypeId × Value → H} {W : World} {base : Nat} {spare : Nat → Bool} {held : Bool} {fuel : Nat} {cs : List Value} {y : DataW H × List MemPlace}
    (h : DataW.trod enc Tryz.prog W base spare held fuel 38 cs = some y) (hsz : ∀ m ∈ y.1.weights Tryz.prog 38, m ≤ reachBytes) :
    ∃ x : OpD, cs = opList x ∧ x.s.size ≤ 140737488351232 ∧ x.t.size ≤ 140737488351232 := by
  obtain ⟨xs, n, _, rfl, hl, hlen, hf⟩ := DataW.trod_struct Tryz.underlying38 h
  rw [Tryz.cellsOp] at hl
  have hlen7 : xs.length = 7 := hlen
  match xs, hlen7 with
  | [y0, y1, y2, y3, y4, y5, y6], _ =>
  match cs, hl with
  | [c0, c1, c2, c3, c4, c5, c6, c7], _ =>
  have f0 : DataW.trod enc Tryz.prog W base spare held n 3 (([c0, c1, c2, c3, c4, c5, c6, c7].drop 0).take (Tryz.prog.cellsOf 3)) = ([y0, y1, y2, y3, y4, y5, y6] : List (DataW H × List MemPlace))[0]? := hf 0 _ rfl
  rw [Tryz.cellsInt] at f0
  have g0 : DataW.trod enc Tryz.prog W base spare held n 3 [c0] = some y0 := f0
  have f1 : DataW.trod enc Tryz.prog W base spare held n 3 (([c0, c1, c2, c3, c4, c5, c6, c7].drop 1).take (Tryz.prog.cellsOf 3)) = ([y0, y1, y2, y3, y4, y5, y6] : List (DataW H × List MemPlace))[1]? := hf 1 _ rfl
  rw [Tryz.cellsInt] at f1
  have g1 : DataW.trod enc Tryz.prog W base spare held n 3 [c1] = some y1 := f1
  have f2 : DataW.trod enc Tryz.prog W base spare held n 35 (([c0, c1, c2, c3, c4, c5, c6, c7].drop 2).take (Tryz.prog.cellsOf 35)) = ([y0, y1, y2, y3, y4, y5, y6] : List (DataW H × List MemPlace))[2]? := hf 2 _ rfl
  rw [Tryz.cellsCfg] at f2
  have g2 : DataW.trod enc Tryz.prog W base spare held n 35 [c2, c3] = some y2 := f2
  have f3 : DataW.trod enc Tryz.prog W base spare held n 9 (([c0, c1, c2, c3, c4, c5, c6, c7].drop 4).take (Tryz.prog.cellsOf 9)) = ([y0, y1, y2, y3, y4, y5, y6] : List (DataW H × List MemPlace))[3]? := hf 3 _ rfl
  rw [Tryz.cellsStr] at f3
  have g3 : DataW.trod enc Tryz.prog W base spare held n 9 [c4] = some y3 := f3
  have f4 : DataW.trod enc Tryz.prog W base spare held n 9 (([c0, c1, c2, c3, c4, c5, c6, c7].drop 5).take (Tryz.prog.cellsOf 9)) = ([y0, y1, y2, y3, y4, y5, y6] : List (DataW H × List MemPlace))[4]? := hf 4 _ rfl
  rw [Tryz.cellsStr] at f4
  have g4 : DataW.trod enc Tryz.prog W base spare held n 9 [c5] = some y4 := f4
  have f5 : DataW.trod enc Tryz.prog W base spare held n 36 (([c0, c1, c2, c3, c4, c5, c6, c7].drop 6).take (Tryz.prog.cellsOf 36)) = ([y0, y1, y2, y3, y4, y5, y6] : List (DataW H × List MemPlace))[5]? := hf 5 _ rfl
  rw [Tryz.cellsStrs] at f5
  have g5 : DataW.trod enc Tryz.prog W base spare held n 36 [c6] = some y5 := f5
  have f6 : DataW.trod enc Tryz.prog W base spare held n 26 (([c0, c1, c2, c3, c4, c5, c6, c7].drop 7).take (Tryz.prog.cellsOf 26)) = ([y0, y1, y2, y3, y4, y5, y6] : List (DataW H × List MemPlace))[6]? := hf 6 _ rfl
  rw [Tryz.cellsU64] at f6
  have g6 : DataW.trod enc Tryz.prog W base spare held n 26 [c7] = some y6 := f6
  clear f0 f1 f2 f3 f4 f5 f6 hf
  obtain ⟨k, e0, rfl, _⟩ := DataW.trod_int Tryz.underlying3 g0
  obtain ⟨nn, e1, rfl, _⟩ := DataW.trod_int Tryz.underlying3 g1
  obtain ⟨z0, z1, m, rfl, _, t0, t1⟩ := trod_struct2 Tryz.underlying35 g2
  have t0a : DataW.trod enc Tryz.prog W base spare held m 3 (([c2, c3].drop 0).take (Tryz.prog.cellsOf 3)) = some z0 := t0
  have t1a : DataW.trod enc Tryz.prog W base spare held m 26 (([c2, c3].drop 1).take (Tryz.prog.cellsOf 26)) = some z1 := t1
  rw [Tryz.cellsInt] at t0a
  rw [Tryz.cellsU64] at t1a
  have t0' : DataW.trod enc Tryz.prog W base spare held m 3 [c2] = some z0 := t0a
  have t1' : DataW.trod enc Tryz.prog W base spare held m 26 [c3] = some z1 := t1a
  obtain ⟨hh, e2, rfl, _⟩ := DataW.trod_int Tryz.underlying3 t0'
  obtain ⟨sd, e3, rfl, _⟩ := DataW.trod_int Tryz.underlying26 t1'
  obtain ⟨s, e4, rfl, _⟩ := DataW.trod_string Tryz.underlying9 g3
  obtain ⟨t, e5, rfl, _⟩ := DataW.trod_string Tryz.underlying9 g4
  obtain ⟨a, e7, rfl, _⟩ := DataW.trod_int Tryz.underlying26 g6
  obtain ⟨la, ll, lc, e6⟩ : ∃ la ll lc, [c6] = [Value.slice la ll lc] := by
    rcases Deep.open_slice Tryz.underlying36 g5 with ⟨h, _⟩ | ⟨a, len, cap, _, _, _, _, h, _⟩
    · exact ⟨_, _, _, h⟩
    · exact ⟨_, _, _, h⟩
  simp only [List.cons.injEq, and_true] at e0 e1 e2 e3 e4 e5 e6 e7
  subst e0 e1 e2 e3 e4 e5 e6 e7
  refine ⟨⟨k, nn, hh, sd, s, t, la, ll, lc, a⟩, rfl, ?_, ?_⟩
  · have := hsz s.data.toList.length (by simp [DataW.weights, DataW.weightsEach, Tryz.underlying38])
    simpa [reachBytes] using this
  · have := hsz t.data.toList.length (by simp [DataW.weights, DataW.weightsEach, Tryz.underlying38])
    simpa [reachBytes] using this

theorem weightsAll_mem {H : Type} {P : Program} {e : TypeId} : ∀ {l : List (DataW H)} {d : DataW H}, d ∈ l → ∀ m ∈ d.weights P e, m ∈ DataW.weightsAll P e l
  | [], _, h, _, _ => by cases h
  | x :: l, d, h, m, hm => by
    rw [DataW.weightsAll, List.mem_append]
    rcases List.mem_cons.1 h with rfl | h
    · exact Or.inl hm
    · exact Or.inr (weightsAll_mem h m hm)

/-- A script opened. -/
theorem script_open {H : Type} {enc : TypeId × Value → H} {W : World} {fuel : Nat} {a0 : Option Addr} {len cap : Nat} {y : DataW H × List MemPlace}
    (h : DataW.trod enc Tryz.prog W 0 (fun _ => true) true fuel 22 [.slice a0 len cap] = some y) (hsz : ∀ m ∈ y.1.weights Tryz.prog 22, m ≤ reachBytes) :
    len = 0 ∨ ∃ b off xs, a0 = some ⟨b, off, none⟩ ∧ xs.length = len ∧ len ≤ 1466015503701 ∧ ScriptAt W b off xs := by
  rcases Deep.open_slice Tryz.underlying22 h with ⟨hcs, _⟩ | ⟨a, len', cap', m, n, D, Pl, hcs, _, hl, hm, hmm, rfl, hel⟩
  · simp only [List.cons.injEq, Value.slice.injEq, and_true] at hcs
    exact Or.inl hcs.2.1
  · simp only [List.cons.injEq, Value.slice.injEq, and_true] at hcs
    obtain ⟨rfl, rfl, rfl⟩ := hcs
    simp only [if_true] at hmm
    subst hmm
    by_cases h0 : len = 0
    · exact Or.inl h0
    right
    have hw : (DataW.slice ((List.range len).map D) ((List.range (m - len)).map fun j => D (len + j))).weights Tryz.prog 22 =
        (((List.range len).map D).length + ((List.range (m - len)).map fun j => D (len + j)).length) * Tryz.prog.bytesOf 38 :: (DataW.weightsAll Tryz.prog 38 ((List.range len).map D) ++ DataW.weightsAll Tryz.prog 38 ((List.range (m - len)).map fun j => D (len + j))) := by
      simp only [DataW.weights, Tryz.underlying22]
    rw [hw] at hsz
    have hb := hsz _ List.mem_cons_self
    rw [Tryz.bytesOp] at hb
    simp only [List.length_map, List.length_range, reachBytes] at hb
    have hop : ∀ i, i < len → ∃ x : OpD, (W.cells? 0 (a.add (i * 8)) 8 = some (opList x)) ∧ x.s.size ≤ 140737488351232 ∧ x.t.size ≤ 140737488351232 := by
      intro i hi
      obtain ⟨cs', hc, ht⟩ := hel i (by omega)
      rw [Tryz.cellsOp] at hc
      obtain ⟨x, rfl, h1, h2⟩ := op_open ht (fun k hk => hsz k (List.mem_cons_of_mem _ (List.mem_append_left _ (weightsAll_mem (List.mem_map.2 ⟨i, by simpa using hi, rfl⟩) k hk))))
      exact ⟨x, hc, h1, h2⟩
    have inh : Inhabited OpD := ⟨⟨0, 0, 0, 0, ⟨#[]⟩, ⟨#[]⟩, none, 0, 0, 0⟩⟩
    obtain ⟨f, hfx⟩ := Deep.choose_lt hop
    obtain ⟨b, off, spot⟩ := a
    have hspot : spot = none := by
      have h1 := (World.cells?_some (hfx 0 (by omega)).1).2.2 0 (by omega)
      have h2 : W.cell? ((⟨b, off, spot⟩ : Addr).add (0 * 8 + 0)) = some (Value.int .i64 (f 0).k) := by rw [← Deep.add_add]; exact h1
      simpa [Addr.add] using World.cell?_spot h2
    subst hspot
    have hcell : ∀ i, i < len → ∀ j, j < 8 → W.cell? ⟨b, off + i * 8 + j, none⟩ = (opList (f i))[j]? := by
      intro i hi j hj
      have h1 := (World.cells?_some (hfx i hi).1).2.2 j hj
      rw [Deep.add_add, addr_add, ← Nat.add_assoc] at h1
      exact h1
    refine ⟨b, off, (List.range len).map f, rfl, by simp, by omega, ?_, ?_, ?_⟩
    · exact World.cells?_block (hfx 0 (by omega)).1 (by omega)
    · intro i hi
      have hi' : i < len := by simpa using hi
      have e : ((List.range len).map f)[i] = f i := by simp
      rw [e]
      have c := hcell i hi'
      exact ⟨c 0 (by omega), c 1 (by omega), c 2 (by omega), c 3 (by omega), c 4 (by omega), c 5 (by omega), c 6 (by omega), c 7 (by omega)⟩
    · intro x hx
      obtain ⟨i, hi, rfl⟩ := List.mem_map.1 hx
      exact (hfx i (by simpa using hi)).2

end Go.Proofs.YtbjobbkgelipmaaGreat

/-
  A script that was handed in, opened, with the ranges of its numbers.
-/
namespace Go.Proofs.YtbjobbkgelipmaaGreat
open Go.ChangeShapes Go.WideShapes Go.ChangeAt Go.RowKit

theorem wi_i64 {n : Int} (h : (Lit.int .i64 n).wf = true) : -9223372036854775808 ≤ n ∧ n < 9223372036854775808 := by
  simp only [Lit.wf, Bool.and_eq_true, decide_eq_true_eq] at h
  have e1 : IntKind.i64.min = -9223372036854775808 := rfl
  have e2 : IntKind.i64.max = 9223372036854775807 := rfl
  omega
theorem wi_u64 {n : Int} (h : (Lit.int .u64 n).wf = true) : 0 ≤ n ∧ n < 18446744073709551616 := by
  simp only [Lit.wf, Bool.and_eq_true, decide_eq_true_eq] at h
  have e1 : IntKind.u64.min = 0 := rfl
  have e2 : IntKind.u64.max = 18446744073709551615 := rfl
  omega

set_option maxRecDepth 100000 in
/-- A step opened: its eight cells; how long its texts are. -/
theorem op_openR {H : Type} {enc : TypeId × Value → H} {W : World} {base : Nat} {spare : Nat → Bool} {held : Bool} {fuel : Nat} {cs : List Value} {y : DataW H × List MemPlace}
    (h : DataW.trod enc Tryz.prog W base spare held fuel 38 cs = some y) (hsz : ∀ m ∈ y.1.weights Tryz.prog 38, m ≤ reachBytes) :
    ∃ x : OpD, cs = opList x ∧ x.s.size ≤ 140737488351232 ∧ x.t.size ≤ 140737488351232 ∧ (-9223372036854775808 ≤ x.n ∧ x.n < 9223372036854775808 ∧ 0 ≤ x.a ∧ x.a < 18446744073709551616) := by
  obtain ⟨xs, n, _, rfl, hl, hlen, hf⟩ := DataW.trod_struct Tryz.underlying38 h
  rw [Tryz.cellsOp] at hl
  have hlen7 : xs.length = 7 := hlen
  match xs, hlen7 with
  | [y0, y1, y2, y3, y4, y5, y6], _ =>
  match cs, hl with
  | [c0, c1, c2, c3, c4, c5, c6, c7], _ =>
  have f0 : DataW.trod enc Tryz.prog W base spare held n 3 (([c0, c1, c2, c3, c4, c5, c6, c7].drop 0).take (Tryz.prog.cellsOf 3)) = ([y0, y1, y2, y3, y4, y5, y6] : List (DataW H × List MemPlace))[0]? := hf 0 _ rfl
  rw [Tryz.cellsInt] at f0
  have g0 : DataW.trod enc Tryz.prog W base spare held n 3 [c0] = some y0 := f0
  have f1 : DataW.trod enc Tryz.prog W base spare held n 3 (([c0, c1, c2, c3, c4, c5, c6, c7].drop 1).take (Tryz.prog.cellsOf 3)) = ([y0, y1, y2, y3, y4, y5, y6] : List (DataW H × List MemPlace))[1]? := hf 1 _ rfl
  rw [Tryz.cellsInt] at f1
  have g1 : DataW.trod enc Tryz.prog W base spare held n 3 [c1] = some y1 := f1
  have f2 : DataW.trod enc Tryz.prog W base spare held n 35 (([c0, c1, c2, c3, c4, c5, c6, c7].drop 2).take (Tryz.prog.cellsOf 35)) = ([y0, y1, y2, y3, y4, y5, y6] : List (DataW H × List MemPlace))[2]? := hf 2 _ rfl
  rw [Tryz.cellsCfg] at f2
  have g2 : DataW.trod enc Tryz.prog W base spare held n 35 [c2, c3] = some y2 := f2
  have f3 : DataW.trod enc Tryz.prog W base spare held n 9 (([c0, c1, c2, c3, c4, c5, c6, c7].drop 4).take (Tryz.prog.cellsOf 9)) = ([y0, y1, y2, y3, y4, y5, y6] : List (DataW H × List MemPlace))[3]? := hf 3 _ rfl
  rw [Tryz.cellsStr] at f3
  have g3 : DataW.trod enc Tryz.prog W base spare held n 9 [c4] = some y3 := f3
  have f4 : DataW.trod enc Tryz.prog W base spare held n 9 (([c0, c1, c2, c3, c4, c5, c6, c7].drop 5).take (Tryz.prog.cellsOf 9)) = ([y0, y1, y2, y3, y4, y5, y6] : List (DataW H × List MemPlace))[4]? := hf 4 _ rfl
  rw [Tryz.cellsStr] at f4
  have g4 : DataW.trod enc Tryz.prog W base spare held n 9 [c5] = some y4 := f4
  have f5 : DataW.trod enc Tryz.prog W base spare held n 36 (([c0, c1, c2, c3, c4, c5, c6, c7].drop 6).take (Tryz.prog.cellsOf 36)) = ([y0, y1, y2, y3, y4, y5, y6] : List (DataW H × List MemPlace))[5]? := hf 5 _ rfl
  rw [Tryz.cellsStrs] at f5
  have g5 : DataW.trod enc Tryz.prog W base spare held n 36 [c6] = some y5 := f5
  have f6 : DataW.trod enc Tryz.prog W base spare held n 26 (([c0, c1, c2, c3, c4, c5, c6, c7].drop 7).take (Tryz.prog.cellsOf 26)) = ([y0, y1, y2, y3, y4, y5, y6] : List (DataW H × List MemPlace))[6]? := hf 6 _ rfl
  rw [Tryz.cellsU64] at f6
  have g6 : DataW.trod enc Tryz.prog W base spare held n 26 [c7] = some y6 := f6
  clear f0 f1 f2 f3 f4 f5 f6 hf
  obtain ⟨k, e0, rfl, _⟩ := DataW.trod_int Tryz.underlying3 g0
  obtain ⟨nn, e1, rfl, w1⟩ := DataW.trod_int Tryz.underlying3 g1
  obtain ⟨z0, z1, m, rfl, _, t0, t1⟩ := trod_struct2 Tryz.underlying35 g2
  have t0a : DataW.trod enc Tryz.prog W base spare held m 3 (([c2, c3].drop 0).take (Tryz.prog.cellsOf 3)) = some z0 := t0
  have t1a : DataW.trod enc Tryz.prog W base spare held m 26 (([c2, c3].drop 1).take (Tryz.prog.cellsOf 26)) = some z1 := t1
  rw [Tryz.cellsInt] at t0a
  rw [Tryz.cellsU64] at t1a
  have t0' : DataW.trod enc Tryz.prog W base spare held m 3 [c2] = some z0 := t0a
  have t1' : DataW.trod enc Tryz.prog W base spare held m 26 [c3] = some z1 := t1a
  obtain ⟨hh, e2, rfl, _⟩ := DataW.trod_int Tryz.underlying3 t0'
  obtain ⟨sd, e3, rfl, _⟩ := DataW.trod_int Tryz.underlying26 t1'
  obtain ⟨s, e4, rfl, _⟩ := DataW.trod_string Tryz.underlying9 g3
  obtain ⟨t, e5, rfl, _⟩ := DataW.trod_string Tryz.underlying9 g4
  obtain ⟨a, e7, rfl, w7⟩ := DataW.trod_int Tryz.underlying26 g6
  obtain ⟨la, ll, lc, e6⟩ : ∃ la ll lc, [c6] = [Value.slice la ll lc] := by
    rcases Deep.open_slice Tryz.underlying36 g5 with ⟨h, _⟩ | ⟨a, len, cap, _, _, _, _, h, _⟩
    · exact ⟨_, _, _, h⟩
    · exact ⟨_, _, _, h⟩
  simp only [List.cons.injEq, and_true] at e0 e1 e2 e3 e4 e5 e6 e7
  subst e0 e1 e2 e3 e4 e5 e6 e7
  refine ⟨⟨k, nn, hh, sd, s, t, la, ll, lc, a⟩, rfl, ?_, ?_, (wi_i64 w1).1, (wi_i64 w1).2, (wi_u64 w7).1, (wi_u64 w7).2⟩
  · have := hsz s.data.toList.length (by simp [DataW.weights, DataW.weightsEach, Tryz.underlying38])
    simpa [reachBytes] using this
  · have := hsz t.data.toList.length (by simp [DataW.weights, DataW.weightsEach, Tryz.underlying38])
    simpa [reachBytes] using this

/-- A script opened. -/
theorem script_openR {H : Type} {enc : TypeId × Value → H} {W : World} {fuel : Nat} {a0 : Option Addr} {len cap : Nat} {y : DataW H × List MemPlace}
    (h : DataW.trod enc Tryz.prog W 0 (fun _ => true) true fuel 22 [.slice a0 len cap] = some y) (hsz : ∀ m ∈ y.1.weights Tryz.prog 22, m ≤ reachBytes) :
    len = 0 ∨ ∃ b off xs, a0 = some ⟨b, off, none⟩ ∧ xs.length = len ∧ len ≤ 1466015503701 ∧ ScriptAt W b off xs ∧ (∀ x ∈ xs, (-9223372036854775808 ≤ x.n ∧ x.n < 9223372036854775808 ∧ 0 ≤ x.a ∧ x.a < 18446744073709551616)) := by
  rcases Deep.open_slice Tryz.underlying22 h with ⟨hcs, _⟩ | ⟨a, len', cap', m, n, D, Pl, hcs, _, hl, hm, hmm, rfl, hel⟩
  · simp only [List.cons.injEq, Value.slice.injEq, and_true] at hcs
    exact Or.inl hcs.2.1
  · simp only [List.cons.injEq, Value.slice.injEq, and_true] at hcs
    obtain ⟨rfl, rfl, rfl⟩ := hcs
    simp only [if_true] at hmm
    subst hmm
    by_cases h0 : len = 0
    · exact Or.inl h0
    right
    have hw : (DataW.slice ((List.range len).map D) ((List.range (m - len)).map fun j => D (len + j))).weights Tryz.prog 22 =
        (((List.range len).map D).length + ((List.range (m - len)).map fun j => D (len + j)).length) * Tryz.prog.bytesOf 38 :: (DataW.weightsAll Tryz.prog 38 ((List.range len).map D) ++ DataW.weightsAll Tryz.prog 38 ((List.range (m - len)).map fun j => D (len + j))) := by
      simp only [DataW.weights, Tryz.underlying22]
    rw [hw] at hsz
    have hb := hsz _ List.mem_cons_self
    rw [Tryz.bytesOp] at hb
    simp only [List.length_map, List.length_range, reachBytes] at hb
    have hop : ∀ i, i < len → ∃ x : OpD, (W.cells? 0 (a.add (i * 8)) 8 = some (opList x)) ∧ x.s.size ≤ 140737488351232 ∧ x.t.size ≤ 140737488351232 ∧ (-9223372036854775808 ≤ x.n ∧ x.n < 9223372036854775808 ∧ 0 ≤ x.a ∧ x.a < 18446744073709551616) := by
      intro i hi
      obtain ⟨cs', hc, ht⟩ := hel i (by omega)
      rw [Tryz.cellsOp] at hc
      obtain ⟨x, rfl, h1, h2, h3⟩ := op_openR ht (fun k hk => hsz k (List.mem_cons_of_mem _ (List.mem_append_left _ (weightsAll_mem (List.mem_map.2 ⟨i, by simpa using hi, rfl⟩) k hk))))
      exact ⟨x, hc, h1, h2, h3⟩
    have inh : Inhabited OpD := ⟨⟨0, 0, 0, 0, ⟨#[]⟩, ⟨#[]⟩, none, 0, 0, 0⟩⟩
    obtain ⟨f, hfx⟩ := Deep.choose_lt hop
    obtain ⟨b, off, spot⟩ := a
    have hspot : spot = none := by
      have h1 := (World.cells?_some (hfx 0 (by omega)).1).2.2 0 (by omega)
      have h2 : W.cell? ((⟨b, off, spot⟩ : Addr).add (0 * 8 + 0)) = some (Value.int .i64 (f 0).k) := by rw [← Deep.add_add]; exact h1
      simpa [Addr.add] using World.cell?_spot h2
    subst hspot
    have hcell : ∀ i, i < len → ∀ j, j < 8 → W.cell? ⟨b, off + i * 8 + j, none⟩ = (opList (f i))[j]? := by
      intro i hi j hj
      have h1 := (World.cells?_some (hfx i hi).1).2.2 j hj
      rw [Deep.add_add, addr_add, ← Nat.add_assoc] at h1
      exact h1
    refine ⟨b, off, (List.range len).map f, rfl, by simp, by omega, ⟨?_, ?_, ?_⟩, ?_⟩
    · exact World.cells?_block (hfx 0 (by omega)).1 (by omega)
    · intro i hi
      have hi' : i < len := by simpa using hi
      have e : ((List.range len).map f)[i] = f i := by simp
      rw [e]
      have c := hcell i hi'
      exact ⟨c 0 (by omega), c 1 (by omega), c 2 (by omega), c 3 (by omega), c 4 (by omega), c 5 (by omega), c 6 (by omega), c 7 (by omega)⟩
    · intro x hx
      obtain ⟨i, hi, rfl⟩ := List.mem_map.1 hx
      exact ⟨(hfx i (by simpa using hi)).2.1, (hfx i (by simpa using hi)).2.2.1⟩
    · intro x hx
      obtain ⟨i, hi, rfl⟩ := List.mem_map.1 hx
      exact (hfx i (by simpa using hi)).2.2.2

end Go.Proofs.YtbjobbkgelipmaaGreat

/-
  keep while other lists wait for it.
-/
namespace Go.Proofs.YtbjobbkgelipmaaGreat
open Go.RowKit

/-- Nothing of the players has turned; what is new is the script's. -/
def colz (c : Nat → Nat) (H : Nat) (g : Nat) : Nat := if g < H then c g else 0
theorem colz_new (c : Nat → Nat) {H g : Nat} (h : H ≤ g) : colz c H g = 0 := by unfold colz; rw [if_neg (by omega)]
theorem Joint.inz {w : World} {B n : Nat} {c : Nat → Nat} {ps hv : Value} {hs : List HoldD} {pl : List Nat} (J : Joint w B n c ps hv hs pl) : Joint w B n (colz c w.heap.size) ps hv hs pl := by
  have c0 : ∀ g, g < w.heap.size → colz c w.heap.size g = c g := fun g hg => if_pos hg
  refine ⟨J.inv, (c0 _ J.inv.lt).trans J.cB, fun g hg => (c0 g (own_lt J.inv.own hg)).trans (J.chv g hg), fun x hx => ⟨(c0 _ (Array.getElem?_eq_some_iff.1 (J.inv.ok x hx).cell).1).trans (J.chs x hx).1, fun g hg => (c0 g (own_lt (J.inv.ok x hx).own hg)).trans ((J.chs x hx).2 g hg)⟩, fun g hg => (c0 g (own_lt J.own hg)).trans (J.cps g hg), fun g hg => ?_, J.own, fun i hi => (J.pls i hi).kept (Nat.le_refl _) c0 (Nat.le_refl _) (fun _ _ _ => rfl), J.four⟩
  by_cases hlt : g < w.heap.size
  · exact J.above g (by rw [← c0 g hlt]; exact hg)
  · exact absurd (colz_new c (by omega)) hg

/-- Lists that wait: blocks of bytes that no kept list lies in. -/
structure Waits (W : World) (H : Nat) (hs : List HoldD) (P : Nat → Prop) : Prop where
  new : ∀ g, P g → H ≤ g ∧ ∃ cur, W.heap[g]? = some (.cells cur 5 (0, 0))
  far : ∀ x ∈ hs, ∀ g, x.v.ownBlock = some g → ¬ P g

theorem keep_wait {W : World} {B n H : Nat} {c : Nat → Nat} {ps hv vb : Value} {hs : List HoldD} {pl : List Nat} {P : Nat → Prop} {nb : Nat} {xs : List Value} (J : Joint W B n (colz c H) ps hv hs pl) (hH : H ≤ W.heap.size) (hBH : B < H) (q : Waits W H hs P) (hb : W.ownsRow (B + 1) 5 1 vb nb xs) (hP : ∀ g, vb.ownBlock = some g → P g) (hn : nb + 3 ≤ 140737488355328) (hl : (hs.length + 4) * 8 ≤ 140737488355328) :
    Calls Tryz.prog 33 #[.pointer (some ⟨B, 0, none⟩), vb] W fun e W' => e = .returned (.tuple #[]) ∧ ∃ hv' hs', Joint W' B n (colz c H) ps hv' hs' pl ∧ hs'.length = hs.length + 4 ∧ Waits W' H hs' (fun g => P g ∧ some g ≠ vb.ownBlock) ∧ (∀ g, P g → some g ≠ vb.ownBlock → W'.heap[g]? = W.heap[g]?) ∧ Below B W W' ∧
      ∀ g, H ≤ g → g < W.heap.size → (∃ cur t, W.heap[g]? = some (.cells cur t (0, 0)) ∧ t ≠ 5 ∧ t ≠ 71) → W'.heap[g]? = W.heap[g]? := by
  refine (keep_any J.inv hb (fun x hx => ?_) hn hl).mono ?_
  · cases hx' : x.v.ownBlock with
    | none => exact .inl rfl
    | some g => exact .inr fun e => q.far x hx g hx' (hP g e.symm)
  · rintro e W' ⟨rfl, hv', vb', hs', st, hlen⟩
    have hcb : ∀ g, vb.ownBlock = some g → colz c H g = 0 := fun g hg => colz_new c (q.new g (hP g hg)).1
    have J' := J.keep hb hcb st
    have ec : (fun g => if g < W.heap.size then colz c H g else 0) = colz c H := by
      funext g
      by_cases h : g < W.heap.size
      · rw [if_pos h]
      · rw [if_neg h, colz_new c (by omega)]
    rw [ec] at J'
    have same : ∀ g, g < W.heap.size → g ≠ B → some g ≠ vb.ownBlock → (∀ cur, W.heap[g]? ≠ some (.cells cur 71 (0, 0))) → W'.heap[g]? = W.heap[g]? := fun g hg h1 h2 h3 => st.frame.block g hg h1 h2 (fun e => by
      obtain ⟨cur, ht⟩ := own_type J.inv.own e.symm
      exact h3 cur ht)
    have hsame : ∀ g, P g → some g ≠ vb.ownBlock → W'.heap[g]? = W.heap[g]? := fun g hg hne => by
      obtain ⟨h1, cur, h2⟩ := q.new g hg
      refine same g (Array.getElem?_eq_some_iff.1 h2).1 (by omega) hne (fun cur' h => ?_)
      rw [h2] at h
      simp at h
    refine ⟨rfl, hv', hs', J', hlen, ⟨fun g hg => ?_, fun x hx g hg hP' => ?_⟩, hsame, ?_, fun g h1 h2 ⟨cur, t, h3, h4, h5⟩ => ?_⟩
    · obtain ⟨h1, cur, h2⟩ := q.new g hg.1
      exact ⟨h1, cur, (hsame g hg.1 hg.2).trans h2⟩
    · rcases st.orig x hx with h | h | h | ⟨g', h, hle⟩
      · exact q.far x h g hg hP'.1
      · rw [h] at hg; cases hg
      · exact hP'.2 (hg.symm.trans h)
      · rw [h] at hg; cases hg
        obtain ⟨_, cur, h2⟩ := q.new g hP'.1
        have := (Array.getElem?_eq_some_iff.1 h2).1
        omega
    · refine st.frame.below (by omega) (fun g hg => ?_) (fun g hg => ?_)
      · have := (q.new g (hP g hg)).1; omega
      · have := (J.inv.own.lt g hg).1; omega
    · refine same g h2 (by omega) (fun e => ?_) (fun cur' h => ?_)
      · obtain ⟨cur', ht⟩ := own_type hb e.symm
        rw [h3] at ht
        simp at ht
        exact h4 ht.2
      · rw [h3] at h
        simp at h
        exact h5 h.2

end Go.Proofs.YtbjobbkgelipmaaGreat

/-
  Two texts at one place, in plain words.
-/
namespace Go.Proofs.YtbjobbkgelipmaaGreat
open Go.RowKit

/-- The texts at a place of a level, of proofs that are each a place and its texts. -/
def textsAt (lv pl : Nat) (L : List (Nat × List (List UInt8))) : List (List UInt8) := (L.filter fun p => decide (p.1 / 2 ^ lv = pl)).map fun p => p.2.getD lv []

/-- The first text, and the first one that is another. -/
def firstTwo : List (List UInt8) → Option (List UInt8 × List UInt8)
  | [] => none
  | x :: r => (r.find? fun t => decide (t ≠ x)).map fun y => (x, y)

theorem firstTwo_snoc (x t : List UInt8) (r : List (List UInt8)) : firstTwo ((x :: r) ++ [t]) = match firstTwo (x :: r) with
    | some p => some p
    | none => if t = x then none else some (x, t) := by
  simp only [firstTwo, List.cons_append, List.find?_append]
  cases h : r.find? (fun t => decide (t ≠ x)) with
  | some y => simp
  | none =>
    by_cases e : t = x
    · simp [e]
    · simp [e]

theorem firstTwo_some {l : List (List UInt8)} {x y : List UInt8} (h : firstTwo l = some (x, y)) : x ≠ y ∧ x ∈ l ∧ y ∈ l := by
  cases l with
  | nil => cases h
  | cons a r =>
    simp only [firstTwo, Option.map_eq_some_iff, Prod.mk.injEq] at h
    obtain ⟨z, hz, rfl, rfl⟩ := h
    have h1 := List.find?_some hz
    have h2 := List.mem_of_find?_eq_some hz
    refine ⟨fun e => ?_, List.mem_cons_self .., List.mem_cons_of_mem _ h2⟩
    simp [e] at h1

theorem firstTwo_none {l : List (List UInt8)} (h : firstTwo l = none) : ∀ x ∈ l, ∀ y ∈ l, x = y := by
  cases l with
  | nil => intro x hx; cases hx
  | cons a r =>
    simp only [firstTwo, Option.map_eq_none_iff, List.find?_eq_none] at h
    have k : ∀ x ∈ a :: r, x = a := fun x hx => by
      rcases List.mem_cons.1 hx with rfl | hx
      · rfl
      · have := h x hx
        simpa using this
    intro x hx y hy
    rw [k x hx, k y hy]

/-- Where a place of a level stands in a row of all, the root's first. -/
def placeNo (h lv pl : Nat) : Nat := 2 ^ (h - lv) + pl

theorem placeNo_lt {h lv pl : Nat} (h2 : pl < 2 ^ (h - lv)) : placeNo h lv pl < 2 ^ (h + 1) := by
  have : 2 ^ (h - lv + 1) ≤ 2 ^ (h + 1) := Nat.pow_le_pow_right (by omega) (by omega)
  rw [Nat.pow_succ] at this
  unfold placeNo
  omega

theorem placeNo_lv {h lv pl lv' pl' : Nat} (h1 : lv ≤ h) (h2 : pl < 2 ^ (h - lv)) (hl : lv' < lv) : placeNo h lv pl < placeNo h lv' pl' := by
  have : 2 ^ (h - lv + 1) ≤ 2 ^ (h - lv') := Nat.pow_le_pow_right (by omega) (by omega)
  rw [Nat.pow_succ] at this
  unfold placeNo
  omega

theorem placeNo_inj {h lv pl lv' pl' : Nat} (h1 : lv ≤ h) (h1' : lv' ≤ h) (h2 : pl < 2 ^ (h - lv)) (h2' : pl' < 2 ^ (h - lv')) (e : placeNo h lv pl = placeNo h lv' pl') : lv = lv' ∧ pl = pl' := by
  rcases Nat.lt_trichotomy lv lv' with h3 | h3 | h3
  · have := placeNo_lv (pl := pl') (pl' := pl) h1' h2' h3
    omega
  · subst h3
    unfold placeNo at e
    exact ⟨rfl, by omega⟩
  · have := placeNo_lv (pl := pl) (pl' := pl') h1 h2 h3
    omega

/-- No place ahead of a number has two texts. -/
def NoneBefore (h : Nat) (L : List (Nat × List (List UInt8))) (m : Nat) : Prop := ∀ lv pl, lv ≤ h → pl < 2 ^ (h - lv) → placeNo h lv pl < m → firstTwo (textsAt lv pl L) = none

/-- The two texts of proofs that are accepted. -/
def ExtR (h : Nat) (L : List (Nat × List (List UInt8))) (x y : List UInt8) : Prop :=
  (∃ lv pl, lv ≤ h ∧ pl < 2 ^ (h - lv) ∧ firstTwo (textsAt lv pl L) = some (x, y) ∧ NoneBefore h L (placeNo h lv pl)) ∨ (x = [] ∧ y = [] ∧ NoneBefore h L (2 ^ (h + 1)))

theorem ExtR.unique {h : Nat} {L : List (Nat × List (List UInt8))} {x y x' y' : List UInt8} (a : ExtR h L x y) (b : ExtR h L x' y') : x = x' ∧ y = y' := by
  rcases a with ⟨lv, pl, h1, h2, h3, h4⟩ | ⟨rfl, rfl, h4⟩
  · rcases b with ⟨lv', pl', k1, k2, k3, k4⟩ | ⟨rfl, rfl, k4⟩
    · rcases Nat.lt_trichotomy (placeNo h lv pl) (placeNo h lv' pl') with e | e | e
      · rw [k4 lv pl h1 h2 e] at h3; cases h3
      · obtain ⟨rfl, rfl⟩ := placeNo_inj h1 k1 h2 k2 e
        rw [h3] at k3
        simp only [Option.some.injEq, Prod.mk.injEq] at k3
        exact k3
      · rw [h4 lv' pl' k1 k2 e] at k3; cases k3
    · rw [k4 lv pl h1 h2 (placeNo_lt h2)] at h3; cases h3
  · rcases b with ⟨lv', pl', k1, k2, k3, k4⟩ | ⟨rfl, rfl, k4⟩
    · rw [h4 lv' pl' k1 k2 (placeNo_lt k2)] at k3; cases k3
    · exact ⟨rfl, rfl⟩

end Go.Proofs.YtbjobbkgelipmaaGreat

/-
  The walk of titheref's another.
-/
namespace Go.Proofs.YtbjobbkgelipmaaGreat
open Go.RowKit

/-- Proofs that are accepted, in memory: places and texts. -/
structure AnoM (w : World) (v : Value) (h : Nat) (D : List (Nat × List (List UInt8))) : Prop where
  sh : ∃ a c, v = .slice a D.length c ∧ D.length ≤ c ∧ ∀ i (hi : i < D.length), ∃ G g k, a = some ⟨G, 0, none⟩ ∧ w.cell? ⟨G, i * 5, none⟩ = some (.int .i64 ((D[i]).1 : Int)) ∧ w.cell? ⟨G, i * 5 + 4, none⟩ = some (.slice (some ⟨g, 0, none⟩) (h + 1) k) ∧ h + 1 ≤ k ∧
    ∀ j, j < h + 1 → w.cell? ⟨g, j, none⟩ = some (strV ((D[i]).2.getD j []))
  ne : ∀ d ∈ D, ∀ j, j ≤ h → d.2.getD j [] ≠ []
  lt : ∀ d ∈ D, d.1 < 256

theorem textsAt_snocR (lv pl : Nat) (L : List (Nat × List (List UInt8))) (d : Nat × List (List UInt8)) : textsAt lv pl (L ++ [d]) = textsAt lv pl L ++ (if d.1 / 2 ^ lv = pl then [d.2.getD lv []] else []) := by
  unfold textsAt
  rw [List.filter_append, List.map_append]
  congr 1
  by_cases e : d.1 / 2 ^ lv = pl
  · simp [e]
  · simp [e]
theorem textsAt_take (lv pl : Nat) (D : List (Nat × List (List UInt8))) (i : Nat) (hi : i < D.length) : textsAt lv pl (D.take (i + 1)) = textsAt lv pl (D.take i) ++ (if (D[i]).1 / 2 ^ lv = pl then [(D[i]).2.getD lv []] else []) := by
  rw [← textsAt_snocR, List.take_succ_eq_append_getElem hi]
theorem firstTwo_more {l m : List (List UInt8)} {p : List UInt8 × List UInt8} (h : firstTwo l = some p) : firstTwo (l ++ m) = some p := by
  cases l with
  | nil => cases h
  | cons a r =>
    simp only [firstTwo, List.cons_append, List.find?_append] at h ⊢
    cases hf : r.find? (fun t => decide (t ≠ a)) with
    | none => rw [hf] at h; cases h
    | some y => rw [hf] at h; simpa using h
theorem textsAt_ne {h lv pl : Nat} {D : List (Nat × List (List UInt8))} (hne : ∀ d ∈ D, ∀ j, j ≤ h → d.2.getD j [] ≠ []) (hlv : lv ≤ h) : ∀ t ∈ textsAt lv pl D, t ≠ [] := fun t ht => by
  unfold textsAt at ht
  obtain ⟨d, hd, rfl⟩ := List.mem_map.1 ht
  exact hne d (List.mem_filter.1 hd).1 lv hlv

/-- What another answers. -/
def AnoP (lv pl : Nat) (D : List (Nat × List (List UInt8))) (w : World) (e : Ending) (w' : World) : Prop :=
  (∃ x y, e = .returned (.tuple #[strV x, strV y]) ∧ (match firstTwo (textsAt lv pl D) with | some p => x = p.1 ∧ y = p.2 | none => x = y)) ∧ ∃ d, w' = w.drewN d

set_option maxHeartbeats 1000000 in
set_option maxRecDepth 100000 in
theorem another_any {w : World} {v : Value} {h : Nat} {D : List (Nat × List (List UInt8))} (m : AnoM w v h D) (lv pl : Nat) (hh : h ≤ 6) (hlv : lv ≤ h) (_hpl : pl < 256) (hD : D.length ≤ 1048576) :
    Calls Tryz.prog 84 #[v, .int .i64 (lv : Int), .int .i64 (pl : Int)] w (AnoP lv pl D w) := by
  obtain ⟨a, c, rfl, hc, hg⟩ := m.sh
  have HG := hide hg
  have HM := hide m
  obtain ⟨n, hn⟩ : ∃ n, D.length = n := ⟨_, rfl⟩
  have HN := hide hn
  rw [hn] at hc hD ⊢
  clear m hg hn
  go_enter Tryz.func84, Tryz.ntmps84
  go_wp2_with fail
  go_loop [8, 9, 10, 11] (fun x i _ _ => ∃ k : Nat, k ≤ n ∧ i = .int .i64 k ∧ ∃ xl, x = .string ⟨xl.toArray⟩ ∧ Hid (xl = (textsAt lv pl (D.take k)).headD [] ∧ firstTwo (textsAt lv pl (D.take k)) = none)) (fun _ i _ _ => n - (intOf i).toNat)
  case atStart => exact ⟨0, Nat.zero_le _, rfl, [], rfl, hide ⟨rfl, rfl⟩⟩
  case round =>
    obtain ⟨k, hk, rfl, xl, rfl, HX⟩ := hrel
    by_cases hlt : k < n
    · have hkD : k < D.length := by rw [unhide HN]; exact hlt
      obtain ⟨G, g, kc, ea, c0, c4, hkc, ct⟩ := unhide HG k hkD
      cases ea
      have ctl := ct lv (by omega)
      have HT := hide (textsAt_take lv pl D k hkD)
      have hl2 := (unhide HM).lt _ (List.getElem_mem hkD)
      have HNE := hide (And.intro ((unhide HM).ne _ (List.getElem_mem hkD) lv hlv) (fun t (ht : t ∈ textsAt lv pl (D.take k)) => textsAt_ne (fun d hd => (unhide HM).ne d (List.mem_of_mem_take hd)) hlv t ht))
      have HFull := hide (show ∃ r, textsAt lv pl D = textsAt lv pl (D.take (k + 1)) ++ r by
        refine ⟨textsAt lv pl (D.drop (k + 1)), ?_⟩
        unfold textsAt
        rw [← List.map_append, ← List.filter_append, List.take_append_drop])
      generalize (D[k]).1 = p0 at *
      generalize (D[k]).2.getD lv [] = t at *
      generalize textsAt lv pl (D.take k) = T at *
      generalize hTE : textsAt lv pl (D.take (k + 1)) = T' at *
      have HTE := hide hTE
      clear hTE
      clear ct
      unfold strV at ctl
      have ik : (k : Int) < (n : Int) := by omega
      go_wp2_with fail
      go_loop [10, 11] (fun y j => ∃ q : Nat, q ≤ lv ∧ j = .int .i64 q ∧ y = .int .i64 ((p0 / 2 ^ q : Nat) : Int)) (fun _ j => lv - (intOf j).toNat)
      case atStart => exact ⟨0, Nat.zero_le _, rfl, by simp⟩
      case round =>
        obtain ⟨q, hq, rfl, rfl⟩ := hrel
        have hy : p0 / 2 ^ q ≤ p0 := Nat.div_le_self _ _
        have e2 : p0 / 2 ^ (q + 1) = p0 / 2 ^ q / 2 := by rw [Nat.pow_succ, Nat.div_div_eq_div_mul]
        by_cases hql : q < lv
        · have iq : (q : Int) < (lv : Int) := by omega
          have HE := hide e2
          generalize p0 / 2 ^ q = y at *
          clear e2
          go_wp2
          refine ⟨⟨q + 1, by omega, by go_num, ?_⟩, by simp [intOf]; omega⟩
          rw [unhide HE]
          simp
        · have hqe : q = lv := by omega
          subst hqe
          have iq : ¬ (q : Int) < (q : Int) := by omega
          obtain ⟨ex, hf⟩ := unhide HX
          clear e2 HG
          by_cases hy2 : p0 / 2 ^ q = pl
          · have hT := unhide HT
            rw [if_pos hy2] at hT
            rw [hy2]
            cases T with
            | nil =>
              have ex' : xl = [] := ex
              subst ex'
              have HD := hide (show t = T'.headD [] ∧ firstTwo T' = none by rw [hT]; exact ⟨rfl, rfl⟩)
              clear ex hf hT HT HX HNE HFull hy2 hy
              go_wp2
              refine ⟨⟨k + 1, by omega, by go_num, t, rfl, by rw [unhide HTE]; exact HD⟩, by simp [intOf]; omega⟩
            | cons x0 r =>
              have ex' : xl = x0 := ex
              subst ex'
              have hx0 := (unhide HNE).2 xl (List.mem_cons_self ..)
              have hx1 : (xl == ([] : List UInt8)) = false := by simpa using hx0
              have hs := firstTwo_snoc xl t r
              rw [← hT, hf] at hs
              simp only at hs
              by_cases htx : t = xl
              · subst htx
                rw [if_pos rfl] at hs
                have HD := hide (show t = T'.headD [] ∧ firstTwo T' = none by rw [hs, hT]; exact ⟨rfl, rfl⟩)
                clear ex hf hT HT HX HNE HFull hy2 hy hs hx0
                go_wp2
                refine ⟨⟨k + 1, by omega, by go_num, t, rfl, by rw [unhide HTE]; exact HD⟩, by simp [intOf]; omega⟩
              · rw [if_neg htx] at hs
                have htx2 : (t == xl) = false := by simpa using htx
                have HD := hide (show firstTwo (textsAt q pl D) = some (xl, t) by
                  obtain ⟨r2, e⟩ := unhide HFull
                  rw [e]
                  exact firstTwo_more hs)
                clear ex hf hT HT HX HNE HFull hy2 hy hs hx0 htx
                go_wp2_with fail
                go_quiet (fail)
                go_wp2
                go_ret2
                refine ⟨⟨xl, t, rfl, ?_⟩, _, rfl⟩
                rw [unhide HD]
                exact ⟨rfl, rfl⟩
          · have hT := unhide HT
            rw [if_neg hy2, List.append_nil] at hT
            have hy3 : ¬ ((p0 / 2 ^ q : Nat) : Int) = (pl : Int) := by omega
            have HD := hide (show xl = T'.headD [] ∧ firstTwo T' = none by rw [hT]; exact ⟨ex, hf⟩)
            clear ex hf hT HT HX HNE HFull hy2
            generalize p0 / 2 ^ q = y at *
            go_wp2
            refine ⟨⟨k + 1, by omega, by go_num, xl, rfl, by rw [unhide HTE]; exact HD⟩, by simp [intOf]; omega⟩
    · have hkn : k = n := by omega
      subst hkn
      have HD := hide (show firstTwo (textsAt lv pl D) = none by
        have := (unhide HX).2
        rw [← unhide HN, List.take_length] at this
        exact this)
      clear HX HG
      go_wp2
      go_ret2
      refine ⟨⟨xl, xl, rfl, ?_⟩, 0, rfl⟩
      rw [unhide HD]

end Go.Proofs.YtbjobbkgelipmaaGreat

/-
  '==' of two sides.
-/
namespace Go.Proofs.YtbjobbkgelipmaaGreat
open Go.RowKit

set_option maxRecDepth 100000 in
theorem eql_dg (d : Nat) (w : World) (a0 a1 a2 b0 b1 b2 : Int) :
    (Op.equalIn (d + 2) 47 (.agg #[.int .u8 a0, .int .u8 a1, .int .u8 a2]) (.agg #[.int .u8 b0, .int .u8 b1, .int .u8 b2])).run Tryz.prog w = .ok (a0 == b0 && (a1 == b1 && a2 == b2)) w := by
  obtain ⟨i0, hi, hz0, hz1, hz2⟩ := info_parts Tryz.infoByte
  have h := run_equalIn_array (P := Tryz.prog) w (d + 1) #[.int .u8 a0, .int .u8 a1, .int .u8 a2] #[.int .u8 b0, .int .u8 b1, .int .u8 b2] Tryz.underlyingDg hi
  rw [h, Tryz.cellsByte]
  have hq : ∀ (x y : Int) (w : World), (Op.equalIn (d + 1) 5 (.int .u8 x) (.int .u8 y)).run Tryz.prog w = .ok (x == y) w := fun x y w => run_equalIn_int w d 5 .u8 .u8 x y Tryz.underlying5
  have hp : ∀ (l : Array Value) (k : Nat) (v : Value) (w : World), l[k]? = some v → (part 5 l k).run Tryz.prog w = .ok v w := fun l k v w hx => run_part_plain w Tryz.plainByte hx
  simp only [List.range_succ, List.range_zero, List.nil_append, List.cons_append, Op.eqItems, Sem.run_bind]
  rw [hp _ (0 * 1) (.int .u8 a0) w rfl]
  simp only [Result.andThen_ok]
  rw [hp _ (0 * 1) (.int .u8 b0) w rfl]
  simp only [Result.andThen_ok, hq]
  cases h0 : (a0 == b0)
  · simp
  · simp only [Bool.not_true, Bool.false_eq_true, if_false, Sem.run_bind]
    rw [hp _ (1 * 1) (.int .u8 a1) w rfl]
    simp only [Result.andThen_ok]
    rw [hp _ (1 * 1) (.int .u8 b1) w rfl]
    simp only [Result.andThen_ok, hq]
    cases h1 : (a1 == b1)
    · simp
    · simp only [Bool.not_true, Bool.false_eq_true, if_false, Sem.run_bind]
      rw [hp _ (2 * 1) (.int .u8 a2) w rfl]
      simp only [Result.andThen_ok]
      rw [hp _ (2 * 1) (.int .u8 b2) w rfl]
      simp only [Result.andThen_ok, hq]
      cases h2 : (a2 == b2) <;> simp
theorem Tryz.stoodSide : Tryz.prog.stoodInHeld 49 = false := by kernel_rfl
theorem Tryz.undSide : Tryz.prog.underlying 49 = some (.struct (Tryz.prog.fieldsOf 49)) := by kernel_rfl
theorem Tryz.fldsSide : (Tryz.prog.fieldsOf 49).toList = [{ name := "D", type := 47, offset := 0, embedded := false, tag := "", pkgPath := "", byteOffset := 0 }, { name := "Sum", type := 26, offset := 3, embedded := false, tag := "", pkgPath := "", byteOffset := 8 }] := by kernel_rfl
set_option maxRecDepth 100000 in
theorem eql_side (w : World) (a0 a1 a2 an b0 b1 b2 bn : Int) :
    (Op.equalIn 10000 49 (.agg #[.int .u8 a0, .int .u8 a1, .int .u8 a2, .int .u64 an]) (.agg #[.int .u8 b0, .int .u8 b1, .int .u8 b2, .int .u64 bn])).run Tryz.prog w = .ok ((a0 == b0 && (a1 == b1 && a2 == b2)) && an == bn) w := by
  have h := run_equalIn_struct (P := Tryz.prog) w 9999 49 #[.int .u8 a0, .int .u8 a1, .int .u8 a2, .int .u64 an] #[.int .u8 b0, .int .u8 b1, .int .u8 b2, .int .u64 bn] Tryz.undSide Tryz.stoodSide
  have e : (9999 + 1 : Nat) = 10000 := rfl
  rw [e] at h
  rw [h, Tryz.fldsSide]
  have hq := eql_dg 9997
  have e2 : (9997 + 2 : Nat) = 9999 := rfl
  rw [e2] at hq
  have hi : ∀ (x y : Int) (w : World), (Op.equalIn 9999 26 (.int .u64 x) (.int .u64 y)).run Tryz.prog w = .ok (x == y) w := fun x y w => run_equalIn_int w 9998 26 .u64 .u64 x y Tryz.underlying26
  simp only [Op.eqFields]
  have p1 : ∀ (c0 c1 c2 c3 : Int) (w : World), (part 47 #[.int .u8 c0, .int .u8 c1, .int .u8 c2, .int .u64 c3] 0).run Tryz.prog w = .ok (.agg #[.int .u8 c0, .int .u8 c1, .int .u8 c2]) w := fun c0 c1 c2 c3 w => by kernel_rfl
  have p2 : ∀ (c0 c1 c2 c3 : Int) (w : World), (part 26 #[.int .u8 c0, .int .u8 c1, .int .u8 c2, .int .u64 c3] 3).run Tryz.prog w = .ok (.int .u64 c3) w := fun c0 c1 c2 c3 w => by kernel_rfl
  simp [p1, p2, hq, hi]
  by_cases h0 : a0 = b0 <;> by_cases h1 : a1 = b1 <;> by_cases h2 : a2 = b2 <;> by_cases h3 : an = bn <;> simp [h0, h1, h2, h3]

end Go.Proofs.YtbjobbkgelipmaaGreat
