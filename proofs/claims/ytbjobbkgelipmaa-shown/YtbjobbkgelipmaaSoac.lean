/-
  What Sound's first loop gathers, in plain words.
-/
import Derived.Test.YtbjobbkgelipmaaRows
import Derived.ProofKit
import Derived.SizedLaws
import Derived.Deep.Slices
import Derived.Test.YtbjobbkgelipmaaSoab
import Derived.Test.YtbjobbkgelipmaaSbab
namespace Go.Proofs.Ytbjobbkgelipmaa
open Go.RowKit

theorem verOk_iff {R S : List UInt8} : verOk R S ↔ (verAns R S).2.2 = 0 := by
  constructor
  · intro h; rw [verAns_yes h]
  · intro h
    refine Classical.byContradiction fun hn => ?_
    by_cases hok : repOk R
    · rw [verAns_no hok hn] at h; cases h
    · rw [verAns_norep hok] at h; cases h

/-- The proofs that are accepted; the first error. -/
noncomputable def accL (R : List UInt8) (L : List (List UInt8)) : List (List UInt8) := L.filter fun l => decide ((verAns R l).2.2 = 0)
noncomputable def mostE (R : List UInt8) (L : List (List UInt8)) : Int := L.foldl (fun m l => if m = 0 then (verAns R l).2.2 else m) 0
noncomputable def totE (R : List UInt8) (L : List (List UInt8)) : Int := ((accL R L).map accBal).foldr (· + ·) 0

theorem accL_snoc (R : List UInt8) (L : List (List UInt8)) (l : List UInt8) : accL R (L ++ [l]) = if (verAns R l).2.2 = 0 then accL R L ++ [l] else accL R L := by
  unfold accL
  rw [List.filter_append]
  by_cases e : (verAns R l).2.2 = 0
  · rw [if_pos e, List.filter_cons_of_pos (by simpa using e)]; rfl
  · rw [if_neg e, List.filter_cons_of_neg (by simpa using e)]; simp
theorem mostE_snoc (R : List UInt8) (L : List (List UInt8)) (l : List UInt8) : mostE R (L ++ [l]) = if mostE R L = 0 then (verAns R l).2.2 else mostE R L := by
  unfold mostE
  rw [List.foldl_append]
  rfl
theorem foldr_snoc (l : List Int) (x : Int) : (l ++ [x]).foldr (· + ·) 0 = l.foldr (· + ·) 0 + x := by
  induction l with
  | nil => simp
  | cons a t ih => simp only [List.cons_append, List.foldr_cons, ih]; omega
theorem totE_snoc (R : List UInt8) (L : List (List UInt8)) (l : List UInt8) : totE R (L ++ [l]) = if (verAns R l).2.2 = 0 then totE R L + accBal l else totE R L := by
  unfold totE
  rw [accL_snoc]
  by_cases e : (verAns R l).2.2 = 0
  · rw [if_pos e, if_pos e, List.map_append]; exact foldr_snoc _ _
  · rw [if_neg e, if_neg e]
theorem accL_all {R : List UInt8} {L : List (List UInt8)} (h : ∀ l ∈ L, verOk R l) : accL R L = L := List.filter_eq_self.2 fun l hl => decide_eq_true (verOk_iff.1 (h l hl))
theorem accL_norep {R : List UInt8} {L : List (List UInt8)} (h : ¬ repOk R) : accL R L = [] := List.filter_eq_nil_iff.2 fun l _ hd => by
  rw [verAns_norep h] at hd
  simp at hd
theorem mostE_all {R : List UInt8} : ∀ {L : List (List UInt8)}, (∀ l ∈ L, verOk R l) → mostE R L = 0 := by
  intro L h
  have : ∀ L : List (List UInt8), (∀ l ∈ L, verOk R l) → L.foldl (fun m l => if m = 0 then (verAns R l).2.2 else m) 0 = 0 := fun L => by
    induction L with
    | nil => intro _; rfl
    | cons a t ih =>
      intro h
      rw [List.foldl_cons, if_pos rfl, verOk_iff.1 (h a (by simp))]
      exact ih fun l hl => h l (List.mem_cons_of_mem _ hl)
  exact this L h
theorem most_keep {R : List UInt8} {m : Int} (hm : m ≠ 0) : ∀ L : List (List UInt8), L.foldl (fun m l => if m = 0 then (verAns R l).2.2 else m) m = m
  | [] => rfl
  | a :: t => by rw [List.foldl_cons, if_neg hm]; exact most_keep hm t
theorem mostE_norep {R : List UInt8} {L : List (List UInt8)} (h : ¬ repOk R) (hL : L ≠ []) : mostE R L = 8 := by
  cases L with
  | nil => exact absurd rfl hL
  | cons a t =>
    unfold mostE
    rw [List.foldl_cons, if_pos rfl, verAns_norep h]
    exact most_keep (by decide) t
theorem mostE_bad {R : List UInt8} : ∀ {L : List (List UInt8)}, repOk R → (∃ l ∈ L, ¬ verOk R l) → mostE R L = 9
  | [], _, ⟨_, h, _⟩ => by cases h
  | a :: t, hok, ⟨l, hl, hn⟩ => by
    unfold mostE
    rw [List.foldl_cons, if_pos rfl]
    by_cases ha : verOk R a
    · rw [verOk_iff.1 ha]
      refine mostE_bad (L := t) hok ⟨l, ?_, hn⟩
      rcases List.mem_cons.1 hl with rfl | hl
      · exact absurd ha hn
      · exact hl
    · rw [verAns_no hok ha]
      exact most_keep (by decide) t
theorem twice_snoc (ns : List (List UInt8)) (x : List UInt8) : decide (¬ (ns ++ [x]).Nodup) = (decide (¬ ns.Nodup) || decide (x ∈ ns)) := by
  rw [← Bool.decide_or]
  refine decide_eq_decide.2 ?_
  rw [List.nodup_append]
  constructor
  · intro h
    by_cases h1 : ns.Nodup
    · refine .inr (Classical.byContradiction fun h2 => h ⟨h1, by simp, fun a ha b hb e => ?_⟩)
      rw [List.mem_singleton] at hb
      subst hb
      subst e
      exact h2 ha
    · exact .inl h1
  · rintro (h | h) ⟨h1, _, h3⟩
    · exact h h1
    · exact h3 x h x (by simp) rfl
/-- What a customer is told of an accepted proof. -/
theorem ver_said {R S : List UInt8} (h : (verAns R S).2.2 = 0) : verAns R S = (accName S, accBal S, 0) ∧ 1 ≤ (accName S).length ∧ (accName S).length ≤ 8 ∧ 0 ≤ accBal S ∧ accBal S ≤ maxS := by
  have hv := verOk_iff.2 h
  have hh := hv.2.1
  have hl : (accName S).length = bAt S 2 := by
    unfold accName
    rw [List.length_take, List.length_drop]
    have := hh.2.2.2.2
    omega
  exact ⟨verAns_yes hv, by rw [hl]; exact hh.2.2.2.1, by rw [hl]; exact hh.2.2.2.2.1, (accBal_range S).1, (way_acc hv.2.2).2.2⟩
theorem ver_refused {R S : List UInt8} (h : (verAns R S).2.2 ≠ 0) : (verAns R S).1 = [] ∧ (verAns R S).2.1 = 0 := by
  have hn : ¬ verOk R S := fun hv => h (verOk_iff.1 hv)
  by_cases hok : repOk R
  · rw [verAns_no hok hn]; exact ⟨rfl, rfl⟩
  · rw [verAns_norep hok]; exact ⟨rfl, rfl⟩

/-- What Extract says, held against what was gathered. -/
theorem ext_most {R : List UInt8} {L : List (List UInt8)} {x y : List UInt8} {er : Int} (hE : ExtAns R L x y er) :
    (L = [] ∧ er = 8 ∧ x = [] ∧ y = []) ∨ (er ≠ 0 ∧ x = [] ∧ y = [] ∧ ¬ (L = [] ∧ er = 8) ∧ er = (if mostE R L = 0 ∧ ¬ ((accL R L).map accName).Nodup then 3 else mostE R L)) ∨
    (er = 0 ∧ mostE R L = 0 ∧ ((accL R L).map accName).Nodup ∧ repOk R ∧ ((x ≠ y ∧ dg x = dg y ∧ x ≠ [] ∧ y ≠ []) ∨ (x = [] ∧ y = [] ∧ totE R L ≤ (repRoot R).2 ∧ 0 ≤ totE R L))) := by
  rcases hE with ⟨h1, rfl, rfl, rfl⟩ | ⟨h1, h2, rfl, rfl, rfl⟩ | ⟨h1, h2, h3, rfl, rfl, rfl⟩ | ⟨h1, h2, h3, h4, rfl⟩
  · by_cases e : L = []
    · exact .inl ⟨e, rfl, rfl, rfl⟩
    · refine .inr (.inl ⟨by decide, rfl, rfl, fun h => e h.1, ?_⟩)
      rw [mostE_norep h1 e, if_neg (fun h => by cases h.1)]
  · refine .inr (.inl ⟨by decide, rfl, rfl, (fun h => by cases h.2), ?_⟩)
    rw [mostE_bad h1 h2, if_neg (fun h => by cases h.1)]
  · refine .inr (.inl ⟨by decide, rfl, rfl, (fun h => by cases h.2), ?_⟩)
    rw [accL_all h2, mostE_all h2, if_pos ⟨rfl, h3⟩]
  · refine .inr (.inr ⟨rfl, mostE_all h2, by rw [accL_all h2]; exact h3, h1, ?_⟩)
    rcases extR_digest (fun l hl => (h2 l hl).2.2) h4 with ⟨e1, e2, hN⟩ | hD
    · refine .inr ⟨e1, e2, ?_, ?_⟩
      · unfold totE
        rw [accL_all h2]
        exact sound_sum (fun l hl => (h2 l hl).2.2) (fun l hl => (h2 l hl).2.1) hN h3 (sideAt_range R 1).1
      · have : ∀ L : List (List UInt8), 0 ≤ (L.map accBal).foldr (· + ·) 0 := fun L => by
          induction L with
          | nil => exact Int.le_refl _
          | cons a t ih =>
            have := (accBal_range a).1
            simp only [List.map_cons, List.foldr_cons]
            omega
        exact this _
    · exact .inl hD

end Go.Proofs.Ytbjobbkgelipmaa

/-
  Moves that were handed in lie in memory.
-/
namespace Go.Proofs.Ytbjobbkgelipmaa
open Go.ChangeShapes Go.WideShapes Go.ChangeAt Go.RowKit

theorem Try.kown : ownKnob Try.prog.godebug = none := by kernel_rfl
theorem Try.klaidOut : laidOutB Try.prog = true := by kernel_rfl
theorem Try.kcellsMove : Try.prog.cellsOf 32 = 4 := by kernel_rfl
theorem Try.kcellsInt : Try.prog.cellsOf 3 = 1 := by kernel_rfl
theorem Try.kcellsU64 : Try.prog.cellsOf 28 = 1 := by kernel_rfl
theorem Try.kbytesMove : Try.prog.bytesOf 32 = 32 := by kernel_rfl

def moveList (x : MoveD) : List Value := [.int .i64 x.k, .int .i64 x.a, .int .i64 x.b, .int .u64 x.n]

theorem wf_i64 {n : Int} (h : (Lit.int .i64 n).wf = true) : -9223372036854775808 ≤ n ∧ n < 9223372036854775808 := by
  simp only [Lit.wf, Bool.and_eq_true, decide_eq_true_eq] at h
  have e1 : IntKind.i64.min = -9223372036854775808 := rfl
  have e2 : IntKind.i64.max = 9223372036854775807 := rfl
  omega
theorem wf_u64 {n : Int} (h : (Lit.int .u64 n).wf = true) : 0 ≤ n ∧ n < 18446744073709551616 := by
  simp only [Lit.wf, Bool.and_eq_true, decide_eq_true_eq] at h
  have e1 : IntKind.u64.min = 0 := rfl
  have e2 : IntKind.u64.max = 18446744073709551615 := rfl
  omega

set_option maxRecDepth 100000 in
theorem move_open {H : Type} {enc : TypeId × Value → H} {W : World} {base : Nat} {spare : Nat → Bool} {held : Bool} {fuel : Nat} {cs : List Value} {y : DataW H × List MemPlace}
    (h : DataW.trod enc Try.prog W base spare held fuel 32 cs = some y) : ∃ x : MoveD, cs = moveList x ∧ x.ok := by
  obtain ⟨xs, n, _, rfl, hl, hlen, hf⟩ := DataW.trod_struct Try.underlying32 h
  rw [Try.kcellsMove] at hl
  have hlen4 : xs.length = 4 := hlen
  match xs, hlen4 with
  | [y0, y1, y2, y3], _ =>
  match cs, hl with
  | [c0, c1, c2, c3], _ =>
  have f0 : DataW.trod enc Try.prog W base spare held n 3 (([c0, c1, c2, c3].drop 0).take (Try.prog.cellsOf 3)) = ([y0, y1, y2, y3] : List (DataW H × List MemPlace))[0]? := hf 0 _ rfl
  have f1 : DataW.trod enc Try.prog W base spare held n 3 (([c0, c1, c2, c3].drop 1).take (Try.prog.cellsOf 3)) = ([y0, y1, y2, y3] : List (DataW H × List MemPlace))[1]? := hf 1 _ rfl
  have f2 : DataW.trod enc Try.prog W base spare held n 3 (([c0, c1, c2, c3].drop 2).take (Try.prog.cellsOf 3)) = ([y0, y1, y2, y3] : List (DataW H × List MemPlace))[2]? := hf 2 _ rfl
  have f3 : DataW.trod enc Try.prog W base spare held n 28 (([c0, c1, c2, c3].drop 3).take (Try.prog.cellsOf 28)) = ([y0, y1, y2, y3] : List (DataW H × List MemPlace))[3]? := hf 3 _ rfl
  rw [Try.kcellsInt] at f0 f1 f2
  rw [Try.kcellsU64] at f3
  have g0 : DataW.trod enc Try.prog W base spare held n 3 [c0] = some y0 := f0
  have g1 : DataW.trod enc Try.prog W base spare held n 3 [c1] = some y1 := f1
  have g2 : DataW.trod enc Try.prog W base spare held n 3 [c2] = some y2 := f2
  have g3 : DataW.trod enc Try.prog W base spare held n 28 [c3] = some y3 := f3
  obtain ⟨k, e0, _, w0⟩ := DataW.trod_int Try.underlying3 g0
  obtain ⟨a, e1, _, w1⟩ := DataW.trod_int Try.underlying3 g1
  obtain ⟨b, e2, _, w2⟩ := DataW.trod_int Try.underlying3 g2
  obtain ⟨m, e3, _, w3⟩ := DataW.trod_int Try.underlying28 g3
  simp only [List.cons.injEq, and_true] at e0 e1 e2 e3
  subst e0 e1 e2 e3
  exact ⟨⟨k, a, b, m⟩, rfl, wf_i64 w0, wf_i64 w1, wf_i64 w2, wf_u64 w3⟩

/-- Moves opened. -/
theorem moves_open {H : Type} {enc : TypeId × Value → H} {W : World} {fuel : Nat} {a0 : Option Addr} {len cap : Nat} {y : DataW H × List MemPlace}
    (h : DataW.trod enc Try.prog W 0 (fun _ => true) true fuel 22 [.slice a0 len cap] = some y) (hsz : ∀ m ∈ y.1.weights Try.prog 22, m ≤ reachBytes) :
    ∃ xs : List MoveD, xs.length = len ∧ len < 9223372036854775807 ∧ (0 < len → ∃ b off, a0 = some ⟨b, off, none⟩ ∧ MovesAt W b off xs) := by
  rcases Deep.open_slice Try.underlying22 h with ⟨hcs, _⟩ | ⟨a, len', cap', m, n, D, Pl, hcs, _, hl, hm, hmm, rfl, hel⟩
  · simp only [List.cons.injEq, Value.slice.injEq, and_true] at hcs
    exact ⟨[], by simp [hcs.2.1], by omega, fun h => by omega⟩
  · simp only [List.cons.injEq, Value.slice.injEq, and_true] at hcs
    obtain ⟨rfl, rfl, rfl⟩ := hcs
    simp only [if_true] at hmm
    subst hmm
    by_cases h0 : len = 0
    · exact ⟨[], by simp [h0], by omega, fun h => by omega⟩
    have hw : (DataW.slice ((List.range len).map D) ((List.range (m - len)).map fun j => D (len + j))).weights Try.prog 22 =
        (((List.range len).map D).length + ((List.range (m - len)).map fun j => D (len + j)).length) * Try.prog.bytesOf 32 :: (DataW.weightsAll Try.prog 32 ((List.range len).map D) ++ DataW.weightsAll Try.prog 32 ((List.range (m - len)).map fun j => D (len + j))) := by
      simp only [DataW.weights, Try.underlying22]
    rw [hw] at hsz
    have hb := hsz _ List.mem_cons_self
    rw [Try.kbytesMove] at hb
    simp only [List.length_map, List.length_range, reachBytes] at hb
    have hop : ∀ i, i < len → ∃ x : MoveD, (W.cells? 0 (a.add (i * 4)) 4 = some (moveList x)) ∧ x.ok := by
      intro i hi
      obtain ⟨cs', hc, ht⟩ := hel i (by omega)
      rw [Try.kcellsMove] at hc
      obtain ⟨x, rfl, h1⟩ := move_open ht
      exact ⟨x, hc, h1⟩
    have inh : Inhabited MoveD := ⟨⟨0, 0, 0, 0⟩⟩
    obtain ⟨f, hfx⟩ := Deep.choose_lt hop
    obtain ⟨b, off, spot⟩ := a
    have hspot : spot = none := by
      have h1 := (World.cells?_some (hfx 0 (by omega)).1).2.2 0 (by omega)
      have h2 : W.cell? ((⟨b, off, spot⟩ : Addr).add (0 * 4 + 0)) = some (Value.int .i64 (f 0).k) := by rw [← Deep.add_add]; exact h1
      simpa [Addr.add] using World.cell?_spot h2
    subst hspot
    have hcell : ∀ i, i < len → ∀ j, j < 4 → W.cell? ⟨b, off + i * 4 + j, none⟩ = (moveList (f i))[j]? := by
      intro i hi j hj
      have h1 := (World.cells?_some (hfx i hi).1).2.2 j hj
      rw [Deep.add_add, addr_add, ← Nat.add_assoc] at h1
      exact h1
    refine ⟨(List.range len).map f, by simp, by omega, fun _ => ⟨b, off, rfl, ?_⟩⟩
    have e : ∀ i (hi : i < ((List.range len).map f).length), ((List.range len).map f)[i] = f i := fun i hi => by simp
    have il : ∀ i, i < ((List.range len).map f).length → i < len := fun i hi => by simpa using hi
    refine ⟨World.cells?_block (hfx 0 (by omega)).1 (by omega), ?_, ?_, ?_, ?_, ?_⟩
    · intro i hi; rw [e i hi]; exact hcell i (il i hi) 0 (by omega)
    · intro i hi; rw [e i hi]; exact hcell i (il i hi) 1 (by omega)
    · intro i hi; rw [e i hi]; exact hcell i (il i hi) 2 (by omega)
    · intro i hi; rw [e i hi]; exact hcell i (il i hi) 3 (by omega)
    · intro x hx
      obtain ⟨i, hi, rfl⟩ := List.mem_map.1 hx
      exact (hfx i (by simpa using hi)).2

end Go.Proofs.Ytbjobbkgelipmaa
