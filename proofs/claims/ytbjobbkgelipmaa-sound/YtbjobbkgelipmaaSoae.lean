/-
  Bytes and lists of bytes that were handed in lie in memory.
-/
import Derived.Deep.DeepCutAuto
import Derived.Test.YtbjobbkgelipmaaSoab
import Derived.Test.YtbjobbkgelipmaaSoac
import Derived.Test.YtbjobbkgelipmaaSbae
import Derived.Test.YtbjobbkgelipmaaSbaa
import Derived.Test.YtbjobbkgelipmaaSbag
import Derived.Test.YtbjobbkgelipmaaSbai
import Derived.Test.YtbjobbkgelipmaaSoaa
import Derived.Test.YtbjobbkgelipmaaSbak
namespace Go.Proofs.Ytbjobbkgelipmaa
open Go.ChangeShapes Go.WideShapes Go.ChangeAt Go.RowKit

theorem Try.kcellsByte : Try.prog.cellsOf 5 = 1 := by kernel_rfl
theorem Try.kcellsBytes : Try.prog.cellsOf 43 = 1 := by kernel_rfl
theorem Try.kbytesByte : Try.prog.bytesOf 5 = 1 := by kernel_rfl
theorem Try.kbytesBytes : Try.prog.bytesOf 43 = 24 := by kernel_rfl

theorem wf_u8 {n : Int} (h : (Lit.int .u8 n).wf = true) : 0 ≤ n ∧ n < 256 := by
  simp only [Lit.wf, Bool.and_eq_true, decide_eq_true_eq] at h
  have e1 : IntKind.u8.min = 0 := rfl
  have e2 : IntKind.u8.max = 255 := rfl
  omega

/-- Bytes that were handed in: a slice, wherever it lies. -/
def SliceIs (W : World) (a : Option Addr) (len cap : Nat) (l : List UInt8) : Prop := l.length = len ∧ len ≤ cap ∧ cap ≤ 9223372036854775807 ∧ (0 < len → ∃ b o, a = some ⟨b, o, none⟩ ∧ b < W.heap.size ∧ BytesAt W b o l)

theorem bytes_open {H : Type} {enc : TypeId × Value → H} {W : World} {fuel : Nat} {v : Value} {y : DataW H × List MemPlace}
    (h : DataW.trod enc Try.prog W 0 (fun _ => true) true fuel 43 [v] = some y) (hsz : ∀ m ∈ y.1.weights Try.prog 43, m ≤ reachBytes) :
    ∃ (a : Option Addr) (len cap : Nat) (l : List UInt8), v = .slice a len cap ∧ SliceIs W a len cap l ∧ len ≤ 140737488351232 := by
  rcases Deep.open_slice1 Try.underlying43 Try.kcellsByte h with ⟨hcs, _⟩ | ⟨a, len, cap, m, n, V, D, Pl, hcs, _, hl, hm, hmm, rfl, hel⟩
  · simp only [List.cons.injEq, and_true] at hcs
    subst hcs
    exact ⟨none, 0, 0, [], rfl, ⟨rfl, by omega, by omega, fun h => by omega⟩, by omega⟩
  · simp only [List.cons.injEq, and_true] at hcs
    subst hcs
    simp only [if_true] at hmm
    subst hmm
    have hw : (DataW.slice ((List.range len).map D) ((List.range (m - len)).map fun j => D (len + j))).weights Try.prog 43 =
        (((List.range len).map D).length + ((List.range (m - len)).map fun j => D (len + j)).length) * Try.prog.bytesOf 5 :: (DataW.weightsAll Try.prog 5 ((List.range len).map D) ++ DataW.weightsAll Try.prog 5 ((List.range (m - len)).map fun j => D (len + j))) := by
      simp only [DataW.weights, Try.underlying43]
    rw [hw] at hsz
    have hb := hsz _ List.mem_cons_self
    rw [Try.kbytesByte] at hb
    simp only [List.length_map, List.length_range, reachBytes] at hb
    have hv : ∀ i, i < len → ∃ x : UInt8, W.cell? (a.add i) = some (.int .u8 (x.toNat : Int)) := fun i hi => by
      obtain ⟨hc, ht⟩ := hel i (by omega)
      obtain ⟨k, e0, _, w0⟩ := DataW.trod_int Try.underlying5 ht
      simp only [List.cons.injEq, and_true] at e0
      have hk := wf_u8 w0
      refine ⟨UInt8.ofNat k.toNat, ?_⟩
      rw [hc, e0]
      have : (UInt8.ofNat k.toNat).toNat = k.toNat := by simp; omega
      rw [this, Int.toNat_of_nonneg hk.1]
    obtain ⟨f, hf⟩ := Deep.choose_lt hv
    refine ⟨some a, len, m, (List.range len).map f, rfl, ⟨by simp, hl, by unfold maxLen at hm; omega, fun h0 => ?_⟩, by omega⟩
    obtain ⟨b, off, spot⟩ := a
    have hspot : spot = none := by
      have h1 := hf 0 h0
      simpa [Addr.add] using World.cell?_spot h1
    subst hspot
    have hlt : b < W.heap.size := by
      have h1 := hf 0 h0
      rw [addr_add] at h1
      refine Nat.lt_of_not_le fun hn => ?_
      simp [World.cell?, Array.getElem?_eq_none hn] at h1
    refine ⟨b, off, rfl, hlt, fun j hj => ?_⟩
    have hj' : j < len := by simpa using hj
    have h1 := hf j hj'
    rw [addr_add] at h1
    simpa using h1

theorem weightsAll_mem' {H : Type} {P : Program} {e : TypeId} : ∀ {l : List (DataW H)} {d : DataW H}, d ∈ l → ∀ m ∈ d.weights P e, m ∈ DataW.weightsAll P e l
  | [], _, h, _, _ => by cases h
  | x :: l, d, h, m, hm => by
    rw [DataW.weightsAll, List.mem_append]
    rcases List.mem_cons.1 h with rfl | h
    · exact Or.inl hm
    · exact Or.inr (weightsAll_mem' h m hm)

/-- Lists of bytes in a list that was handed in. -/
theorem lists_open {H : Type} {enc : TypeId × Value → H} {W : World} {fuel : Nat} {a0 : Option Addr} {len cap : Nat} {y : DataW H × List MemPlace}
    (h : DataW.trod enc Try.prog W 0 (fun _ => true) true fuel 49 [.slice a0 len cap] = some y) (hsz : ∀ m ∈ y.1.weights Try.prog 49, m ≤ reachBytes) :
    ∃ (vs : Nat → Option Addr × Nat × Nat) (Ls : List (List UInt8)), Ls.length = len ∧ len ≤ cap ∧ len < 9223372036854775807 ∧ (0 < len → ∃ b off, a0 = some ⟨b, off, none⟩ ∧ b < W.heap.size ∧ ∀ i (hi : i < Ls.length), W.cell? ⟨b, off + i, none⟩ = some (.slice (vs i).1 (vs i).2.1 (vs i).2.2) ∧ SliceIs W (vs i).1 (vs i).2.1 (vs i).2.2 Ls[i]) := by
  rcases Deep.open_slice1 Try.underlying49 Try.kcellsBytes h with ⟨hcs, _⟩ | ⟨a, len', cap', m, n, V, D, Pl, hcs, _, hl, hm, hmm, rfl, hel⟩
  · simp only [List.cons.injEq, Value.slice.injEq, and_true] at hcs
    obtain ⟨rfl, rfl, rfl⟩ := hcs
    exact ⟨fun _ => (none, 0, 0), [], rfl, by omega, by omega, fun h => by omega⟩
  · simp only [List.cons.injEq, Value.slice.injEq, and_true] at hcs
    obtain ⟨rfl, rfl, rfl⟩ := hcs
    simp only [if_true] at hmm
    subst hmm
    have hw : (DataW.slice ((List.range len).map D) ((List.range (m - len)).map fun j => D (len + j))).weights Try.prog 49 =
        (((List.range len).map D).length + ((List.range (m - len)).map fun j => D (len + j)).length) * Try.prog.bytesOf 43 :: (DataW.weightsAll Try.prog 43 ((List.range len).map D) ++ DataW.weightsAll Try.prog 43 ((List.range (m - len)).map fun j => D (len + j))) := by
      simp only [DataW.weights, Try.underlying49]
    rw [hw] at hsz
    have hb := hsz _ List.mem_cons_self
    rw [Try.kbytesBytes] at hb
    simp only [List.length_map, List.length_range, reachBytes] at hb
    have hv : ∀ i, i < len → ∃ q : (Option Addr × Nat × Nat) × List UInt8, W.cell? (a.add i) = some (.slice q.1.1 q.1.2.1 q.1.2.2) ∧ SliceIs W q.1.1 q.1.2.1 q.1.2.2 q.2 := fun i hi => by
      obtain ⟨hc, ht⟩ := hel i (by omega)
      obtain ⟨va, vl, vc, l, hv, hS, _⟩ := bytes_open ht (fun k hk => hsz k (List.mem_cons_of_mem _ (List.mem_append_left _ (weightsAll_mem' (List.mem_map.2 ⟨i, by simpa using hi, rfl⟩) k hk))))
      exact ⟨((va, vl, vc), l), by rw [hc, hv], hS⟩
    have inh : Inhabited ((Option Addr × Nat × Nat) × List UInt8) := ⟨((none, 0, 0), [])⟩
    obtain ⟨f, hf⟩ := Deep.choose_lt hv
    refine ⟨fun i => (f i).1, (List.range len).map fun i => (f i).2, by simp, hl, by omega, fun h0 => ?_⟩
    obtain ⟨b, off, spot⟩ := a
    have hspot : spot = none := by
      have h1 := (hf 0 h0).1
      simpa [Addr.add] using World.cell?_spot h1
    subst hspot
    have hlt : b < W.heap.size := by
      have h1 := (hf 0 h0).1
      rw [addr_add] at h1
      refine Nat.lt_of_not_le fun hn => ?_
      simp [World.cell?, Array.getElem?_eq_none hn] at h1
    refine ⟨b, off, rfl, hlt, fun i hi => ?_⟩
    have hi' : i < len := by simpa using hi
    have h1 := hf i hi'
    rw [addr_add] at h1
    refine ⟨h1.1, ?_⟩
    have e : ((List.range len).map fun i => (f i).2)[i] = (f i).2 := by simp
    rw [e]
    exact h1.2

end Go.Proofs.Ytbjobbkgelipmaa

/-
  The walks of tithe's readReport and readProof where the bytes lie anywhere.
-/
namespace Go.Proofs.Ytbjobbkgelipmaa
open Go.RowKit

set_option maxHeartbeats 400000 in
set_option maxRecDepth 100000 in
theorem rdrepo_bad (a : Option Addr) (len cap : Nat) (l : List UInt8) (w : World) (hl : l.length = len) (hB : 0 < len → ∃ b o, a = some ⟨b, o, none⟩ ∧ b < w.heap.size ∧ BytesAt w b o l) (hbad : ¬ repHead l) :
    Calls Try.prog 34 #[.slice a len cap] w fun e w' => e = .returned (.tuple #[ownRepV 0 0 0 0 0, .bool false]) ∧ Below w.heap.size w w' := by
  by_cases h12 : len = 12
  · subst h12
    have h6 : 6 < (l.getD 0 0).toNat := Nat.lt_of_not_le fun h => hbad ⟨hl, h⟩
    obtain ⟨b, o, rfl, hb, hB⟩ := hB (by omega)
    have hne : b ≠ w.heap.size := by omega
    have c0 : w.cell? ⟨b, o, none⟩ = some (.int .u8 ((l.getD 0 0).toNat : Int)) := by
      have := hB 0 (by omega)
      rw [Nat.add_zero] at this
      rw [this, List.getD_eq_getElem?_getD, List.getElem?_eq_getElem (by omega)]; rfl
    generalize hd : ((l.getD 0 0).toNat : Int) = d at c0
    have hd6 : (6 : Int) < d := by omega
    clear h6 hd hB hbad hl
    go_enter Try.func34, Try.ntmps34
    go_wp2
    refine bodyPost_ret (v := .tuple #[ownRepV 0 0 0 0 0, .bool false]) ?_ rfl ⟨rfl, ?_⟩
    · simp [results, Try.results34, go_sem, ownRepV]
    · repeat first
        | exact Below.refl _ _
        | refine Below.setCell ?_ (by simp; try omega) _
        | refine Below.alloc ?_ (by simp; try omega) _
  · have hl' : ((len : Int) != 12) = true := by simp; omega
    clear hB hbad hl
    go_enter Try.func34, Try.ntmps34
    go_wp2
    refine bodyPost_ret (v := .tuple #[ownRepV 0 0 0 0 0, .bool false]) ?_ rfl ⟨rfl, ?_⟩
    · simp [results, Try.results34, go_sem, ownRepV]
    · repeat first
        | exact Below.refl _ _
        | refine Below.setCell ?_ (by simp; try omega) _
        | refine Below.alloc ?_ (by simp; try omega) _

set_option maxHeartbeats 1000000 in
set_option maxRecDepth 100000 in
theorem rdrepo_good (b o cap : Nat) (l : List UInt8) (w : World) (hb : b < w.heap.size) (hB : BytesAt w b o l) (hg : repHead l) (hc : 12 ≤ cap) (hm : cap ≤ 9223372036854775807) :
    Calls Try.prog 34 #[.slice (some ⟨b, o, none⟩) 12 cap] w fun e w' => e = .returned (.tuple #[ownRepV (repH l : Int) ((repRoot l).1.1.toNat : Int) ((repRoot l).1.2.1.toNat : Int) ((repRoot l).1.2.2.toNat : Int) (repRoot l).2, .bool (leMax (repRoot l).2)]) ∧ Below w.heap.size w w' := by
  have hl := hg.1
  have hne : b ≠ w.heap.size := by omega
  have h6 : repH l ≤ 6 := hg.2
  have c0 : w.cell? ⟨b, o, none⟩ = some (.int .u8 (repH l : Int)) := by
    have := hB 0 (by omega)
    rw [Nat.add_zero] at this
    rw [this]; unfold repH; rw [List.getD_eq_getElem?_getD, List.getElem?_eq_getElem (by omega)]; rfl
  have HC : ∀ w', Below w.heap.size w w' → Hid (Calls Try.prog 49 #[.slice (some ⟨b, o + 1, none⟩) 11 (cap - 1)] w' fun e w'' => e = .returned (sideV (repRoot l).1 (repRoot l).2) ∧ Below w'.heap.size w' w'') := fun w' hbw => by
    have hBw : BytesAt w' b o l := fun j hj => (hbw.cell (p := ⟨b, o + j, none⟩) hb).trans (hB j hj)
    have h := rdside_any b (o + 1) 11 (cap - 1) (l.drop 1) w' (by rw [List.length_drop]; omega) (by omega) (by omega) (by omega) (by have := hbw.size; omega) hBw.drop
    have e : sideAt (l.drop 1) 0 = repRoot l := by
      unfold repRoot sideAt
      simp only [List.getD_eq_getElem?_getD, List.getElem?_drop, List.drop_drop]
    rw [e] at h
    exact h
  generalize hrr : repRoot l = rr at *
  obtain ⟨⟨y0, y1, y2⟩, n⟩ := rr
  unfold sideV at HC
  simp only at HC ⊢
  generalize (y0.toNat : Int) = d0 at *
  generalize (y1.toNat : Int) = d1 at *
  generalize (y2.toNat : Int) = d2 at *
  generalize hh : repH l = h at *
  have hwr : IntKind.i64.wrap (h : Int) = (h : Int) := by rw [IntKind.wrap_i64]; omega
  have hh6 : ¬ (6 : Int) < (h : Int) := by omega
  have cb : ∀ w', Below w.heap.size w w' → w'.cell? ⟨b, o, none⟩ = some (.int .u8 (h : Int)) := fun w' hbw => (hbw.cell (p := ⟨b, o, none⟩) hb).trans c0
  have HCB := hide cb
  have hle : leMax n = decide (n ≤ 4611686018427387904) := rfl
  rw [hle]
  generalize hbb : decide (n ≤ 4611686018427387904) = bb
  have lc : cap ≠ 1 := by omega
  clear hB hg hl hh h6 hrr cb hle
  go_enter Try.func34, Try.ntmps34
  go_wp2_with fail
  generalize hW0 : (w.alloc (Obj.cells #[Value.int IntKind.i64 0, Value.int IntKind.u8 0, Value.int IntKind.u8 0, Value.int IntKind.u8 0, Value.int IntKind.u64 0] 90)) = W0
  have hR0 : RB w repZs 90 W0 := by rw [← hW0]; exact RB.new w _ _
  clear hW0 c0
  have hSd : W0.drew.cell? ⟨b, o, none⟩ = some (.int .u8 (h : Int)) ∧ RB w repZs 90 W0.drew := ⟨unhide HCB _ hR0.drew.below, hR0.drew⟩
  have hz : w.heap.size < W0.heap.size := hR0.lt
  go_cut [4] (fun s4 wx => ∃ A, s4 = .pointer (some ⟨A, 0, none⟩) ∧ Hid (MB w repZs 90 A #[.int .i64 (h : Int), .int .u8 d0, .int .u8 d1, .int .u8 d2, .int .u64 n] 90 wx))
  case first =>
    go_region_held3 (fun w' => w'.cell? ⟨b, o, none⟩ = some (.int .u8 (h : Int)) ∧ RB w repZs 90 w')
      (first
        | with_reducible exact hSd
        | with_reducible exact hS4
        | with_reducible exact ⟨unhide HCB _ (hS4.2.alloc _).below, hS4.2.alloc _⟩
        | with_reducible exact ⟨unhide HCB _ (hR0.alloc _).drew.below, (hR0.alloc _).drew⟩
        | with_reducible exact ⟨unhide HCB _ (((((hM4.set _ _).set _ _).set _ _).set _ _).set _ _).rb.below, (((((hM4.set _ _).set _ _).set _ _).set _ _).set _ _).rb⟩
        | fail)
      (first
        | (go_at_call 49; refine (unhide (HC _ hSd.2.below)).mono ?_; rintro e w4 ⟨rfl, hb4⟩; have hR4 := hSd.2.later hb4; have hS4 := And.intro (unhide HCB _ hR4.below) hR4; have oA := True.intro)
        | (go_at_call 49; refine (unhide (HC _ (hR0.alloc _).drew.below)).mono ?_; rintro e w4 ⟨rfl, hb4⟩; have hM4 : MB w repZs 90 W0.heap.size _ _ w4 := (MB.new hR0 _ _).drew.later hb4; have hS4 := And.intro (unhide HCB _ hM4.rb.below) hM4.rb; have u0 : w4.cell? ⟨W0.heap.size, 0, none⟩ = some (.int .i64 0) := hM4.cell 0; have u1 : w4.cell? ⟨W0.heap.size, 1, none⟩ = some (.int .u8 0) := hM4.cell 1; have u2 : w4.cell? ⟨W0.heap.size, 2, none⟩ = some (.int .u8 0) := hM4.cell 2; have u3 : w4.cell? ⟨W0.heap.size, 3, none⟩ = some (.int .u8 0) := hM4.cell 3; have u4 : w4.cell? ⟨W0.heap.size, 4, none⟩ = some (.int .u64 0) := hM4.cell 4; have v0 : ∀ i, w4.frozen? ⟨W0.heap.size, i, none⟩ = false := hM4.free))
    all_goals (go_wp2_with fail; go_meet; first | exact ⟨_, rfl, hide (MB.new hS4.2 _ _)⟩ | exact ⟨_, rfl, hide (((((hM4.set 0 (.int .i64 (h : Int))).set 1 (.int .u8 d0)).set 2 (.int .u8 d1)).set 3 (.int .u8 d2)).set 4 (.int .u64 n))⟩)
  case rest =>
  obtain ⟨A, rfl, HM⟩ := hcut
  clear hSd hR0 hz HC HCB hh6
  have hM := (unhide HM).drew
  have hA : A ≠ w.heap.size := by have := hM.gt; omega
  have a0 : wc.cell? ⟨A, 0, none⟩ = some (.int .i64 (h : Int)) := hM.cell 0
  have a1 : wc.cell? ⟨A, 1, none⟩ = some (.int .u8 d0) := hM.cell 1
  have a2 : wc.cell? ⟨A, 2, none⟩ = some (.int .u8 d1) := hM.cell 2
  have a3 : wc.cell? ⟨A, 3, none⟩ = some (.int .u8 d2) := hM.cell 3
  have a4 : wc.cell? ⟨A, 4, none⟩ = some (.int .u64 n) := hM.cell 4
  have r0 : wc.cell? ⟨w.heap.size, 0, none⟩ = some (.int .i64 0) := hM.rb.cell 0
  have r1 : wc.cell? ⟨w.heap.size, 1, none⟩ = some (.int .u8 0) := hM.rb.cell 1
  have r2 : wc.cell? ⟨w.heap.size, 2, none⟩ = some (.int .u8 0) := hM.rb.cell 2
  have r3 : wc.cell? ⟨w.heap.size, 3, none⟩ = some (.int .u8 0) := hM.rb.cell 3
  have r4 : wc.cell? ⟨w.heap.size, 4, none⟩ = some (.int .u64 0) := hM.rb.cell 4
  have rf : ∀ i, wc.frozen? ⟨w.heap.size, i, none⟩ = false := hM.rb.free
  clear hM
  go_wp2_with fail
  go_region
  go_wp2
  refine bodyPost_ret (v := .tuple #[ownRepV (h : Int) d0 d1 d2 n, .bool bb]) ?_ rfl ⟨rfl, ?_⟩
  · simp [results, Try.results34, go_sem, ownRepV, r0, r1, r2, r3, r4]
  · exact (((((((unhide HM).setR 0 _).setR 1 _).setR 2 _).setR 3 _).setR 4 _).drew).rb.below

set_option maxHeartbeats 400000 in
set_option maxRecDepth 100000 in
theorem rdpro_short (a : Option Addr) (len cap h : Nat) (w : World) (hlen : len < 3) :
    Calls Try.prog 50 #[.slice a len cap, .int .i64 (h : Int)] w fun e w' => e = .returned (.tuple #[proofZ, .bool false]) ∧ Below w.heap.size w w' := by
  have hl : (len : Int) < 3 := by omega
  clear hlen
  go_enter Try.func50, Try.ntmps50
  go_wp2
  refine bodyPost_ret (v := .tuple #[proofZ, .bool false]) ?_ rfl ⟨rfl, ?_⟩
  · simp [results, Try.results50, go_sem, proofZ]
  · repeat first
      | exact Below.refl _ _
      | refine Below.setCell ?_ (by simp; try omega) _
      | refine Below.alloc ?_ (by simp; try omega) _

set_option maxHeartbeats 400000 in
set_option maxRecDepth 100000 in
theorem rdpro_height (b o len cap h b0 : Nat) (w : World) (hlen : 3 ≤ len) (hb : b < w.heap.size) (c0 : w.cell? ⟨b, o, none⟩ = some (.int .u8 (b0 : Int))) (h0 : b0 ≤ 255) (hne : b0 ≠ h) :
    Calls Try.prog 50 #[.slice (some ⟨b, o, none⟩) len cap, .int .i64 (h : Int)] w fun e w' => e = .returned (.tuple #[proofZ, .bool false]) ∧ Below w.heap.size w w' := by
  have hl : ¬ (len : Int) < 3 := by omega
  have hl0 : 0 < len := by omega
  have hw : IntKind.i64.wrap (b0 : Int) = (b0 : Int) := by rw [IntKind.wrap_i64]; omega
  have hnb : b ≠ w.heap.size := by omega
  have hne' : ((b0 : Int) != (h : Int)) = true := by simp; omega
  clear hlen
  go_enter Try.func50, Try.ntmps50
  go_wp2
  refine bodyPost_ret (v := .tuple #[proofZ, .bool false]) ?_ rfl ⟨rfl, ?_⟩
  · simp [results, Try.results50, go_sem, proofZ]
  · repeat first
      | exact Below.refl _ _
      | refine Below.setCell ?_ (by simp; try omega) _
      | refine Below.alloc ?_ (by simp; try omega) _

end Go.Proofs.Ytbjobbkgelipmaa
