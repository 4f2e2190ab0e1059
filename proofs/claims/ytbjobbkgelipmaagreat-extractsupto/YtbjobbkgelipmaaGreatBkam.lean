/-
  titheref's book: the walks of Salt, Publish, Proof.
-/
import Derived.Deep.AppendLies
import Derived.Deep.RegionHeld3
import Derived.Test.YtbjobbkgelipmaaGreatBkag
import Derived.Test.YtbjobbkgelipmaaGreatBkai
namespace Go.Proofs.YtbjobbkgelipmaaGreat
open Go.RowKit Go.Maps

theorem wdiv (x d : Int) (hd : 0 < d) : IntKind.u64.wrap ((IntKind.u64.wrap x).tdiv d) = IntKind.u64.wrap x / d := by
  have h := wrap_range x
  rw [Int.tdiv_eq_ediv_of_nonneg h.1]
  generalize IntKind.u64.wrap x = y at *
  have h1 : 0 ≤ y / d := Int.ediv_nonneg h.1 (by omega)
  have h2 : y / d ≤ y := Int.ediv_le_self d h.1
  rw [IntKind.wrap_u64, Int.emod_eq_of_lt h1 (by omega)]

set_option maxRecDepth 100000 in
set_option maxHeartbeats 400000 in
theorem refsalt_any (seed : Int) (p : Nat) (w : World) (hp : p < 256) :
    Calls Tryz.prog 56 #[.int .u64 seed, .int .i64 (p : Int)] w fun e w' => e = .returned (.int .u64 (saltI seed p)) ∧ w' = w := by
  go_enter Tryz.func56, Tryz.ntmps56
  go_wp2
  go_ret
  refine ⟨?_, rfl⟩
  simp only [wdiv _ 1073741824 (by decide), wdiv _ 134217728 (by decide), wdiv _ 2147483648 (by decide)]
  rfl

/-- Leaves' cells. -/
def leafVals (ls : List LeafD) : List Value := ls.flatMap fun x => [.string x.nm, .int .u64 x.bal, .int .u64 x.salt]
theorem leafVals_snoc (ls : List LeafD) (x : LeafD) : leafVals (ls ++ [x]) = leafVals ls ++ [.string x.nm, .int .u64 x.bal, .int .u64 x.salt] := by simp [leafVals]
theorem leafVals_at : ∀ (ls : List LeafD) (i : Nat) (hi : i < ls.length), (leafVals ls)[i * 3]? = some (.string ls[i].nm) ∧ (leafVals ls)[i * 3 + 1]? = some (.int .u64 ls[i].bal) ∧ (leafVals ls)[i * 3 + 2]? = some (.int .u64 ls[i].salt)
  | a :: t, 0, _ => ⟨rfl, rfl, rfl⟩
  | a :: t, i + 1, hi => by
    have := leafVals_at t i (by simpa using hi)
    unfold leafVals at *
    rw [List.flatMap_cons, List.getElem?_append_right (by simp; omega), List.getElem?_append_right (by simp; omega), List.getElem?_append_right (by simp; omega)]
    simp only [List.length_cons, List.length_nil]
    rw [show (i + 1) * 3 - (0 + 1 + 1 + 1) = i * 3 by omega, show (i + 1) * 3 + 1 - (0 + 1 + 1 + 1) = i * 3 + 1 by omega, show (i + 1) * 3 + 2 - (0 + 1 + 1 + 1) = i * 3 + 2 by omega]
    simpa using this
theorem own_leaves {w : World} {base : Nat} {a : Option Addr} {n c : Nat} {ls : List LeafD} (h : w.ownsRow base 28 3 (.slice a n c) ls.length (leafVals ls)) (hok : ∀ x ∈ ls, x.ok) : LeavesOf w a ls ∧ ∀ ad, a = some ad → base ≤ ad.block ∧ ad.block < w.heap.size := by
  rcases h.2 with ⟨e1, e2⟩ | ⟨g, cap, cur, e1, e2, e3, e4, _, e6, e7⟩
  · cases e1
    exact ⟨.inl (List.eq_nil_of_length_eq_zero e2), fun ad h => (by cases h)⟩
  · cases e1
    refine ⟨.inr ⟨g, 0, rfl, (Array.getElem?_eq_some_iff.1 e3).1, fun i hi => ?_, hok⟩, fun ad h => ?_⟩
    · have key : ∀ j, j < ls.length * 3 → w.cell? ⟨g, j, none⟩ = (leafVals ls)[j]? := fun j hj => by
        rw [block_cell e3, ← e7, List.getElem?_take, if_pos hj]
        simp
      rw [Nat.zero_add, key _ (by omega), key _ (by omega), key _ (by omega)]
      exact leafVals_at ls i hi
    · cases h
      exact ⟨e2, (Array.getElem?_eq_some_iff.1 e3).1⟩
theorem Tryz.infoLeafR : (Tryz.prog.info? 28).map (fun i => (i.zero, i.size, i.bytes)) = some (some (.agg #[.string ⟨#[]⟩, .int .u64 0, .int .u64 0]), 3, 32) := by kernel_rfl

theorem RefT.tree {N : Nat} {w : World} {Rb : Nat} {h seed : Int} {A : List (List UInt8 × Int)} {lv : Value} {th : Int} {tv : Value} {told : Bool} (r : RefT N w Rb h seed A lv th tv told) (th' : Int) (tv' : Value) (told' : Bool) {w' : World} (hb : w'.heap[Rb]? = some (.cells #[.int .i64 h, .int .u64 seed, lv, .int .i64 th', tv', .bool told'] 96 (0, 0))) (hl : ∀ g, lv.ownBlock = some g → w'.heap[g]? = w.heap[g]?) : RefT N w' Rb h seed A lv th' tv' told' :=
  ⟨hb, own_same r.own hl⟩

set_option maxHeartbeats 1000000 in
set_option maxRecDepth 100000 in
theorem refpub_full {N : Nat} {w : World} {Rb h : Nat} {seed : Int} {E : List Acct} {lv : Value} {th : Int} {tv : Value} {told : Bool} (r : RefT N w Rb (h : Int) seed (refA E) lv th tv told) (hh : h ≤ 6) (_hE : E.length ≤ 2000000000000) (hf : 2 ^ h < E.length) :
    Calls Tryz.prog 32 #[.pointer (some ⟨Rb, 0, none⟩)] w fun e w' => e = .returned (.tuple #[.string ⟨#[]⟩, .int .i64 7]) ∧ w' = w := by
  obtain ⟨a, c, rfl, hc, c2, hg⟩ := r.found
  have c0 : w.cell? ⟨Rb, 0, none⟩ = some (.int .i64 (h : Int)) := block_cell r.blk
  have h64 : 2 ^ h ≤ 2 ^ 6 := Nat.pow_le_pow_right (by omega) hh
  have HF := hide hf
  clear r hg hf
  go_enter Tryz.func32, Tryz.ntmps32
  go_wp2
  go_loop [4, 5] (fun p i => ∃ k : Nat, k ≤ h ∧ i = .int .i64 k ∧ p = .int .i64 ((2 ^ k : Nat) : Int)) (fun _ i => h - (intOf i).toNat)
  case atStart => exact ⟨0, Nat.zero_le _, rfl, rfl⟩
  case round =>
    obtain ⟨k, hk, rfl, rfl⟩ := hrel
    have hpk : 2 ^ k ≤ 2 ^ 6 := Nat.pow_le_pow_right (by omega) (by omega)
    by_cases hlt : k < h
    · have ik : (k : Int) < (h : Int) := by omega
      have e2 : (2 ^ (k + 1) : Nat) = 2 * 2 ^ k := by rw [Nat.pow_succ]; omega
      have HP := hide e2
      generalize hq : 2 ^ k = q at *
      clear hq e2
      go_wp2
      exact ⟨⟨k + 1, by omega, by go_num, by rw [unhide HP]; go_num⟩, by simp [intOf]; omega⟩
    · have ik : ¬ (k : Int) < (h : Int) := by omega
      have hkh : k = h := by omega
      subst hkh
      have hf := unhide HF
      generalize hq : 2 ^ k = q at *
      have iq : (q : Int) < (E.length : Int) := by omega
      clear hq HF
      go_wp2
      go_ret2
      exact ⟨rfl, rfl⟩

/-- What a round of Publish has made. -/
structure PubI (N : Nat) (w : World) (Rb h : Nat) (seed : Int) (E : List Acct) (lv : Value) (k : Nat) (tv : Value) (wr : World) : Prop where
  ref : RefT N wr Rb (h : Int) seed (refA E) lv (h : Int) tv true
  own : wr.ownsRow w.heap.size 28 3 tv k (leafVals (leavesE seed E k))
  kept : Kept [Rb] w wr

theorem PubI.next {N : Nat} {w wr w5 : World} {Rb h : Nat} {seed : Int} {E : List Acct} {lv : Value} {m : Nat} {ta : Option Addr} {tc gg cap : Nat} {nm : ByteArray} {bal salt : Int} {o : Obj} (hP : PubI N w Rb h seed E lv m (.slice ta m tc) wr) (hRl : Rb < w.heap.size) (hgl : ∀ g, lv.ownBlock = some g → g < w.heap.size)
    (hsn : leavesE seed E (m + 1) = leavesE seed E m ++ [⟨nm, bal, salt⟩]) (hown : w5.ownsRow w.heap.size 28 3 (.slice (some ⟨gg, 0, none⟩) (m + 1) cap) (m + 1) (leafVals (leavesE seed E m) ++ [.string nm, .int .u64 bal, .int .u64 salt])) (hg : (wr.drew.alloc o).grownBy w5 (Value.slice ta m tc).ownBlock) :
    PubI N w Rb h seed E lv (m + 1) (.slice (some ⟨gg, 0, none⟩) (m + 1) cap) (w5.setCell ⟨Rb, 4, none⟩ (.slice (some ⟨gg, 0, none⟩) (m + 1) cap)) := by
  have hvb : ∀ g, (Value.slice ta m tc).ownBlock = some g → w.heap.size ≤ g := fun g h => (hP.own.lt g h).1
  have hz : w.heap.size ≤ wr.heap.size := hP.kept.size
  have e5 : ∀ k, k < w.heap.size → w5.heap[k]? = wr.heap[k]? := fun k hk =>
    (hg.block k (by rw [World.size_alloc]; show k < wr.heap.size + 1; omega) (fun e => by have := hvb k e.symm; omega)).trans (Below.heap_alloc wr.drew _ _ (show k < wr.heap.size by omega))
  have hgg : w.heap.size ≤ gg := (hown.lt gg rfl).1
  refine ⟨hP.ref.tree _ _ _ (heap_setCell_same _ Rb 4 _ _ _ ((e5 Rb hRl).trans hP.ref.blk)) (fun g hg => ?_), ?_, ?_⟩
  · have hne : g ≠ Rb := fun e => by
      obtain ⟨cur, hcur⟩ := own_type hP.ref.own hg
      rw [e, hP.ref.blk] at hcur
      simp at hcur
    exact (Below.heap_setCell _ _ _ _ hne).trans (e5 g (hgl g hg))
  · rw [hsn, leafVals_snoc]
    refine own_same hown (fun g hg => Below.heap_setCell _ _ _ _ (fun e => ?_))
    have e1 : some gg = some g := hg
    have e2 := Option.some.inj e1
    have e3 : g = Rb := e
    omega
  · exact ((hP.kept.drew.trans (Kept.of_below ((Below.refl _ _).alloc (Nat.le_refl _) _))).grown hg hvb).trans (Kept.setCell (by simp) _)

/-- A call of a Go function that turns nothing, as a step of a region that draws its order. -/
theorem step_call {P : Program} {ops : Array Oper} {o : Oper} {a : Act} {w : World} {K : Act → World → Prop} {Q : Exit → Act → World → Prop} {F : Prop} (hgd : o.guard = none) {f : FuncId} {args : Array Value} {v : Value} (hc : Calls P f args w fun e w' => e = .returned v ∧ w' = w) (hrun : (execOp a.eval o).run P w = .ok (.enter f args) w) (hK : K (a.put o.dst v) w) :
    if Region.wanted o (yielded ops a.tmps) = true then Oper.wp P o a w K Q else F := by
  have hw : Region.wanted o (yielded ops a.tmps) = true := by simp [Region.wanted, hgd]
  rw [if_pos hw]
  unfold Oper.wp
  rw [hrun, Oper.upon_enter]
  refine hc.mono fun e w'' hh => ?_
  obtain ⟨rfl, rfl⟩ := hh
  exact hK

set_option linter.unusedSimpArgs false in
set_option maxHeartbeats 2000000 in
set_option maxRecDepth 100000 in
theorem refpub_ok {N : Nat} {w : World} {Rb h : Nat} {seed : Int} {E : List Acct} {lv : Value} {th : Int} {tv : Value} {told : Bool} (r : RefT N w Rb (h : Int) seed (refA E) lv th tv told) (hh : h ≤ 6) (hf : E.length ≤ 2 ^ h) (hnm : ∀ a ∈ E, a.name.length ≤ 8) (hb : ∀ a ∈ E, 0 ≤ a.bal ∧ a.bal < 18446744073709551616) :
    Calls Tryz.prog 32 #[.pointer (some ⟨Rb, 0, none⟩)] w fun e w' => e = .returned (.tuple #[strV (reportB (leavesE seed E E.length) h), .int .i64 0]) ∧ (∃ la c, RefT N w' Rb (h : Int) seed (refA E) lv (h : Int) (.slice la E.length c) true ∧ LeavesOf w' la (leavesE seed E E.length) ∧ ∀ ad, la = some ad → w.heap.size ≤ ad.block ∧ ad.block < w'.heap.size) ∧ Kept [Rb] w w' := by
  obtain ⟨i0, hi, hz0, hz1, hz2⟩ := info_parts Tryz.infoLeafR
  have hr := r
  obtain ⟨a, c, rfl, hc, c2, hg⟩ := r.found
  have c0 : w.cell? ⟨Rb, 0, none⟩ = some (.int .i64 (h : Int)) := block_cell r.blk
  have c3 : w.cell? ⟨Rb, 3, none⟩ = some (.int .i64 th) := block_cell r.blk
  have c4 : w.cell? ⟨Rb, 4, none⟩ = some tv := block_cell r.blk
  have c5 : w.cell? ⟨Rb, 5, none⟩ = some (.bool told) := block_cell r.blk
  have f3 : w.frozen? ⟨Rb, 3, none⟩ = false := block_free r.blk
  have f4 : w.frozen? ⟨Rb, 4, none⟩ = false := block_free r.blk
  have f5 : w.frozen? ⟨Rb, 5, none⟩ = false := block_free r.blk
  have h64 : 2 ^ h ≤ 2 ^ 6 := Nat.pow_le_pow_right (by omega) hh
  have HF := hide hf
  have HR := hide r
  have HNB := hide (And.intro hnm hb)
  clear r hr hg hf hnm hb
  go_enter Tryz.func32, Tryz.ntmps32
  go_wp2
  go_loop [4, 5] (fun p i => ∃ k : Nat, k ≤ h ∧ i = .int .i64 k ∧ p = .int .i64 ((2 ^ k : Nat) : Int)) (fun _ i => h - (intOf i).toNat)
  case atStart => exact ⟨0, Nat.zero_le _, rfl, rfl⟩
  case round =>
    obtain ⟨k, hk, rfl, rfl⟩ := hrel
    have hpk : 2 ^ k ≤ 2 ^ 6 := Nat.pow_le_pow_right (by omega) (by omega)
    by_cases hlt : k < h
    · have ik : (k : Int) < (h : Int) := by omega
      have e2 : (2 ^ (k + 1) : Nat) = 2 * 2 ^ k := by rw [Nat.pow_succ]; omega
      have HP := hide e2
      generalize hq : 2 ^ k = q at *
      clear hq e2 c3 c4 c5 f3 f4 f5
      go_wp2
      exact ⟨⟨k + 1, by omega, by go_num, by rw [unhide HP]; go_num⟩, by simp [intOf]; omega⟩
    · have ik : ¬ (k : Int) < (h : Int) := by omega
      have hkh : k = h := by omega
      subst hkh
      have hf := unhide HF
      have HQ := hide hf
      obtain ⟨q, hq⟩ : ∃ q, 2 ^ k = q := ⟨_, rfl⟩
      rw [hq] at hf h64 hpk ⊢
      have iq : ¬ (q : Int) < (E.length : Int) := by omega
      clear HF
      go_wp2_with fail
      go_loopw [6] (fun i wr => ∃ m : Nat, m ≤ E.length ∧ i = .int .i64 m ∧ ∃ tv', PubI N w Rb k seed E (.slice a E.length c) m tv' wr) (fun i _ => E.length - (intOf i).toNat)
      case atStart =>
        refine ⟨0, Nat.zero_le _, rfl, .slice none 0 0, ?_, ⟨rfl, .inl ⟨rfl, rfl⟩⟩, ?_⟩
        · refine (unhide HR).tree _ _ _ (heap_setCell_same _ Rb 4 _ _ _ (heap_setCell_same _ Rb 3 _ _ _ (heap_setCell_same _ Rb 5 _ _ _ (unhide HR).blk))) (fun g hg => ?_)
          have hne : g ≠ Rb := fun e => by
            obtain ⟨cur, hcur⟩ := own_type (unhide HR).own hg
            rw [e, (unhide HR).blk] at hcur
            simp at hcur
          rw [Below.heap_setCell _ _ _ _ hne, Below.heap_setCell _ _ _ _ hne, Below.heap_setCell _ _ _ _ hne]
        · exact ((Kept.setCell (by simp) _).trans (Kept.setCell (by simp) _)).trans (Kept.setCell (by simp) _)
      case round =>
        obtain ⟨m, hm, rfl, tv', hP⟩ := hrel
        have hRl : Rb < w.heap.size := (Array.getElem?_eq_some_iff.1 (unhide HR).blk).1
        have hgl : ∀ gg, (Value.slice a E.length c).ownBlock = some gg → gg < w.heap.size := fun gg h => ((unhide HR).own.lt gg h).2
        have HGL := hide hgl
        clear HR c0 c2 c3 c4 c5 f3 f4 f5 hgl
        obtain ⟨ta, tc, rfl⟩ := own_slice hP.own
        have d1 : wr.cell? ⟨Rb, 1, none⟩ = some (.int .u64 seed) := block_cell hP.ref.blk
        have d2 : wr.cell? ⟨Rb, 2, none⟩ = some (.slice a E.length c) := block_cell hP.ref.blk
        have d3 : wr.cell? ⟨Rb, 3, none⟩ = some (.int .i64 (k : Int)) := block_cell hP.ref.blk
        have d4 : wr.cell? ⟨Rb, 4, none⟩ = some (.slice ta m tc) := block_cell hP.ref.blk
        have g4 : wr.frozen? ⟨Rb, 4, none⟩ = false := block_free hP.ref.blk
        have hRw : Rb < wr.heap.size := (Array.getElem?_eq_some_iff.1 hP.ref.blk).1
        have HP := hide hP
        by_cases hme : m < E.length
        · obtain ⟨a', c', e', _, _, hg'⟩ := hP.ref.found
          cases e'
          obtain ⟨g, rfl, hNg, hgR, cn, cb, _⟩ := hg' m hme
          have hgw : g < wr.heap.size := (hP.ref.own.lt g rfl).2
          have im : (m : Int) < (E.length : Int) := by omega
          have HS := fun w' => hide (refsalt_any seed m w' (by omega))
          have en : strV E[m].name = .string ⟨E[m].name.toArray⟩ := rfl
          rw [en] at cn
          have hsn := leavesE_snoc seed E m
          have hlo : leafOf seed E m = ⟨⟨E[m].name.toArray⟩, E[m].bal, saltI seed m⟩ := by
            unfold leafOf
            rw [List.getD_eq_getElem?_getD, List.getElem?_eq_getElem hme]
            rfl
          rw [hlo] at hsn
          have HSN := hide hsn
          generalize (⟨E[m].name.toArray⟩ : ByteArray) = nm at *
          generalize E[m].bal = bal at *
          generalize saltI seed m = salt at *
          have HO := hide hP.own
          have hvb : ∀ gg, (Value.slice ta m tc).ownBlock = some gg → w.heap.size ≤ gg := fun gg h => (hP.own.lt gg h).1
          have HVB := hide hvb
          have hbz : w.heap.size ≤ wr.heap.size := hP.kept.size
          clear hsn hlo hg' hP hvb
          have hSd : wr.drew.cell? ⟨Rb, 1, none⟩ = some (.int .u64 seed) ∧ wr.drew.cell? ⟨Rb, 2, none⟩ = some (.slice (some ⟨g, 0, none⟩) E.length c) ∧ wr.drew.cell? ⟨g, m * 2, none⟩ = some (.string nm) ∧ wr.drew.cell? ⟨g, m * 2 + 1, none⟩ = some (.int .u64 bal) := ⟨d1, d2, cn, cb⟩
          have hSa : ∀ o, (wr.drew.alloc o).cell? ⟨Rb, 1, none⟩ = some (.int .u64 seed) ∧ (wr.drew.alloc o).cell? ⟨Rb, 2, none⟩ = some (.slice (some ⟨g, 0, none⟩) E.length c) ∧ (wr.drew.alloc o).cell? ⟨g, m * 2, none⟩ = some (.string nm) ∧ (wr.drew.alloc o).cell? ⟨g, m * 2 + 1, none⟩ = some (.int .u64 bal) := fun o => ⟨(World.cell?_alloc_lt _ _ _ (by simpa using hRw)).trans d1, (World.cell?_alloc_lt _ _ _ (by simpa using hRw)).trans d2, (World.cell?_alloc_lt _ _ _ (by simpa using hgw)).trans cn, (World.cell?_alloc_lt _ _ _ (by simpa using hgw)).trans cb⟩
          go_upto_region 13 with fail
          refine wp_region_noPanic ?_
          refine wp_region_held_drew (S := fun w' => w'.cell? ⟨Rb, 1, none⟩ = some (.int .u64 seed) ∧ w'.cell? ⟨Rb, 2, none⟩ = some (.slice (some ⟨g, 0, none⟩) E.length c) ∧ w'.cell? ⟨g, m * 2, none⟩ = some (.string nm) ∧ w'.cell? ⟨g, m * 2 + 1, none⟩ = some (.int .u64 bal)) (by kernel_rfl) hSd (fun hHeld => ?_)
          refine wpAnyH_take (i := 0) (v := ?_) rfl (by kernel_rfl) (by kernel_rfl) (by kernel_rfl) (fun _ _ _ h => h) (Or.inl ⟨by rfl, by intro w hSw; (try dsimp only at hSw); go_simp; try with_reducible rfl⟩) (by assumption) ?_
          simp only [Act.put, List.setIfInBounds_toArray, List.set_cons_zero, List.set_cons_succ]
          refine wpAnyH_take (i := 1) (v := ?_) rfl (by kernel_rfl) (by kernel_rfl) (by kernel_rfl) (fun _ _ _ h => h) (Or.inl ⟨by rfl, by intro w hSw; (try dsimp only at hSw); go_simp; try with_reducible rfl⟩) (by assumption) ?_
          simp only [Act.put, List.setIfInBounds_toArray, List.set_cons_zero, List.set_cons_succ]
          refine wpAnyH_take (i := 2) (v := ?_) rfl (by kernel_rfl) (by kernel_rfl) (by kernel_rfl) (fun _ _ _ h => h) (Or.inl ⟨by rfl, by intro w hSw; (try dsimp only at hSw); go_simp; try with_reducible rfl⟩) (by assumption) ?_
          simp only [Act.put, List.setIfInBounds_toArray, List.set_cons_zero, List.set_cons_succ]
          refine wpAnyH_take (i := 3) (v := ?_) rfl (by kernel_rfl) (by kernel_rfl) (by kernel_rfl) (fun _ _ _ h => h) (Or.inl ⟨by rfl, by intro w hSw; (try dsimp only at hSw); go_simp; try with_reducible rfl⟩) (by assumption) ?_
          simp only [Act.put, List.setIfInBounds_toArray, List.set_cons_zero, List.set_cons_succ]
          refine wpAnyH_take (i := 4) (v := ?_) rfl (by kernel_rfl) (by kernel_rfl) (by kernel_rfl) (fun _ _ _ h => h) (Or.inl ⟨by rfl, by intro w hSw; (try dsimp only at hSw); go_simp; try with_reducible rfl⟩) (by assumption) ?_
          simp only [Act.put, List.setIfInBounds_toArray, List.set_cons_zero, List.set_cons_succ]
          refine wpAnyH_take (i := 6) (v := ?_) rfl (by kernel_rfl) (by kernel_rfl) (by kernel_rfl) (fun _ _ _ h => h) (Or.inl ⟨by rfl, by intro w hSw; (try dsimp only at hSw); go_simp; try with_reducible rfl⟩) (by assumption) ?_
          simp only [Act.put, List.setIfInBounds_toArray, List.set_cons_zero, List.set_cons_succ]
          refine wpAnyH_take (i := 7) (v := ?_) rfl (by kernel_rfl) (by kernel_rfl) (by kernel_rfl) (fun _ _ _ h => h) (Or.inl ⟨by rfl, by intro w hSw; (try dsimp only at hSw); go_simp; try with_reducible rfl⟩) (by assumption) ?_
          simp only [Act.put, List.setIfInBounds_toArray, List.set_cons_zero, List.set_cons_succ]
          refine wpAnyH_take (i := 8) (v := ?_) rfl (by kernel_rfl) (by kernel_rfl) (by kernel_rfl) (fun _ _ _ h => h) (Or.inl ⟨by rfl, by intro w hSw; (try dsimp only at hSw); go_simp; try with_reducible rfl⟩) (by assumption) ?_
          simp only [Act.put, List.setIfInBounds_toArray, List.set_cons_zero, List.set_cons_succ]
          refine wpAnyH_take (i := 9) (v := ?_) rfl (by kernel_rfl) (by kernel_rfl) (by kernel_rfl) (fun _ _ _ h => h) (Or.inl ⟨by rfl, by intro w hSw; (try dsimp only at hSw); go_simp; try with_reducible rfl⟩) (by assumption) ?_
          simp only [Act.put, List.setIfInBounds_toArray, List.set_cons_zero, List.set_cons_succ]
          refine wpAnyH_take (i := 10) (v := ?_) rfl (by kernel_rfl) (by kernel_rfl) (by kernel_rfl) (fun _ _ _ h => h) (Or.inl ⟨by rfl, by intro w hSw; (try dsimp only at hSw); go_simp; try with_reducible rfl⟩) (by assumption) ?_
          simp only [Act.put, List.setIfInBounds_toArray, List.set_cons_zero, List.set_cons_succ]
          refine wpAnyH_take (i := 11) (v := ?_) rfl (by kernel_rfl) (by kernel_rfl) (by kernel_rfl) (fun _ _ _ h => h) (Or.inl ⟨by rfl, by intro w hSw; (try dsimp only at hSw); go_simp; try with_reducible rfl⟩) (by assumption) ?_
          simp only [Act.put, List.setIfInBounds_toArray, List.set_cons_zero, List.set_cons_succ]
          refine wpAnyH_take (i := 12) (v := ?_) rfl (by kernel_rfl) (by kernel_rfl) (by kernel_rfl) (fun _ _ _ h => h) (Or.inl ⟨by rfl, by intro w hSw; (try dsimp only at hSw); go_simp; try with_reducible rfl⟩) (by assumption) ?_
          simp only [Act.put, List.setIfInBounds_toArray, List.set_cons_zero, List.set_cons_succ]
          refine wpAnyH_take (i := 13) (v := ?_) rfl (by kernel_rfl) (by kernel_rfl) (by kernel_rfl) (fun _ _ _ h => h) (Or.inl ⟨by rfl, by intro w hSw; (try dsimp only at hSw); go_simp; try with_reducible rfl⟩) (by assumption) ?_
          simp only [Act.put, List.setIfInBounds_toArray, List.set_cons_zero, List.set_cons_succ]
          refine wpAnyH_take (i := 14) (v := ?_) rfl (by kernel_rfl) (by kernel_rfl) (by kernel_rfl) (fun _ _ _ h => h) (Or.inl ⟨by rfl, by intro w hSw; (try dsimp only at hSw); go_simp; try with_reducible rfl⟩) (by assumption) ?_
          simp only [Act.put, List.setIfInBounds_toArray, List.set_cons_zero, List.set_cons_succ]
          refine wpAnyH_take (i := 15) (v := ?_) rfl (by kernel_rfl) (by kernel_rfl) (by kernel_rfl) (fun _ _ _ h => h) (Or.inl ⟨by rfl, by intro w hSw; (try dsimp only at hSw); go_simp; try with_reducible rfl⟩) (by assumption) ?_
          simp only [Act.put, List.setIfInBounds_toArray, List.set_cons_zero, List.set_cons_succ]
          refine wpAnyH_take (i := 16) (v := ?_) rfl (by kernel_rfl) (by kernel_rfl) (by kernel_rfl) (fun _ _ _ h => h) (Or.inl ⟨by rfl, by intro w hSw; (try dsimp only at hSw); go_simp; try with_reducible rfl⟩) (by assumption) ?_
          simp only [Act.put, List.setIfInBounds_toArray, List.set_cons_zero, List.set_cons_succ]
          refine wpAnyH_take (i := 17) (v := ?_) rfl (by kernel_rfl) (by kernel_rfl) (by kernel_rfl) (fun _ _ _ h => h) (Or.inl ⟨by rfl, by intro w hSw; (try dsimp only at hSw); go_simp; try with_reducible rfl⟩) (by assumption) ?_
          simp only [Act.put, List.setIfInBounds_toArray, List.set_cons_zero, List.set_cons_succ]
          refine wpAnyH_take (i := 18) (v := ?_) rfl (by kernel_rfl) (by kernel_rfl) (by kernel_rfl) (fun _ _ _ h => h) (Or.inl ⟨by rfl, by intro w hSw; (try dsimp only at hSw); go_simp; try with_reducible rfl⟩) (by assumption) ?_
          simp only [Act.put, List.setIfInBounds_toArray, List.set_cons_zero, List.set_cons_succ]
          refine wpAnyH_take (i := 19) (v := ?_) rfl (by kernel_rfl) (by kernel_rfl) (by kernel_rfl) (fun _ _ _ h => h) (Or.inl ⟨by rfl, by intro w hSw; (try dsimp only at hSw); go_simp; try with_reducible rfl⟩) (by assumption) ?_
          simp only [Act.put, List.setIfInBounds_toArray, List.set_cons_zero, List.set_cons_succ]
          refine wpAnyH_take (i := 20) (v := ?_) rfl (by kernel_rfl) (by kernel_rfl) (by kernel_rfl) (fun _ _ _ h => h) (Or.inl ⟨by rfl, by intro w hSw; (try dsimp only at hSw); go_simp; try with_reducible rfl⟩) (by assumption) ?_
          simp only [Act.put, List.setIfInBounds_toArray, List.set_cons_zero, List.set_cons_succ]
          refine wpAnyH_take (i := 21) (v := ?_) rfl (by kernel_rfl) (by kernel_rfl) (by kernel_rfl) (fun _ _ _ h => h) (Or.inl ⟨by rfl, by intro w hSw; (try dsimp only at hSw); go_simp; try with_reducible rfl⟩) (by assumption) ?_
          simp only [Act.put, List.setIfInBounds_toArray, List.set_cons_zero, List.set_cons_succ]
          refine wpAnyH_take (i := 22) (v := ?_) rfl (by kernel_rfl) (by kernel_rfl) (by kernel_rfl) (fun _ _ _ h => h) (Or.inl ⟨by rfl, by intro w hSw; (try dsimp only at hSw); go_simp; try with_reducible rfl⟩) (by assumption) ?_
          simp only [Act.put, List.setIfInBounds_toArray, List.set_cons_zero, List.set_cons_succ]
          refine wpAnyH_take (i := 23) (v := ?_) rfl (by kernel_rfl) (by kernel_rfl) (by kernel_rfl) (fun _ _ _ h => h) (Or.inl ⟨by rfl, by intro w hSw; (try dsimp only at hSw); go_simp; try with_reducible rfl⟩) (by assumption) ?_
          simp only [Act.put, List.setIfInBounds_toArray, List.set_cons_zero, List.set_cons_succ]
          refine wpAnyH_take (i := 24) (v := ?_) rfl (by kernel_rfl) (by kernel_rfl) (by kernel_rfl) (fun _ _ _ h => h) (Or.inl ⟨by rfl, by intro w hSw; (try dsimp only at hSw); go_simp; try with_reducible rfl⟩) (by assumption) ?_
          simp only [Act.put, List.setIfInBounds_toArray, List.set_cons_zero, List.set_cons_succ]
          refine wpAnyH_take (i := 25) (v := ?_) rfl (by kernel_rfl) (by kernel_rfl) (by kernel_rfl) (fun _ _ _ h => h) (Or.inl ⟨by rfl, by intro w hSw; (try dsimp only at hSw); go_simp; try with_reducible rfl⟩) (by assumption) ?_
          simp only [Act.put, List.setIfInBounds_toArray, List.set_cons_zero, List.set_cons_succ]
          refine wpAnyH_take (i := 26) (v := ?_) rfl (by kernel_rfl) (by kernel_rfl) (by kernel_rfl) (fun _ _ _ h => h) (Or.inl ⟨by rfl, by intro w hSw; (try dsimp only at hSw); go_simp; try with_reducible rfl⟩) (by assumption) ?_
          simp only [Act.put, List.setIfInBounds_toArray, List.set_cons_zero, List.set_cons_succ]
          refine wpAnyH_take (i := 27) (v := ?_) rfl (by kernel_rfl) (by kernel_rfl) (by kernel_rfl) (fun _ _ _ h => h) (Or.inl ⟨by rfl, by intro w hSw; (try dsimp only at hSw); go_simp; try with_reducible rfl⟩) (by assumption) ?_
          simp only [Act.put, List.setIfInBounds_toArray, List.set_cons_zero, List.set_cons_succ]
          refine wpAnyH_ready (rs := [5, 28]) (by kernel_rfl) (by simp) ?_
          refine AllReadyH.cons rfl (fun K hK => ?_) (AllReadyH.cons rfl (fun K hK => ?_) AllReadyH.nil)
          · go_simp
            refine hK.out _ _ hSd (fun _ => ?_)
            clear hK K
            try simp only [Act.put, List.setIfInBounds_toArray, List.set_cons_zero, List.set_cons_succ]
            refine wpAnyH_ready (rs := [28]) (by kernel_rfl) (by simp) ?_
            refine AllReadyH.cons rfl (fun K hK => ?_) AllReadyH.nil
            go_simp
            refine (unhide (HS _)).mono ?_
            rintro e w4 ⟨rfl, rfl⟩
            refine hK.out _ _ hSd (fun _ => ?_)
            clear hK K
            try simp only [Act.put, List.setIfInBounds_toArray, List.set_cons_zero, List.set_cons_succ]
            refine wpAnyH_take (i := 29) (v := ?_) rfl (by kernel_rfl) (by kernel_rfl) (by kernel_rfl) (fun _ _ _ h => h) (Or.inl ⟨by rfl, by intro w hSw; (try dsimp only at hSw); go_simp; try with_reducible rfl⟩) (by assumption) ?_
            simp only [Act.put, List.setIfInBounds_toArray, List.set_cons_zero, List.set_cons_succ]
            refine wpAnyH_ready (rs := [30]) (by kernel_rfl) (by simp) ?_
            refine AllReadyH.cons rfl (fun K hK => ?_) AllReadyH.nil
            go_simp
            refine hK.out _ _ (hSa _) (fun _ => ?_)
            clear hK K
            try simp only [Act.put, List.setIfInBounds_toArray, List.set_cons_zero, List.set_cons_succ]
            refine wpAnyH_ready (rs := [31]) (by kernel_rfl) (by simp) ?_
            refine AllReadyH.cons rfl (fun K hK => ?_) AllReadyH.nil
            refine step_append_lies _ (by rfl) _ _ _ (by rfl) w.heap.size 28 i0 _ 3 32 Tryz.underlying29 hi hz0 hz1 hz2 rfl (by omega) _ _ _ (by rfl) (((unhide HO).drew).alloc _) ⟨wr.heap.size, 0, none⟩ 1 1 [.string nm, .int .u64 bal, .int .u64 salt] (by rfl) (by rfl) (World.news_of_block (cs := #[.string nm, .int .u64 bal, .int .u64 salt]) (t := 28) (fr := (0, 0)) (heap_alloc_new wr.drew _)) (by simp [Value.oneCell']) (by omega) (by unfold maxLen; omega) (by omega) (by simp; omega) (wr.heap.size + 1) (by simp) ?_
            intro gg cap w5 hown5 hgrow5 hat5 hlt5
            have hgl5 := unhide HGL g rfl
            have hnR : some Rb ≠ (Value.slice ta m tc).ownBlock := (fun e => by have := unhide HVB _ e.symm; omega)
            have hnG : some g ≠ (Value.slice ta m tc).ownBlock := (fun e => by have := unhide HVB _ e.symm; omega)
            have hS5 : w5.cell? ⟨Rb, 1, none⟩ = some (.int .u64 seed) ∧ w5.cell? ⟨Rb, 2, none⟩ = some (.slice (some ⟨g, 0, none⟩) E.length c) ∧ w5.cell? ⟨g, m * 2, none⟩ = some (.string nm) ∧ w5.cell? ⟨g, m * 2 + 1, none⟩ = some (.int .u64 bal) := ⟨(hgrow5.cell_far _ (by simp; omega) hnR).trans (hSa _).1, (hgrow5.cell_far _ (by simp; omega) hnR).trans (hSa _).2.1, (hgrow5.cell_far _ (by simp; omega) hnG).trans (hSa _).2.2.1, (hgrow5.cell_far _ (by simp; omega) hnG).trans (hSa _).2.2.2⟩
            have hS6 : ∀ v, (w5.setCell ⟨Rb, 4, none⟩ v).cell? ⟨Rb, 1, none⟩ = some (.int .u64 seed) ∧ (w5.setCell ⟨Rb, 4, none⟩ v).cell? ⟨Rb, 2, none⟩ = some (.slice (some ⟨g, 0, none⟩) E.length c) ∧ (w5.setCell ⟨Rb, 4, none⟩ v).cell? ⟨g, m * 2, none⟩ = some (.string nm) ∧ (w5.setCell ⟨Rb, 4, none⟩ v).cell? ⟨g, m * 2 + 1, none⟩ = some (.int .u64 bal) := (fun v => ⟨(World.cell?_setCell_other _ _ _ _ (by simp)).trans hS5.1, (World.cell?_setCell_other _ _ _ _ (by simp)).trans hS5.2.1, (World.cell?_setCell_other _ _ _ _ (by simp [Ne.symm hgR])).trans hS5.2.2.1, (World.cell?_setCell_other _ _ _ _ (by simp [Ne.symm hgR])).trans hS5.2.2.2⟩)
            have hF5 : w5.frozen? ⟨Rb, 4, none⟩ = false := block_free ((hgrow5.block Rb (by simp; omega) hnR).trans ((Below.heap_alloc _ _ _ (by simpa using hRw)).trans (unhide HP).ref.blk))
            have hC5 : w5.cell? ⟨Rb, 4, none⟩ = some (.slice ta m tc) := (hgrow5.cell_far _ (by simp; omega) hnR).trans ((World.cell?_alloc_lt _ _ _ (by simpa using hRw)).trans d4)
            have H5 := hide (And.intro hown5 hgrow5)
            clear hown5 hgrow5
            refine hK.out _ _ hS5 (fun _ => ?_)
            clear hK K
            try simp only [Act.put, List.setIfInBounds_toArray, List.set_cons_zero, List.set_cons_succ]
            refine wpAnyH_take (i := 32) (v := ?_) rfl (by kernel_rfl) (by kernel_rfl) (by kernel_rfl) (fun _ _ _ h => h) (Or.inl ⟨by rfl, by intro w hSw; (try dsimp only at hSw); go_simp; try with_reducible rfl⟩) (by assumption) ?_
            simp only [Act.put, List.setIfInBounds_toArray, List.set_cons_zero, List.set_cons_succ]
            refine wpAnyH_take (i := 33) (v := ?_) rfl (by kernel_rfl) (by kernel_rfl) (by kernel_rfl) (fun _ _ _ h => h) (Or.inl ⟨by rfl, by intro w hSw; (try dsimp only at hSw); go_simp; try with_reducible rfl⟩) (by assumption) ?_
            simp only [Act.put, List.setIfInBounds_toArray, List.set_cons_zero, List.set_cons_succ]
            refine wpAnyH_take (i := 34) (v := ?_) rfl (by kernel_rfl) (by kernel_rfl) (by kernel_rfl) (fun _ _ _ h => h) (Or.inl ⟨by rfl, by intro w hSw; (try dsimp only at hSw); go_simp; try with_reducible rfl⟩) (by assumption) ?_
            simp only [Act.put, List.setIfInBounds_toArray, List.set_cons_zero, List.set_cons_succ]
            refine wpAnyH_ready (rs := [35]) (by kernel_rfl) (by simp) ?_
            refine AllReadyH.cons rfl (fun K hK => ?_) AllReadyH.nil
            go_simp
            refine hK.out _ _ (hS6 _) (fun _ => ?_)
            clear hK K
            try simp only [Act.put, List.setIfInBounds_toArray, List.set_cons_zero, List.set_cons_succ]
            refine wpAnyH_done (by kernel_rfl) ?_ _
            refine NoPanic.normal ?_
            have HN := hide ((unhide HP).next hRl (unhide HGL) (unhide HSN) (unhide H5).1 (unhide H5).2)
            clear H5 HO HSN HS HP HVB hat5 hlt5 hSd hSa hS5 hS6
            go_wp2
            go_roundw
            case rel => exact ⟨m + 1, by omega, by go_num, _, unhide HN⟩
            case measure => simp [intOf]; omega
          · go_simp
            refine (unhide (HS _)).mono ?_
            rintro e w4 ⟨rfl, rfl⟩
            refine hK.out _ _ hSd (fun _ => ?_)
            clear hK K
            try simp only [Act.put, List.setIfInBounds_toArray, List.set_cons_zero, List.set_cons_succ]
            refine wpAnyH_take (i := 29) (v := ?_) rfl (by kernel_rfl) (by kernel_rfl) (by kernel_rfl) (fun _ _ _ h => h) (Or.inl ⟨by rfl, by intro w hSw; (try dsimp only at hSw); go_simp; try with_reducible rfl⟩) (by assumption) ?_
            simp only [Act.put, List.setIfInBounds_toArray, List.set_cons_zero, List.set_cons_succ]
            refine wpAnyH_ready (rs := [5, 30]) (by kernel_rfl) (by simp) ?_
            refine AllReadyH.cons rfl (fun K hK => ?_) (AllReadyH.cons rfl (fun K hK => ?_) AllReadyH.nil)
            · go_simp
              refine hK.out _ _ hSd (fun _ => ?_)
              clear hK K
              try simp only [Act.put, List.setIfInBounds_toArray, List.set_cons_zero, List.set_cons_succ]
              refine wpAnyH_ready (rs := [30]) (by kernel_rfl) (by simp) ?_
              refine AllReadyH.cons rfl (fun K hK => ?_) AllReadyH.nil
              go_simp
              refine hK.out _ _ (hSa _) (fun _ => ?_)
              clear hK K
              try simp only [Act.put, List.setIfInBounds_toArray, List.set_cons_zero, List.set_cons_succ]
              refine wpAnyH_ready (rs := [31]) (by kernel_rfl) (by simp) ?_
              refine AllReadyH.cons rfl (fun K hK => ?_) AllReadyH.nil
              refine step_append_lies _ (by rfl) _ _ _ (by rfl) w.heap.size 28 i0 _ 3 32 Tryz.underlying29 hi hz0 hz1 hz2 rfl (by omega) _ _ _ (by rfl) (((unhide HO).drew).alloc _) ⟨wr.heap.size, 0, none⟩ 1 1 [.string nm, .int .u64 bal, .int .u64 salt] (by rfl) (by rfl) (World.news_of_block (cs := #[.string nm, .int .u64 bal, .int .u64 salt]) (t := 28) (fr := (0, 0)) (heap_alloc_new wr.drew _)) (by simp [Value.oneCell']) (by omega) (by unfold maxLen; omega) (by omega) (by simp; omega) (wr.heap.size + 1) (by simp) ?_
              intro gg cap w5 hown5 hgrow5 hat5 hlt5
              have hgl5 := unhide HGL g rfl
              have hnR : some Rb ≠ (Value.slice ta m tc).ownBlock := (fun e => by have := unhide HVB _ e.symm; omega)
              have hnG : some g ≠ (Value.slice ta m tc).ownBlock := (fun e => by have := unhide HVB _ e.symm; omega)
              have hS5 : w5.cell? ⟨Rb, 1, none⟩ = some (.int .u64 seed) ∧ w5.cell? ⟨Rb, 2, none⟩ = some (.slice (some ⟨g, 0, none⟩) E.length c) ∧ w5.cell? ⟨g, m * 2, none⟩ = some (.string nm) ∧ w5.cell? ⟨g, m * 2 + 1, none⟩ = some (.int .u64 bal) := ⟨(hgrow5.cell_far _ (by simp; omega) hnR).trans (hSa _).1, (hgrow5.cell_far _ (by simp; omega) hnR).trans (hSa _).2.1, (hgrow5.cell_far _ (by simp; omega) hnG).trans (hSa _).2.2.1, (hgrow5.cell_far _ (by simp; omega) hnG).trans (hSa _).2.2.2⟩
              have hS6 : ∀ v, (w5.setCell ⟨Rb, 4, none⟩ v).cell? ⟨Rb, 1, none⟩ = some (.int .u64 seed) ∧ (w5.setCell ⟨Rb, 4, none⟩ v).cell? ⟨Rb, 2, none⟩ = some (.slice (some ⟨g, 0, none⟩) E.length c) ∧ (w5.setCell ⟨Rb, 4, none⟩ v).cell? ⟨g, m * 2, none⟩ = some (.string nm) ∧ (w5.setCell ⟨Rb, 4, none⟩ v).cell? ⟨g, m * 2 + 1, none⟩ = some (.int .u64 bal) := (fun v => ⟨(World.cell?_setCell_other _ _ _ _ (by simp)).trans hS5.1, (World.cell?_setCell_other _ _ _ _ (by simp)).trans hS5.2.1, (World.cell?_setCell_other _ _ _ _ (by simp [Ne.symm hgR])).trans hS5.2.2.1, (World.cell?_setCell_other _ _ _ _ (by simp [Ne.symm hgR])).trans hS5.2.2.2⟩)
              have hF5 : w5.frozen? ⟨Rb, 4, none⟩ = false := block_free ((hgrow5.block Rb (by simp; omega) hnR).trans ((Below.heap_alloc _ _ _ (by simpa using hRw)).trans (unhide HP).ref.blk))
              have hC5 : w5.cell? ⟨Rb, 4, none⟩ = some (.slice ta m tc) := (hgrow5.cell_far _ (by simp; omega) hnR).trans ((World.cell?_alloc_lt _ _ _ (by simpa using hRw)).trans d4)
              have H5 := hide (And.intro hown5 hgrow5)
              clear hown5 hgrow5
              refine hK.out _ _ hS5 (fun _ => ?_)
              clear hK K
              try simp only [Act.put, List.setIfInBounds_toArray, List.set_cons_zero, List.set_cons_succ]
              refine wpAnyH_take (i := 32) (v := ?_) rfl (by kernel_rfl) (by kernel_rfl) (by kernel_rfl) (fun _ _ _ h => h) (Or.inl ⟨by rfl, by intro w hSw; (try dsimp only at hSw); go_simp; try with_reducible rfl⟩) (by assumption) ?_
              simp only [Act.put, List.setIfInBounds_toArray, List.set_cons_zero, List.set_cons_succ]
              refine wpAnyH_take (i := 33) (v := ?_) rfl (by kernel_rfl) (by kernel_rfl) (by kernel_rfl) (fun _ _ _ h => h) (Or.inl ⟨by rfl, by intro w hSw; (try dsimp only at hSw); go_simp; try with_reducible rfl⟩) (by assumption) ?_
              simp only [Act.put, List.setIfInBounds_toArray, List.set_cons_zero, List.set_cons_succ]
              refine wpAnyH_take (i := 34) (v := ?_) rfl (by kernel_rfl) (by kernel_rfl) (by kernel_rfl) (fun _ _ _ h => h) (Or.inl ⟨by rfl, by intro w hSw; (try dsimp only at hSw); go_simp; try with_reducible rfl⟩) (by assumption) ?_
              simp only [Act.put, List.setIfInBounds_toArray, List.set_cons_zero, List.set_cons_succ]
              refine wpAnyH_ready (rs := [35]) (by kernel_rfl) (by simp) ?_
              refine AllReadyH.cons rfl (fun K hK => ?_) AllReadyH.nil
              go_simp
              refine hK.out _ _ (hS6 _) (fun _ => ?_)
              clear hK K
              try simp only [Act.put, List.setIfInBounds_toArray, List.set_cons_zero, List.set_cons_succ]
              refine wpAnyH_done (by kernel_rfl) ?_ _
              refine NoPanic.normal ?_
              have HN := hide ((unhide HP).next hRl (unhide HGL) (unhide HSN) (unhide H5).1 (unhide H5).2)
              clear H5 HO HSN HS HP HVB hat5 hlt5 hSd hSa hS5 hS6
              go_wp2
              go_roundw
              case rel => exact ⟨m + 1, by omega, by go_num, _, unhide HN⟩
              case measure => simp [intOf]; omega
            · go_simp
              refine hK.out _ _ (hSa _) (fun _ => ?_)
              clear hK K
              try simp only [Act.put, List.setIfInBounds_toArray, List.set_cons_zero, List.set_cons_succ]
              refine wpAnyH_ready (rs := [5]) (by kernel_rfl) (by simp) ?_
              refine AllReadyH.cons rfl (fun K hK => ?_) AllReadyH.nil
              go_simp
              refine hK.out _ _ (hSa _) (fun _ => ?_)
              clear hK K
              try simp only [Act.put, List.setIfInBounds_toArray, List.set_cons_zero, List.set_cons_succ]
              refine wpAnyH_ready (rs := [31]) (by kernel_rfl) (by simp) ?_
              refine AllReadyH.cons rfl (fun K hK => ?_) AllReadyH.nil
              refine step_append_lies _ (by rfl) _ _ _ (by rfl) w.heap.size 28 i0 _ 3 32 Tryz.underlying29 hi hz0 hz1 hz2 rfl (by omega) _ _ _ (by rfl) (((unhide HO).drew).alloc _) ⟨wr.heap.size, 0, none⟩ 1 1 [.string nm, .int .u64 bal, .int .u64 salt] (by rfl) (by rfl) (World.news_of_block (cs := #[.string nm, .int .u64 bal, .int .u64 salt]) (t := 28) (fr := (0, 0)) (heap_alloc_new wr.drew _)) (by simp [Value.oneCell']) (by omega) (by unfold maxLen; omega) (by omega) (by simp; omega) (wr.heap.size + 1) (by simp) ?_
              intro gg cap w5 hown5 hgrow5 hat5 hlt5
              have hgl5 := unhide HGL g rfl
              have hnR : some Rb ≠ (Value.slice ta m tc).ownBlock := (fun e => by have := unhide HVB _ e.symm; omega)
              have hnG : some g ≠ (Value.slice ta m tc).ownBlock := (fun e => by have := unhide HVB _ e.symm; omega)
              have hS5 : w5.cell? ⟨Rb, 1, none⟩ = some (.int .u64 seed) ∧ w5.cell? ⟨Rb, 2, none⟩ = some (.slice (some ⟨g, 0, none⟩) E.length c) ∧ w5.cell? ⟨g, m * 2, none⟩ = some (.string nm) ∧ w5.cell? ⟨g, m * 2 + 1, none⟩ = some (.int .u64 bal) := ⟨(hgrow5.cell_far _ (by simp; omega) hnR).trans (hSa _).1, (hgrow5.cell_far _ (by simp; omega) hnR).trans (hSa _).2.1, (hgrow5.cell_far _ (by simp; omega) hnG).trans (hSa _).2.2.1, (hgrow5.cell_far _ (by simp; omega) hnG).trans (hSa _).2.2.2⟩
              have hS6 : ∀ v, (w5.setCell ⟨Rb, 4, none⟩ v).cell? ⟨Rb, 1, none⟩ = some (.int .u64 seed) ∧ (w5.setCell ⟨Rb, 4, none⟩ v).cell? ⟨Rb, 2, none⟩ = some (.slice (some ⟨g, 0, none⟩) E.length c) ∧ (w5.setCell ⟨Rb, 4, none⟩ v).cell? ⟨g, m * 2, none⟩ = some (.string nm) ∧ (w5.setCell ⟨Rb, 4, none⟩ v).cell? ⟨g, m * 2 + 1, none⟩ = some (.int .u64 bal) := (fun v => ⟨(World.cell?_setCell_other _ _ _ _ (by simp)).trans hS5.1, (World.cell?_setCell_other _ _ _ _ (by simp)).trans hS5.2.1, (World.cell?_setCell_other _ _ _ _ (by simp [Ne.symm hgR])).trans hS5.2.2.1, (World.cell?_setCell_other _ _ _ _ (by simp [Ne.symm hgR])).trans hS5.2.2.2⟩)
              have hF5 : w5.frozen? ⟨Rb, 4, none⟩ = false := block_free ((hgrow5.block Rb (by simp; omega) hnR).trans ((Below.heap_alloc _ _ _ (by simpa using hRw)).trans (unhide HP).ref.blk))
              have hC5 : w5.cell? ⟨Rb, 4, none⟩ = some (.slice ta m tc) := (hgrow5.cell_far _ (by simp; omega) hnR).trans ((World.cell?_alloc_lt _ _ _ (by simpa using hRw)).trans d4)
              have H5 := hide (And.intro hown5 hgrow5)
              clear hown5 hgrow5
              refine hK.out _ _ hS5 (fun _ => ?_)
              clear hK K
              try simp only [Act.put, List.setIfInBounds_toArray, List.set_cons_zero, List.set_cons_succ]
              refine wpAnyH_take (i := 32) (v := ?_) rfl (by kernel_rfl) (by kernel_rfl) (by kernel_rfl) (fun _ _ _ h => h) (Or.inl ⟨by rfl, by intro w hSw; (try dsimp only at hSw); go_simp; try with_reducible rfl⟩) (by assumption) ?_
              simp only [Act.put, List.setIfInBounds_toArray, List.set_cons_zero, List.set_cons_succ]
              refine wpAnyH_take (i := 33) (v := ?_) rfl (by kernel_rfl) (by kernel_rfl) (by kernel_rfl) (fun _ _ _ h => h) (Or.inl ⟨by rfl, by intro w hSw; (try dsimp only at hSw); go_simp; try with_reducible rfl⟩) (by assumption) ?_
              simp only [Act.put, List.setIfInBounds_toArray, List.set_cons_zero, List.set_cons_succ]
              refine wpAnyH_take (i := 34) (v := ?_) rfl (by kernel_rfl) (by kernel_rfl) (by kernel_rfl) (fun _ _ _ h => h) (Or.inl ⟨by rfl, by intro w hSw; (try dsimp only at hSw); go_simp; try with_reducible rfl⟩) (by assumption) ?_
              simp only [Act.put, List.setIfInBounds_toArray, List.set_cons_zero, List.set_cons_succ]
              refine wpAnyH_ready (rs := [35]) (by kernel_rfl) (by simp) ?_
              refine AllReadyH.cons rfl (fun K hK => ?_) AllReadyH.nil
              go_simp
              refine hK.out _ _ (hS6 _) (fun _ => ?_)
              clear hK K
              try simp only [Act.put, List.setIfInBounds_toArray, List.set_cons_zero, List.set_cons_succ]
              refine wpAnyH_done (by kernel_rfl) ?_ _
              refine NoPanic.normal ?_
              have HN := hide ((unhide HP).next hRl (unhide HGL) (unhide HSN) (unhide H5).1 (unhide H5).2)
              clear H5 HO HSN HS HP HVB hat5 hlt5 hSd hSa hS5 hS6
              go_wp2
              go_roundw
              case rel => exact ⟨m + 1, by omega, by go_num, _, unhide HN⟩
              case measure => simp [intOf]; omega
        · have hme' : m = E.length := by omega
          subst hme'
          have hok : ∀ x ∈ leavesE seed E E.length, x.ok := fun x hx => by
            unfold leavesE at hx
            obtain ⟨j, hj, rfl⟩ := List.mem_map.1 hx
            have hj' : j < E.length := by simpa using hj
            have hs := saltI_range seed j
            have hE := List.getElem_mem hj'
            have h1 := (unhide HNB).1 _ hE
            have h2 := (unhide HNB).2 _ hE
            have e : leafOf seed E j = ⟨⟨E[j].name.toArray⟩, E[j].bal, saltI seed j⟩ := by
              unfold leafOf
              rw [List.getD_eq_getElem?_getD, List.getElem?_eq_getElem hj']
              rfl
            rw [e]
            exact ⟨by simpa [ByteArray.size] using h1, h2.1, h2.2, hs.1, hs.2⟩
          have hlen : (leavesE seed E E.length).length = E.length := leavesE_len _ _ _
          have hown := hP.own
          have hLO : LeavesOf wr ta (leavesE seed E E.length) ∧ ∀ ad, ta = some ad → w.heap.size ≤ ad.block ∧ ad.block < wr.heap.size := own_leaves (n := E.length) (c := tc) (by rw [hlen]; exact hown) hok
          have HRep : Hid (Calls Tryz.prog 10 #[treeV (k : Int) ta E.length tc] wr fun e w' => e = .returned (strV (reportB (leavesE seed E E.length) k)) ∧ Below wr.heap.size wr w') := by
            have := report_any k ta tc (leavesE seed E E.length) wr (by rw [hlen]; omega) hh hLO.1
            rw [hlen] at this
            exact this
          have HL := hide hLO
          have im : ¬ (E.length : Int) < (E.length : Int) := by omega
          clear hown hLO hok hlen hP
          unfold treeV at HRep
          go_wp2_with fail
          refine (unhide HRep).mono ?_
          rintro e w6 ⟨rfl, hb6⟩
          have hfin : (∃ la c', RefT N w6 Rb (k : Int) seed (refA E) (.slice a E.length c) (k : Int) (.slice la E.length c') true ∧ LeavesOf w6 la (leavesE seed E E.length) ∧ ∀ ad, la = some ad → w.heap.size ≤ ad.block ∧ ad.block < w6.heap.size) ∧ Kept [Rb] w w6 := by
            refine ⟨⟨ta, tc, (unhide HP).ref.same (hb6.block _ hRw) (fun g hg => hb6.block g (own_lt (unhide HP).ref.own hg)), (unhide HL).1.below hb6, fun ad e => ⟨((unhide HL).2 ad e).1, Nat.lt_of_lt_of_le ((unhide HL).2 ad e).2 hb6.size⟩⟩, (unhide HP).kept.trans (Kept.of_below hb6)⟩
          have HFin := hide hfin
          clear hb6 hfin HL HP HRep
          unfold strV
          go_wp2
          go_ret2
          exact ⟨rfl, (unhide HFin).1, (unhide HFin).2⟩

end Go.Proofs.YtbjobbkgelipmaaGreat
