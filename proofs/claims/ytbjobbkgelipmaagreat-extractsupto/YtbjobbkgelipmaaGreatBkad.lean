/-
  The walks of tithe's isNameLength and inOrder.
-/
import Derived.Laws.OwnMore
import Derived.Deep.RegionHeld3
import Derived.Lib.MinMax
import Derived.Test.YtbjobbkgelipmaaGreatBkac
import Derived.Test.YtbjobbkgelipmaaGreatBkaa
namespace Go.Proofs.YtbjobbkgelipmaaGreat
open Go.RowKit

set_option maxHeartbeats 400000 in
theorem isname_any (n : Nat) (w : World) :
    Calls Tryz.prog 47 #[.int .i64 (n : Int)] w fun e w' => e = .returned (.bool (decide (1 ≤ n ∧ n ≤ 8))) ∧ w' = w := by
  by_cases h1 : 1 ≤ n
  · by_cases h2 : n ≤ 8
    · have k1 : (1 : Int) ≤ (n : Int) := by omega
      have k2 : (n : Int) ≤ 8 := by omega
      rw [decide_eq_true ⟨h1, h2⟩]
      clear h1 h2
      go_enter Tryz.func47, Tryz.ntmps47
      go_wp2
      go_ret
      exact ⟨rfl, rfl⟩
    · have k1 : (1 : Int) ≤ (n : Int) := by omega
      have k2 : ¬ (n : Int) ≤ 8 := by omega
      rw [decide_eq_false (fun h => h2 h.2)]
      clear h1 h2
      go_enter Tryz.func47, Tryz.ntmps47
      go_wp2
      go_ret
      exact ⟨rfl, rfl⟩
  · have k1 : ¬ (1 : Int) ≤ (n : Int) := by omega
    rw [decide_eq_false (fun h => h1 h.1)]
    clear h1
    go_enter Tryz.func47, Tryz.ntmps47
    go_wp2
    go_ret
    exact ⟨rfl, rfl⟩

set_option maxRecDepth 100000 in
set_option maxHeartbeats 400000 in
theorem inorder_any (pl : Nat) (d d' : Dg) (x x' : Int) (w : World) (hp : pl ≤ 255) :
    Calls Tryz.prog 105 #[.int .i64 (pl : Int), sideV d x, sideV d' x'] w fun e w' => e = .returned (if pl % 2 = 0 then .tuple #[sideV d x, sideV d' x'] else .tuple #[sideV d' x', sideV d x]) ∧ Below w.heap.size w w' := by
  unfold sideV
  generalize (d.1.toNat : Int) = a0 at *
  generalize (d.2.1.toNat : Int) = a1 at *
  generalize (d.2.2.toNat : Int) = a2 at *
  generalize (d'.1.toNat : Int) = b0 at *
  generalize (d'.2.1.toNat : Int) = b1 at *
  generalize (d'.2.2.toNat : Int) = b2 at *
  by_cases he : pl % 2 = 0
  · rw [if_pos he]
    have hr : (pl : Int).tmod 2 = 0 := by rw [Int.tmod_eq_emod_of_nonneg (by omega)]; omega
    have hr2 : IntKind.i64.wrap ((pl : Int).tmod 2) = 0 := by rw [hr]; rfl
    clear he
    go_enter Tryz.func105, Tryz.ntmps105
    go_wp2_with fail
    go_region
    go_wp2
    refine bodyPost_ret (v := .tuple #[.agg #[.int .u8 a0, .int .u8 a1, .int .u8 a2, .int .u64 x], .agg #[.int .u8 b0, .int .u8 b1, .int .u8 b2, .int .u64 x']]) ?_ rfl ⟨rfl, ?_⟩
    · simp [results, Tryz.results105, go_sem]
    · repeat first
        | exact Below.refl _ _
        | refine Below.drew ?_
        | refine Below.setCell ?_ (by simp; try omega) _
        | refine Below.alloc ?_ (by simp; try omega) _
  · rw [if_neg he]
    have hr : (pl : Int).tmod 2 = 1 := by rw [Int.tmod_eq_emod_of_nonneg (by omega)]; omega
    have hr2 : IntKind.i64.wrap ((pl : Int).tmod 2) = 1 := by rw [hr]; rfl
    clear he
    go_enter Tryz.func105, Tryz.ntmps105
    go_wp2_with fail
    go_region
    go_wp2
    refine bodyPost_ret (v := .tuple #[.agg #[.int .u8 b0, .int .u8 b1, .int .u8 b2, .int .u64 x'], .agg #[.int .u8 a0, .int .u8 a1, .int .u8 a2, .int .u64 x]]) ?_ rfl ⟨rfl, ?_⟩
    · simp [results, Tryz.results105, go_sem]
    · repeat first
        | exact Below.refl _ _
        | refine Below.drew ?_
        | refine Below.setCell ?_ (by simp; try omega) _
        | refine Below.alloc ?_ (by simp; try omega) _

end Go.Proofs.YtbjobbkgelipmaaGreat

/-
  The walk of titheref's accepted: a head that does not fit.
-/
namespace Go.Proofs.YtbjobbkgelipmaaGreat
open Go.RowKit

theorem pow_cast (k : Nat) : (((2 ^ k : Nat) : Int)) = (2 : Int) ^ k := by simp

set_option maxHeartbeats 1000000 in
set_option maxRecDepth 100000 in
theorem accepted_bad (h : Nat) (d : Dg) (n : Int) (s : ByteArray) (w : World) (hh : h ≤ 6) (hm : s.size ≤ 140737488351232) (hb : ¬ accHead h s.data.toList) :
    Calls Tryz.prog 63 #[.int .i64 (h : Int), sideV d n, .string s] w fun e w' => e = .returned (.tuple #[proofZ, .bool false]) ∧ Below w.heap.size w w' := by
  obtain ⟨d0, d1, d2, hD⟩ : ∃ d0 d1 d2 : Int, sideV d n = .agg #[.int .u8 d0, .int .u8 d1, .int .u8 d2, .int .u64 n] := ⟨_, _, _, rfl⟩
  rw [hD]
  have hls : s.data.toList.length = s.size := by simp
  have HB := hide hb
  have HLS := hide hls
  clear hD hb hls
  go_enter Tryz.func63, Tryz.ntmps63
  go_wp2
  go_loop [8, 9] (fun p i => ∃ k : Nat, k ≤ h ∧ i = .int .i64 k ∧ p = .int .i64 ((2 ^ k : Nat) : Int)) (fun _ i => h - (intOf i).toNat)
  case atStart => exact ⟨0, by omega, rfl, rfl⟩
  case round =>
    obtain ⟨k, hk, rfl, rfl⟩ := hrel
    have hp64 : 2 ^ k ≤ 64 := (Nat.pow_le_pow_right (by omega) (by omega : k ≤ 6) : 2 ^ k ≤ 2 ^ 6)
    have Hps : Hid (2 * (2 ^ k) = 2 ^ (k + 1)) := by show 2 * 2 ^ k = 2 ^ (k + 1); rw [Nat.pow_succ]; omega
    generalize hpk : 2 ^ k = pk at *
    have HPK := hide hpk
    clear hpk
    by_cases hlt : k < h
    · go_wp2
      go_round
      case rel => exact ⟨k + 1, by omega, by go_num, by rw [← unhide Hps]; go_num⟩
      case measure => simp [intOf]; omega
    · have hkh : k = h := by omega
      subst hkh
      by_cases h3 : s.size < 3
      · go_wp2
        refine bodyPost_ret (v := .tuple #[proofZ, .bool false]) ?_ rfl ⟨rfl, ?_⟩
        · simp [results, Tryz.results63, go_sem, proofZ]
        · exact ((Below.refl _ _).alloc (Nat.le_refl _) _).alloc (by simp) _
      · have x0 := index_at s 0 (by omega)
        have x1 := index_at s 1 (by omega)
        have x2 := index_at s 2 (by omega)
        obtain ⟨b0, hb0⟩ : ∃ b, b = bAt s.data.toList 0 := ⟨_, rfl⟩
        obtain ⟨b1, hb1⟩ : ∃ b, b = bAt s.data.toList 1 := ⟨_, rfl⟩
        obtain ⟨b2, hb2⟩ : ∃ b, b = bAt s.data.toList 2 := ⟨_, rfl⟩
        have y0 : ∀ w, (Instr.index 9 (.string s) (.int .i64 0)).run Tryz.prog w = .ok (.int .u8 (b0 : Int)) w := by rw [hb0]; exact x0
        have y1 : ∀ w, (Instr.index 9 (.string s) (.int .i64 1)).run Tryz.prog w = .ok (.int .u8 (b1 : Int)) w := by rw [hb1]; exact x1
        have y2 : ∀ w, (Instr.index 9 (.string s) (.int .i64 2)).run Tryz.prog w = .ok (.int .u8 (b2 : Int)) w := by rw [hb2]; exact x2
        have r0 : b0 < 256 := by rw [hb0]; exact UInt8.toNat_lt _
        have r1 : b1 < 256 := by rw [hb1]; exact UInt8.toNat_lt _
        have r2 : b2 < 256 := by rw [hb2]; exact UInt8.toNat_lt _
        have HX : Hid (¬ (b0 = k ∧ b1 < pk ∧ 1 ≤ b2 ∧ b2 ≤ 8 ∧ s.size = 19 + b2 + 11 * k)) := by
          intro hc
          apply unhide HB
          unfold accHead
          rw [← hb0, ← hb1, ← hb2, unhide HLS, unhide HPK]
          exact ⟨by omega, hc⟩
        clear x0 x1 x2 hb0 hb1 hb2 HB HLS
        by_cases c0 : b0 = k
        · subst c0
          by_cases c1 : b1 < pk
          · by_cases c2 : b2 < 1
            · go_wp2
              refine bodyPost_ret (v := .tuple #[proofZ, .bool false]) ?_ rfl ⟨rfl, ?_⟩
              · simp [results, Tryz.results63, go_sem, proofZ]
              · exact ((Below.refl _ _).alloc (Nat.le_refl _) _).alloc (by simp) _
            · by_cases c3 : 8 < b2
              · go_wp2
                refine bodyPost_ret (v := .tuple #[proofZ, .bool false]) ?_ rfl ⟨rfl, ?_⟩
                · simp [results, Tryz.results63, go_sem, proofZ]
                · exact ((Below.refl _ _).alloc (Nat.le_refl _) _).alloc (by simp) _
              · have c4 : s.size ≠ 19 + b2 + 11 * b0 := fun e => unhide HX ⟨rfl, c1, by omega, by omega, e⟩
                have c4' : ((s.size : Int) != 19 + (b2 : Int) + 11 * (b0 : Int)) = true := by simp; omega
                clear c4
                go_wp2
                refine bodyPost_ret (v := .tuple #[proofZ, .bool false]) ?_ rfl ⟨rfl, ?_⟩
                · simp [results, Tryz.results63, go_sem, proofZ]
                · exact ((Below.refl _ _).alloc (Nat.le_refl _) _).alloc (by simp) _
          · go_wp2
            refine bodyPost_ret (v := .tuple #[proofZ, .bool false]) ?_ rfl ⟨rfl, ?_⟩
            · simp [results, Tryz.results63, go_sem, proofZ]
            · exact ((Below.refl _ _).alloc (Nat.le_refl _) _).alloc (by simp) _
        · have c0' : ((b0 : Int) != (k : Int)) = true := by simp; omega
          clear c0
          go_wp2
          refine bodyPost_ret (v := .tuple #[proofZ, .bool false]) ?_ rfl ⟨rfl, ?_⟩
          · simp [results, Tryz.results63, go_sem, proofZ]
          · exact ((Below.refl _ _).alloc (Nat.le_refl _) _).alloc (by simp) _

end Go.Proofs.YtbjobbkgelipmaaGreat

/-
  The walk of keep: a list more that is its owner's.
-/
namespace Go.Proofs.YtbjobbkgelipmaaGreat
open Go.RowKit

/-- An append onto a list of the call's own: what was owned is owned still, and so is the new one. -/
theorem wpList_append_both {P : Program} {w : World} {ops : Array Oper} {rest : List Oper} {o : Oper} {a : Act} {Q : Exit → Act → World → Prop} (hgd : o.guard = none) (s x : Operand) (t : TypeId)
    (ho : o.op = .call { callee := .builtin .append, args := #[s, x], argTypes := #[t, t] })
    (base : Nat) (e : TypeId) (i : TypeInfo) (z : Value) (bytes : Nat) (ht : P.underlying t = some (.slice e)) (hi : P.info? e = some i) (hz : i.zero = some z)
    (hsize : i.size = 1) (hby : i.bytes = bytes) (hzs : z.cells.size = 1)
    (v : Value) (n : Nat) (xs : List Value) (hs : a.eval s = v) (hown : w.ownsRow base e 1 v n xs)
    (ad : Addr) (m c : Nat) (news : List Value) (hx : a.eval x = .slice (some ad) m c) (hl : news.length = m * 1) (hnews : ∀ j u, news[j]? = some u → w.cell? (ad.add j) = some u) (h1 : ∀ u ∈ news, u.oneCell' = true)
    (hm : 0 < m) (h63 : n + m ≤ maxLen) (hbytes : (n + m) * bytes ≤ 140737488355328) (hbase : base ≤ w.heap.size)
    (h : ∀ g cap w', w'.ownsRow base e 1 (.slice (some ⟨g, 0, none⟩) (n + m) cap) (n + m) (xs ++ news) → w'.ownsRow base e 1 v n xs → w.grownBy w' v.ownBlock → (v.ownBlock = some g ∨ w.heap.size ≤ g) →
      wpList P ops Q rest (a.put o.dst (.slice (some ⟨g, 0, none⟩) (n + m) cap)) w') : wpList P ops Q (o :: rest) a w := by
  have hown0 := hown
  rcases hown.2 with ⟨hv, hn⟩ | ⟨g, cap, cur, hv, hb, hh, hnc, hcm, hcs, htake⟩
  · refine wpList_append_grows w hgd s x t ho e i z 1 bytes ht hi hz hsize hby hzs (by decide) none 0 0 xs (by rw [hs, hv]) (fun _ => ⟨rfl, rfl⟩) (by rw [hown.1, hn]) (fun b hb => by cases hb) ad m c news hx hl hnews h1 (by omega) (by omega) (by rw [hn] at hbytes; exact hbytes) ?_
    intro v' w' hown' hg'
    rcases hown'.2 with ⟨_, h0⟩ | ⟨g', cap', cur', hv', hb', hh', r1, r2, r3, r4⟩
    · omega
    · subst hv'
      have hw : w'.ownsRow base e 1 (.slice (some ⟨g', 0, none⟩) (n + m) cap') (n + m) (xs ++ news) := by
        subst hn
        exact ⟨hown'.1, .inr ⟨g', cap', cur', rfl, by omega, hh', r1, r2, r3, r4⟩⟩
      have hg2 : w.grownBy w' v.ownBlock := by rw [hv]; exact hg'
      have := h g' cap' w' hw (hown0.kept hg2 (Or.inl (by rw [hv]; rfl))) hg2 (Or.inr hb')
      subst hn
      exact this
  · by_cases hroom : n + m ≤ cap
    · subst hv
      refine wpList_append_fits w hgd s x t ho base e i 1 ht hi hsize g n cap xs hs hown ad m c news hx hl hnews h1 hroom ?_
      intro w' hown' hg'
      refine h g cap w' hown' ?_ hg' (Or.inl rfl)
      refine ⟨hown0.1, ?_⟩
      rcases hown'.2 with ⟨h0, _⟩ | ⟨g', cap', cur', hv', hb', hh', r1, r2, r3, r4⟩
      · cases h0
      · cases hv'
        refine .inr ⟨g, cap, cur', rfl, hb, hh', hnc, hcm, r3, ?_⟩
        have h2 := congrArg (List.take (n * 1)) r4
        have e3 : (xs ++ news).take (n * 1) = xs := by
          rw [List.take_append_of_le_length (by rw [hown0.1]; exact Nat.le_refl _)]
          exact List.take_of_length_le (by rw [hown0.1]; exact Nat.le_refl _)
        rw [List.take_take, Nat.min_eq_left (by omega), e3] at h2
        exact h2
    · subst hv
      refine wpList_append_grows w hgd s x t ho e i z 1 bytes ht hi hz hsize hby hzs (by decide) (some ⟨g, 0, none⟩) n cap xs hs (fun h0 => by cases h0) hown.1 (fun b hb => by cases hb; exact hown0.cells rfl) ad m c news hx hl hnews h1 (by omega) h63 hbytes ?_
      intro v' w' hown' hg'
      rcases hown'.2 with ⟨_, h0⟩ | ⟨g', cap', cur', hv', hb', hh', r1, r2, r3, r4⟩
      · omega
      · subst hv'
        have hg2 : w.grownBy w' (some g) := ⟨hg'.os, hg'.tape, hg'.output, hg'.size, fun k hk _ => hg'.block k hk (by simp)⟩
        exact h g' cap' w' ⟨hown'.1, .inr ⟨g', cap', cur', rfl, by omega, hh', r1, r2, r3, r4⟩⟩ (hown0.kept hg' (Or.inr (by simp [Value.ownBlock]))) hg2 (Or.inr hb')

theorem grown_trans {w w1 w2 : World} {r : Option Nat} (h : w.grownBy w1 r) (k : w1.grownBy w2 r) : w.grownBy w2 r :=
  ⟨k.os.trans h.os, k.tape.trans h.tape, k.output.trans h.output, Nat.le_trans h.size k.size, fun i hi hne => (k.block i (Nat.lt_of_lt_of_le hi h.size) hne).trans (h.block i hi hne)⟩
theorem grown_setCell (w : World) (b i : Nat) (v : Value) : w.grownBy (w.setCell ⟨b, i, none⟩ v) (some b) :=
  ⟨rfl, rfl, rfl, by simp [World.setCell], fun k _ hk => Below.heap_setCell _ _ _ _ (fun e => hk (by simp [e]))⟩
theorem own_lt {w : World} {base : Nat} {e : TypeId} {size : Nat} {v : Value} {n : Nat} {xs : List Value} (h : w.ownsRow base e size v n xs) {g : Nat} (hg : v.ownBlock = some g) : g < w.heap.size := (h.lt g hg).2
/-- The block of an owned list bears its element's type. -/
theorem own_type {w : World} {base : Nat} {e : TypeId} {size : Nat} {v : Value} {n : Nat} {xs : List Value} (h : w.ownsRow base e size v n xs) {g : Nat} (hg : v.ownBlock = some g) : ∃ cur, w.heap[g]? = some (.cells cur e (0, 0)) := by
  rcases h.2 with ⟨rfl, _⟩ | ⟨g', cap, cur, rfl, _, hh, _⟩
  · cases hg
  · cases hg; exact ⟨cur, hh⟩
theorem own_same {w w' : World} {base : Nat} {e : TypeId} {size : Nat} {v : Value} {n : Nat} {xs : List Value} (h : w.ownsRow base e size v n xs) (hb : ∀ g, v.ownBlock = some g → w'.heap[g]? = w.heap[g]?) : w'.ownsRow base e size v n xs := by
  refine ⟨h.1, ?_⟩
  rcases h.2 with h0 | ⟨g, cap, cur, rfl, hbb, hh, r⟩
  · exact .inl h0
  · exact .inr ⟨g, cap, cur, rfl, hbb, (hb g rfl).trans hh, r⟩
/-- A shorter list in the same block. -/
theorem own_sub {w w' : World} {base : Nat} {e : TypeId} {u v : Value} {k n : Nat} {xs ys : List Value} (h : w.ownsRow base e 1 v n xs) (h' : w'.ownsRow base e 1 v n xs) (hu : w.ownsRow base e 1 u k ys) (hblk : u.ownBlock = v.ownBlock) (hk : k ≤ n) : w'.ownsRow base e 1 u k ys := by
  refine ⟨hu.1, ?_⟩
  rcases hu.2 with h0 | ⟨g, cap, cur, rfl, hb, hh, r1, r2, r3, r4⟩
  · exact .inl h0
  · rcases h.2 with ⟨rfl, _⟩ | ⟨g2, cap2, cur2, rfl, _, hh2, q1, q2, q3, q4⟩
    · cases hblk
    · cases hblk
      rw [hh] at hh2
      cases hh2
      rcases h'.2 with ⟨h0, _⟩ | ⟨g3, cap3, cur3, h3, _, hh3, s1, s2, s3, s4⟩
      · cases h0
      · cases h3
        refine .inr ⟨g, cap, cur3, rfl, hb, hh3, r1, r2, by omega, ?_⟩
        have e1 := congrArg (List.take (k * 1)) q4
        have e2 := congrArg (List.take (k * 1)) s4
        rw [List.take_take, Nat.min_eq_left (by omega)] at e1 e2
        rw [e2, ← e1]; exact r4

theorem HoldOk.kept {w w' : World} {B : Nat} {x : HoldD} (h : HoldOk w B x) (hp : w'.heap[x.p]? = w.heap[x.p]?) (ho : w'.ownsRow (B + 1) 5 1 x.v x.n (markV x.m x.n)) : HoldOk w' B x := ⟨h.above, hp.trans h.cell, ho, h.small⟩

/-- Where a list lies now: where it lay, or in new memory. -/
def OldOr (w : World) (u u0 : Value) : Prop := u.ownBlock = u0.ownBlock ∨ ∃ g, u.ownBlock = some g ∧ w.heap.size ≤ g

/-- Nothing else has turned. -/
structure Frame (w w' : World) (B : Nat) (vb hv : Value) : Prop where
  os : w'.os = w.os
  tape : w'.tape = w.tape
  output : w'.output = w.output
  size : w.heap.size ≤ w'.heap.size
  block : ∀ k, k < w.heap.size → k ≠ B → some k ≠ vb.ownBlock → some k ≠ hv.ownBlock → w'.heap[k]? = w.heap[k]?

theorem Frame.refl (w : World) (B : Nat) (vb hv : Value) : Frame w w B vb hv := ⟨rfl, rfl, rfl, Nat.le_refl _, fun _ _ _ _ _ => rfl⟩
theorem Frame.grown {w w1 w2 : World} {B : Nat} {vb hv : Value} {r : Option Nat} (h : Frame w w1 B vb hv) (hg : w1.grownBy w2 r) (hr : ∀ g, r = some g → g = B ∨ some g = vb.ownBlock ∨ some g = hv.ownBlock ∨ w.heap.size ≤ g) : Frame w w2 B vb hv :=
  ⟨hg.os.trans h.os, hg.tape.trans h.tape, hg.output.trans h.output, Nat.le_trans h.size hg.size, fun k hk hB hb hh => (hg.block k (Nat.lt_of_lt_of_le hk h.size) (fun e => by
    rcases hr k e.symm with h1 | h1 | h1 | h1
    · exact hB h1
    · exact hb h1
    · exact hh h1
    · omega)).trans (h.block k hk hB hb hh)⟩

/-- One list more on the record: the append to the world's own list, and the store of it. -/
theorem hold_step {w w3 : World} {B : Nat} {ps hv vb : Value} {hs : List HoldD} {n g cap : Nat} {m : Int} (hI : Inv w B ps hv hs) (hb : w.ownsRow (B + 1) 5 1 vb n (markV m n)) (hn : n ≤ 140737488355328)
    (hown : w3.ownsRow (B + 1) 71 1 (.slice (some ⟨g, 0, none⟩) (hs.length + 1) cap) (hs.length + 1) ((hs.map fun x => ptrV x.p) ++ [ptrV w.heap.size]))
    (hg : ((w.alloc (.cells #[vb, .int .i64 m] 113)).alloc (.cells #[ptrV w.heap.size] 71)).grownBy w3 hv.ownBlock)
    (hold : hv.ownBlock = some g ∨ w.heap.size + 2 ≤ g) :
    let w4 := w3.setCell ⟨B, 1, none⟩ (.slice (some ⟨g, 0, none⟩) (hs.length + 1) cap)
    Inv w4 B ps (.slice (some ⟨g, 0, none⟩) (hs.length + 1) cap) (hs ++ [⟨w.heap.size, vb, n, m⟩]) ∧ w4.ownsRow (B + 1) 5 1 vb n (markV m n) ∧ w.heap.size + 2 ≤ w4.heap.size ∧
      w4.os = w.os ∧ w4.tape = w.tape ∧ w4.output = w.output ∧ (∀ k, k < w.heap.size → k ≠ B → some k ≠ hv.ownBlock → w4.heap[k]? = w.heap[k]?) := by
  intro w4
  have hBlt : B < w.heap.size := (Array.getElem?_eq_some_iff.1 hI.cell).1
  have hold' : ∀ k, k < w.heap.size → ((w.alloc (.cells #[vb, .int .i64 m] 113)).alloc (.cells #[ptrV w.heap.size] 71)).heap[k]? = w.heap[k]? := fun k hk => by
    rw [Below.heap_alloc _ _ _ (by simp; omega), Below.heap_alloc _ _ _ hk]
  have hsz2 : ((w.alloc (.cells #[vb, .int .i64 m] 113)).alloc (.cells #[ptrV w.heap.size] 71)).heap.size = w.heap.size + 2 := by simp
  have hs3 : w.heap.size + 2 ≤ w3.heap.size := by have := hg.size; omega
  have hnB : hv.ownBlock ≠ some B := fun e => by
    obtain ⟨cur, hc⟩ := own_type hI.own e
    rw [hI.cell] at hc; simp at hc
  have h3 : ∀ k, k < w.heap.size → some k ≠ hv.ownBlock → w3.heap[k]? = w.heap[k]? := fun k hk hne => (hg.block k (by omega) hne).trans (hold' k hk)
  have h4 : ∀ k, k ≠ B → w4.heap[k]? = w3.heap[k]? := fun k hk => Below.heap_setCell _ _ _ _ hk
  have h4' : ∀ k, k < w.heap.size → k ≠ B → some k ≠ hv.ownBlock → w4.heap[k]? = w.heap[k]? := fun k hk hB hne => (h4 k hB).trans (h3 k hk hne)
  have hgB : g ≠ B := fun e => by
    subst e
    rcases hold with h | h
    · exact hnB h
    · omega
  have hrecB : w3.heap[B]? = some (.cells #[ps, hv] 43 (0, 0)) := (h3 B hBlt (fun e => hnB e.symm)).trans hI.cell
  have hp : w3.heap[w.heap.size]? = some (.cells #[vb, .int .i64 m] 113 (0, 0)) := by
    have e1 : some w.heap.size ≠ hv.ownBlock := fun e => by have := own_lt hI.own e.symm; omega
    rw [hg.block _ (by omega) e1, Below.heap_alloc _ _ _ (by simp)]
    exact heap_alloc_new w _
  have tne : ∀ (gg : Nat) (t : TypeId) (cur : Array Value), t ≠ 71 → w.heap[gg]? = some (.cells cur t (0, 0)) → some gg ≠ hv.ownBlock := fun gg t cur ht hc e => by
    obtain ⟨cur', hc'⟩ := own_type hI.own e.symm
    rw [hc] at hc'; simp at hc'; exact ht hc'.2
  have tneB : ∀ (gg : Nat) (t : TypeId) (cur : Array Value), t ≠ 43 → w.heap[gg]? = some (.cells cur t (0, 0)) → gg ≠ B := fun gg t cur ht hc e => by
    rw [e, hI.cell] at hc; simp at hc; exact ht hc.2.symm
  have hown4 : ∀ (u : Value) (k : Nat) (ys : List Value), w.ownsRow (B + 1) 5 1 u k ys → w4.ownsRow (B + 1) 5 1 u k ys := fun u k ys hu => own_same hu (fun gg hgg => by
    obtain ⟨cur, hc⟩ := own_type hu hgg
    exact h4' gg (own_lt hu hgg) (tneB gg _ cur (by decide) hc) (tne gg _ cur (by decide) hc))
  refine ⟨⟨?_, ?_, ?_⟩, hown4 _ _ _ hb, by simp [w4]; omega, hg.os, hg.tape, hg.output, h4'⟩
  · exact heap_setCell_same w3 B 1 #[ps, hv] 43 _ hrecB
  · have := own_same (w' := w4) hown (fun gg hgg => by cases hgg; exact h4 g hgB)
    simpa using this
  · intro x hx
    rcases List.mem_append.1 hx with hx | hx
    · have hk := hI.ok x hx
      have hlt : x.p < w.heap.size := (Array.getElem?_eq_some_iff.1 hk.cell).1
      exact hk.kept (h4' x.p hlt (tneB _ _ _ (by decide) hk.cell) (tne _ _ _ (by decide) hk.cell)) (hown4 _ _ _ hk.own)
    · simp at hx
      subst hx
      exact ⟨hBlt, (h4 w.heap.size (by omega)).trans hp, hown4 _ _ _ hb, hn⟩

end Go.Proofs.YtbjobbkgelipmaaGreat

/-
  What lies in memory while titheref's accepted goes up.
-/
namespace Go.Proofs.YtbjobbkgelipmaaGreat
open Go.RowKit

def quadB (d0 d1 d2 n : Int) : Array Value := #[.int .u8 d0, .int .u8 d1, .int .u8 d2, .int .u64 n]
def proofCells (pl : Int) (nm : ByteArray) (bal salt : Int) (tv : Value) : Array Value := #[.int .i64 pl, .string nm, .int .u64 bal, .int .u64 salt, tv]

/-- The root's box, the answer's room, the proof with its texts, and what stands there now. -/
structure AM (w wx : World) (P N : Nat) (d0 d1 d2 n : Int) (pl : Int) (nm : ByteArray) (bal salt : Int) (tv : Value) (ts : List (List UInt8)) (e0 e1 e2 m : Int) : Prop where
  root : wx.heap[w.heap.size]? = some (.cells (quadB d0 d1 d2 n) 49 (0, 0))
  room : wx.heap[w.heap.size + 1]? = some (.cells (proofCells 0 ⟨#[]⟩ 0 0 (.slice none 0 0)) 130 (0, 0))
  prf : wx.heap[P]? = some (.cells (proofCells pl nm bal salt tv) 130 (0, 0))
  now : wx.heap[N]? = some (.cells (quadB e0 e1 e2 m) 49 (0, 0))
  txt : wx.ownsRow (w.heap.size + 2) 9 1 tv ts.length (ts.map strV)
  hP : w.heap.size + 1 < P
  hN : P < N
  below : Below w.heap.size w wx

theorem AM.size {w wx : World} {P N : Nat} {d0 d1 d2 n pl bal salt e0 e1 e2 m : Int} {nm : ByteArray} {tv : Value} {ts : List (List UInt8)} (h : AM w wx P N d0 d1 d2 n pl nm bal salt tv ts e0 e1 e2 m) : N < wx.heap.size :=
  (Array.getElem?_eq_some_iff.1 h.now).1

/-- New memory turns nothing of it. -/
theorem AM.later {w wx w' : World} {P N : Nat} {d0 d1 d2 n pl bal salt e0 e1 e2 m : Int} {nm : ByteArray} {tv : Value} {ts : List (List UInt8)} (h : AM w wx P N d0 d1 d2 n pl nm bal salt tv ts e0 e1 e2 m) (hb : Below wx.heap.size wx w') : AM w w' P N d0 d1 d2 n pl nm bal salt tv ts e0 e1 e2 m := by
  have hs := h.size
  have h1 := h.hP
  have h2 := h.hN
  have hw : w.heap.size ≤ wx.heap.size := by omega
  exact ⟨(hb.block _ (by omega)).trans h.root, (hb.block _ (by omega)).trans h.room, (hb.block _ (by omega)).trans h.prf, (hb.block _ hs).trans h.now, own_same h.txt (fun g hg => hb.block g (own_lt h.txt hg)), h1, h2, h.below.trans (hb.mono hw)⟩

/-- Something else stands there now. -/
theorem AM.set {w wx : World} {P N : Nat} {d0 d1 d2 n pl bal salt e0 e1 e2 m : Int} {nm : ByteArray} {tv : Value} {ts : List (List UInt8)} (h : AM w wx P N d0 d1 d2 n pl nm bal salt tv ts e0 e1 e2 m) (f0 f1 f2 q : Int) :
    AM w ((((wx.setCell ⟨N, 0, none⟩ (.int .u8 f0)).setCell ⟨N, 1, none⟩ (.int .u8 f1)).setCell ⟨N, 2, none⟩ (.int .u8 f2)).setCell ⟨N, 3, none⟩ (.int .u64 q)) P N d0 d1 d2 n pl nm bal salt tv ts f0 f1 f2 q := by
  have h1 := h.hP
  have h2 := h.hN
  have e : ∀ k, k ≠ N → ((((wx.setCell ⟨N, 0, none⟩ (.int .u8 f0)).setCell ⟨N, 1, none⟩ (.int .u8 f1)).setCell ⟨N, 2, none⟩ (.int .u8 f2)).setCell ⟨N, 3, none⟩ (.int .u64 q)).heap[k]? = wx.heap[k]? := fun k hk => by
    rw [Below.heap_setCell _ _ _ _ hk, Below.heap_setCell _ _ _ _ hk, Below.heap_setCell _ _ _ _ hk, Below.heap_setCell _ _ _ _ hk]
  refine ⟨(e _ (by omega)).trans h.root, (e _ (by omega)).trans h.room, (e _ (by omega)).trans h.prf, ?_, own_same h.txt (fun g hg => e g (fun hgN => ?_)), h1, h2, ?_⟩
  · have g1 := heap_setCell_same wx N 0 _ _ (.int .u8 f0) h.now
    have g2 := heap_setCell_same _ N 1 _ _ (.int .u8 f1) g1
    have g3 := heap_setCell_same _ N 2 _ _ (.int .u8 f2) g2
    have g4 := heap_setCell_same _ N 3 _ _ (.int .u64 q) g3
    exact g4
  · obtain ⟨cur, hc⟩ := own_type h.txt hg
    rw [hgN, h.now] at hc; simp at hc
  · exact (((h.below.setCell (by show w.heap.size ≤ N; omega) _).setCell (by show w.heap.size ≤ N; omega) _).setCell (by show w.heap.size ≤ N; omega) _).setCell (by show w.heap.size ≤ N; omega) _

/-- A text more. -/
theorem AM.app {w wx w1 : World} {P N g cap : Nat} {d0 d1 d2 n pl bal salt e0 e1 e2 m : Int} {nm : ByteArray} {tv v : Value} {ts : List (List UInt8)} {t : List UInt8} (h : AM w wx P N d0 d1 d2 n pl nm bal salt tv ts e0 e1 e2 m) (hv : v = strV t)
    (hown : w1.ownsRow (w.heap.size + 2) 9 1 (.slice (some ⟨g, 0, none⟩) (ts.length + 1) cap) (ts.length + 1) (ts.map strV ++ [v])) (hg : (wx.alloc (.cells #[v] 9)).grownBy w1 tv.ownBlock) (_hnew : tv.ownBlock = some g ∨ wx.heap.size + 1 ≤ g) :
    AM w (w1.setCell ⟨P, 4, none⟩ (.slice (some ⟨g, 0, none⟩) (ts.length + 1) cap)) P N d0 d1 d2 n pl nm bal salt (.slice (some ⟨g, 0, none⟩) (ts.length + 1) cap) (ts ++ [t]) e0 e1 e2 m ∧ w1.cell? ⟨P, 4, none⟩ = some tv ∧ w1.frozen? ⟨P, 4, none⟩ = false := by
  have h1 := h.hP
  have h2 := h.hN
  have hs := h.size
  have hsz : (wx.alloc (.cells #[v] 9)).heap.size = wx.heap.size + 1 := by simp
  have tne : ∀ (gg : Nat) (ty : TypeId) (cur : Array Value), ty ≠ 9 → wx.heap[gg]? = some (.cells cur ty (0, 0)) → some gg ≠ tv.ownBlock := fun gg ty cur ht hc e => by
    obtain ⟨cur', hc'⟩ := own_type h.txt e.symm
    rw [hc] at hc'; simp at hc'; exact ht hc'.2
  have h3 : ∀ k, k < wx.heap.size → some k ≠ tv.ownBlock → w1.heap[k]? = wx.heap[k]? := fun k hk hne => (hg.block k (by rw [hsz]; omega) hne).trans (Below.heap_alloc _ _ _ hk)
  have e : ∀ k, k ≠ P → (w1.setCell ⟨P, 4, none⟩ (.slice (some ⟨g, 0, none⟩) (ts.length + 1) cap)).heap[k]? = w1.heap[k]? := fun k hk => Below.heap_setCell _ _ _ _ hk
  have hP1 := (h3 P (by omega) (tne _ _ _ (by decide) h.prf)).trans h.prf
  refine ⟨⟨(e _ (by omega)).trans ((h3 _ (by omega) (tne _ _ _ (by decide) h.root)).trans h.root), (e _ (by omega)).trans ((h3 _ (by omega) (tne _ _ _ (by decide) h.room)).trans h.room), heap_setCell_same w1 P 4 _ _ _ hP1, (e _ (by omega)).trans ((h3 _ hs (tne _ _ _ (by decide) h.now)).trans h.now), ?_, h1, h2, ?_⟩, by rw [block_cell hP1]; rfl, block_free hP1⟩
  · have : (w1.setCell ⟨P, 4, none⟩ (.slice (some ⟨g, 0, none⟩) (ts.length + 1) cap)).ownsRow (w.heap.size + 2) 9 1 (.slice (some ⟨g, 0, none⟩) (ts.length + 1) cap) (ts.length + 1) (ts.map strV ++ [v]) := own_same hown (fun gg hgg => by
      cases hgg
      refine e g (fun hgP => ?_)
      obtain ⟨cur, hc⟩ := own_type hown (g := g) rfl
      rw [hgP, hP1] at hc; simp at hc)
    rw [hv] at this
    simpa using this
  · have hb1 : Below w.heap.size w w1 := (h.below.alloc (by omega) _).grown hg (by rw [hsz]; omega) (fun k hk => by have := (h.txt.lt k hk).1; omega)
    exact hb1.setCell (by show w.heap.size ≤ P; omega) _

/-- The same, ahead of what stands there now. -/
structure PM (w wx : World) (P : Nat) (d0 d1 d2 n : Int) (pl : Int) (nm : ByteArray) (bal salt : Int) (tv : Value) (ts : List (List UInt8)) : Prop where
  root : wx.heap[w.heap.size]? = some (.cells (quadB d0 d1 d2 n) 49 (0, 0))
  room : wx.heap[w.heap.size + 1]? = some (.cells (proofCells 0 ⟨#[]⟩ 0 0 (.slice none 0 0)) 130 (0, 0))
  prf : wx.heap[P]? = some (.cells (proofCells pl nm bal salt tv) 130 (0, 0))
  txt : wx.ownsRow (w.heap.size + 2) 9 1 tv ts.length (ts.map strV)
  hP : w.heap.size + 1 < P
  below : Below w.heap.size w wx

/-- The balance's cell, and all that. -/
abbrev SP (w wx : World) (P : Nat) (d0 d1 d2 n : Int) (pl : Int) (nm : ByteArray) (bal salt : Int) (tv : Value) (ts : List (List UInt8)) : Prop :=
  wx.cell? ⟨P, 2, none⟩ = some (.int .u64 bal) ∧ PM w wx P d0 d1 d2 n pl nm bal salt tv ts

theorem PM.lt {w wx : World} {P : Nat} {d0 d1 d2 n pl bal salt : Int} {nm : ByteArray} {tv : Value} {ts : List (List UInt8)} (h : PM w wx P d0 d1 d2 n pl nm bal salt tv ts) : P < wx.heap.size := (Array.getElem?_eq_some_iff.1 h.prf).1
theorem PM.later {w wx w' : World} {P : Nat} {d0 d1 d2 n pl bal salt : Int} {nm : ByteArray} {tv : Value} {ts : List (List UInt8)} (h : PM w wx P d0 d1 d2 n pl nm bal salt tv ts) (hb : Below wx.heap.size wx w') : PM w w' P d0 d1 d2 n pl nm bal salt tv ts := by
  have hs := h.lt
  have h1 := h.hP
  exact ⟨(hb.block _ (by omega)).trans h.root, (hb.block _ (by omega)).trans h.room, (hb.block _ hs).trans h.prf, own_same h.txt (fun g hg => hb.block g (own_lt h.txt hg)), h1, h.below.trans (hb.mono (by omega))⟩
theorem PM.sp {w wx : World} {P : Nat} {d0 d1 d2 n pl bal salt : Int} {nm : ByteArray} {tv : Value} {ts : List (List UInt8)} (h : PM w wx P d0 d1 d2 n pl nm bal salt tv ts) : SP w wx P d0 d1 d2 n pl nm bal salt tv ts := ⟨by rw [block_cell h.prf]; rfl, h⟩
theorem PM.drew {w wx : World} {P : Nat} {d0 d1 d2 n pl bal salt : Int} {nm : ByteArray} {tv : Value} {ts : List (List UInt8)} (h : PM w wx P d0 d1 d2 n pl nm bal salt tv ts) : PM w wx.drew P d0 d1 d2 n pl nm bal salt tv ts := ⟨h.root, h.room, h.prf, h.txt, h.hP, h.below.drew⟩
theorem PM.alloc {w wx : World} {P : Nat} {d0 d1 d2 n pl bal salt : Int} {nm : ByteArray} {tv : Value} {ts : List (List UInt8)} (h : PM w wx P d0 d1 d2 n pl nm bal salt tv ts) (e0 e1 e2 m : Int) :
    AM w (wx.alloc (.cells (quadB e0 e1 e2 m) 49)) P wx.heap.size d0 d1 d2 n pl nm bal salt tv ts e0 e1 e2 m := by
  have h' := h.later ((Below.refl wx.heap.size wx).alloc (Nat.le_refl _) (.cells (quadB e0 e1 e2 m) 49))
  exact ⟨h'.root, h'.room, h'.prf, heap_alloc_new wx _, h'.txt, h'.hP, h.lt, h'.below⟩
theorem AM.pm {w wx : World} {P N : Nat} {d0 d1 d2 n pl bal salt e0 e1 e2 m : Int} {nm : ByteArray} {tv : Value} {ts : List (List UInt8)} (h : AM w wx P N d0 d1 d2 n pl nm bal salt tv ts e0 e1 e2 m) : PM w wx P d0 d1 d2 n pl nm bal salt tv ts := ⟨h.root, h.room, h.prf, h.txt, h.hP, h.below⟩
theorem AM.drew {w wx : World} {P N : Nat} {d0 d1 d2 n pl bal salt e0 e1 e2 m : Int} {nm : ByteArray} {tv : Value} {ts : List (List UInt8)} (h : AM w wx P N d0 d1 d2 n pl nm bal salt tv ts e0 e1 e2 m) : AM w wx.drew P N d0 d1 d2 n pl nm bal salt tv ts e0 e1 e2 m := ⟨h.root, h.room, h.prf, h.now, h.txt, h.hP, h.hN, h.below.drew⟩

/-- Beside it the one that was read. -/
structure AMX (w wx : World) (P N X : Nat) (d0 d1 d2 n : Int) (pl : Int) (nm : ByteArray) (bal salt : Int) (tv : Value) (ts : List (List UInt8)) (e0 e1 e2 m x0 x1 x2 xn : Int) : Prop where
  am : AM w wx P N d0 d1 d2 n pl nm bal salt tv ts e0 e1 e2 m
  xb : wx.heap[X]? = some (.cells (quadB x0 x1 x2 xn) 49 (0, 0))
  hX : N < X
theorem AMX.later {w wx w' : World} {P N X : Nat} {d0 d1 d2 n pl bal salt e0 e1 e2 m x0 x1 x2 xn : Int} {nm : ByteArray} {tv : Value} {ts : List (List UInt8)} (h : AMX w wx P N X d0 d1 d2 n pl nm bal salt tv ts e0 e1 e2 m x0 x1 x2 xn) (hb : Below wx.heap.size wx w') : AMX w w' P N X d0 d1 d2 n pl nm bal salt tv ts e0 e1 e2 m x0 x1 x2 xn :=
  ⟨h.am.later hb, (hb.block _ (Array.getElem?_eq_some_iff.1 h.xb).1).trans h.xb, h.hX⟩
theorem AMX.drew {w wx : World} {P N X : Nat} {d0 d1 d2 n pl bal salt e0 e1 e2 m x0 x1 x2 xn : Int} {nm : ByteArray} {tv : Value} {ts : List (List UInt8)} (h : AMX w wx P N X d0 d1 d2 n pl nm bal salt tv ts e0 e1 e2 m x0 x1 x2 xn) : AMX w wx.drew P N X d0 d1 d2 n pl nm bal salt tv ts e0 e1 e2 m x0 x1 x2 xn := ⟨h.am.drew, h.xb, h.hX⟩
theorem AMX.app {w wx w1 : World} {P N X g cap : Nat} {d0 d1 d2 n pl bal salt e0 e1 e2 m x0 x1 x2 xn : Int} {nm : ByteArray} {tv v : Value} {ts : List (List UInt8)} {t : List UInt8} (h : AMX w wx P N X d0 d1 d2 n pl nm bal salt tv ts e0 e1 e2 m x0 x1 x2 xn) (hv : v = strV t)
    (hown : w1.ownsRow (w.heap.size + 2) 9 1 (.slice (some ⟨g, 0, none⟩) (ts.length + 1) cap) (ts.length + 1) (ts.map strV ++ [v])) (hg : (wx.alloc (.cells #[v] 9)).grownBy w1 tv.ownBlock) (hnew : tv.ownBlock = some g ∨ wx.heap.size + 1 ≤ g) :
    AMX w (w1.setCell ⟨P, 4, none⟩ (.slice (some ⟨g, 0, none⟩) (ts.length + 1) cap)) P N X d0 d1 d2 n pl nm bal salt (.slice (some ⟨g, 0, none⟩) (ts.length + 1) cap) (ts ++ [t]) e0 e1 e2 m x0 x1 x2 xn ∧ w1.cell? ⟨P, 4, none⟩ = some tv ∧ w1.frozen? ⟨P, 4, none⟩ = false := by
  obtain ⟨a1, a2, a3⟩ := h.am.app hv hown hg hnew
  refine ⟨⟨a1, ?_, h.hX⟩, a2, a3⟩
  have h2 := h.am.hN
  have h3 := h.hX
  have hlt : X < wx.heap.size := (Array.getElem?_eq_some_iff.1 h.xb).1
  have hne : some X ≠ tv.ownBlock := fun e => by
    obtain ⟨cur', hc'⟩ := own_type h.am.txt e.symm
    rw [h.xb] at hc'; simp at hc'
  rw [Below.heap_setCell _ _ _ _ (show X ≠ P by omega), hg.block X (by simp; omega) hne, Below.heap_alloc _ _ _ hlt]
  exact h.xb
theorem quad_of {wx : World} {X : Nat} {x0 x1 x2 xn : Int} {t : TypeId} (h : wx.heap[X]? = some (.cells (quadB x0 x1 x2 xn) t (0, 0))) : Quad wx X x0 x1 x2 xn :=
  ⟨by rw [block_cell h]; rfl, by rw [block_cell h]; rfl, by rw [block_cell h]; rfl, by rw [block_cell h]; rfl⟩
abbrev SX (w wx : World) (P N X : Nat) (d0 d1 d2 n : Int) (pl : Int) (nm : ByteArray) (bal salt : Int) (tv : Value) (ts : List (List UInt8)) (e0 e1 e2 m x0 x1 x2 xn : Int) : Prop :=
  (wx.cell? ⟨N, 0, none⟩ = some (.int .u8 e0) ∧ wx.cell? ⟨N, 1, none⟩ = some (.int .u8 e1) ∧ wx.cell? ⟨N, 2, none⟩ = some (.int .u8 e2) ∧ wx.cell? ⟨N, 3, none⟩ = some (.int .u64 m)) ∧
  (wx.cell? ⟨X, 0, none⟩ = some (.int .u8 x0) ∧ wx.cell? ⟨X, 1, none⟩ = some (.int .u8 x1) ∧ wx.cell? ⟨X, 2, none⟩ = some (.int .u8 x2) ∧ wx.cell? ⟨X, 3, none⟩ = some (.int .u64 xn)) ∧
  AMX w wx P N X d0 d1 d2 n pl nm bal salt tv ts e0 e1 e2 m x0 x1 x2 xn
theorem AMX.sx {w wx : World} {P N X : Nat} {d0 d1 d2 n pl bal salt e0 e1 e2 m x0 x1 x2 xn : Int} {nm : ByteArray} {tv : Value} {ts : List (List UInt8)} (h : AMX w wx P N X d0 d1 d2 n pl nm bal salt tv ts e0 e1 e2 m x0 x1 x2 xn) : SX w wx P N X d0 d1 d2 n pl nm bal salt tv ts e0 e1 e2 m x0 x1 x2 xn := ⟨quad_of h.am.now, quad_of h.xb, h⟩

theorem cell_setR (W : World) (R b' o i : Nat) (x : Value) (hne : b' ≠ R) : (W.setCell ⟨R, i, none⟩ x).cell? ⟨b', o, none⟩ = W.cell? ⟨b', o, none⟩ :=
  World.cell?_of_block (w := W) (Below.heap_setCell W _ _ _ (by simpa using hne))
/-- What the last region reads. -/
abbrev S30 (wx : World) (P N A : Nat) (pl : Int) (nm : ByteArray) (bal salt : Int) (tv : Value) (e0 e1 e2 m d0 d1 d2 n : Int) : Prop :=
  (wx.cell? ⟨P, 0, none⟩ = some (.int .i64 pl) ∧ wx.cell? ⟨P, 1, none⟩ = some (.string nm) ∧ wx.cell? ⟨P, 2, none⟩ = some (.int .u64 bal) ∧ wx.cell? ⟨P, 3, none⟩ = some (.int .u64 salt) ∧ wx.cell? ⟨P, 4, none⟩ = some tv) ∧
  (wx.cell? ⟨N, 0, none⟩ = some (.int .u8 e0) ∧ wx.cell? ⟨N, 1, none⟩ = some (.int .u8 e1) ∧ wx.cell? ⟨N, 2, none⟩ = some (.int .u8 e2) ∧ wx.cell? ⟨N, 3, none⟩ = some (.int .u64 m)) ∧
  (wx.cell? ⟨A, 0, none⟩ = some (.int .u8 d0) ∧ wx.cell? ⟨A, 1, none⟩ = some (.int .u8 d1) ∧ wx.cell? ⟨A, 2, none⟩ = some (.int .u8 d2) ∧ wx.cell? ⟨A, 3, none⟩ = some (.int .u64 n))
theorem S30.drew {wx : World} {P N A : Nat} {pl bal salt e0 e1 e2 m d0 d1 d2 n : Int} {nm : ByteArray} {tv : Value} (h : S30 wx P N A pl nm bal salt tv e0 e1 e2 m d0 d1 d2 n) : S30 wx.drew P N A pl nm bal salt tv e0 e1 e2 m d0 d1 d2 n :=
  ⟨⟨h.1.1, h.1.2.1, h.1.2.2.1, h.1.2.2.2.1, h.1.2.2.2.2⟩, ⟨h.2.1.1, h.2.1.2.1, h.2.1.2.2.1, h.2.1.2.2.2⟩, ⟨h.2.2.1, h.2.2.2.1, h.2.2.2.2.1, h.2.2.2.2.2⟩⟩
theorem S30.set {wx : World} {P N A R i : Nat} {pl bal salt e0 e1 e2 m d0 d1 d2 n : Int} {nm : ByteArray} {tv x : Value} (h : S30 wx P N A pl nm bal salt tv e0 e1 e2 m d0 d1 d2 n) (h1 : P ≠ R) (h2 : N ≠ R) (h3 : A ≠ R) : S30 (wx.setCell ⟨R, i, none⟩ x) P N A pl nm bal salt tv e0 e1 e2 m d0 d1 d2 n := by
  obtain ⟨⟨a0, a1, a2, a3, a4⟩, ⟨b0, b1, b2, b3⟩, ⟨c0, c1, c2, c3⟩⟩ := h
  have eP := fun o => cell_setR wx R P o i x h1
  have eN := fun o => cell_setR wx R N o i x h2
  have eA := fun o => cell_setR wx R A o i x h3
  exact ⟨⟨(eP 0).trans a0, (eP 1).trans a1, (eP 2).trans a2, (eP 3).trans a3, (eP 4).trans a4⟩, ⟨(eN 0).trans b0, (eN 1).trans b1, (eN 2).trans b2, (eN 3).trans b3⟩, ⟨(eA 0).trans c0, (eA 1).trans c1, (eA 2).trans c2, (eA 3).trans c3⟩⟩
theorem AM.s30 {w wx : World} {P N : Nat} {d0 d1 d2 n pl bal salt e0 e1 e2 m : Int} {nm : ByteArray} {tv : Value} {ts : List (List UInt8)} (h : AM w wx P N d0 d1 d2 n pl nm bal salt tv ts e0 e1 e2 m) : S30 wx P N w.heap.size pl nm bal salt tv e0 e1 e2 m d0 d1 d2 n :=
  ⟨⟨by rw [block_cell h.prf]; rfl, by rw [block_cell h.prf]; rfl, by rw [block_cell h.prf]; rfl, by rw [block_cell h.prf]; rfl, by rw [block_cell h.prf]; rfl⟩, quad_of h.now, quad_of h.root⟩

end Go.Proofs.YtbjobbkgelipmaaGreat

/-
  The walks of tithe's leafSide and nodeSide; tithe.Sum of a text of one's own.
-/
namespace Go.Proofs.YtbjobbkgelipmaaGreat
open Go.RowKit

theorem sum_own {base n : Nat} {v : Value} {l : List UInt8} {w : World} (hown : w.ownsRow base 5 1 v n (byteVals l)) (hn : l.length = n) (h0 : 0 < n) (hm : n ≤ maxLen) :
    Calls Tryz.prog 40 #[v] w fun e w' => e = .returned (digV (dg l)) ∧ Below w.heap.size w w' := by
  rcases hown.2 with ⟨_, h⟩ | ⟨g, cap, cur, rfl, _, hb, _, _, _, hx⟩
  · omega
  · refine sum_any g 0 n cap l w hn hm (Array.getElem?_eq_some_iff.1 hb).1 ?_
    intro j hj
    have h1 : (byteVals l)[j]? = some (.int .u8 (l[j].toNat : Int)) := by simp [byteVals, List.getElem?_eq_getElem hj]
    rw [← hx, List.getElem?_take] at h1
    split at h1
    · rw [Nat.zero_add]
      simp only [World.cell?, hb]
      simpa using h1
    · cases h1

theorem res4_new (W : World) (x0 x1 x2 x3 : Value) (t : TypeId) : Res4 (W.alloc (.cells #[x0, x1, x2, x3] t)) W.heap.size := by
  have h := heap_alloc_new W (.cells #[x0, x1, x2, x3] t)
  intro i hi
  rw [block_cell h]
  refine ⟨?_, block_free h⟩
  match i, hi with
  | 0, _ => rfl
  | 1, _ => rfl
  | 2, _ => rfl
  | 3, _ => rfl

theorem heap_next {W : World} {o X : Obj} {b : Nat} (h : W.heap[b]? = some X) : (W.alloc o).heap[b]? = some X := by
  rw [Below.heap_alloc _ _ _ (Array.getElem?_eq_some_iff.1 h).1]; exact h
theorem heap_new1 (w : World) (o o' : Obj) : ((w.alloc o).alloc o').heap[w.heap.size + 1]? = some o' := by
  have h := heap_alloc_new (w.alloc o) o'
  rwa [World.size_alloc] at h
theorem heap_new2 (w : World) (o o' o'' : Obj) : (((w.alloc o).alloc o').alloc o'').heap[w.heap.size + 2]? = some o'' := by
  have h := heap_alloc_new ((w.alloc o).alloc o') o''
  rwa [World.size_alloc, World.size_alloc] at h
theorem res4_block {W : World} {R : Nat} {x0 x1 x2 x3 : Value} {t : TypeId} (h : W.heap[R]? = some (.cells #[x0, x1, x2, x3] t (0, 0))) : Res4 W R := by
  intro i hi
  rw [block_cell h]
  refine ⟨?_, block_free h⟩
  match i, hi with
  | 0, _ => rfl
  | 1, _ => rfl
  | 2, _ => rfl
  | 3, _ => rfl

theorem sideB_len (y : Dg × Int) : (sideB y).length = 11 := by simp [sideB, dgB, longB_length]

theorem leafB_vals (nm : ByteArray) (x x' : Int) (hnm : nm.size ≤ 8) :
    [Value.int .u8 0] ++ [Value.int .u8 (nm.size : Int)] ++ Lib.strCells nm ++ byteVals (longB x) ++ byteVals (longB x') = byteVals (0 :: leafB nm.data.toList x x') := by
  have hs : nm.data.toList.length = nm.size := by simp
  simp [byteVals, Lib.strCells, leafB, hs]
  omega

/-- What the region of leafSide leans on. -/
abbrev LS (w : World) (nm : ByteArray) (x x' : Int) (w' : World) : Prop :=
  w'.cell? ⟨w.heap.size, 0, none⟩ = some (.string nm) ∧ w'.cell? ⟨w.heap.size, 1, none⟩ = some (.int .u64 x) ∧ w'.cell? ⟨w.heap.size, 2, none⟩ = some (.int .u64 x') ∧
    Res4 w' (w.heap.size + 1) ∧ w.heap.size + 1 < w'.heap.size ∧ Below w.heap.size w w'
theorem LS.keep {w W w4 : World} {nm : ByteArray} {x x' : Int} (hS : LS w nm x x' W) (hb : Below W.heap.size W w4) : LS w nm x x' w4 := by
  obtain ⟨h0, h1, h2, h3, z, h6⟩ := hS
  have := hb.size
  exact ⟨keepB hb (by omega) h0, keepB hb (by omega) h1, keepB hb (by omega) h2, h3.below z hb, by omega, h6.trans (hb.mono (by omega))⟩
theorem LS.store {w W : World} {nm : ByteArray} {x x' : Int} (hS : LS w nm x x' W) (x0 x1 x2 x3 : Value) :
    LS w nm x x' ((((W.setCell ⟨w.heap.size + 1, 0, none⟩ x0).setCell ⟨w.heap.size + 1, 1, none⟩ x1).setCell ⟨w.heap.size + 1, 2, none⟩ x2).setCell ⟨w.heap.size + 1, 3, none⟩ x3) := by
  obtain ⟨h0, h1, h2, h3, z, h6⟩ := hS
  have e := size_set4 W (w.heap.size + 1) x0 x1 x2 x3
  show LS w nm x x' (set4 W (w.heap.size + 1) x0 x1 x2 x3)
  exact ⟨cell_set4 _ _ _ _ _ _ _ _ _ (by omega) h0, cell_set4 _ _ _ _ _ _ _ _ _ (by omega) h1, cell_set4 _ _ _ _ _ _ _ _ _ (by omega) h2, h3.set4 _ _ _ _, by rw [e]; exact z, below_set4 h6 (by omega) _ _ _ _⟩

set_option maxRecDepth 100000 in
set_option maxHeartbeats 1000000 in
theorem leafside_any (nm : ByteArray) (x x' : Int) (w : World) (hnm : nm.size ≤ 8) (h0 : 0 ≤ x) (h1 : x < 18446744073709551616) (h0' : 0 ≤ x') (h1' : x' < 18446744073709551616) :
    Calls Tryz.prog 85 #[leafV nm x x'] w fun e w' => e = .returned (sideV (dg (0 :: leafB nm.data.toList x x')) x) ∧ Below w.heap.size w w' := by
  have hlen : (0 :: leafB nm.data.toList x x').length = 1 + 1 + nm.size + 8 + 8 := by
    have hs : nm.data.toList.length = nm.size := by simp
    rw [List.length_cons, leafB_length, hs]; omega
  have HT := fun w => hide (ownleaf_any nm x x' w hnm h0 h1 h0' h1')
  rw [leafB_vals nm x x' hnm] at HT
  generalize 0 :: leafB nm.data.toList x x' = T at *
  obtain ⟨d0, d1, d2, hD⟩ : ∃ d0 d1 d2 : Int, digV (dg T) = .agg #[.int .u8 d0, .int .u8 d1, .int .u8 d2] ∧ sideV (dg T) x = .agg #[.int .u8 d0, .int .u8 d1, .int .u8 d2, .int .u64 x] := ⟨_, _, _, rfl, rfl⟩
  rw [hD.2]
  have HD := hide hD.1
  have HL := hide hlen
  clear hlen hD h0 h1 h0' h1'
  unfold leafV at *
  go_enter Tryz.func85, Tryz.ntmps85
  go_wp2_with fail
  generalize hW : ((w.alloc (Obj.cells #[Value.string nm, Value.int IntKind.u64 x, Value.int IntKind.u64 x'] 115)).alloc (Obj.cells #[Value.int IntKind.u8 0, Value.int IntKind.u8 0, Value.int IntKind.u8 0, Value.int IntKind.u64 0] 106)) = W
  have hSd : LS w nm x x' W.drew := by
    rw [← hW]
    have hA : Below w.heap.size w ((w.alloc (Obj.cells #[Value.string nm, Value.int IntKind.u64 x, Value.int IntKind.u64 x'] 115)).alloc (Obj.cells #[Value.int IntKind.u8 0, Value.int IntKind.u8 0, Value.int IntKind.u8 0, Value.int IntKind.u64 0] 106)) := ((Below.refl w.heap.size w).alloc (Nat.le_refl _) _).alloc (by simp) _
    refine ⟨by simp, by simp, by simp, ?_, by simp, hA.drew⟩
    intro i hi
    match i, hi with
    | 0, _ => simp
    | 1, _ => simp
    | 2, _ => simp
    | 3, _ => simp
  clear hW
  go_region_held3 (fun w' => w'.cell? ⟨w.heap.size, 0, none⟩ = some (.string nm) ∧ w'.cell? ⟨w.heap.size, 1, none⟩ = some (.int .u64 x) ∧ w'.cell? ⟨w.heap.size, 2, none⟩ = some (.int .u64 x') ∧
      Res4 w' (w.heap.size + 1) ∧ w.heap.size + 1 < w'.heap.size ∧ Below w.heap.size w w')
    (first | with_reducible exact hS5 | with_reducible exact hS4 | with_reducible exact hSd | with_reducible exact LS.store hS5 _ _ _ _)
    (first
      | (go_at_call 99; refine (unhide (HT _)).mono ?_; rintro e w4 ⟨⟨v4, rfl, hown4⟩, hb4⟩; have hS4 := LS.keep hSd hb4; have HS := hide (sum_own hown4 (unhide HL) (by omega) (by unfold maxLen; omega)); rw [unhide HD] at HS)
      | (go_at_call 40; refine (unhide HS).mono ?_; rintro e w5 ⟨rfl, hb5⟩; have hS5 := LS.keep hS4 hb5; obtain ⟨r0, r1, r2, r3, g0, g1, g2, g3, f0, f1, f2, f3⟩ := hS5.2.2.2.1.cells))
  have HB := hide hS5.2.2.2.2.2
  clear hS5 hS4 hSd
  go_wp2
  refine bodyPost_ret (v := .agg #[.int .u8 d0, .int .u8 d1, .int .u8 d2, .int .u64 x]) ?_ rfl ⟨rfl, ?_⟩
  · simp [results, Tryz.results85, go_sem, g0, g1, g2, g3]
  · exact ((((unhide HB).setCell (by simp) _).setCell (by simp) _).setCell (by simp) _).setCell (by simp) _

/-- What the region of nodeSide leans on. -/
abbrev NS (w : World) (a0 a1 a2 x b0 b1 b2 x' : Int) (w' : World) : Prop :=
  (w'.cell? ⟨w.heap.size, 0, none⟩ = some (.int .u8 a0) ∧ w'.cell? ⟨w.heap.size, 1, none⟩ = some (.int .u8 a1) ∧ w'.cell? ⟨w.heap.size, 2, none⟩ = some (.int .u8 a2) ∧ w'.cell? ⟨w.heap.size, 3, none⟩ = some (.int .u64 x)) ∧
  (w'.cell? ⟨w.heap.size + 1, 0, none⟩ = some (.int .u8 b0) ∧ w'.cell? ⟨w.heap.size + 1, 1, none⟩ = some (.int .u8 b1) ∧ w'.cell? ⟨w.heap.size + 1, 2, none⟩ = some (.int .u8 b2) ∧ w'.cell? ⟨w.heap.size + 1, 3, none⟩ = some (.int .u64 x')) ∧
    Res4 w' (w.heap.size + 2) ∧ w.heap.size + 2 < w'.heap.size ∧ Below w.heap.size w w'
theorem NS.keep {w W w4 : World} {a0 a1 a2 x b0 b1 b2 x' : Int} (hS : NS w a0 a1 a2 x b0 b1 b2 x' W) (hb : Below W.heap.size W w4) : NS w a0 a1 a2 x b0 b1 b2 x' w4 := by
  obtain ⟨⟨h0, h1, h2, h3⟩, ⟨k0, k1, k2, k3⟩, h5, z, h6⟩ := hS
  have := hb.size
  exact ⟨⟨keepB hb (by omega) h0, keepB hb (by omega) h1, keepB hb (by omega) h2, keepB hb (by omega) h3⟩, ⟨keepB hb (by omega) k0, keepB hb (by omega) k1, keepB hb (by omega) k2, keepB hb (by omega) k3⟩, h5.below z hb, by omega, h6.trans (hb.mono (by omega))⟩
theorem NS.store {w W : World} {a0 a1 a2 x b0 b1 b2 x' : Int} (hS : NS w a0 a1 a2 x b0 b1 b2 x' W) (x0 x1 x2 x3 : Value) :
    NS w a0 a1 a2 x b0 b1 b2 x' ((((W.setCell ⟨w.heap.size + 2, 0, none⟩ x0).setCell ⟨w.heap.size + 2, 1, none⟩ x1).setCell ⟨w.heap.size + 2, 2, none⟩ x2).setCell ⟨w.heap.size + 2, 3, none⟩ x3) := by
  obtain ⟨⟨h0, h1, h2, h3⟩, ⟨k0, k1, k2, k3⟩, h5, z, h6⟩ := hS
  have e := size_set4 W (w.heap.size + 2) x0 x1 x2 x3
  show NS w a0 a1 a2 x b0 b1 b2 x' (set4 W (w.heap.size + 2) x0 x1 x2 x3)
  exact ⟨⟨cell_set4 _ _ _ _ _ _ _ _ _ (by omega) h0, cell_set4 _ _ _ _ _ _ _ _ _ (by omega) h1, cell_set4 _ _ _ _ _ _ _ _ _ (by omega) h2, cell_set4 _ _ _ _ _ _ _ _ _ (by omega) h3⟩, ⟨cell_set4 _ _ _ _ _ _ _ _ _ (by omega) k0, cell_set4 _ _ _ _ _ _ _ _ _ (by omega) k1, cell_set4 _ _ _ _ _ _ _ _ _ (by omega) k2, cell_set4 _ _ _ _ _ _ _ _ _ (by omega) k3⟩, h5.set4 _ _ _ _, by rw [e]; exact z, below_set4 h6 (by omega) _ _ _ _⟩

set_option maxRecDepth 100000 in
set_option maxHeartbeats 1000000 in
theorem nodeside_any (d d' : Dg) (x x' : Int) (w : World) (h0 : 0 ≤ x) (h0' : 0 ≤ x') (hs : x + x' < 18446744073709551616) :
    Calls Tryz.prog 87 #[sideV d x, sideV d' x'] w fun e w' => e = .returned (sideV (dg (1 :: (sideB (d, x) ++ sideB (d', x')))) (x + x')) ∧ Below w.heap.size w w' := by
  have HN := fun w => hide (nodetext_any d d' x x' w h0 (by omega) h0' (by omega))
  have HL : Hid ((1 :: (sideB (d, x) ++ sideB (d', x'))).length = 23) := by refine hide ?_; simp [sideB_len]
  generalize (1 :: (sideB (d, x) ++ sideB (d', x'))) = T at *
  obtain ⟨t0, t1, t2, hD⟩ : ∃ t0 t1 t2 : Int, digV (dg T) = .agg #[.int .u8 t0, .int .u8 t1, .int .u8 t2] ∧ sideV (dg T) (x + x') = .agg #[.int .u8 t0, .int .u8 t1, .int .u8 t2, .int .u64 (x + x')] := ⟨_, _, _, rfl, rfl⟩
  rw [hD.2]
  have HD := hide hD.1
  have hwr : IntKind.u64.wrap (x + x') = x + x' := by rw [IntKind.wrap_u64]; omega
  clear hs h0 h0' hD
  unfold sideV at *
  generalize (d.1.toNat : Int) = a0 at *
  generalize (d.2.1.toNat : Int) = a1 at *
  generalize (d.2.2.toNat : Int) = a2 at *
  generalize (d'.1.toNat : Int) = b0 at *
  generalize (d'.2.1.toNat : Int) = b1 at *
  generalize (d'.2.2.toNat : Int) = b2 at *
  go_enter Tryz.func87, Tryz.ntmps87
  go_wp2_with fail
  generalize hW : (((w.alloc (Obj.cells #[Value.int IntKind.u8 a0, Value.int IntKind.u8 a1, Value.int IntKind.u8 a2, Value.int IntKind.u64 x] 106)).alloc (Obj.cells #[Value.int IntKind.u8 b0, Value.int IntKind.u8 b1, Value.int IntKind.u8 b2, Value.int IntKind.u64 x'] 106)).alloc (Obj.cells #[Value.int IntKind.u8 0, Value.int IntKind.u8 0, Value.int IntKind.u8 0, Value.int IntKind.u64 0] 106)) = W
  have hSd : NS w a0 a1 a2 x b0 b1 b2 x' W.drew := by
    rw [← hW]
    have k0 := heap_next (o := (Obj.cells #[Value.int IntKind.u8 0, Value.int IntKind.u8 0, Value.int IntKind.u8 0, Value.int IntKind.u64 0] 106)) (heap_next (o := (Obj.cells #[Value.int IntKind.u8 b0, Value.int IntKind.u8 b1, Value.int IntKind.u8 b2, Value.int IntKind.u64 x'] 106)) (heap_alloc_new w (Obj.cells #[Value.int IntKind.u8 a0, Value.int IntKind.u8 a1, Value.int IntKind.u8 a2, Value.int IntKind.u64 x] 106)))
    have k1 := heap_next (o := (Obj.cells #[Value.int IntKind.u8 0, Value.int IntKind.u8 0, Value.int IntKind.u8 0, Value.int IntKind.u64 0] 106)) (heap_new1 w (Obj.cells #[Value.int IntKind.u8 a0, Value.int IntKind.u8 a1, Value.int IntKind.u8 a2, Value.int IntKind.u64 x] 106) (Obj.cells #[Value.int IntKind.u8 b0, Value.int IntKind.u8 b1, Value.int IntKind.u8 b2, Value.int IntKind.u64 x'] 106))
    refine ⟨⟨block_cell k0, block_cell k0, block_cell k0, block_cell k0⟩, ⟨block_cell k1, block_cell k1, block_cell k1, block_cell k1⟩, res4_block (heap_new2 w _ _ _), ?_, ((((Below.refl _ _).alloc (Nat.le_refl _) _).alloc (by simp) _).alloc (by simp; omega) _).drew⟩
    show w.heap.size + 2 < (((w.alloc _).alloc _).alloc _).heap.size
    simp only [World.size_alloc]; omega
  clear hW
  go_region_held3 (fun w' => (w'.cell? ⟨w.heap.size, 0, none⟩ = some (.int .u8 a0) ∧ w'.cell? ⟨w.heap.size, 1, none⟩ = some (.int .u8 a1) ∧ w'.cell? ⟨w.heap.size, 2, none⟩ = some (.int .u8 a2) ∧ w'.cell? ⟨w.heap.size, 3, none⟩ = some (.int .u64 x)) ∧
      (w'.cell? ⟨w.heap.size + 1, 0, none⟩ = some (.int .u8 b0) ∧ w'.cell? ⟨w.heap.size + 1, 1, none⟩ = some (.int .u8 b1) ∧ w'.cell? ⟨w.heap.size + 1, 2, none⟩ = some (.int .u8 b2) ∧ w'.cell? ⟨w.heap.size + 1, 3, none⟩ = some (.int .u64 x')) ∧
      Res4 w' (w.heap.size + 2) ∧ w.heap.size + 2 < w'.heap.size ∧ Below w.heap.size w w')
    (first | with_reducible exact hS5 | with_reducible exact hS4 | with_reducible exact hSd | with_reducible exact NS.store hS5 _ _ _ _)
    (first
      | (go_at_call 101; refine (unhide (HN _)).mono ?_; rintro e w4 ⟨⟨v4, rfl, hown4⟩, hb4⟩; have hS4 := NS.keep hSd hb4; have HS := hide (sum_own hown4 (unhide HL) (by omega) (by unfold maxLen; omega)); rw [unhide HD] at HS)
      | (go_at_call 40; refine (unhide HS).mono ?_; rintro e w5 ⟨rfl, hb5⟩; have hS5 := NS.keep hS4 hb5; obtain ⟨r0, r1, r2, r3, g0, g1, g2, g3, f0, f1, f2, f3⟩ := hS5.2.2.1.cells))
  have HB := hide hS5.2.2.2.2
  clear hS5 hS4 hSd
  go_wp2
  refine bodyPost_ret (v := .agg #[.int .u8 t0, .int .u8 t1, .int .u8 t2, .int .u64 (x + x')]) ?_ rfl ⟨rfl, ?_⟩
  · simp [results, Tryz.results87, go_sem, g0, g1, g2, g3]
  · exact ((((unhide HB).setCell (by simp; try omega) _).setCell (by simp; try omega) _).setCell (by simp; try omega) _).setCell (by simp; try omega) _

end Go.Proofs.YtbjobbkgelipmaaGreat

/-
  A result's room and a new block beside it, wherever it lies.
-/
namespace Go.Proofs.YtbjobbkgelipmaaGreat
open Go.RowKit

/-- The room of a result, at the first new block. -/
structure RB (w : World) (zs : Array Value) (t : TypeId) (w' : World) : Prop where
  res : w'.heap[w.heap.size]? = some (.cells zs t (0, 0))
  below : Below w.heap.size w w'
theorem RB.lt {w w' : World} {zs : Array Value} {t : TypeId} (h : RB w zs t w') : w.heap.size < w'.heap.size := (Array.getElem?_eq_some_iff.1 h.res).1
theorem RB.later {w W w4 : World} {zs : Array Value} {t : TypeId} (h : RB w zs t W) (hb : Below W.heap.size W w4) : RB w zs t w4 :=
  ⟨(hb.block _ h.lt).trans h.res, h.below.trans (hb.mono (Nat.le_of_lt h.lt))⟩
theorem RB.new (w : World) (zs : Array Value) (t : TypeId) : RB w zs t (w.alloc (.cells zs t)) := ⟨heap_alloc_new w _, (Below.refl _ _).alloc (Nat.le_refl _) _⟩
theorem RB.drew {w w' : World} {zs : Array Value} {t : TypeId} (h : RB w zs t w') : RB w zs t w'.drew := ⟨h.res, h.below.drew⟩
theorem RB.alloc {w w' : World} {zs : Array Value} {t : TypeId} (h : RB w zs t w') (o : Obj) : RB w zs t (w'.alloc o) := h.later ((Below.refl _ _).alloc (Nat.le_refl _) _)
theorem RB.set {w w' : World} {zs : Array Value} {t : TypeId} (h : RB w zs t w') {A : Nat} (hA : w.heap.size < A) (i : Nat) (v : Value) : RB w zs t (w'.setCell ⟨A, i, none⟩ v) :=
  ⟨(Below.heap_setCell _ _ _ _ (by show w.heap.size ≠ A; omega)).trans h.res, h.below.setCell (by show w.heap.size ≤ A; omega) _⟩

/-- Beside it a new block. -/
structure MB (w : World) (zs : Array Value) (t : TypeId) (A : Nat) (cs : Array Value) (u : TypeId) (w' : World) : Prop where
  blk : w'.heap[A]? = some (.cells cs u (0, 0))
  gt : w.heap.size < A
  rb : RB w zs t w'
theorem MB.lt {w w' : World} {zs cs : Array Value} {t u : TypeId} {A : Nat} (h : MB w zs t A cs u w') : A < w'.heap.size := (Array.getElem?_eq_some_iff.1 h.blk).1
theorem MB.new {w w' : World} {zs : Array Value} {t : TypeId} (h : RB w zs t w') (cs : Array Value) (u : TypeId) : MB w zs t w'.heap.size cs u (w'.alloc (.cells cs u)) :=
  ⟨heap_alloc_new w' _, h.lt, h.alloc _⟩
theorem MB.later {w W w4 : World} {zs cs : Array Value} {t u : TypeId} {A : Nat} (h : MB w zs t A cs u W) (hb : Below W.heap.size W w4) : MB w zs t A cs u w4 :=
  ⟨(hb.block _ h.lt).trans h.blk, h.gt, h.rb.later hb⟩
theorem MB.drew {w w' : World} {zs cs : Array Value} {t u : TypeId} {A : Nat} (h : MB w zs t A cs u w') : MB w zs t A cs u w'.drew := ⟨h.blk, h.gt, h.rb.drew⟩
theorem MB.set {w w' : World} {zs cs : Array Value} {t u : TypeId} {A : Nat} (h : MB w zs t A cs u w') (i : Nat) (v : Value) : MB w zs t A (cs.setIfInBounds i v) u (w'.setCell ⟨A, i, none⟩ v) :=
  ⟨heap_setCell_same _ A i _ _ v h.blk, h.gt, h.rb.set h.gt i v⟩
theorem MB.cell {w w' : World} {zs cs : Array Value} {t u : TypeId} {A : Nat} (h : MB w zs t A cs u w') (i : Nat) : w'.cell? ⟨A, i, none⟩ = cs[i]? := block_cell h.blk
theorem MB.free {w w' : World} {zs cs : Array Value} {t u : TypeId} {A : Nat} (h : MB w zs t A cs u w') (i : Nat) : w'.frozen? ⟨A, i, none⟩ = false := block_free h.blk
theorem RB.cell {w w' : World} {zs : Array Value} {t : TypeId} (h : RB w zs t w') (i : Nat) : w'.cell? ⟨w.heap.size, i, none⟩ = zs[i]? := block_cell h.res
theorem RB.free {w w' : World} {zs : Array Value} {t : TypeId} (h : RB w zs t w') (i : Nat) : w'.frozen? ⟨w.heap.size, i, none⟩ = false := block_free h.res
theorem MB.setR {w w' : World} {zs cs : Array Value} {t u : TypeId} {A : Nat} (h : MB w zs t A cs u w') (i : Nat) (v : Value) : MB w (zs.setIfInBounds i v) t A cs u (w'.setCell ⟨w.heap.size, i, none⟩ v) :=
  ⟨(Below.heap_setCell _ _ _ _ (by have := h.gt; show A ≠ w.heap.size; omega)).trans h.blk, h.gt, ⟨heap_setCell_same _ _ i _ _ v h.rb.res, h.rb.below.setCell (by show w.heap.size ≤ w.heap.size; omega) _⟩⟩
theorem RB.setR {w w' : World} {zs : Array Value} {t : TypeId} (h : RB w zs t w') (i : Nat) (v : Value) : RB w (zs.setIfInBounds i v) t (w'.setCell ⟨w.heap.size, i, none⟩ v) :=
  ⟨heap_setCell_same _ _ i _ _ v h.res, h.below.setCell (by show w.heap.size ≤ w.heap.size; omega) _⟩

end Go.Proofs.YtbjobbkgelipmaaGreat

/-
  titheref's book: what lies in memory, and the walk of find.
-/
namespace Go.Proofs.YtbjobbkgelipmaaGreat
open Go.RowKit

/-- Accounts' cells. -/
def acctVals (A : List (List UInt8 × Int)) : List Value := A.flatMap fun a => [strV a.1, .int .u64 a.2]
theorem acctVals_len (A : List (List UInt8 × Int)) : (acctVals A).length = A.length * 2 := by
  induction A with
  | nil => rfl
  | cons a t ih =>
    unfold acctVals at *
    rw [List.flatMap_cons, List.length_append, ih]
    simp
    omega
theorem acctVals_at : ∀ (A : List (List UInt8 × Int)) (i : Nat) (hi : i < A.length), (acctVals A)[i * 2]? = some (strV A[i].1) ∧ (acctVals A)[i * 2 + 1]? = some (.int .u64 A[i].2)
  | a :: t, 0, _ => ⟨rfl, rfl⟩
  | a :: t, i + 1, hi => by
    have := acctVals_at t i (by simpa using hi)
    unfold acctVals at *
    rw [List.flatMap_cons, List.getElem?_append_right (by simp; omega), List.getElem?_append_right (by simp; omega)]
    simp only [List.length_cons, List.length_nil]
    rw [show (i + 1) * 2 - (0 + 1 + 1) = i * 2 by omega, show (i + 1) * 2 + 1 - (0 + 1 + 1) = i * 2 + 1 by omega]
    simpa using this

/-- A book of titheref's that lies in memory: its accounts, in their order; its tree. -/
structure RefT (N : Nat) (W : World) (Rb : Nat) (h seed : Int) (A : List (List UInt8 × Int)) (lv : Value) (th : Int) (tv : Value) (told : Bool) : Prop where
  blk : W.heap[Rb]? = some (.cells #[.int .i64 h, .int .u64 seed, lv, .int .i64 th, tv, .bool told] 96 (0, 0))
  own : W.ownsRow N 98 2 lv A.length (acctVals A)

theorem RefT.slice {N : Nat} {W : World} {Rb : Nat} {h seed : Int} {A : List (List UInt8 × Int)} {lv : Value} {th : Int} {tv : Value} {told : Bool} (r : RefT N W Rb h seed A lv th tv told) : ∃ a c, lv = .slice a A.length c ∧ A.length ≤ c ∧ (0 < A.length → ∃ g, a = some ⟨g, 0, none⟩ ∧ N ≤ g ∧ (∃ cur, W.heap[g]? = some (.cells cur 98 (0, 0))) ∧ ∀ i (hi : i < A.length), W.cell? ⟨g, i * 2, none⟩ = some (strV A[i].1) ∧ W.cell? ⟨g, i * 2 + 1, none⟩ = some (.int .u64 A[i].2)) := by
  rcases r.own.2 with ⟨e1, e2⟩ | ⟨g, cap, cur, e1, e2, e3, e4, _, e6, e7⟩
  · exact ⟨none, 0, by rw [e1, e2], by omega, fun h => by omega⟩
  · refine ⟨some ⟨g, 0, none⟩, cap, e1, e4, fun _ => ⟨g, rfl, e2, ⟨cur, e3⟩, fun i hi => ?_⟩⟩
    have key : ∀ j, j < A.length * 2 → W.cell? ⟨g, j, none⟩ = (acctVals A)[j]? := fun j hj => by
      rw [block_cell e3, ← e7, List.getElem?_take, if_pos hj]
      simp
    rw [key _ (by omega), key _ (by omega)]
    exact acctVals_at A i hi

/-- The number of an account: -1, if there is none. -/
def findI : List (List UInt8 × Int) → List UInt8 → Int
  | [], _ => -1
  | a :: t, s => if a.1 = s then 0 else if findI t s < 0 then -1 else findI t s + 1
theorem findI_from (s : List UInt8) : ∀ (A : List (List UInt8 × Int)), (findI A s = -1 ∧ ∀ a ∈ A, a.1 ≠ s) ∨ ∃ i, ∃ hi : i < A.length, findI A s = (i : Int) ∧ A[i].1 = s ∧ ∀ j (hj : j < i), (A[j]'(by omega)).1 ≠ s
  | [] => .inl ⟨rfl, fun a ha => by cases ha⟩
  | a :: t => by
    by_cases e : a.1 = s
    · exact .inr ⟨0, by simp, by unfold findI; rw [if_pos e]; rfl, e, fun j hj => by omega⟩
    · rcases findI_from s t with ⟨h1, h2⟩ | ⟨i, hi, h1, h2, h3⟩
      · refine .inl ⟨by unfold findI; rw [if_neg e, if_pos (by omega)], fun b hb => ?_⟩
        rcases List.mem_cons.1 hb with rfl | hb
        · exact e
        · exact h2 b hb
      · refine .inr ⟨i + 1, by simpa using hi, by unfold findI; rw [if_neg e, if_neg (by omega), h1]; rfl, by simpa using h2, fun j hj => ?_⟩
        cases j with
        | zero => simpa using e
        | succ j => simpa using h3 j (by omega)

set_option maxHeartbeats 400000 in
set_option maxRecDepth 100000 in
theorem find_any {N : Nat} {w : World} {Rb : Nat} {h seed : Int} {A : List (List UInt8 × Int)} {lv : Value} {th : Int} {tv : Value} {told : Bool} (r : RefT N w Rb h seed A lv th tv told) (s : List UInt8) (hA : A.length < 9223372036854775807) :
    Calls Tryz.prog 49 #[.pointer (some ⟨Rb, 0, none⟩), strV s] w fun e w' => e = .returned (.int .i64 (findI A s)) ∧ w' = w := by
  obtain ⟨a, c, rfl, hc, hg⟩ := r.slice
  have c2 : w.cell? ⟨Rb, 2, none⟩ = some (.slice a A.length c) := block_cell r.blk
  have hf := findI_from s A
  have HG := hide hg
  have HF := hide hf
  obtain ⟨n, hn⟩ : ∃ n, A.length = n := ⟨_, rfl⟩
  rw [hn] at c2 hA
  clear r hg hf
  unfold strV
  go_enter Tryz.func49, Tryz.ntmps49
  go_wp2_with fail
  go_loop [5] (fun i => ∃ k : Nat, k ≤ n ∧ i = .int .i64 k ∧ ∀ j (hj : j < A.length), j < k → A[j].1 ≠ s) (fun i => n - (intOf i).toNat)
  case atStart => exact ⟨0, Nat.zero_le _, rfl, fun _ _ h => by omega⟩
  case round =>
    obtain ⟨k, hk, rfl, hno⟩ := hrel
    have HNO := hide hno
    clear hno
    by_cases hlt : k < n
    · have hkA : k < A.length := by omega
      obtain ⟨g, rfl, _, _, hcs⟩ := unhide HG (by omega)
      have ck := (hcs k hkA).1
      unfold strV at ck
      have ik : (k : Int) < (n : Int) := by omega
      by_cases he : A[k].1 = s
      · have HK : Hid (findI A s = (k : Int)) := by
          rcases unhide HF with ⟨_, h2⟩ | ⟨i, hi, h1, h2, h3⟩
          · exact absurd he (h2 _ (List.getElem_mem hkA))
          · have e : i = k := by
              rcases Nat.lt_trichotomy i k with h | h | h
              · exact absurd h2 (unhide HNO i hi h)
              · exact h
              · exact absurd he (h3 k h)
            rw [h1, e]
            exact rfl
        rw [he] at ck
        clear hcs
        go_wp2
        go_ret
        exact ⟨by rw [unhide HK]; rfl, rfl⟩
      · have hne : (A[k].1 == s) = false := by simp [he]
        generalize hak : A[k].1 = ak at *
        clear hcs
        go_wp2
        refine ⟨⟨k + 1, by omega, by go_num, fun j hj hjk => ?_⟩, by simp [intOf]; omega⟩
        by_cases e : j = k
        · subst e
          rw [hak]
          exact he
        · exact unhide HNO j hj (by omega)
    · have HK : Hid (findI A s = -1) := by
        rcases unhide HF with ⟨h1, _⟩ | ⟨i, hi, h1, h2, h3⟩
        · exact h1
        · exact absurd h2 (unhide HNO i hi (by omega))
      go_wp2
      go_ret
      exact ⟨by rw [unhide HK]; rfl, rfl⟩

end Go.Proofs.YtbjobbkgelipmaaGreat

/-
  The walks of tithe's add and take.
-/
namespace Go.Proofs.YtbjobbkgelipmaaGreat
open Go.RowKit

def capS (x : Int) : Int := min x 4611686018427387905
theorem capS_le (x y : Int) (h0 : 0 ≤ x) (h1 : 0 ≤ y) : (capS x + capS y ≤ maxS ↔ x + y ≤ maxS) ∧ 0 ≤ capS x ∧ capS x ≤ 4611686018427387905 := by
  unfold capS maxS; omega
theorem capS_id (x y : Int) (h0 : 0 ≤ x) (h1 : 0 ≤ y) (h : x + y ≤ maxS) : capS x + capS y = x + y := by
  unfold capS maxS at *; omega

set_option maxHeartbeats 400000 in
set_option maxRecDepth 100000 in
theorem add_any (x y : Int) (w : World) (h0 : 0 ≤ x) (h1 : 0 ≤ y) :
    Calls Tryz.prog 50 #[.int .u64 x, .int .u64 y] w fun e w' => e = .returned (.tuple #[.int .u64 (capS x + capS y), .bool (decide (x + y ≤ maxS))]) ∧ w' = w := by
  have e : decide (x + y ≤ maxS) = decide (capS x + capS y ≤ 4611686018427387904) := decide_eq_decide.2 (capS_le x y h0 h1).1.symm
  have hx := (capS_le x y h0 h1).2
  have hy := (capS_le y x h1 h0).2
  have hwr : IntKind.u64.wrap (capS x + capS y) = capS x + capS y := by rw [IntKind.wrap_u64]; omega
  rw [e]
  have hc1 : min x 4611686018427387905 = capS x := rfl
  have hc2 : min y 4611686018427387905 = capS y := rfl
  generalize hb : decide (capS x + capS y ≤ 4611686018427387904) = bb
  clear e hx hy h0 h1
  go_enter Tryz.func50, Tryz.ntmps50
  go_wp2
  go_ret2
  refine ⟨?_, rfl⟩
  simp

set_option maxHeartbeats 400000 in
set_option maxRecDepth 100000 in
theorem take_any (x y : Int) (w : World) (h0 : 0 ≤ x) (h1 : 0 ≤ y) (h2 : x < 18446744073709551616) (h3 : y < 18446744073709551616) :
    Calls Tryz.prog 51 #[.int .u64 x, .int .u64 y] w fun e w' => e = .returned (.tuple #[.int .u64 (max x y - y), .bool (decide (y ≤ x))]) ∧ w' = w := by
  have hwr : IntKind.u64.wrap (max x y - y) = max x y - y := by rw [IntKind.wrap_u64]; omega
  have e : (max x y == x) = decide (y ≤ x) := by
    rw [Bool.eq_iff_iff, beq_iff_eq, decide_eq_true_iff]; omega
  rw [← e]
  generalize hb : (max x y == x) = bb
  clear e h0 h1 h2 h3
  go_enter Tryz.func51, Tryz.ntmps51
  go_wp2
  go_ret2
  refine ⟨?_, rfl⟩
  simp

end Go.Proofs.YtbjobbkgelipmaaGreat
