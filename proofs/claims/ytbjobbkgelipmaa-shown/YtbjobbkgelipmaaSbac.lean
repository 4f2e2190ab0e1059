/-
  Each arm of tithekeep's Steps in plain words.
-/
import Derived.Test.YtbjobbkgelipmaaSbab
import Derived.Test.YtbjobbkgelipmaaSbaa
namespace Go.Proofs.Ytbjobbkgelipmaa
open Go.RowKit

section
variable {w W : World} {B M Q L I T H : Nat} {kd A Bn n : Int} {x : Nat → Int} {y : Nat → Bool} {E E' : List Acct} {q r : Nat}
theorem BkI.drew {hh seed : Int} {last : Option Addr} (hb : BkI w W B M hh seed last E) : BkI w W.drew B M hh seed last E := ⟨hb.book.heap rfl, hb.low, hb.six, hb.below.drew⟩
theorem SA.drew {N : Nat} {x' : Nat → Int} {y' : Nat → Bool} (h : SA N W Q L I T H kd A Bn n x y x' y') : SA N W.drew Q L I T H kd A Bn n x y x' y' := ⟨h.q, h.l, h.i, h.t, h.h, h.tl, h.hl, h.lt, h.ih⟩
theorem Swd.drew {e : Int} {may : Bool} {x' : Nat → Int} {y' : Nat → Bool} (h : Swd w W B M Q L I T H kd A Bn n x y e may E' x' y') : Swd w W.drew B M Q L I T H kd A Bn n x y e may E' x' y' := ⟨h.er, h.bk.drew, h.sa.drew, h.yes, h.no⟩
theorem sa_drewN {N : Nat} {x' : Nat → Int} {y' : Nat → Bool} (h : SA N W Q L I T H kd A Bn n x y x' y') (d : Nat) : SA N (W.drewN d) Q L I T H kd A Bn n x y x' y' := ⟨h.q, h.l, h.i, h.t, h.h, h.tl, h.hl, h.lt, h.ih⟩
theorem bki_drewN {hh seed : Int} {last : Option Addr} (hb : BkI w W B M hh seed last E) (d : Nat) : BkI w (W.drewN d) B M hh seed last E := ⟨hb.book.heap rfl, hb.low, hb.six, below_drewN hb.below d⟩
theorem six_le (h : ∀ i, 0 ≤ x i) : (∀ i, i < 6 → x i ≤ six x) ∧ ∀ i j, i < 6 → j < 6 → i ≠ j → x i + x j ≤ six x := by
  have h0 := h 0
  have h1 := h 1
  have h2 := h 2
  have h3 := h 3
  have h4 := h 4
  have h5 := h 5
  unfold six
  refine ⟨fun i hi => ?_, fun i j hi hj hij => ?_⟩
  · have K6 : i = 0 ∨ i = 1 ∨ i = 2 ∨ i = 3 ∨ i = 4 ∨ i = 5 := by omega
    rcases K6 with rfl | rfl | rfl | rfl | rfl | rfl <;> omega
  · have K6 : i = 0 ∨ i = 1 ∨ i = 2 ∨ i = 3 ∨ i = 4 ∨ i = 5 := by omega
    have J6 : j = 0 ∨ j = 1 ∨ j = 2 ∨ j = 3 ∨ j = 4 ∨ j = 5 := by omega
    rcases K6 with rfl | rfl | rfl | rfl | rfl | rfl <;> rcases J6 with rfl | rfl | rfl | rfl | rfl | rfl <;> first | omega | exact absurd rfl hij
theorem fE_some {f : Option Int} (h : f.isSome = true) : ∃ b, f = some b ∧ f.getD 0 = b := by
  cases f with
  | none => cases h
  | some b => exact ⟨b, rfl, rfl⟩
theorem fE_none {f : Option Int} (h : f.isSome = false) : f = none := by
  cases f with
  | none => rfl
  | some b => cases h
theorem fe_same (h : ∀ i, i < 6 → fE E' i = fE E i) : ∀ i, i < 6 → xE E i = xE E' i ∧ (fE E i).isSome = (fE E' i).isSome := fun i hi => by
  unfold xE
  rw [h i hi]
  exact ⟨rfl, rfl⟩

theorem swd_open (hx : xE E = x) (hy : (fun i => (fE E i).isSome) = y) (bk : BkI w W B M 6 0 none E') (hf : ∀ i, i < 6 → fE E' i = (opOpen (fE E) q).2 i) (sa : SA w.heap.size W Q L I T H kd A Bn n x y x (updB y q true)) :
    Swd w W B M Q L I T H kd A Bn n x y (opOpen (fE E) q).1 (!(y q)) E' x (updB y q true) := by
  subst hx hy
  unfold opOpen at hf ⊢
  cases hs : (fE E q).isSome
  · rw [hs] at hf
    simp only [Bool.false_eq_true, if_false] at hf ⊢
    refine ⟨by simp only [hs]; rfl, bk, sa, fun _ i hi => ?_, fun h => by simp only [hs] at h; cases h⟩
    have h0 := fE_none hs
    unfold xE
    rw [hf i hi]
    unfold updF updB
    by_cases e : i = q
    · rw [if_pos e, if_pos e, e, h0]; exact ⟨rfl, rfl⟩
    · rw [if_neg e, if_neg e]; exact ⟨rfl, rfl⟩
  · rw [hs] at hf
    simp only [if_true] at hf ⊢
    exact ⟨by simp only [hs]; rfl, bk, sa, fun h => (by simp only [hs] at h; cases h), fun _ => fe_same hf⟩

theorem swd_pay (hx : xE E = x) (hy : (fun i => (fE E i).isSome) = y) (_hst : six x ≤ maxS) (hpos : ∀ i, 0 ≤ x i) (hle : ∀ i, i < 6 → x i ≤ six x) (hq : q < 6) (hn : 0 ≤ n) (bk : BkI w W B M 6 0 none E') (hf : ∀ i, i < 6 → fE E' i = (opPay (fE E) (six x) q n).2 i) {z : Int} (hz : z = IntKind.u64.wrap (x q + n)) (sa : SA w.heap.size W Q L I T H kd A Bn n x y (updI x q z) y) {may : Bool} (hmay : may = (y q && decide (n ≤ maxS - six x))) :
    Swd w W B M Q L I T H kd A Bn n x y (opPay (fE E) (six x) q n).1 may E' (updI x q z) y := by
  have hqx : x q = (fE E q).getD 0 := by rw [← hx]; rfl
  have hle' := hle q hq
  have h0 := hpos q
  rw [IntKind.wrap_u64] at hz
  subst hy hmay
  have hxi : ∀ i, x i = (fE E i).getD 0 := fun i => by rw [← hx]; rfl
  cases hs : (fE E q).isSome
  · rw [fE_none hs, Option.getD_none] at hqx
    have e1 : opPay (fE E) (six x) q n = (4, fE E) := by unfold opPay; rw [fE_none hs]
    rw [e1] at hf ⊢
    refine ⟨by simp only [hs]; rfl, bk, sa, fun h => (by simp only [hs] at h; cases h), fun _ i hi => ?_⟩
    rw [← hx]
    exact fe_same hf i hi
  · obtain ⟨b, hb, hb0⟩ := fE_some hs
    by_cases hc : six x + n ≤ maxS
    · have e1 : opPay (fE E) (six x) q n = (0, updF (fE E) q (some (b + n))) := by unfold opPay; rw [hb]; simp only; rw [if_pos hc]
      rw [e1] at hf ⊢
      have hd : decide (n ≤ maxS - six x) = true := decide_eq_true (by omega)
      refine ⟨by simp only [hs, hd]; rfl, bk, sa, fun _ i hi => ?_, fun h => (by simp only [hs, hd] at h; cases h)⟩
      have hf' := hf i hi
      dsimp only at hf'
      unfold xE
      rw [hf']
      unfold updI updF
      by_cases e : i = q
      · rw [if_pos e, if_pos e]
        refine ⟨?_, by rw [e]; exact hs⟩
        show z = b + n
        unfold maxS at hc
        omega
      · rw [if_neg e, if_neg e]; exact ⟨hxi i, rfl⟩
    · have e1 : opPay (fE E) (six x) q n = (5, fE E) := by unfold opPay; rw [hb]; simp only; rw [if_neg hc]
      rw [e1] at hf ⊢
      have hd : decide (n ≤ maxS - six x) = false := decide_eq_false (by omega)
      refine ⟨by simp only [hs, hd]; rfl, bk, sa, fun h => (by simp only [hs, hd] at h; cases h), fun _ i hi => ?_⟩
      rw [← hx]
      exact fe_same hf i hi

theorem swd_draw (hx : xE E = x) (hy : (fun i => (fE E i).isSome) = y) (hst : six x ≤ maxS) (hpos : ∀ i, 0 ≤ x i) (hle : ∀ i, i < 6 → x i ≤ six x) (hq : q < 6) (hn : 0 ≤ n) (bk : BkI w W B M 6 0 none E') (hf : ∀ i, i < 6 → fE E' i = (opDraw (fE E) q n).2 i) {z : Int} (hz : z = IntKind.u64.wrap (x q - n)) (sa : SA w.heap.size W Q L I T H kd A Bn n x y (updI x q z) y) {may : Bool} (hmay : may = (y q && decide (n ≤ x q))) :
    Swd w W B M Q L I T H kd A Bn n x y (opDraw (fE E) q n).1 may E' (updI x q z) y := by
  have hqx : x q = (fE E q).getD 0 := by rw [← hx]; rfl
  have hle' := hle q hq
  have h0 := hpos q
  rw [IntKind.wrap_u64] at hz
  subst hy hmay
  have hxi : ∀ i, x i = (fE E i).getD 0 := fun i => by rw [← hx]; rfl
  cases hs : (fE E q).isSome
  · rw [fE_none hs, Option.getD_none] at hqx
    have e1 : opDraw (fE E) q n = (4, fE E) := by unfold opDraw; rw [fE_none hs]
    rw [e1] at hf ⊢
    refine ⟨by simp only [hs]; rfl, bk, sa, fun h => (by simp only [hs] at h; cases h), fun _ i hi => ?_⟩
    rw [← hx]
    exact fe_same hf i hi
  · obtain ⟨b, hb, hb0⟩ := fE_some hs
    by_cases hc : n ≤ b
    · have e1 : opDraw (fE E) q n = (0, updF (fE E) q (some (b - n))) := by unfold opDraw; rw [hb]; simp only; rw [if_pos hc]
      rw [e1] at hf ⊢
      have hd : decide (n ≤ x q) = true := decide_eq_true (by omega)
      refine ⟨by simp only [hs, hd]; rfl, bk, sa, fun _ i hi => ?_, fun h => (by simp only [hs, hd] at h; cases h)⟩
      have hf' := hf i hi
      dsimp only at hf'
      unfold xE
      rw [hf']
      unfold updI updF
      by_cases e : i = q
      · rw [if_pos e, if_pos e]
        refine ⟨?_, by rw [e]; exact hs⟩
        show z = b - n
        unfold maxS at hst
        omega
      · rw [if_neg e, if_neg e]; exact ⟨hxi i, rfl⟩
    · have e1 : opDraw (fE E) q n = (5, fE E) := by unfold opDraw; rw [hb]; simp only; rw [if_neg hc]
      rw [e1] at hf ⊢
      have hd : decide (n ≤ x q) = false := decide_eq_false (by omega)
      refine ⟨by simp only [hs, hd]; rfl, bk, sa, fun h => (by simp only [hs, hd] at h; cases h), fun _ i hi => ?_⟩
      rw [← hx]
      exact fe_same hf i hi

theorem swd_move (hx : xE E = x) (hy : (fun i => (fE E i).isSome) = y) (hst : six x ≤ maxS) (hpos : ∀ i, 0 ≤ x i) (hle : ∀ i, i < 6 → x i ≤ six x) (hle2 : ∀ i j, i < 6 → j < 6 → i ≠ j → x i + x j ≤ six x) (hq : q < 6) (hr : r < 6) (hn : 0 ≤ n) (bk : BkI w W B M 6 0 none E') (hf : ∀ i, i < 6 → fE E' i = (opMove (fE E) q r n).2 i) {z z' : Int} (hz : z = IntKind.u64.wrap (x q - n)) (hz' : z' = IntKind.u64.wrap (updI x q z r + n)) (sa : SA w.heap.size W Q L I T H kd A Bn n x y (updI (updI x q z) r z') y) {may : Bool} (hmay : may = (y q && (y r && decide (n ≤ x q)))) :
    Swd w W B M Q L I T H kd A Bn n x y (opMove (fE E) q r n).1 may E' (updI (updI x q z) r z') y := by
  have hqx : x q = (fE E q).getD 0 := by rw [← hx]; rfl
  have hrx : x r = (fE E r).getD 0 := by rw [← hx]; rfl
  have hle' := hle q hq
  have hler := hle r hr
  have hl2 := hle2 q r hq hr
  have h0 := hpos q
  have h0r := hpos r
  rw [IntKind.wrap_u64] at hz hz'
  subst hy hmay
  have hxi : ∀ i, x i = (fE E i).getD 0 := fun i => by rw [← hx]; rfl
  cases hs : (fE E q).isSome
  · rw [fE_none hs, Option.getD_none] at hqx
    have e1 : opMove (fE E) q r n = (4, fE E) := by unfold opMove; rw [fE_none hs]
    rw [e1] at hf ⊢
    refine ⟨by simp only [hs]; rfl, bk, sa, fun h => (by simp only [hs] at h; cases h), fun _ i hi => ?_⟩
    rw [← hx]
    exact fe_same hf i hi
  · obtain ⟨b, hb, hb0⟩ := fE_some hs
    cases hs2 : (fE E r).isSome
    · have e1 : opMove (fE E) q r n = (4, fE E) := by unfold opMove; rw [hb, fE_none hs2]
      rw [e1] at hf ⊢
      refine ⟨by simp only [hs, hs2]; rfl, bk, sa, fun h => (by simp only [hs, hs2] at h; cases h), fun _ i hi => ?_⟩
      rw [← hx]
      exact fe_same hf i hi
    · obtain ⟨c, hc0, hc1⟩ := fE_some hs2
      by_cases hc : n ≤ b
      · have e1 : opMove (fE E) q r n = (0, updF (updF (fE E) q (some (b - n))) r (some ((if r = q then b - n else c) + n))) := by unfold opMove; rw [hb, hc0]; simp only; rw [if_pos hc]
        rw [e1] at hf ⊢
        have hd : decide (n ≤ x q) = true := decide_eq_true (by omega)
        have ez : z = b - n := by unfold maxS at hst; omega
        have ez' : z' = (if r = q then b - n else c) + n := by
          unfold maxS at hst
          unfold updI at hz'
          by_cases e : r = q
          · rw [if_pos e] at hz' ⊢
            omega
          · rw [if_neg e] at hz' ⊢
            have := hl2 (fun h => e h.symm)
            omega
        refine ⟨by simp only [hs, hs2, hd]; rfl, bk, sa, fun _ i hi => ?_, fun h => (by simp only [hs, hs2, hd] at h; cases h)⟩
        have hf' := hf i hi
        dsimp only at hf'
        unfold xE
        rw [hf']
        unfold updI updF
        by_cases e : i = r
        · rw [if_pos e, if_pos e]
          exact ⟨ez', by rw [e]; exact hs2⟩
        · rw [if_neg e, if_neg e]
          by_cases e2 : i = q
          · rw [if_pos e2, if_pos e2]
            exact ⟨ez, by rw [e2]; exact hs⟩
          · rw [if_neg e2, if_neg e2]; exact ⟨hxi i, rfl⟩
      · have e1 : opMove (fE E) q r n = (5, fE E) := by unfold opMove; rw [hb, hc0]; simp only; rw [if_neg hc]
        rw [e1] at hf ⊢
        have hd : decide (n ≤ x q) = false := decide_eq_false (by omega)
        refine ⟨by simp only [hs, hs2, hd]; rfl, bk, sa, fun h => (by simp only [hs, hs2, hd] at h; cases h), fun _ i hi => ?_⟩
        rw [← hx]
        exact fe_same hf i hi

theorem swd_close (hx : xE E = x) (hy : (fun i => (fE E i).isSome) = y) (bk : BkI w W B M 6 0 none E') (hf : ∀ i, i < 6 → fE E' i = (opClose (fE E) q).2 i) (sa : SA w.heap.size W Q L I T H kd A Bn n x y x (updB y q false)) {may : Bool} (hmay : may = (y q && decide (x q = 0))) :
    Swd w W B M Q L I T H kd A Bn n x y (opClose (fE E) q).1 may E' x (updB y q false) := by
  have hqx : x q = (fE E q).getD 0 := by rw [← hx]; rfl
  have hxi : ∀ i, x i = (fE E i).getD 0 := fun i => by rw [← hx]; rfl
  subst hy hmay
  cases hs : (fE E q).isSome
  · have e1 : opClose (fE E) q = (4, fE E) := by unfold opClose; rw [fE_none hs]
    rw [e1] at hf ⊢
    refine ⟨by simp only [hs]; rfl, bk, sa, fun h => (by simp only [hs] at h; cases h), fun _ i hi => ?_⟩
    rw [← hx]
    exact fe_same hf i hi
  · obtain ⟨b, hb, hb0⟩ := fE_some hs
    by_cases hc : b = 0
    · have e1 : opClose (fE E) q = (0, updF (fE E) q none) := by unfold opClose; rw [hb]; simp only; rw [if_pos hc]
      rw [e1] at hf ⊢
      have hd : decide (x q = 0) = true := decide_eq_true (by omega)
      refine ⟨by simp only [hs, hd]; rfl, bk, sa, fun _ i hi => ?_, fun h => (by simp only [hs, hd] at h; cases h)⟩
      have hf' := hf i hi
      dsimp only at hf'
      unfold xE
      rw [hf']
      unfold updB updF
      by_cases e : i = q
      · rw [if_pos e, if_pos e]
        refine ⟨?_, rfl⟩
        rw [e]
        show x q = 0
        omega
      · rw [if_neg e, if_neg e]; exact ⟨hxi i, rfl⟩
    · have e1 : opClose (fE E) q = (6, fE E) := by unfold opClose; rw [hb]; simp only; rw [if_neg hc]
      rw [e1] at hf ⊢
      have hd : decide (x q = 0) = false := decide_eq_false (by omega)
      refine ⟨by simp only [hs, hd]; rfl, bk, sa, fun h => (by simp only [hs, hd] at h; cases h), fun _ i hi => ?_⟩
      rw [← hx]
      exact fe_same hf i hi
end

end Go.Proofs.Ytbjobbkgelipmaa

/-
  Arrays of six that are the same; what stands again where a step was refused.
-/
namespace Go.Proofs.Ytbjobbkgelipmaa
open Go.RowKit

theorem Try.underlying6n : Try.prog.underlying 34 = some (.array 6 28) := by kernel_rfl
theorem Try.underlying6b : Try.prog.underlying 35 = some (.array 6 4) := by kernel_rfl
theorem Try.cells6n : Try.prog.cellsOf 28 = 1 := by kernel_rfl
theorem Try.cells6b : Try.prog.cellsOf 4 = 1 := by kernel_rfl
theorem Try.plain6n : Try.prog.plainKey 28 = true := by kernel_rfl
theorem Try.plain6b : Try.prog.plainKey 4 = true := by kernel_rfl
theorem Try.info6n : (Try.prog.info? 28).map (fun i => (i.zero, i.size, i.bytes)) = some (some (.int .u64 0), 1, 8) := by kernel_rfl
theorem Try.info6b : (Try.prog.info? 4).map (fun i => (i.zero, i.size, i.bytes)) = some (some (.bool false), 1, 1) := by kernel_rfl

theorem eqItems_same (d : Nat) (t : TypeId) (l : Array Value) (w : World) (hp : ∀ k v, l[k]? = some v → (part t l k).run Try.prog w = .ok v w) (hq : ∀ v, v ∈ l → (Op.equalIn d t v v).run Try.prog w = .ok true w) : ∀ ks : List Nat, (∀ k ∈ ks, k < l.size) → (Op.eqItems d t 1 l l ks).run Try.prog w = .ok true w
  | [], _ => by simp [Op.eqItems]
  | k :: ks, hk => by
    have hl : k < l.size := hk k (by simp)
    have hx : l[k * 1]? = some l[k] := by rw [Nat.mul_one]; exact Array.getElem?_eq_getElem hl
    have ih := eqItems_same d t l w hp hq ks (fun j hj => hk j (List.mem_cons_of_mem _ hj))
    simp only [Op.eqItems, Sem.run_bind, hp _ _ hx, Result.andThen_ok, hq _ (Array.getElem_mem hl), Bool.not_true, Bool.false_eq_true, if_false, ih]

theorem eql_six (w : World) (a0 a1 a2 a3 a4 a5 : Int) :
    (Op.equalIn 10000 34 (.agg #[.int .u64 a0, .int .u64 a1, .int .u64 a2, .int .u64 a3, .int .u64 a4, .int .u64 a5]) (.agg #[.int .u64 a0, .int .u64 a1, .int .u64 a2, .int .u64 a3, .int .u64 a4, .int .u64 a5])).run Try.prog w = .ok true w := by
  obtain ⟨i0, hi, hz0, hz1, hz2⟩ := info_parts Try.info6n
  have h := run_equalIn_array (P := Try.prog) w 9999 #[.int .u64 a0, .int .u64 a1, .int .u64 a2, .int .u64 a3, .int .u64 a4, .int .u64 a5] #[.int .u64 a0, .int .u64 a1, .int .u64 a2, .int .u64 a3, .int .u64 a4, .int .u64 a5] Try.underlying6n hi
  have e : (9999 + 1 : Nat) = 10000 := rfl
  rw [e] at h
  rw [h, Try.cells6n]
  refine eqItems_same 9999 28 _ w (fun k v hx => run_part_plain w Try.plain6n hx) (fun v hv => ?_) (List.range 6) (fun k hk => by simpa using hk)
  have : ∃ x, v = .int .u64 x := by
    simp at hv
    rcases hv with rfl | rfl | rfl | rfl | rfl | rfl <;> exact ⟨_, rfl⟩
  obtain ⟨x, rfl⟩ := this
  exact (run_equalIn_int w 9998 28 .u64 .u64 x x Try.underlying28).trans (by simp)

theorem eql_sixb (w : World) (a0 a1 a2 a3 a4 a5 : Bool) :
    (Op.equalIn 10000 35 (.agg #[.bool a0, .bool a1, .bool a2, .bool a3, .bool a4, .bool a5]) (.agg #[.bool a0, .bool a1, .bool a2, .bool a3, .bool a4, .bool a5])).run Try.prog w = .ok true w := by
  obtain ⟨i0, hi, hz0, hz1, hz2⟩ := info_parts Try.info6b
  have h := run_equalIn_array (P := Try.prog) w 9999 #[.bool a0, .bool a1, .bool a2, .bool a3, .bool a4, .bool a5] #[.bool a0, .bool a1, .bool a2, .bool a3, .bool a4, .bool a5] Try.underlying6b hi
  have e : (9999 + 1 : Nat) = 10000 := rfl
  rw [e] at h
  rw [h, Try.cells6b]
  refine eqItems_same 9999 4 _ w (fun k v hx => run_part_plain w Try.plain6b hx) (fun v hv => ?_) (List.range 6) (fun k hk => by simpa using hk)
  have : ∃ x, v = .bool x := by
    simp at hv
    rcases hv with rfl | rfl | rfl | rfl | rfl | rfl <;> exact ⟨_, rfl⟩
  obtain ⟨x, rfl⟩ := this
  exact (run_equalIn_bool w 9998 4 x x Try.underlying4).trans (by simp)

section
variable {w W : World} {B M Q L I T H : Nat} {kd A Bn n hh seed : Int} {x x' : Nat → Int} {y y' : Nat → Bool} {last : Option Addr} {E : List Acct}

theorem updI_at (f : Nat → Int) (j : Nat) (v : Int) : updI f j v j = v := if_pos rfl

theorem sa_backT (h : SA w.heap.size W Q L I T H kd A Bn n x y x' y') (hb : BkI w W B M hh seed last E) :
    SA w.heap.size ((((((W.setCell ⟨T, 0, none⟩ (.int .u64 (x 0))).setCell ⟨T, 1, none⟩ (.int .u64 (x 1))).setCell ⟨T, 2, none⟩ (.int .u64 (x 2))).setCell ⟨T, 3, none⟩ (.int .u64 (x 3))).setCell ⟨T, 4, none⟩ (.int .u64 (x 4))).setCell ⟨T, 5, none⟩ (.int .u64 (x 5))) Q L I T H kd A Bn n x y x y' ∧
    BkI w ((((((W.setCell ⟨T, 0, none⟩ (.int .u64 (x 0))).setCell ⟨T, 1, none⟩ (.int .u64 (x 1))).setCell ⟨T, 2, none⟩ (.int .u64 (x 2))).setCell ⟨T, 3, none⟩ (.int .u64 (x 3))).setCell ⟨T, 4, none⟩ (.int .u64 (x 4))).setCell ⟨T, 5, none⟩ (.int .u64 (x 5))) B M hh seed last E := by
  have s0 := h.setT (j := 0) (by omega) (x 0)
  have b0 := h.pokeT hb 0 (.int .u64 (x 0))
  have s1 := s0.setT (j := 1) (by omega) (x 1)
  have b1 := s0.pokeT b0 1 (.int .u64 (x 1))
  have s2 := s1.setT (j := 2) (by omega) (x 2)
  have b2 := s1.pokeT b1 2 (.int .u64 (x 2))
  have s3 := s2.setT (j := 3) (by omega) (x 3)
  have b3 := s2.pokeT b2 3 (.int .u64 (x 3))
  have s4 := s3.setT (j := 4) (by omega) (x 4)
  have b4 := s3.pokeT b3 4 (.int .u64 (x 4))
  have s5 := s4.setT (j := 5) (by omega) (x 5)
  have b5 := s4.pokeT b4 5 (.int .u64 (x 5))
  refine ⟨⟨s5.q, s5.l, s5.i, ?_, s5.h, s5.tl, s5.hl, s5.lt, s5.ih⟩, b5⟩
  rw [s5.t]
  rfl

theorem sa_backH (h : SA w.heap.size W Q L I T H kd A Bn n x y x' y') (hb : BkI w W B M hh seed last E) :
    SA w.heap.size ((((((W.setCell ⟨H, 0, none⟩ (.bool (y 0))).setCell ⟨H, 1, none⟩ (.bool (y 1))).setCell ⟨H, 2, none⟩ (.bool (y 2))).setCell ⟨H, 3, none⟩ (.bool (y 3))).setCell ⟨H, 4, none⟩ (.bool (y 4))).setCell ⟨H, 5, none⟩ (.bool (y 5))) Q L I T H kd A Bn n x y x' y ∧
    BkI w ((((((W.setCell ⟨H, 0, none⟩ (.bool (y 0))).setCell ⟨H, 1, none⟩ (.bool (y 1))).setCell ⟨H, 2, none⟩ (.bool (y 2))).setCell ⟨H, 3, none⟩ (.bool (y 3))).setCell ⟨H, 4, none⟩ (.bool (y 4))).setCell ⟨H, 5, none⟩ (.bool (y 5))) B M hh seed last E := by
  have s0 := h.setH (j := 0) (by omega) (y 0)
  have b0 := h.pokeH hb 0 (.bool (y 0))
  have s1 := s0.setH (j := 1) (by omega) (y 1)
  have b1 := s0.pokeH b0 1 (.bool (y 1))
  have s2 := s1.setH (j := 2) (by omega) (y 2)
  have b2 := s1.pokeH b1 2 (.bool (y 2))
  have s3 := s2.setH (j := 3) (by omega) (y 3)
  have b3 := s2.pokeH b2 3 (.bool (y 3))
  have s4 := s3.setH (j := 4) (by omega) (y 4)
  have b4 := s3.pokeH b3 4 (.bool (y 4))
  have s5 := s4.setH (j := 5) (by omega) (y 5)
  have b5 := s4.pokeH b4 5 (.bool (y 5))
  refine ⟨⟨s5.q, s5.l, s5.i, s5.t, ?_, s5.tl, s5.hl, s5.lt, s5.ih⟩, b5⟩
  rw [s5.h]
  rfl

/-- What stands ahead of the round's last look: what the book has is what is wanted. -/
structure Lst (w W : World) (B M T H : Nat) (E' : List Acct) : Prop where
  bk : BkI w W B M 6 0 none E'
  t : W.heap[T]? = some (.cells (arr6 (balV E')) 34 (0, 0))
  h : W.heap[H]? = some (.cells (arr6 (isV E')) 35 (0, 0))

theorem lst_of (sa : SA w.heap.size W Q L I T H kd A Bn n x y x' y') (bk : BkI w W B M 6 0 none E) (hx : ∀ i, i < 6 → x' i = xE E i ∧ y' i = (fE E i).isSome) : Lst w W B M T H E := by
  refine ⟨bk, ?_, ?_⟩
  · rw [sa.t]
    unfold arr6 iX balV
    rw [(hx 0 (by omega)).1, (hx 1 (by omega)).1, (hx 2 (by omega)).1, (hx 3 (by omega)).1, (hx 4 (by omega)).1, (hx 5 (by omega)).1]
    rfl
  · rw [sa.h]
    unfold arr6 bY isV
    rw [(hx 0 (by omega)).2, (hx 1 (by omega)).2, (hx 2 (by omega)).2, (hx 3 (by omega)).2, (hx 4 (by omega)).2, (hx 5 (by omega)).2]
    rfl
theorem Lst.later {W' : World} (h : Lst w W B M T H E) (hb : Below W.heap.size W W') : Lst w W' B M T H E :=
  ⟨h.bk.later hb, (hb.block _ (Array.getElem?_eq_some_iff.1 h.t).1).trans h.t, (hb.block _ (Array.getElem?_eq_some_iff.1 h.h).1).trans h.h⟩
end

end Go.Proofs.Ytbjobbkgelipmaa
