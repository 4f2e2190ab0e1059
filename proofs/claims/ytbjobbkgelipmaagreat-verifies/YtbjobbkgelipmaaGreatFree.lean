/-
  The walk of free and step, at a step that digests (Kind 1).
-/
import Derived.Test.YtbjobbkgelipmaaGreatText
import Derived.Deep.DeepMust
import Derived.ChangeKeysEq
namespace Go.Proofs.YtbjobbkgelipmaaGreat
open Go.RowKit

/-- A step of a script, as a value. -/
def opV (k n h sd : Int) (s t : ByteArray) (la : Option Addr) (ll lc : Nat) (a : Int) : Value :=
  .agg #[.int .i64 k, .int .i64 n, .int .i64 h, .int .u64 sd, .string s, .string t, .slice la ll lc, .int .u64 a]

theorem Tryz.underlyingDg : Tryz.prog.underlying 47 = some (.array 3 5) := by kernel_rfl
theorem Tryz.cellsByte : Tryz.prog.cellsOf 5 = 1 := by kernel_rfl
theorem Tryz.plainByte : Tryz.prog.plainKey 5 = true := by kernel_rfl
set_option maxRecDepth 100000 in
theorem eql_digest (w : World) (a0 a1 a2 b0 b1 b2 : Int) :
    (Op.equalIn 10000 47 (.agg #[.int .u8 a0, .int .u8 a1, .int .u8 a2]) (.agg #[.int .u8 b0, .int .u8 b1, .int .u8 b2])).run Tryz.prog w = .ok (a0 == b0 && (a1 == b1 && a2 == b2)) w := by
  obtain ⟨i0, hi, hz0, hz1, hz2⟩ := info_parts Tryz.infoByte
  have h := run_equalIn_array (P := Tryz.prog) w 9999 #[.int .u8 a0, .int .u8 a1, .int .u8 a2] #[.int .u8 b0, .int .u8 b1, .int .u8 b2] Tryz.underlyingDg hi
  have e : (9999 + 1 : Nat) = 10000 := rfl
  rw [e] at h
  rw [h, Tryz.cellsByte]
  have hq : ∀ (x y : Int) (w : World), (Op.equalIn 9999 5 (.int .u8 x) (.int .u8 y)).run Tryz.prog w = .ok (x == y) w := fun x y w => run_equalIn_int w 9998 5 .u8 .u8 x y Tryz.underlying5
  have hp : ∀ (l : Array Value) (k : Nat) (v : Value) (w : World), l[k]? = some v → (part 5 l k).run Tryz.prog w = .ok v w := fun l k v w hx => run_part_plain w Tryz.plainByte hx
  simp only [List.range_succ, List.range_zero, List.nil_append, List.cons_append, Op.eqItems, Sem.run_bind]
  rw [hp _ (0 * 1) (.int .u8 a0) w rfl]
  simp only [Result.andThen_ok]
  rw [hp _ (0 * 1) (.int .u8 b0) w rfl]
  simp only [Result.andThen_ok, hq]
  cases h0 : (a0 == b0)
  · simp
  · simp only [Bool.not_true, Bool.false_eq_true, if_false, Sem.run_bind]
    rw [hp _ (1 * 1) (.int .u8 a1) w rfl]
    simp only [Result.andThen_ok]
    rw [hp _ (1 * 1) (.int .u8 b1) w rfl]
    simp only [Result.andThen_ok, hq]
    cases h1 : (a1 == b1)
    · simp
    · simp only [Bool.not_true, Bool.false_eq_true, if_false, Sem.run_bind]
      rw [hp _ (2 * 1) (.int .u8 a2) w rfl]
      simp only [Result.andThen_ok]
      rw [hp _ (2 * 1) (.int .u8 b2) w rfl]
      simp only [Result.andThen_ok, hq]
      cases h2 : (a2 == b2) <;> simp

theorem lentV_bytes (s : ByteArray) (w : World) (b : Nat) (h : w.rowIs b 5 (s.size + 8) (lentV s.data.toList)) : BytesAt w b 0 s.data.toList := by
  intro j hj
  have hj' : j < s.size := by simpa using hj
  rw [Nat.zero_add, h.cell (by omega), lentV_in s j hj']
  rfl

set_option maxHeartbeats 400000 in
set_option maxRecDepth 100000 in
theorem free_sum (wp : Value) (n h sd : Int) (s t : ByteArray) (la : Option Addr) (ll lc : Nat) (a : Int) (w : World) (hs : s.size ≤ 140737488351232) :
    Calls Tryz.prog 17 #[wp, opV 1 n h sd s t la ll lc a] w fun e w' => e = .returned (.bool true) ∧ Below w.heap.size w w' := by
  unfold opV
  go_enter Tryz.func17, Tryz.ntmps17
  go_wp2_with fail
  refine (lent_any s _ hs).mono ?_
  rintro e w1 ⟨rfl, hrow, hb⟩
  have hz1 : w.heap.size + 1 < w1.heap.size := by have := hrow.lt; simpa using this
  have hc1 : w1.cell? ⟨w.heap.size, 4, none⟩ = some (.string s) := by
    rw [(bcell hb).1 _ _ (by simp)]; simp [go_sem]
  have Hb := hide (((Below.refl w.heap.size w).alloc (Nat.le_refl _) _).trans (hb.mono (by simp)))
  simp only [World.size_alloc] at hrow ⊢
  have hrw : w1.rowIs (w.heap.size + 1) 5 (s.size + 8) (lentV s.data.toList) := hrow
  have Hrow := hide hrw
  clear hb hrow hrw
  go_wp2_with fail
  refine (sum_any (w.heap.size + 1) 0 s.size (s.size + 8) s.data.toList w1 (by simp) (by unfold maxLen; omega) hz1 (lentV_bytes s w1 _ (unhide Hrow))).mono ?_
  rintro e w2 ⟨rfl, hb⟩
  have hz2 : w1.heap.size ≤ w2.heap.size := hb.size
  have hc2 : w2.cell? ⟨w.heap.size, 4, none⟩ = some (.string s) := by rw [(bcell hb).1 _ _ (by omega)]; exact hc1
  have Hrow2 : Hid (w2.rowIs (w.heap.size + 1) 5 (s.size + 8) (lentV s.data.toList)) := (unhide Hrow).of_block (hb.block _ hz1)
  have Hb2 := hide ((unhide Hb).trans (hb.mono (by omega)))
  have hz3 : w.heap.size < w2.heap.size := by omega
  have hz4 : w.heap.size + 1 < w2.heap.size := by omega
  clear hb hc1 Hrow Hb
  obtain ⟨d0, d1, d2, hD⟩ : ∃ d0 d1 d2 : Int, digV (dg s.data.toList) = .agg #[.int .u8 d0, .int .u8 d1, .int .u8 d2] := ⟨_, _, _, rfl⟩
  rw [hD]
  have HD := hide hD
  clear hD
  go_wp2_with fail
  refine (still_any (w.heap.size + 1) s _ hs (fun j hj => ?_)).mono ?_
  · rw [World.cell?_alloc_lt _ _ _ (by simp; omega)]
    exact (unhide Hrow2).cell hj
  rintro e w3 ⟨rfl, n3, rfl⟩
  go_wp2_with fail
  have hq := eql_digest
  generalize hW3 : (w2.alloc (Obj.cells #[Value.int IntKind.u8 d0, Value.int IntKind.u8 d1, Value.int IntKind.u8 d2] 47)).drewN n3 = w3
  have hs3 : w3.heap.size = w2.heap.size + 1 := by rw [← hW3]; simp
  have g0 : w3.cell? ⟨w2.heap.size, 0, none⟩ = some (Value.int IntKind.u8 d0) := by rw [← hW3]; simp
  have g1 : w3.cell? ⟨w2.heap.size, 1, none⟩ = some (Value.int IntKind.u8 d1) := by rw [← hW3]; simp
  have g2 : w3.cell? ⟨w2.heap.size, 2, none⟩ = some (Value.int IntKind.u8 d2) := by rw [← hW3]; simp
  have g4 : w3.cell? ⟨w.heap.size, 4, none⟩ = some (.string s) := by rw [← hW3]; simp; rw [World.cell?_alloc_lt _ _ _ (by simpa using hz3)]; exact hc2
  have Hb3 : Hid (Below w.heap.size w w3) := by rw [← hW3]; exact below_drewN ((unhide Hb2).alloc (by omega) _) n3
  have hz5 : w2.heap.size < w3.heap.size := by omega
  have hz6 : w.heap.size < w3.heap.size := by omega
  clear hW3 hs3 hc2 Hrow2 Hb2
  go_region_held3 (fun w' => w'.cell? ⟨w2.heap.size, 0, none⟩ = some (Value.int IntKind.u8 d0) ∧ w'.cell? ⟨w2.heap.size, 1, none⟩ = some (Value.int IntKind.u8 d1) ∧ w'.cell? ⟨w2.heap.size, 2, none⟩ = some (Value.int IntKind.u8 d2) ∧ w'.cell? ⟨w.heap.size, 4, none⟩ = some (.string s))
    (first | exact ⟨q0, q1, q2, q4⟩ | exact ⟨g0, g1, g2, g4⟩)
    (first | (go_at_call 37; refine (refsum_any s _ (by unfold maxLen; omega)).mono ?_; rintro e w4 ⟨rfl, hb4⟩; rw [unhide HD]; obtain ⟨k1, k2⟩ := bcell hb4; have q0 := (k1 _ 0 (by simpa using hz5)).trans (by simpa using g0); have q1 := (k1 _ 1 (by simpa using hz5)).trans (by simpa using g1); have q2 := (k1 _ 2 (by simpa using hz5)).trans (by simpa using g2); have q4 := (k1 _ 4 (by simpa using hz6)).trans (by simpa using g4); have Hb4 := hide hb4; clear hb4 k1 k2))
  go_wp2
  go_ret
  exact ⟨rfl, (unhide Hb3).drew.trans ((unhide Hb4).mono (B' := w.heap.size) (Nat.le_of_lt hz6))⟩

end Go.Proofs.YtbjobbkgelipmaaGreat
