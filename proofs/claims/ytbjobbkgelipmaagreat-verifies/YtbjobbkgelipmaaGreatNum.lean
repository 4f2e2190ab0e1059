/-
  The walks of titheref's readers: number, side, report.
-/
import Derived.Test.YtbjobbkgelipmaaGreatSideN
import Derived.StillTailTactics
namespace Go.Proofs.YtbjobbkgelipmaaGreat
open Go.RowKit

/-- A number out of bytes, the highest first. -/
def numB (l : List UInt8) : Int := l.foldl (fun n c => n * 256 + (c.toNat : Int)) 0
theorem numB_snoc (l : List UInt8) (c : UInt8) : numB (l ++ [c]) = numB l * 256 + (c.toNat : Int) := by simp [numB]
theorem numB_range_len : ∀ (n : Nat) (l : List UInt8), l.length = n → 0 ≤ numB l ∧ numB l < 256 ^ n
  | 0, l, h => by rw [List.length_eq_zero_iff.1 h]; decide
  | n + 1, l, h => by
    rcases List.eq_nil_or_concat l with rfl | ⟨l', c, rfl⟩
    · cases h
    · rw [List.concat_eq_append] at h ⊢
      have ih := numB_range_len n l' (by simpa using h)
      rw [numB_snoc, Int.pow_succ]
      have := c.toNat_lt
      constructor <;> omega
theorem pow256_le {a b : Nat} (h : a ≤ b) : (256 : Int) ^ a ≤ 256 ^ b := by
  have h2 : ((256 ^ a : Nat) : Int) ≤ ((256 ^ b : Nat) : Int) := Int.ofNat_le.2 (Nat.pow_le_pow_right (by decide) h)
  simpa using h2
theorem numB_range (l : List UInt8) (h : l.length ≤ 8) : 0 ≤ numB l ∧ numB l < 18446744073709551616 := by
  have h1 := numB_range_len l.length l rfl
  have h2 : (256 : Int) ^ l.length ≤ 256 ^ 8 := pow256_le h
  have h3 : (256 : Int) ^ 8 = 18446744073709551616 := by decide
  omega
theorem num_step (l : List UInt8) (k : Nat) (c : UInt8) (hk : k < 8) (hc : l[k]? = some c) :
    IntKind.u64.wrap (IntKind.u64.wrap (numB (l.take k) * 256) + IntKind.u64.wrap (c.toNat : Int)) = numB (l.take (k + 1)) := by
  have hl : k < l.length := (List.getElem?_eq_some_iff.1 hc).1
  have hx : l[k] = c := (List.getElem?_eq_some_iff.1 hc).2
  rw [List.take_succ_eq_append_getElem hl, numB_snoc, hx]
  have h1 := numB_range_len k (l.take k) (by rw [List.length_take]; omega)
  have h2 : (256 : Int) ^ k ≤ 256 ^ 7 := pow256_le (by omega)
  have h3 : (256 : Int) ^ 7 = 72057594037927936 := by decide
  have h4 := c.toNat_lt
  rw [IntKind.wrap_u64, IntKind.wrap_u64, IntKind.wrap_u64]
  omega

set_option maxHeartbeats 400000 in
set_option maxRecDepth 100000 in
theorem number_any (s : ByteArray) (at' : Nat) (w : World) (hs : at' + 8 ≤ s.size) (hm : s.size ≤ maxLen) :
    Calls Tryz.prog 80 #[.string s, .int .i64 (at' : Int)] w fun e w' => e = .returned (.int .u64 (numB ((s.data.toList.drop at').take 8))) ∧ w' = w := by
  unfold maxLen at hm
  go_enter Tryz.func80, Tryz.ntmps80
  go_wp2
  go_loop [5, 6] (fun n i => ∃ k : Nat, k ≤ 8 ∧ i = .int .i64 k ∧ n = .int .u64 (numB ((s.data.toList.drop at').take k))) (fun _ i => 8 - (intOf i).toNat)
  case atStart => exact ⟨0, by omega, rfl, rfl⟩
  case round =>
    obtain ⟨k, hk, rfl, rfl⟩ := hrel
    by_cases hlt : k < 8
    · have hak : at' + k < s.size := by omega
      generalize hN : numB ((s.data.toList.drop at').take k) = N
      have HN := hide hN
      clear hN
      have HT : Hid (IntKind.u64.wrap (IntKind.u64.wrap (N * 256) + IntKind.u64.wrap (s[at' + k].toNat : Int)) = numB ((s.data.toList.drop at').take (k + 1))) := by
        rw [← unhide HN]
        exact num_step _ k _ hlt (by rw [List.getElem?_drop]; exact List.getElem?_eq_getElem (by simpa using hak))
      go_wp2
      go_round
      case rel => exact ⟨k + 1, by omega, by go_num, by rw [unhide HT]⟩
      case measure => simp [intOf]; omega
    · have hk8 : k = 8 := by omega
      subst hk8
      go_wp2
      go_ret
      exact ⟨rfl, rfl⟩

/-- A side out of bytes, from a place on. -/
def sideAt (l : List UInt8) (a : Nat) : Dg × Int := ((l.getD a 0, l.getD (a + 1) 0, l.getD (a + 2) 0), numB ((l.drop (a + 3)).take 8))
theorem sideAt_range (l : List UInt8) (a : Nat) : 0 ≤ (sideAt l a).2 ∧ (sideAt l a).2 < 18446744073709551616 := numB_range _ (by rw [List.length_take]; omega)
theorem byte_getD (s : ByteArray) (k : Nat) (h : k < s.size) : s[k] = s.data.toList.getD k 0 := by
  have h2 : k < s.data.toList.length := by simpa using h
  simp only [List.getD, List.getElem?_eq_getElem h2]
  rfl

/-- A region that reads and then does one thing: the draw spelt as the walk spells it. -/
theorem region_tail {P : Program} {id : Nat} {Q : Exit → Act → World → Prop} {a : Act} {w : World} {l : List Oper} (n : Nat) (hm : P.follows .mixedOrders = true) (hB : Region.lexTailB .any l.toArray n = true)
    (h : wpStill P l.toArray w.drew (fun a' => wpList P l.toArray Q (l.drop n) a' w.drew) (l.take n) a) : (Code.region id l.toArray true).wp P Q a w := wp_region_still_tail n hm hB h

theorem index_at (s : ByteArray) (k : Nat) (h : k < s.size) (w : World) : (Instr.index 9 (.string s) (.int .i64 (k : Int))).run Tryz.prog w = .ok (.int .u8 ((s.data.toList.getD k 0).toNat : Int)) w := by
  rw [run_index_string _ _ _ _ _ Tryz.underlying9, ← byte_getD s k h]
  simp [h]

set_option maxHeartbeats 400000 in
set_option maxRecDepth 100000 in
theorem side_read (s : ByteArray) (a : Nat) (w : World) (hs : a + 11 ≤ s.size) (hm : s.size ≤ 140737488351232) :
    Calls Tryz.prog 79 #[.string s, .int .i64 (a : Int)] w fun e w' => e = .returned (sideV (sideAt s.data.toList a).1 (sideAt s.data.toList a).2) ∧ Below w.heap.size w w' := by
  have h0 : a < s.size := by omega
  have h1 : a + 1 < s.size := by omega
  have h2 : a + 2 < s.size := by omega
  obtain ⟨d0, hd0⟩ : ∃ d : Int, ((s.data.toList.getD a 0).toNat : Int) = d := ⟨_, rfl⟩
  obtain ⟨d1, hd1⟩ : ∃ d : Int, ((s.data.toList.getD (a + 1) 0).toNat : Int) = d := ⟨_, rfl⟩
  obtain ⟨d2, hd2⟩ : ∃ d : Int, ((s.data.toList.getD (a + 2) 0).toNat : Int) = d := ⟨_, rfl⟩
  have x0 := index_at s a h0
  have x1 := index_at s (a + 1) h1
  have x2 := index_at s (a + 2) h2
  rw [hd0] at x0
  rw [hd1, show ((a + 1 : Nat) : Int) = (a : Int) + 1 by omega] at x1
  rw [hd2, show ((a + 2 : Nat) : Int) = (a : Int) + 2 by omega] at x2
  obtain ⟨n, hn⟩ : ∃ n : Int, n = numB ((s.data.toList.drop (a + 3)).take 8) := ⟨_, rfl⟩
  have HN : ∀ w, Hid (Calls Tryz.prog 80 #[.string s, .int .i64 ((a : Int) + 3)] w fun e w' => e = .returned (.int .u64 n) ∧ w' = w) := fun w => by
    rw [hn]; exact number_any s (a + 3) w (by omega) (by unfold maxLen; omega)
  have HD : Hid (sideV (sideAt s.data.toList a).1 (sideAt s.data.toList a).2 = .agg #[.int .u8 d0, .int .u8 d1, .int .u8 d2, .int .u64 n]) := by
    rw [← hd0, ← hd1, ← hd2, hn]; rfl
  clear hn hd0 hd1 hd2
  have e1 : IntKind.i64.wrap ((a : Int) + 1) = (a : Int) + 1 := by rw [IntKind.wrap_i64]; omega
  have e2 : IntKind.i64.wrap ((a : Int) + 2) = (a : Int) + 2 := by rw [IntKind.wrap_i64]; omega
  have e3 : IntKind.i64.wrap ((a : Int) + 3) = (a : Int) + 3 := by rw [IntKind.wrap_i64]; omega
  clear h0 h1 h2 hs hm
  go_enter Tryz.func79, Tryz.ntmps79
  go_wp2_with fail
  refine region_tail 17 (by kernel_rfl) (by kernel_rfl) ?_
  simp only [List.take_succ_cons, List.take_zero, List.drop_succ_cons, List.drop_zero]
  repeat still_step
  still_call (unhide (HN _))
  repeat still_step
  refine wpStill_nil ?_
  go_wp2
  refine bodyPost_ret (v := sideV (sideAt s.data.toList a).1 (sideAt s.data.toList a).2) ?_ rfl ⟨rfl, ?_⟩
  · rw [unhide HD]
    simp [results, Tryz.results79, go_sem]
  · exact ((Below.refl _ _).alloc (Nat.le_refl _) _).drew

end Go.Proofs.YtbjobbkgelipmaaGreat
