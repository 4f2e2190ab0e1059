/-
  The walk of titheref's accepted: a head that does not fit.
-/
import Derived.Test.YtbjobbkgelipmaaGreatAccP
namespace Go.Proofs.YtbjobbkgelipmaaGreat
open Go.RowKit

theorem pow_cast (k : Nat) : (((2 ^ k : Nat) : Int)) = (2 : Int) ^ k := by simp

set_option maxHeartbeats 1000000 in
set_option maxRecDepth 100000 in
theorem accepted_bad (h : Nat) (d : Dg) (n : Int) (s : ByteArray) (w : World) (hh : h ≤ 6) (hm : s.size ≤ 140737488351232) (hb : ¬ accHead h s.data.toList) :
    Calls Tryz.prog 63 #[.int .i64 (h : Int), sideV d n, .string s] w fun e w' => e = .returned (.tuple #[proofZ, .bool false]) ∧ Below w.heap.size w w' := by
  obtain ⟨d0, d1, d2, hD⟩ : ∃ d0 d1 d2 : Int, sideV d n = .agg #[.int .u8 d0, .int .u8 d1, .int .u8 d2, .int .u64 n] := ⟨_, _, _, rfl⟩
  rw [hD]
  have hls : s.data.toList.length = s.size := by simp
  have HB := hide hb
  have HLS := hide hls
  clear hD hb hls
  go_enter Tryz.func63, Tryz.ntmps63
  go_wp2
  go_loop [8, 9] (fun p i => ∃ k : Nat, k ≤ h ∧ i = .int .i64 k ∧ p = .int .i64 ((2 ^ k : Nat) : Int)) (fun _ i => h - (intOf i).toNat)
  case atStart => exact ⟨0, by omega, rfl, rfl⟩
  case round =>
    obtain ⟨k, hk, rfl, rfl⟩ := hrel
    have hp64 : 2 ^ k ≤ 64 := (Nat.pow_le_pow_right (by omega) (by omega : k ≤ 6) : 2 ^ k ≤ 2 ^ 6)
    have Hps : Hid (2 * (2 ^ k) = 2 ^ (k + 1)) := by show 2 * 2 ^ k = 2 ^ (k + 1); rw [Nat.pow_succ]; omega
    generalize hpk : 2 ^ k = pk at *
    have HPK := hide hpk
    clear hpk
    by_cases hlt : k < h
    · go_wp2
      go_round
      case rel => exact ⟨k + 1, by omega, by go_num, by rw [← unhide Hps]; go_num⟩
      case measure => simp [intOf]; omega
    · have hkh : k = h := by omega
      subst hkh
      by_cases h3 : s.size < 3
      · go_wp2
        refine bodyPost_ret (v := .tuple #[proofZ, .bool false]) ?_ rfl ⟨rfl, ?_⟩
        · simp [results, Tryz.results63, go_sem, proofZ]
        · exact ((Below.refl _ _).alloc (Nat.le_refl _) _).alloc (by simp) _
      · have x0 := index_at s 0 (by omega)
        have x1 := index_at s 1 (by omega)
        have x2 := index_at s 2 (by omega)
        obtain ⟨b0, hb0⟩ : ∃ b, b = bAt s.data.toList 0 := ⟨_, rfl⟩
        obtain ⟨b1, hb1⟩ : ∃ b, b = bAt s.data.toList 1 := ⟨_, rfl⟩
        obtain ⟨b2, hb2⟩ : ∃ b, b = bAt s.data.toList 2 := ⟨_, rfl⟩
        have y0 : ∀ w, (Instr.index 9 (.string s) (.int .i64 0)).run Tryz.prog w = .ok (.int .u8 (b0 : Int)) w := by rw [hb0]; exact x0
        have y1 : ∀ w, (Instr.index 9 (.string s) (.int .i64 1)).run Tryz.prog w = .ok (.int .u8 (b1 : Int)) w := by rw [hb1]; exact x1
        have y2 : ∀ w, (Instr.index 9 (.string s) (.int .i64 2)).run Tryz.prog w = .ok (.int .u8 (b2 : Int)) w := by rw [hb2]; exact x2
        have r0 : b0 < 256 := by rw [hb0]; exact UInt8.toNat_lt _
        have r1 : b1 < 256 := by rw [hb1]; exact UInt8.toNat_lt _
        have r2 : b2 < 256 := by rw [hb2]; exact UInt8.toNat_lt _
        have HX : Hid (¬ (b0 = k ∧ b1 < pk ∧ 1 ≤ b2 ∧ b2 ≤ 8 ∧ s.size = 19 + b2 + 11 * k)) := by
          intro hc
          apply unhide HB
          unfold accHead
          rw [← hb0, ← hb1, ← hb2, unhide HLS, unhide HPK]
          exact ⟨by omega, hc⟩
        clear x0 x1 x2 hb0 hb1 hb2 HB HLS
        by_cases c0 : b0 = k
        · subst c0
          by_cases c1 : b1 < pk
          · by_cases c2 : b2 < 1
            · go_wp2
              refine bodyPost_ret (v := .tuple #[proofZ, .bool false]) ?_ rfl ⟨rfl, ?_⟩
              · simp [results, Tryz.results63, go_sem, proofZ]
              · exact ((Below.refl _ _).alloc (Nat.le_refl _) _).alloc (by simp) _
            · by_cases c3 : 8 < b2
              · go_wp2
                refine bodyPost_ret (v := .tuple #[proofZ, .bool false]) ?_ rfl ⟨rfl, ?_⟩
                · simp [results, Tryz.results63, go_sem, proofZ]
                · exact ((Below.refl _ _).alloc (Nat.le_refl _) _).alloc (by simp) _
              · have c4 : s.size ≠ 19 + b2 + 11 * b0 := fun e => unhide HX ⟨rfl, c1, by omega, by omega, e⟩
                have c4' : ((s.size : Int) != 19 + (b2 : Int) + 11 * (b0 : Int)) = true := by simp; omega
                clear c4
                go_wp2
                refine bodyPost_ret (v := .tuple #[proofZ, .bool false]) ?_ rfl ⟨rfl, ?_⟩
                · simp [results, Tryz.results63, go_sem, proofZ]
                · exact ((Below.refl _ _).alloc (Nat.le_refl _) _).alloc (by simp) _
          · go_wp2
            refine bodyPost_ret (v := .tuple #[proofZ, .bool false]) ?_ rfl ⟨rfl, ?_⟩
            · simp [results, Tryz.results63, go_sem, proofZ]
            · exact ((Below.refl _ _).alloc (Nat.le_refl _) _).alloc (by simp) _
        · have c0' : ((b0 : Int) != (k : Int)) = true := by simp; omega
          clear c0
          go_wp2
          refine bodyPost_ret (v := .tuple #[proofZ, .bool false]) ?_ rfl ⟨rfl, ?_⟩
          · simp [results, Tryz.results63, go_sem, proofZ]
          · exact ((Below.refl _ _).alloc (Nat.le_refl _) _).alloc (by simp) _

end Go.Proofs.YtbjobbkgelipmaaGreat
