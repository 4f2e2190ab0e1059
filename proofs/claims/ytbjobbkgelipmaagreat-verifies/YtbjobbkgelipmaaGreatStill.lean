/-
  The walk of still: what was lent reads as it was.
-/
import Derived.Test.YtbjobbkgelipmaaGreatLent
namespace Go.Proofs.YtbjobbkgelipmaaGreat
open Go.RowKit

theorem lentV_in (s : ByteArray) (k : Nat) (h : k < s.size) : lentV s.data.toList k = .int .u8 (s[k].toNat : Int) := by
  have h2 : k < s.data.toList.length := by simpa using h
  simp only [lentV, lentB, List.getD, List.getElem?_eq_getElem h2]
  rfl
theorem lentV_out (s : ByteArray) (k : Nat) (h : ¬ k < s.size) : lentV s.data.toList k = .int .u8 201 := by
  have h2 : s.data.toList.length ≤ k := by simp; omega
  simp only [lentV, lentB, List.getD, List.getElem?_eq_none h2]
  rfl

set_option maxHeartbeats 400000 in
theorem still_any (b : Nat) (s : ByteArray) (w : World) (hs : s.size ≤ 140737488351232) (h : ∀ j, j < s.size + 8 → w.cell? ⟨b, j, none⟩ = some (lentV s.data.toList j)) :
    Calls Tryz.prog 41 #[.slice (some ⟨b, 0, none⟩) (s.size + 8) (s.size + 8), .string s] w fun e w' => e = .returned (.bool true) ∧ ∃ n, w' = w.drewN n := by
  have H := hide h
  clear h
  go_enter Tryz.func41, Tryz.ntmps41
  go_wp2
  go_loopw [5] (fun i wr => ∃ k n : Nat, k ≤ s.size + 8 ∧ i = .int .i64 k ∧ wr = w.drewN n) (fun i _ => s.size + 8 - (intOf i).toNat)
  case atStart => exact ⟨0, 0, Nat.zero_le _, rfl, rfl⟩
  case round =>
    obtain ⟨k, n, hk, rfl, rfl⟩ := hrel
    by_cases hlt : k < s.size + 8
    · have hc := unhide H k hlt
      by_cases hin : k < s.size
      · rw [lentV_in s k hin] at hc
        have hd : decide (s.size ≤ k) = false := by simp; omega
        go_wp2
        go_quiet (fail)
        go_wp2
        go_roundw
        case rel => exact ⟨k + 1, n + nq, by omega, by go_num, rfl⟩
        case measure => simp [intOf]; omega
      · rw [lentV_out s k hin] at hc
        have hd : decide ((k : Int) < (s.size : Int)) = false := by simp; omega
        have hd2 : (s.size : Int) ≤ (k : Int) := by omega
        go_wp2
        go_quiet (fail)
        go_wp2
        go_roundw
        case rel => exact ⟨k + 1, n + nq, by omega, by go_num, rfl⟩
        case measure => simp [intOf]; omega
    · go_wp2
      go_ret
      exact ⟨rfl, n, rfl⟩

end Go.Proofs.YtbjobbkgelipmaaGreat
