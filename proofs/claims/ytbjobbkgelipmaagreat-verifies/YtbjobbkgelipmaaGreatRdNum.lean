/-
  The walks of tithe's readers: readNumber.
-/
import Derived.Test.YtbjobbkgelipmaaGreatNum
import Derived.Laws.BitsAllLaws
namespace Go.Proofs.YtbjobbkgelipmaaGreat
open Go.RowKit

theorem or_step (l : List UInt8) (k : Nat) (hk : k < 8) (hl : k < l.length) :
    bits .or .u64 (IntKind.u64.wrap (numB (l.take k) * 256)) (IntKind.u64.wrap (l[k].toNat : Int)) = numB (l.take (k + 1)) := by
  rw [List.take_succ_eq_append_getElem hl, numB_snoc]
  have h1 := numB_range_len k (l.take k) (by rw [List.length_take]; omega)
  have h2 : (256 : Int) ^ k ≤ 256 ^ 7 := pow256_le (by omega)
  have h3 : (256 : Int) ^ 7 = 72057594037927936 := by decide
  have h4 := l[k].toNat_lt
  obtain ⟨m, hm⟩ : ∃ m : Nat, numB (l.take k) = (m : Int) := ⟨_, (Int.toNat_of_nonneg h1.1).symm⟩
  rw [hm] at h1 ⊢
  have e1 : IntKind.u64.wrap ((m : Int) * 256) = ((2 ^ 8 * m : Nat) : Int) := by rw [IntKind.wrap_u64]; omega
  have e2 : IntKind.u64.wrap (l[k].toNat : Int) = (l[k].toNat : Int) := by rw [IntKind.wrap_u64]; omega
  rw [e1, e2, u64_or_nat _ _ (by omega) (by omega), ← Nat.two_pow_add_eq_or_of_lt (i := 8) (by omega)]
  omega

set_option maxHeartbeats 400000 in
set_option maxRecDepth 100000 in
theorem rdnum_any (b o len cap : Nat) (l : List UInt8) (w : World) (hl : 8 ≤ l.length) (hc : 8 ≤ cap) (_hlen : 8 ≤ len) (hm : cap ≤ maxLen) (hB : BytesAt w b o l) :
    Calls Tryz.prog 92 #[.slice (some ⟨b, o, none⟩) len cap] w fun e w' => e = .returned (.int .u64 (numB (l.take 8))) ∧ w' = w := by
  unfold maxLen at hm
  have HB := hide hB
  clear hB
  go_enter Tryz.func92, Tryz.ntmps92
  go_wp2
  go_loop [3, 9] (fun n i => ∃ k : Nat, k ≤ 8 ∧ i = .int .i64 k ∧ n = .int .u64 (numB (l.take k))) (fun _ i => 8 - (intOf i).toNat)
  case atStart => exact ⟨0, by omega, rfl, rfl⟩
  case round =>
    obtain ⟨k, hk, rfl, rfl⟩ := hrel
    by_cases hlt : k < 8
    · have hcell := unhide HB k (by omega)
      have hkl : k < l.length := by omega
      generalize hN : numB (l.take k) = N
      have HN := hide hN
      clear hN
      go_wp2
      refine ⟨⟨k + 1, by omega, by go_num, ?_⟩, by simp [intOf]; omega⟩
      rw [← unhide HN]
      exact congrArg _ (or_step l k hlt hkl)
    · have hk8 : k = 8 := by omega
      subst hk8
      go_wp2
      go_ret
      exact ⟨rfl, rfl⟩

end Go.Proofs.YtbjobbkgelipmaaGreat
