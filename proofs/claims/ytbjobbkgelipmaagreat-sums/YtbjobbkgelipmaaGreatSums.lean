/-
  The walks of the two digests: titheref.Sum, tithe.Sum.
-/
import Derived.Test.YtbjobbkgelipmaaGreatRows
import Derived.Test.YtbjobbkgelipmaaGreatPlain
namespace Go.Proofs.YtbjobbkgelipmaaGreat
open Go.RowKit

theorem refsum_end (x : Int) : (Value.agg #[.int .u8 (lastOf x % 256), .int .u8 ((lastOf x).tdiv 256 % 256), .int .u8 ((lastOf x).tdiv 65536 % 256)]) = digV (dgOf x) := by
  have h := lastOf_range x
  rw [digV_of, Int.tdiv_eq_ediv_of_nonneg h.1, Int.tdiv_eq_ediv_of_nonneg h.1]

set_option maxHeartbeats 400000 in
theorem refsum_any (s : ByteArray) (w : World) (hs : s.size ≤ maxLen) :
    Calls Tryz.prog 37 #[.string s] w fun e w' => e = .returned (digV (dg s.data.toList)) ∧ Below w.heap.size w w' := by
  unfold maxLen at hs
  go_enter Tryz.func37, Tryz.ntmps37
  go_wp2
  go_loop [3, 4] (fun x i => ∃ (k : Nat), k ≤ s.size ∧ i = .int .i64 k ∧ x = .int .u32 (fnv (s.data.toList.take k))) (fun _ i => s.size - (intOf i).toNat)
  case atStart => exact ⟨0, Nat.zero_le _, rfl, rfl⟩
  case round =>
    obtain ⟨k, hk, rfl, rfl⟩ := hrel
    have hr := fnv_range (s.data.toList.take k)
    by_cases hlt : k < s.size
    · have HS : Hid (fnv (s.data.toList.take (k + 1)) = mixStep (fnv (s.data.toList.take k)) s[k]) := by rw [take_snoc s k hlt]; exact fnv_snoc _ _
      go_wp2
      go_round
      case rel => exact ⟨k + 1, by omega, by go_num, by rw [HS.out]; rfl⟩
      case measure => simp [intOf]; omega
    · have hk' : k = s.size := by omega
      subst hk'
      rw [take_all]
      have hr := fnv_range s.data.toList
      generalize hx : fnv s.data.toList = x at *
      have HX := hide hx
      have HE := hide (refsum_end x)
      clear hx
      go_wp2
      have hv : digV (dg s.data.toList) = digV (dgOf x) := by rw [← unhide HX]; rfl
      refine bodyPost_ret (v := digV (dg s.data.toList)) ?_ rfl ⟨rfl, ((Below.refl _ _).alloc (Nat.le_refl _) _)⟩
      rw [hv, ← unhide HE]
      simp [results, Tryz.results37, go_sem, lastOf, lastMix]

/-- Bytes that lie in memory, from an address on. -/
def BytesAt (w : World) (b off : Nat) (l : List UInt8) : Prop := ∀ j (h : j < l.length), w.cell? ⟨b, off + j, none⟩ = some (.int .u8 (l[j].toNat : Int))

theorem BytesAt.below {w w' : World} {b off : Nat} {l : List UInt8} (h : BytesAt w b off l) (hb : Below w.heap.size w w') (hlt : b < w.heap.size) : BytesAt w' b off l :=
  fun j hj => (hb.cell (p := ⟨b, off + j, none⟩) hlt).trans (h j hj)

theorem take_snoc_list (l : List UInt8) (k : Nat) (h : k < l.length) : l.take (k + 1) = l.take k ++ [l[k]] := List.take_succ_eq_append_getElem h

set_option maxHeartbeats 400000 in
/-- tithe.Sum, of bytes that lie in memory. -/
theorem sum_any (b off n cap : Nat) (l : List UInt8) (w : World) (hn : l.length = n) (hm : n ≤ maxLen) (hlt : b < w.heap.size) (hl : BytesAt w b off l) :
    Calls Tryz.prog 40 #[.slice (some ⟨b, off, none⟩) n cap] w fun e w' => e = .returned (digV (dg l)) ∧ Below w.heap.size w w' := by
  unfold maxLen at hm
  subst hn
  go_enter Tryz.func40, Tryz.ntmps40
  go_wp2
  go_loop [3, 8] (fun x i => ∃ (k : Nat), k ≤ l.length ∧ i = .int .i64 k ∧ x = .int .u32 (fnv (l.take k))) (fun _ i => l.length - (intOf i).toNat)
  case atStart => exact ⟨0, Nat.zero_le _, rfl, rfl⟩
  case round =>
    obtain ⟨k, hk, rfl, rfl⟩ := hrel
    have hr := fnv_range (l.take k)
    by_cases hlt' : k < l.length
    · have HS : Hid (fnv (l.take (k + 1)) = mixStep (fnv (l.take k)) l[k]) := by rw [take_snoc_list l k hlt']; exact fnv_snoc _ _
      have hc := hl k hlt'
      have hne : b ≠ w.heap.size := by omega
      go_wp2
      go_round
      case rel => exact ⟨k + 1, by omega, by go_num, by rw [HS.out]; rfl⟩
      case measure => simp [intOf]; omega
    · have hk' : k = l.length := by omega
      subst hk'
      rw [List.take_length]
      have hr := fnv_range l
      generalize hx : fnv l = x at *
      have HX := hide hx
      clear hx
      clear hl
      go_wp2
      have hv : digV (dg l) = digV (dgOf x) := by rw [← unhide HX]; rfl
      refine bodyPost_ret (v := digV (dg l)) ?_ rfl ⟨rfl, ((Below.refl _ _).alloc (Nat.le_refl _) _)⟩
      rw [hv, digV_of]
      simp [results, Tryz.results40, go_sem, lastOf, lastMix]

end Go.Proofs.YtbjobbkgelipmaaGreat
