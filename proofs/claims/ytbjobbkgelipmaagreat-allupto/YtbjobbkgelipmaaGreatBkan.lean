/-
  titheref's book: the walk of Proof.
-/
import Derived.Test.YtbjobbkgelipmaaGreatBkag
import Derived.Test.YtbjobbkgelipmaaGreatBkai
import Derived.Test.YtbjobbkgelipmaaGreatBkad
namespace Go.Proofs.YtbjobbkgelipmaaGreat
open Go.RowKit Go.Maps

set_option maxHeartbeats 400000 in
set_option maxRecDepth 100000 in
theorem refproof_early {N : Nat} {w : World} {Rb : Nat} {h seed : Int} {A : List (List UInt8 × Int)} {lv : Value} {th : Int} {tv : Value} (r : RefT N w Rb h seed A lv th tv false) (s : ByteArray) :
    Calls Tryz.prog 35 #[.pointer (some ⟨Rb, 0, none⟩), .string s] w fun e w' => e = .returned (.tuple #[.string ⟨#[]⟩, .int .i64 8]) ∧ w' = w := by
  have c5 : w.cell? ⟨Rb, 5, none⟩ = some (.bool false) := block_cell r.blk
  clear r
  go_enter Tryz.func35, Tryz.ntmps35
  go_wp2
  go_ret2
  exact ⟨rfl, rfl⟩

set_option maxHeartbeats 1000000 in
set_option maxRecDepth 100000 in
theorem refproof_any {N : Nat} {w : World} {Rb h : Nat} {seed : Int} {A : List (List UInt8 × Int)} {lv : Value} {la : Option Addr} {lc : Nat} {ls : List LeafD} (r : RefT N w Rb (h : Int) seed A lv (h : Int) (.slice la ls.length lc) true) (hl : LeavesOf w la ls) (hh : h ≤ 6) (hn : ls.length ≤ 2 ^ h) (s : ByteArray) :
    Calls Tryz.prog 35 #[.pointer (some ⟨Rb, 0, none⟩), .string s] w fun e w' => ((∀ x ∈ ls, x.nm ≠ s) → e = .returned (.tuple #[.string ⟨#[]⟩, .int .i64 4])) ∧ (∀ i (hi : i < ls.length), ls[i].nm = s → (∀ j (hj : j < i), (ls[j]'(by omega)).nm ≠ s) → e = .returned (.tuple #[strV (proofTo ls h i ls[i] h), .int .i64 0])) ∧ Below w.heap.size w w' := by
  have c3 : w.cell? ⟨Rb, 3, none⟩ = some (.int .i64 (h : Int)) := block_cell r.blk
  have c4 : w.cell? ⟨Rb, 4, none⟩ = some (.slice la ls.length lc) := block_cell r.blk
  have c5 : w.cell? ⟨Rb, 5, none⟩ = some (.bool true) := block_cell r.blk
  have h64 : 2 ^ h ≤ 2 ^ 6 := Nat.pow_le_pow_right (by omega) hh
  have hRl := (Array.getElem?_eq_some_iff.1 r.blk).1
  have HN := hide hn
  have hn64 : ls.length ≤ 64 := by omega
  have HL := hide hl
  obtain ⟨n, hnn⟩ : ∃ n, ls.length = n := ⟨_, rfl⟩
  have HNN := hide hnn
  have hg : ∀ k (hk : k < ls.length), ∃ b off, la = some ⟨b, off, none⟩ ∧ w.cell? ⟨b, off + k * 3, none⟩ = some (.string ls[k].nm) ∧ Hid (∀ w', Below w.heap.size w w' → Calls Tryz.prog 11 #[treeV (h : Int) la n lc, .int .i64 (k : Int)] w' fun e w'' => e = .returned (strV (proofTo ls h k ls[k] h)) ∧ Below w'.heap.size w' w'') := fun k hk => by
    rcases hl with rfl | ⟨b, off, rfl, hl⟩
    · simp at hk
    · refine ⟨b, off, rfl, (hl.cells k hk).1, hide fun w' hb => ?_⟩
      have := proof_any h b off lc k ls ls[k] w' (by omega) hh (hl.below hb hl.lt) (List.getElem?_eq_getElem hk) (by omega)
      rw [hnn] at this
      exact this
  have HG := hide hg
  rw [hnn] at c4 hn64
  clear r hl hg hn hnn h64
  go_enter Tryz.func35, Tryz.ntmps35
  go_wp2_with fail
  go_loop [6] (fun i => ∃ k : Nat, k ≤ n ∧ i = .int .i64 k ∧ ∀ j (hj : j < ls.length), j < k → ls[j].nm ≠ s) (fun i => n - (intOf i).toNat)
  case atStart => exact ⟨0, Nat.zero_le _, rfl, fun _ _ h => by omega⟩
  case round =>
    obtain ⟨k, hk, rfl, hno⟩ := hrel
    have HNO := hide hno
    clear hno
    by_cases hlt : k < n
    · have hkA : k < ls.length := by rw [unhide HNN]; exact hlt
      obtain ⟨b, off, rfl, ck, HP⟩ := unhide HG k hkA
      have ik : (k : Int) < (n : Int) := by omega
      by_cases he : ls[k].nm = s
      · have HK : ∀ v, Hid (v = strV (proofTo ls h k ls[k] h) → ((∀ x ∈ ls, x.nm ≠ s) → Ending.returned (.tuple #[v, .int .i64 0]) = .returned (.tuple #[.string ⟨#[]⟩, .int .i64 4])) ∧ (∀ i (hi : i < ls.length), ls[i].nm = s → (∀ j (hj : j < i), (ls[j]'(by omega)).nm ≠ s) → Ending.returned (.tuple #[v, .int .i64 0]) = .returned (.tuple #[strV (proofTo ls h i ls[i] h), .int .i64 0]))) := fun v => hide fun hv => by
          refine ⟨fun hall => absurd he (hall _ (List.getElem_mem hkA)), fun i hi h1 h2 => ?_⟩
          have e : i = k := by
            rcases Nat.lt_trichotomy i k with h | h | h
            · exact absurd h1 (unhide HNO i hi h)
            · exact h
            · exact absurd he (h2 k h)
          subst e
          rw [hv]
        rw [he] at ck
        unfold treeV at HP
        clear HG HL
        generalize strV (proofTo ls h k ls[k] h) = pv at *
        go_wp2_with fail
        refine (unhide HP _ (Below.refl _ _)).mono ?_
        rintro e w6 ⟨rfl, hb6⟩
        have HB := hide hb6
        clear hb6 HP
        go_wp2
        go_ret2
        exact ⟨(unhide (HK _) rfl).1, (unhide (HK _) rfl).2, unhide HB⟩
      · have hne : (ls[k].nm.toList == s.toList) = false := by
          simp only [beq_eq_false_iff_ne]
          exact fun e => he (by apply ByteArray.ext; rw [ByteArray.toList_eq, ByteArray.toList_eq] at e; exact Array.toList_inj.1 e)
        have HE := hide he
        generalize hak : ls[k].nm = ak at *
        clear HP
        go_wp2
        refine ⟨⟨k + 1, by omega, by go_num, fun j hj hjk => ?_⟩, by simp [intOf]; omega⟩
        by_cases e : j = k
        · subst e
          rw [hak]
          exact unhide HE
        · exact unhide HNO j hj (by omega)
    · clear HG
      go_wp2
      go_ret2
      refine ⟨fun _ => rfl, fun i hi h1 _ => absurd h1 (unhide HNO i hi (by have := unhide HNN; omega)), Below.refl _ _⟩

end Go.Proofs.YtbjobbkgelipmaaGreat

/-
  The walk of tithe's readProof: a head that does not fit.
-/
namespace Go.Proofs.YtbjobbkgelipmaaGreat
open Go.RowKit

set_option maxHeartbeats 400000 in
set_option maxRecDepth 100000 in
theorem rdpr_short (b len cap h : Nat) (w : World) (hlen : len < 3) :
    Calls Tryz.prog 77 #[.slice (some ⟨b, 0, none⟩) len cap, .int .i64 (h : Int)] w fun e w' => e = .returned (.tuple #[proofZ, .bool false]) ∧ Below w.heap.size w w' := by
  have hl : (len : Int) < 3 := by omega
  clear hlen
  go_enter Tryz.func77, Tryz.ntmps77
  go_wp2
  refine bodyPost_ret (v := .tuple #[proofZ, .bool false]) ?_ rfl ⟨rfl, ?_⟩
  · simp [results, Tryz.results77, go_sem, proofZ]
  · repeat first
      | exact Below.refl _ _
      | refine Below.setCell ?_ (by simp; try omega) _
      | refine Below.alloc ?_ (by simp; try omega) _

set_option maxHeartbeats 400000 in
set_option maxRecDepth 100000 in
theorem rdpr_height (b len cap h b0 : Nat) (w : World) (hlen : 3 ≤ len) (hb : b < w.heap.size) (c0 : w.cell? ⟨b, 0, none⟩ = some (.int .u8 (b0 : Int))) (h0 : b0 ≤ 255) (hne : b0 ≠ h) :
    Calls Tryz.prog 77 #[.slice (some ⟨b, 0, none⟩) len cap, .int .i64 (h : Int)] w fun e w' => e = .returned (.tuple #[proofZ, .bool false]) ∧ Below w.heap.size w w' := by
  have hl : ¬ (len : Int) < 3 := by omega
  have hl0 : 0 < len := by omega
  have hw : IntKind.i64.wrap (b0 : Int) = (b0 : Int) := by rw [IntKind.wrap_i64]; omega
  have hnb : b ≠ w.heap.size := by omega
  have hne' : ((b0 : Int) != (h : Int)) = true := by simp; omega
  clear hlen
  go_enter Tryz.func77, Tryz.ntmps77
  go_wp2
  refine bodyPost_ret (v := .tuple #[proofZ, .bool false]) ?_ rfl ⟨rfl, ?_⟩
  · simp [results, Tryz.results77, go_sem, proofZ]
  · repeat first
      | exact Below.refl _ _
      | refine Below.setCell ?_ (by simp; try omega) _
      | refine Below.alloc ?_ (by simp; try omega) _

end Go.Proofs.YtbjobbkgelipmaaGreat
