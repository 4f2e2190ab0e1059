/-
  The walk of tithe's appendNumber.
-/
import Derived.Test.YtbjobbkgelipmaaGreatLong
namespace Go.Proofs.YtbjobbkgelipmaaGreat
open Go.RowKit

/-- Blocks that are no bytes stay. -/
def KeepT (w w' : World) : Prop := ∀ (A : Nat) (cur : Array Value) (t : TypeId) (f : Nat × Nat), w.heap[A]? = some (.cells cur t f) → t ≠ 5 → w'.heap[A]? = some (.cells cur t f)
theorem KeepT.refl (w : World) : KeepT w w := fun _ _ _ _ h _ => h
theorem KeepT.trans {a b c : World} (h : KeepT a b) (h2 : KeepT b c) : KeepT a c := fun A cur t f hA ht => h2 A cur t f (h A cur t f hA ht) ht
theorem KeepT.below {a b : World} (h : Below a.heap.size a b) : KeepT a b := fun A _ _ _ hA _ => (h.block A (Array.getElem?_eq_some_iff.1 hA).1).trans hA
theorem KeepT.alloc {a b : World} (h : KeepT a b) (o : Obj) : KeepT a (b.alloc o) := h.trans (KeepT.below ((Below.refl _ _).alloc (Nat.le_refl _) _))
theorem KeepT.drew {a b : World} (h : KeepT a b) : KeepT a b.drew := h
theorem own_ne {w : World} {base n : Nat} {v : Value} {xs : List Value} (h : w.ownsRow base 5 1 v n xs) {A : Nat} {cur : Array Value} {t : TypeId} {f : Nat × Nat} (hA : w.heap[A]? = some (.cells cur t f)) (ht : t ≠ 5) : v.ownBlock ≠ some A := by
  rcases h.2 with ⟨rfl, _⟩ | ⟨g, cap, cur', rfl, _, hg, _⟩
  · intro h; cases h
  · intro h
    have e : some g = some A := h
    rw [Option.some.inj e, hA] at hg
    simp only [Option.some.injEq, Obj.cells.injEq] at hg
    exact ht hg.2.1
theorem KeepT.grown {a b c : World} {base n : Nat} {v : Value} {xs : List Value} (h : KeepT a b) (ho : b.ownsRow base 5 1 v n xs) (hg : b.grownBy c v.ownBlock) : KeepT a c := by
  intro A cur t f hA ht
  have h1 := h A cur t f hA ht
  rw [hg.block A (Array.getElem?_eq_some_iff.1 h1).1 (fun e => own_ne ho h1 ht e.symm)]
  exact h1

theorem appnum_step (x : Int) (k n base : Nat) (z : Int) (xs : List Value) (v v' : Value) (w wr w1 : World) (hlt : k < 8) (hz : z = 56 - 8 * (k : Int)) (hbase : base ≤ w.heap.size) (hown : wr.ownsRow base 5 1 v (n + k) (xs ++ byteVals ((longB x).take k))) (hbel : Below base w wr) (hkp : KeepT w wr)
    (hown1 : w1.ownsRow base 5 1 v' (n + k + 1) (xs ++ (byteVals ((longB x).take k) ++ [.int .u8 (x / 2 ^ z.toNat % 256)])))
    (hg : (wr.alloc (Obj.cells #[Value.int IntKind.u8 (x / 2 ^ z.toNat % 256)] 5)).grownBy w1 v.ownBlock) :
    w1.ownsRow base 5 1 v' (n + (k + 1)) (xs ++ byteVals ((longB x).take (k + 1))) ∧ Below base w w1 ∧ KeepT w w1 := by
  have hsz := hbel.size
  refine ⟨?_, ?_, (hkp.alloc _).grown (hown.alloc _) hg⟩
  · rw [longB_take_snoc x k hlt, byteVals_snoc]
    have e : ((longAt x k).toNat : Int) = x / 2 ^ z.toNat % 256 := by
      unfold longAt
      rw [lowByte_toNat, show z.toNat = 8 * (7 - k) by omega]
    rw [e]; exact hown1
  · refine (hbel.alloc (by omega) _).grown hg (by simp; omega) ?_
    intro b hb
    exact (hown.lt b hb).1

set_option maxRecDepth 100000 in
set_option maxHeartbeats 400000 in
theorem appnum_any (base n : Nat) (v0 : Value) (xs : List Value) (x : Int) (w : World) (_h0 : 0 ≤ x) (h1 : x < 18446744073709551616) (hown0 : w.ownsRow base 5 1 v0 n xs) (hbase : base ≤ w.heap.size) (hn : n + 8 ≤ 140737488355328) :
    Calls Tryz.prog 91 #[v0, .int .u64 x] w fun e w' => (∃ v', e = .returned v' ∧ w'.ownsRow base 5 1 v' (n + 8) (xs ++ byteVals (longB x))) ∧ Below base w w' ∧ KeepT w w' := by
  obtain ⟨i0, hi, hz0, hz1, hz2⟩ := info_parts Tryz.infoByte
  have H0 := hide hown0
  have H1 := hide h1
  clear h1 hown0
  go_enter Tryz.func91, Tryz.ntmps91
  go_wp2
  go_loopw [0, 5] (fun v i wr => ∃ (k : Nat) (z : Int), k ≤ 8 ∧ z = 56 - 8 * (k : Int) ∧ i = .int .i64 z ∧ wr.ownsRow base 5 1 v (n + k) (xs ++ byteVals ((longB x).take k)) ∧ Below base w wr ∧ KeepT w wr) (fun _ i _ => (intOf i + 8).toNat)
  case atStart => exact ⟨0, 56, Nat.zero_le _, rfl, rfl, by simpa [byteVals] using unhide H0, Below.refl _ _, KeepT.refl _⟩
  case round =>
    obtain ⟨k, z, hk, hz, rfl, hown, hbel, hkp⟩ := hrel
    have Hown := hide hown
    have Hbel := hide hbel
    have hsz := hbel.size
    have Hkp := hide hkp
    clear hown hbel hkp
    by_cases hlt : k < 8
    · have hz0' : 0 ≤ z := by omega
      have hz7 : z ≤ 56 := by omega
      have Hz := hide hz
      clear hz
      go_wp2_with (at_builtin; refine wpList_append_own _ rfl (.tmp 10) (.tmp 15) 51 rfl base 5 i0 (.int .u8 0) 1 1 Tryz.underlying51 hi hz0 hz1 hz2 rfl (by decide) _ _ _ rfl ((unhide Hown).alloc _) ⟨wr.heap.size, 0, none⟩ 1 1 [_] rfl rfl (cell_one_new _ _ _) ?c2 ?c3 ?c4 ?c5 ?_)
      case c2 => intro u hu; simp at hu; subst hu; rfl
      case c3 => unfold maxLen; omega
      case c4 => omega
      case c5 => simp; omega
      intro v' w1 hown1 hgrow1 _
      have R := hide (appnum_step x k n base z xs _ _ _ _ _ hlt (unhide Hz) hbase (unhide Hown) (unhide Hbel) (unhide Hkp) hown1 hgrow1)
      clear hown1 hgrow1 Hown Hbel Hkp
      go_wp2
      go_roundw
      case rel => exact ⟨k + 1, z - 8, by omega, by have := unhide Hz; omega, rfl, (unhide R).1, (unhide R).2.1, (unhide R).2.2⟩
      case measure => simp [intOf]; omega
    · have hk8 : k = 8 := by omega
      subst hk8
      have hzz : z = -8 := by omega
      subst hzz
      have e8 : (longB x).take 8 = longB x := List.take_of_length_le (by rw [longB_length]; exact Nat.le_refl _)
      rw [e8] at Hown
      go_wp2
      go_ret
      exact ⟨⟨_, rfl, unhide Hown⟩, unhide Hbel, unhide Hkp⟩

end Go.Proofs.YtbjobbkgelipmaaGreat
