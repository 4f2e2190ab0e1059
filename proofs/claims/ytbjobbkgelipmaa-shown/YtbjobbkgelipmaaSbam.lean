/-
  The walk of tithe's tree.proof.
-/
import Derived.Test.YtbjobbkgelipmaaSbai
import Derived.Test.YtbjobbkgelipmaaSbal
namespace Go.Proofs.Ytbjobbkgelipmaa
open Go.RowKit

abbrev LX (w : World) (A : Nat) (nm : ByteArray) (bal salt : Int) (w' : World) : Prop :=
  (w'.cell? ⟨A, 0, none⟩ = some (.string nm) ∧ w'.cell? ⟨A, 1, none⟩ = some (.int .u64 bal) ∧ w'.cell? ⟨A, 2, none⟩ = some (.int .u64 salt)) ∧ ∃ zs, MB w zs 79 A #[.string nm, .int .u64 bal, .int .u64 salt] 76 w'
theorem LX.of {w w' : World} {A : Nat} {nm : ByteArray} {bal salt : Int} {zs : Array Value} (h : MB w zs 79 A #[.string nm, .int .u64 bal, .int .u64 salt] 76 w') : LX w A nm bal salt w' := ⟨⟨h.cell 0, h.cell 1, h.cell 2⟩, zs, h⟩

/-- What tree.proof owes. -/
def TPPost (ls : List LeafD) (h : Nat) (s : ByteArray) (w : World) (e : Ending) (w' : World) : Prop :=
  Below w.heap.size w w' ∧ ((∀ x ∈ ls, x.nm ≠ s) → e = .returned (.tuple #[proofZ, .bool false])) ∧
  (∀ i (hi : i < ls.length), ls[i].nm = s → (∀ j (hj : j < i), (ls[j]'(by omega)).nm ≠ s) → ∃ g, e = .returned (.tuple #[proofV (i : Int) ls[i].nm ls[i].bal ls[i].salt (some ⟨g, 0, none⟩) h h, .bool true]) ∧ g < w'.heap.size ∧ w.heap.size ≤ g ∧ SidesAt w' g (besideT ls i h))

set_option maxHeartbeats 2000000 in
set_option maxRecDepth 100000 in
theorem tproof_any {w : World} {T b cap V vc h : Nat} {gs : List Nat} {ls : List LeafD} (t : TreeM w T b cap V vc gs ls h) (s : ByteArray) (hh : h ≤ 6) (hn : ls.length ≤ 2 ^ h) :
    Calls Try.prog 28 #[.pointer (some ⟨T, 0, none⟩), .string s] w (TPPost ls h s w) := by
  have c0 : w.cell? ⟨T, 0, none⟩ = some (.slice (some ⟨b, 0, none⟩) ls.length cap) := block_cell t.blk
  have hT := (Array.getElem?_eq_some_iff.1 t.blk).1
  have hbw := t.leaves.lt
  have HTr := hide t
  have h64 : 2 ^ h ≤ 2 ^ 6 := Nat.pow_le_pow_right (by omega) hh
  have hn64 : ls.length ≤ 64 := by omega
  have HNH := hide hn
  obtain ⟨n, hn'⟩ : ∃ n, ls.length = n := ⟨_, rfl⟩
  rw [hn'] at c0 hn64
  have HN := hide hn'
  have hA : Below w.heap.size w (w.alloc (Obj.cells #[Value.int IntKind.i64 0, Value.string ⟨#[]⟩, Value.int IntKind.u64 0, Value.int IntKind.u64 0, Value.slice none 0 0] 79)) := (Below.refl _ _).alloc (Nat.le_refl _) _
  have c0' := keepB hA hT c0
  have hR := RB.new w proofZs 79
  have HRB := hide hR
  clear t hn hn' c0 hA h64 hR
  go_enter Try.func28, Try.ntmps28
  go_upto_region 1 with fail
  have eW : (w.alloc (Obj.cells #[Value.int IntKind.i64 0, Value.string ⟨#[]⟩, Value.int IntKind.u64 0, Value.int IntKind.u64 0, Value.slice none 0 0] 79)) = w.alloc (.cells proofZs 79) := rfl
  rw [eW] at c0' ⊢
  generalize (w.alloc (.cells proofZs 79)) = W at *
  clear eW
  go_wp2
  go_loopw [13, 6, 7] (fun i _ _ wr => ∃ k : Nat, k ≤ n ∧ i = .int .i64 k ∧ (∀ j (hj : j < k) (hl : j < ls.length), ls[j].nm ≠ s) ∧ RB w proofZs 79 wr) (fun i _ _ _ => n - (intOf i).toNat)
  case atStart => exact ⟨0, Nat.zero_le _, rfl, fun j hj => (by omega), unhide HRB⟩
  case round =>
    obtain ⟨k, hk, rfl, hno, hrb⟩ := hrel
    have HNo := hide hno
    have HRb := hide hrb
    have hzr := hrb.lt
    clear hno hrb HRB c0'
    by_cases hk' : k < n
    · have hkl : k < ls.length := by rw [unhide HN]; exact hk'
      obtain ⟨y0, y1, y2⟩ := ((unhide HTr).leaves.below (unhide HRb).below hbw).cells k hkl
      rw [Nat.zero_add] at y0 y1 y2
      obtain ⟨x, hx⟩ : ∃ x, ls[k] = x := ⟨_, rfl⟩
      rw [hx] at y0 y1 y2
      have HX := hide hx
      by_cases hs : x.nm = s
      · obtain ⟨nm, bal, salt⟩ := x
        simp only at y0 y1 y2 hs
        subst hs
        have hBs := fun (w' : World) (hb : Below w.heap.size w w') => hide (tbeside_any ((unhide HTr).later hb) k hh (by have := unhide HNH; omega))
        clear hx
        go_upto_region 5 with fail
        have hM3 : MB w proofZs 79 wr.heap.size #[.string nm, .int .u64 bal, .int .u64 salt] 76 (wr.alloc (Obj.cells #[Value.string nm, Value.int IntKind.u64 bal, Value.int IntKind.u64 salt] 76)) := MB.new (unhide HRb) _ _
        generalize (wr.alloc (Obj.cells #[Value.string nm, Value.int IntKind.u64 bal, Value.int IntKind.u64 salt] 76)) = W3 at *
        generalize wr.heap.size = X at *
        have hSd : LB w X nm bal salt W3.drew := LB.of hM3.drew
        clear y0 y1 y2 hM3
        go_region_held3 (fun w' => (w'.cell? ⟨X, 0, none⟩ = some (.string nm) ∧ w'.cell? ⟨X, 1, none⟩ = some (.int .u64 bal) ∧ w'.cell? ⟨X, 2, none⟩ = some (.int .u64 salt)) ∧ ∃ zs, MB w zs 79 X #[.string nm, .int .u64 bal, .int .u64 salt] 76 w')
          (first
            | with_reducible exact LX.of hSd.2
            | with_reducible exact LX.of hS4.2
            | with_reducible exact hS5
            | fail)
          (first
            | (go_at_call 40; (with_reducible refine (unhide (hBs _ hSd.2.rb.below)).mono ?_); rintro e w4 ⟨rfl, hz4, hs4, hb4⟩; have hS4 := LB.later hSd hb4; have u0 : w4.cell? ⟨w.heap.size, 0, none⟩ = some (.int .i64 0) := hS4.2.rb.cell 0; have u1 : w4.cell? ⟨w.heap.size, 1, none⟩ = some (.string ⟨#[]⟩) := hS4.2.rb.cell 1; have u2 : w4.cell? ⟨w.heap.size, 2, none⟩ = some (.int .u64 0) := hS4.2.rb.cell 2; have u3 : w4.cell? ⟨w.heap.size, 3, none⟩ = some (.int .u64 0) := hS4.2.rb.cell 3; have u4 : w4.cell? ⟨w.heap.size, 4, none⟩ = some (.slice none 0 0) := hS4.2.rb.cell 4; have uf : ∀ i, w4.frozen? ⟨w.heap.size, i, none⟩ = false := hS4.2.rb.free; have hM5 := ((((hS4.2.setR 0 (.int .i64 (k : Int))).setR 1 (.string nm)).setR 2 (.int .u64 bal)).setR 3 (.int .u64 salt)).setR 4 (.slice (some ⟨W3.heap.size, 0, none⟩) h h); have hS5 := LX.of hM5)
            | fail)
        have hwg : w.heap.size < W3.heap.size := by have := hSd.2.lt; have := hSd.2.gt; simp at *; omega
        have hsd5 := ((((hs4.set (B := w.heap.size) (by simp; omega) 0 (.int .i64 (k : Int))).set (B := w.heap.size) (by simp; omega) 1 (.string nm)).set (B := w.heap.size) (by simp; omega) 2 (.int .u64 bal)).set (B := w.heap.size) (by simp; omega) 3 (.int .u64 salt)).set (B := w.heap.size) (by simp; omega) 4 (.slice (some ⟨W3.heap.size, 0, none⟩) h h)
        have HE := hide (And.intro hM5.rb.below (And.intro hsd5 (And.intro hz4 hwg)))
        clear hM5 hS5 hS4 hSd hs4 hz4 hb4 hsd5 hwg hBs
        go_wp2
        refine bodyPost_ret (v := .tuple #[proofV (k : Int) nm bal salt (some ⟨W3.heap.size, 0, none⟩) h h, .bool true]) ?_ rfl ⟨(unhide HE).1, fun hall => ?_, fun i hi hie hmin => ?_⟩
        · simp [results, Try.results28, go_sem, proofV, u0, u1, u2, u3, u4]
        · have := hall _ (List.getElem_mem hkl)
          rw [unhide HX] at this
          exact absurd rfl this
        · have hik : i = k := by
            rcases Nat.lt_trichotomy i k with h1 | h1 | h1
            · exact absurd hie (unhide HNo i h1 hi)
            · exact h1
            · have := hmin k h1
              rw [unhide HX] at this
              exact absurd rfl this
          subst hik
          refine ⟨W3.heap.size, ?_, ?_, Nat.le_of_lt (unhide HE).2.2.2, (unhide HE).2.1⟩
          · rw [unhide HX]
          · simpa using (unhide HE).2.2.1
      · obtain ⟨nm, bal, salt⟩ := x
        simp only at y0 y1 y2 hs
        have hne : (nm.toList == s.toList) = false := by
          rw [beq_eq_false_iff_ne]
          intro e
          rw [ByteArray.toList_eq, ByteArray.toList_eq] at e
          exact hs (ByteArray.ext (Array.toList_inj.1 e))
        have HB := hide ((unhide HRb).alloc (Obj.cells #[Value.string nm, Value.int IntKind.u64 bal, Value.int IntKind.u64 salt] 76))
        clear hx
        go_wp2
        go_roundw
        case rel =>
          refine ⟨k + 1, by omega, by go_num, fun j hj hl => ?_, unhide HB⟩
          by_cases hjk : j < k
          · exact unhide HNo j hjk hl
          · have : j = k := by omega
            subst this
            rw [unhide HX]
            exact hs
        case measure => simp [intOf]; omega
    · have hkk : k = n := by omega
      subst hkk
      have u0 : wr.cell? ⟨w.heap.size, 0, none⟩ = some (.int .i64 0) := (unhide HRb).cell 0
      have u1 : wr.cell? ⟨w.heap.size, 1, none⟩ = some (.string ⟨#[]⟩) := (unhide HRb).cell 1
      have u2 : wr.cell? ⟨w.heap.size, 2, none⟩ = some (.int .u64 0) := (unhide HRb).cell 2
      have u3 : wr.cell? ⟨w.heap.size, 3, none⟩ = some (.int .u64 0) := (unhide HRb).cell 3
      have u4 : wr.cell? ⟨w.heap.size, 4, none⟩ = some (.slice none 0 0) := (unhide HRb).cell 4
      have uf : ∀ i, wr.frozen? ⟨w.heap.size, i, none⟩ = false := (unhide HRb).free
      go_wp2
      refine bodyPost_ret (v := .tuple #[proofZ, .bool false]) ?_ rfl ⟨((((((unhide HRb).setR 0 _).setR 1 _).setR 2 _).setR 3 _).setR 4 _).below, fun _ => rfl, fun i hi hie _ => ?_⟩
      · simp [results, Try.results28, go_sem, proofZ, u0, u1, u2, u3, u4]
      · exact absurd hie (unhide HNo i (by have := unhide HN; omega) hi)

end Go.Proofs.Ytbjobbkgelipmaa
