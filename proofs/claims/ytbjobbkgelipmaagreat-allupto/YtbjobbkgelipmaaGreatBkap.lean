/-
  The walk of tithe's tree.proof.
-/
import Derived.Test.YtbjobbkgelipmaaGreatBkai
import Derived.Test.YtbjobbkgelipmaaGreatBkao
import Derived.Test.YtbjobbkgelipmaaGreatBkae
import Derived.Test.YtbjobbkgelipmaaGreatBkaj
import Derived.Test.YtbjobbkgelipmaaGreatBkam
import Derived.Test.YtbjobbkgelipmaaGreatBkan
import Derived.Test.YtbjobbkgelipmaaGreatBkak
namespace Go.Proofs.YtbjobbkgelipmaaGreat
open Go.RowKit

abbrev LX (w : World) (A : Nat) (nm : ByteArray) (bal salt : Int) (w' : World) : Prop :=
  (w'.cell? ⟨A, 0, none⟩ = some (.string nm) ∧ w'.cell? ⟨A, 1, none⟩ = some (.int .u64 bal) ∧ w'.cell? ⟨A, 2, none⟩ = some (.int .u64 salt)) ∧ ∃ zs, MB w zs 118 A #[.string nm, .int .u64 bal, .int .u64 salt] 115 w'
theorem LX.of {w w' : World} {A : Nat} {nm : ByteArray} {bal salt : Int} {zs : Array Value} (h : MB w zs 118 A #[.string nm, .int .u64 bal, .int .u64 salt] 115 w') : LX w A nm bal salt w' := ⟨⟨h.cell 0, h.cell 1, h.cell 2⟩, zs, h⟩

/-- What tree.proof owes. -/
def TPPost (ls : List LeafD) (h : Nat) (s : ByteArray) (w : World) (e : Ending) (w' : World) : Prop :=
  Below w.heap.size w w' ∧ ((∀ x ∈ ls, x.nm ≠ s) → e = .returned (.tuple #[proofZ, .bool false])) ∧
  (∀ i (hi : i < ls.length), ls[i].nm = s → (∀ j (hj : j < i), (ls[j]'(by omega)).nm ≠ s) → ∃ g, e = .returned (.tuple #[proofV (i : Int) ls[i].nm ls[i].bal ls[i].salt (some ⟨g, 0, none⟩) h h, .bool true]) ∧ g < w'.heap.size ∧ w.heap.size ≤ g ∧ SidesAt w' g (besideT ls i h))

set_option maxHeartbeats 2000000 in
set_option maxRecDepth 100000 in
theorem tproof_any {w : World} {T b cap V vc h : Nat} {gs : List Nat} {ls : List LeafD} (t : TreeM w T b cap V vc gs ls h) (s : ByteArray) (hh : h ≤ 6) (hn : ls.length ≤ 2 ^ h) :
    Calls Tryz.prog 58 #[.pointer (some ⟨T, 0, none⟩), .string s] w (TPPost ls h s w) := by
  have c0 : w.cell? ⟨T, 0, none⟩ = some (.slice (some ⟨b, 0, none⟩) ls.length cap) := block_cell t.blk
  have hT := (Array.getElem?_eq_some_iff.1 t.blk).1
  have hbw := t.leaves.lt
  have HTr := hide t
  have h64 : 2 ^ h ≤ 2 ^ 6 := Nat.pow_le_pow_right (by omega) hh
  have hn64 : ls.length ≤ 64 := by omega
  have HNH := hide hn
  obtain ⟨n, hn'⟩ : ∃ n, ls.length = n := ⟨_, rfl⟩
  rw [hn'] at c0 hn64
  have HN := hide hn'
  have hA : Below w.heap.size w (w.alloc (Obj.cells #[Value.int IntKind.i64 0, Value.string ⟨#[]⟩, Value.int IntKind.u64 0, Value.int IntKind.u64 0, Value.slice none 0 0] 118)) := (Below.refl _ _).alloc (Nat.le_refl _) _
  have c0' := keepB hA hT c0
  have hR := RB.new w proofZs 118
  have HRB := hide hR
  clear t hn hn' c0 hA h64 hR
  go_enter Tryz.func58, Tryz.ntmps58
  go_upto_region 1 with fail
  have eW : (w.alloc (Obj.cells #[Value.int IntKind.i64 0, Value.string ⟨#[]⟩, Value.int IntKind.u64 0, Value.int IntKind.u64 0, Value.slice none 0 0] 118)) = w.alloc (.cells proofZs 118) := rfl
  rw [eW] at c0' ⊢
  generalize (w.alloc (.cells proofZs 118)) = W at *
  clear eW
  go_wp2
  go_loopw [13, 6, 7] (fun i _ _ wr => ∃ k : Nat, k ≤ n ∧ i = .int .i64 k ∧ (∀ j (hj : j < k) (hl : j < ls.length), ls[j].nm ≠ s) ∧ RB w proofZs 118 wr) (fun i _ _ _ => n - (intOf i).toNat)
  case atStart => exact ⟨0, Nat.zero_le _, rfl, fun j hj => (by omega), unhide HRB⟩
  case round =>
    obtain ⟨k, hk, rfl, hno, hrb⟩ := hrel
    have HNo := hide hno
    have HRb := hide hrb
    have hzr := hrb.lt
    clear hno hrb HRB c0'
    by_cases hk' : k < n
    · have hkl : k < ls.length := by rw [unhide HN]; exact hk'
      obtain ⟨y0, y1, y2⟩ := ((unhide HTr).leaves.below (unhide HRb).below hbw).cells k hkl
      rw [Nat.zero_add] at y0 y1 y2
      obtain ⟨x, hx⟩ : ∃ x, ls[k] = x := ⟨_, rfl⟩
      rw [hx] at y0 y1 y2
      have HX := hide hx
      by_cases hs : x.nm = s
      · obtain ⟨nm, bal, salt⟩ := x
        simp only at y0 y1 y2 hs
        subst hs
        have hBs := fun (w' : World) (hb : Below w.heap.size w w') => hide (tbeside_any ((unhide HTr).later hb) k hh (by have := unhide HNH; omega))
        clear hx
        go_upto_region 5 with fail
        have hM3 : MB w proofZs 118 wr.heap.size #[.string nm, .int .u64 bal, .int .u64 salt] 115 (wr.alloc (Obj.cells #[Value.string nm, Value.int IntKind.u64 bal, Value.int IntKind.u64 salt] 115)) := MB.new (unhide HRb) _ _
        generalize (wr.alloc (Obj.cells #[Value.string nm, Value.int IntKind.u64 bal, Value.int IntKind.u64 salt] 115)) = W3 at *
        generalize wr.heap.size = X at *
        have hSd : LB w X nm bal salt W3.drew := LB.of hM3.drew
        clear y0 y1 y2 hM3
        go_region_held3 (fun w' => (w'.cell? ⟨X, 0, none⟩ = some (.string nm) ∧ w'.cell? ⟨X, 1, none⟩ = some (.int .u64 bal) ∧ w'.cell? ⟨X, 2, none⟩ = some (.int .u64 salt)) ∧ ∃ zs, MB w zs 118 X #[.string nm, .int .u64 bal, .int .u64 salt] 115 w')
          (first
            | with_reducible exact LX.of hSd.2
            | with_reducible exact LX.of hS4.2
            | with_reducible exact hS5
            | fail)
          (first
            | (go_at_call 73; (with_reducible refine (unhide (hBs _ hSd.2.rb.below)).mono ?_); rintro e w4 ⟨rfl, hz4, hs4, hb4⟩; have hS4 := LB.later hSd hb4; have u0 : w4.cell? ⟨w.heap.size, 0, none⟩ = some (.int .i64 0) := hS4.2.rb.cell 0; have u1 : w4.cell? ⟨w.heap.size, 1, none⟩ = some (.string ⟨#[]⟩) := hS4.2.rb.cell 1; have u2 : w4.cell? ⟨w.heap.size, 2, none⟩ = some (.int .u64 0) := hS4.2.rb.cell 2; have u3 : w4.cell? ⟨w.heap.size, 3, none⟩ = some (.int .u64 0) := hS4.2.rb.cell 3; have u4 : w4.cell? ⟨w.heap.size, 4, none⟩ = some (.slice none 0 0) := hS4.2.rb.cell 4; have uf : ∀ i, w4.frozen? ⟨w.heap.size, i, none⟩ = false := hS4.2.rb.free; have hM5 := ((((hS4.2.setR 0 (.int .i64 (k : Int))).setR 1 (.string nm)).setR 2 (.int .u64 bal)).setR 3 (.int .u64 salt)).setR 4 (.slice (some ⟨W3.heap.size, 0, none⟩) h h); have hS5 := LX.of hM5)
            | fail)
        have hwg : w.heap.size < W3.heap.size := by have := hSd.2.lt; have := hSd.2.gt; simp at *; omega
        have hsd5 := ((((hs4.set (B := w.heap.size) (by simp; omega) 0 (.int .i64 (k : Int))).set (B := w.heap.size) (by simp; omega) 1 (.string nm)).set (B := w.heap.size) (by simp; omega) 2 (.int .u64 bal)).set (B := w.heap.size) (by simp; omega) 3 (.int .u64 salt)).set (B := w.heap.size) (by simp; omega) 4 (.slice (some ⟨W3.heap.size, 0, none⟩) h h)
        have HE := hide (And.intro hM5.rb.below (And.intro hsd5 (And.intro hz4 hwg)))
        clear hM5 hS5 hS4 hSd hs4 hz4 hb4 hsd5 hwg hBs
        go_wp2
        refine bodyPost_ret (v := .tuple #[proofV (k : Int) nm bal salt (some ⟨W3.heap.size, 0, none⟩) h h, .bool true]) ?_ rfl ⟨(unhide HE).1, fun hall => ?_, fun i hi hie hmin => ?_⟩
        · simp [results, Tryz.results58, go_sem, proofV, u0, u1, u2, u3, u4]
        · have := hall _ (List.getElem_mem hkl)
          rw [unhide HX] at this
          exact absurd rfl this
        · have hik : i = k := by
            rcases Nat.lt_trichotomy i k with h1 | h1 | h1
            · exact absurd hie (unhide HNo i h1 hi)
            · exact h1
            · have := hmin k h1
              rw [unhide HX] at this
              exact absurd rfl this
          subst hik
          refine ⟨W3.heap.size, ?_, ?_, Nat.le_of_lt (unhide HE).2.2.2, (unhide HE).2.1⟩
          · rw [unhide HX]
          · simpa using (unhide HE).2.2.1
      · obtain ⟨nm, bal, salt⟩ := x
        simp only at y0 y1 y2 hs
        have hne : (nm.toList == s.toList) = false := by
          rw [beq_eq_false_iff_ne]
          intro e
          rw [ByteArray.toList_eq, ByteArray.toList_eq] at e
          exact hs (ByteArray.ext (Array.toList_inj.1 e))
        have HB := hide ((unhide HRb).alloc (Obj.cells #[Value.string nm, Value.int IntKind.u64 bal, Value.int IntKind.u64 salt] 115))
        clear hx
        go_wp2
        go_roundw
        case rel =>
          refine ⟨k + 1, by omega, by go_num, fun j hj hl => ?_, unhide HB⟩
          by_cases hjk : j < k
          · exact unhide HNo j hjk hl
          · have : j = k := by omega
            subst this
            rw [unhide HX]
            exact hs
        case measure => simp [intOf]; omega
    · have hkk : k = n := by omega
      subst hkk
      have u0 : wr.cell? ⟨w.heap.size, 0, none⟩ = some (.int .i64 0) := (unhide HRb).cell 0
      have u1 : wr.cell? ⟨w.heap.size, 1, none⟩ = some (.string ⟨#[]⟩) := (unhide HRb).cell 1
      have u2 : wr.cell? ⟨w.heap.size, 2, none⟩ = some (.int .u64 0) := (unhide HRb).cell 2
      have u3 : wr.cell? ⟨w.heap.size, 3, none⟩ = some (.int .u64 0) := (unhide HRb).cell 3
      have u4 : wr.cell? ⟨w.heap.size, 4, none⟩ = some (.slice none 0 0) := (unhide HRb).cell 4
      have uf : ∀ i, wr.frozen? ⟨w.heap.size, i, none⟩ = false := (unhide HRb).free
      go_wp2
      refine bodyPost_ret (v := .tuple #[proofZ, .bool false]) ?_ rfl ⟨((((((unhide HRb).setR 0 _).setR 1 _).setR 2 _).setR 3 _).setR 4 _).below, fun _ => rfl, fun i hi hie _ => ?_⟩
      · simp [results, Tryz.results58, go_sem, proofZ, u0, u1, u2, u3, u4]
      · exact absurd hie (unhide HNo i (by have := unhide HN; omega) hi)

end Go.Proofs.YtbjobbkgelipmaaGreat

/-
  The walk of tithe's Proof (a book's).
-/
namespace Go.Proofs.YtbjobbkgelipmaaGreat
open Go.RowKit

theorem proofTo_beside (ls : List LeafD) (h p : Nat) (x : LeafD) : ∀ k, proofTo ls h p x k = [UInt8.ofNat h, UInt8.ofNat p] ++ leafB x.nm.data.toList x.bal x.salt ++ sidesB (besideT ls p k)
  | 0 => by simp [proofTo, sidesB, besideT]
  | k + 1 => by rw [proofTo, proofTo_beside ls h p x k, besideT_snoc, sidesB_snoc]; simp

set_option maxHeartbeats 400000 in
set_option maxRecDepth 100000 in
theorem bproof_early {w : World} {B M : Nat} {h seed tot : Int} {E : List Acct} (hb : BookT w B M h seed none tot E) (s : ByteArray) :
    Calls Tryz.prog 34 #[.pointer (some ⟨B, 0, none⟩), .string s] w fun e w' => e = .returned (.tuple #[.slice none 0 0, .int .i64 8]) ∧ w' = w := by
  have c4 : w.cell? ⟨B, 4, none⟩ = some (.pointer none) := block_cell hb.blk
  clear hb
  go_enter Tryz.func34, Tryz.ntmps34
  go_wp2
  go_ret2
  exact ⟨rfl, rfl⟩

set_option maxHeartbeats 400000 in
set_option maxRecDepth 100000 in
theorem bproof_no {w : World} {B M T b cap V vc : Nat} {h : Nat} {seed tot : Int} {E : List Acct} {gs : List Nat} {ls : List LeafD} (hb : BookT w B M (h : Int) seed (some ⟨T, 0, none⟩) tot E) (t : TreeM w T b cap V vc gs ls h) (s : ByteArray) (hh : h ≤ 6) (hn : ls.length ≤ 2 ^ h) (hno : ∀ x ∈ ls, x.nm ≠ s) :
    Calls Tryz.prog 34 #[.pointer (some ⟨B, 0, none⟩), .string s] w fun e w' => e = .returned (.tuple #[.slice none 0 0, .int .i64 4]) ∧ Below w.heap.size w w' := by
  have c4 : w.cell? ⟨B, 4, none⟩ = some (.pointer (some ⟨T, 0, none⟩)) := block_cell hb.blk
  have hP := tproof_any t s hh hn
  have HP : Hid (Calls Tryz.prog 58 #[.pointer (some ⟨T, 0, none⟩), .string s] w fun e w' => e = .returned (.tuple #[proofZ, .bool false]) ∧ Below w.heap.size w w') := hP.mono fun e w' hp => ⟨hp.2.1 hno, hp.1⟩
  clear hb t hP hno hn hh
  unfold proofZ at HP
  go_enter Tryz.func34, Tryz.ntmps34
  go_wp2_with fail
  refine (unhide HP).mono ?_
  rintro e w1 ⟨rfl, hb1⟩
  have HB := hide (hb1.alloc hb1.size (Obj.cells #[Value.int IntKind.i64 0, Value.string ⟨#[]⟩, Value.int IntKind.u64 0, Value.int IntKind.u64 0, Value.slice none 0 0] 118))
  clear hb1 HP
  go_wp2
  go_ret2
  exact ⟨rfl, unhide HB⟩

set_option maxHeartbeats 1000000 in
set_option maxRecDepth 100000 in
theorem bproof_yes {w : World} {B M T b cap V vc : Nat} {h : Nat} {seed tot : Int} {E : List Acct} {gs : List Nat} {ls : List LeafD} (hb : BookT w B M (h : Int) seed (some ⟨T, 0, none⟩) tot E) (t : TreeM w T b cap V vc gs ls h) (s : ByteArray) (hh : h ≤ 6) (hn : ls.length ≤ 2 ^ h) (hp : ∀ x ∈ ls, 0 ≤ x.bal) (hm : sumL ls ≤ maxS)
    (i : Nat) (hi : i < ls.length) (hie : ls[i].nm = s) (hmin : ∀ j (hj : j < i), (ls[j]'(by omega)).nm ≠ s) :
    Calls Tryz.prog 34 #[.pointer (some ⟨B, 0, none⟩), .string s] w fun e w' => (∃ v, e = .returned (.tuple #[v, .int .i64 0]) ∧ w'.ownsRow w.heap.size 5 1 v (s.size + 19 + 11 * h) (byteVals (proofTo ls h i ls[i] h))) ∧ Below w.heap.size w w' := by
  have c4 : w.cell? ⟨B, 4, none⟩ = some (.pointer (some ⟨T, 0, none⟩)) := block_cell hb.blk
  have h64 : 2 ^ h ≤ 2 ^ 6 := Nat.pow_le_pow_right (by omega) hh
  have hok := t.leaves.ok _ (List.getElem_mem hi)
  have hP := tproof_any t s hh hn
  rw [proofTo_beside]
  obtain ⟨x, hx⟩ : ∃ x, ls[i] = x := ⟨_, rfl⟩
  have HP : Hid (Calls Tryz.prog 58 #[.pointer (some ⟨T, 0, none⟩), .string s] w fun e w' => (∃ g, e = .returned (.tuple #[proofV (i : Int) x.nm x.bal x.salt (some ⟨g, 0, none⟩) h h, .bool true]) ∧ g < w'.heap.size ∧ SidesAt w' g (besideT ls i h)) ∧ Below w.heap.size w w') := hP.mono fun e w' hp => by
    obtain ⟨g, he, h1, _, h3⟩ := hp.2.2 i hi hie hmin
    rw [hx] at he
    exact ⟨⟨g, he, h1, h3⟩, hp.1⟩
  rw [hx] at hok hie ⊢
  have hbl := besideT_len ls i h
  have hW := fun (w' : World) (g : Nat) (hg : g < w'.heap.size) (hs : SidesAt w' g (besideT ls i h)) => wrproof_any i x.nm x.bal x.salt g h (besideT ls i h) w' (by omega) hok.1 hok.2.1 hok.2.2.1 hok.2.2.2.1 hok.2.2.2.2 (by rw [hbl]; exact hh) hg hs (fun y hy => by
    unfold besideT at hy
    obtain ⟨k, _, rfl⟩ := List.mem_map.1 hy
    have := side_range ls hp hm k (sib (i / 2 ^ k))
    unfold maxS at this
    omega)
  rw [hbl, hie] at hW
  rw [hie] at HP ⊢
  generalize [UInt8.ofNat h, UInt8.ofNat i] ++ leafB s.data.toList x.bal x.salt ++ sidesB (besideT ls i h) = PB at *
  have HW := hide hW
  generalize besideT ls i h = ys at *
  generalize x.bal = bal at *
  generalize x.salt = salt at *
  clear hb t hP hok hn hp hm hx hie hmin hW hbl h64
  unfold proofV at *
  go_enter Tryz.func34, Tryz.ntmps34
  go_wp2_with fail
  refine (unhide HP).mono ?_
  rintro e w1 ⟨⟨g, rfl, hg, hsd⟩, hb1⟩
  have m1 := heap_alloc_new w1 (Obj.cells #[Value.int IntKind.i64 (i : Int), Value.string s, Value.int IntKind.u64 bal, Value.int IntKind.u64 salt, Value.slice (some ⟨g, 0, none⟩) h h] 118)
  have hA1 : Below w1.heap.size w1 (w1.alloc (Obj.cells #[Value.int IntKind.i64 (i : Int), Value.string s, Value.int IntKind.u64 bal, Value.int IntKind.u64 salt, Value.slice (some ⟨g, 0, none⟩) h h] 118)) := (Below.refl _ _).alloc (Nat.le_refl _) _
  have HB := hide (hb1.alloc hb1.size (Obj.cells #[Value.int IntKind.i64 (i : Int), Value.string s, Value.int IntKind.u64 bal, Value.int IntKind.u64 salt, Value.slice (some ⟨g, 0, none⟩) h h] 118))
  have HC := hide (unhide HW _ g (Nat.lt_of_lt_of_le hg hA1.size) (hsd.below hA1 hg))
  clear hsd hg hb1 HP HW hA1
  go_upto_region 6 with fail
  generalize (w1.alloc (Obj.cells #[Value.int IntKind.i64 (i : Int), Value.string s, Value.int IntKind.u64 bal, Value.int IntKind.u64 salt, Value.slice (some ⟨g, 0, none⟩) h h] 118)) = W3 at *
  generalize w1.heap.size = X at *
  have z0 : W3.cell? ⟨X, 0, none⟩ = some (.int .i64 (i : Int)) := block_cell m1
  have z1 : W3.cell? ⟨X, 1, none⟩ = some (.string s) := block_cell m1
  have z2 : W3.cell? ⟨X, 2, none⟩ = some (.int .u64 bal) := block_cell m1
  have z3 : W3.cell? ⟨X, 3, none⟩ = some (.int .u64 salt) := block_cell m1
  have z4 : W3.cell? ⟨X, 4, none⟩ = some (.slice (some ⟨g, 0, none⟩) h h) := block_cell m1
  clear m1
  go_wp2_with fail
  refine (unhide HC).mono ?_
  rintro e w4 ⟨⟨v4, rfl, hown4⟩, hb4⟩
  have HE := hide (And.intro (own_lower hown4 (unhide HB).size) ((unhide HB).trans (hb4.mono (unhide HB).size)))
  clear hown4 hb4 HC HB z0 z1 z2 z3 z4
  go_wp2
  go_ret2
  exact ⟨⟨_, rfl, (unhide HE).1⟩, (unhide HE).2⟩

end Go.Proofs.YtbjobbkgelipmaaGreat

/-
  A player's two books answer alike: Publish and Proof.
-/
namespace Go.Proofs.YtbjobbkgelipmaaGreat
open Go.RowKit Go.Maps

/-- What two calls owe that answer a list and a text: the same bytes; the list is new, and its owner's. -/
def PairL (w : World) (B : Nat) (c : Nat → Nat) (i n p : Nat) (f g : FuncId) (fa ga : Array Value) (l : List UInt8) (code : Int) : Prop :=
  ∀ w0, Below w.heap.size w w0 → Calls Tryz.prog f fa w0 fun e w1 => ∃ v, e = .returned (.tuple #[v, .int .i64 code]) ∧ w1.ownsRow w0.heap.size 5 1 v l.length (byteVals l) ∧ KeptS (Mine c i w.heap.size) w0 w1 ∧ ∀ w1', Below w1.heap.size w1 w1' →
    Calls Tryz.prog g ga w1' fun e w2 => e = .returned (.tuple #[strV l, .int .i64 code]) ∧ KeptS (Mine c i w.heap.size) w1' w2 ∧ ∃ c' : Nat → Nat, (∀ g, g < w.heap.size → c' g = c g) ∧ (∀ g, v.ownBlock = some g → c' g = 0) ∧ PlOk w2 B c' i (n + 1) p

theorem reportB_length (ls : List LeafD) (h : Nat) : (reportB ls h).length = 12 := by unfold reportB; rw [List.length_cons, sideB_length]
theorem own_none (w : World) (base : Nat) : w.ownsRow base 5 1 (.slice none 0 0) ([] : List UInt8).length (byteVals []) := ⟨rfl, .inl ⟨rfl, rfl⟩⟩
theorem own_cell0 {w : World} {base g o : Nat} {v : Value} {l : List UInt8} (h : w.ownsRow base 5 1 v l.length (byteVals l)) (hg : v.ownBlock = some g) (ho : o < l.length) : ∃ x : Int, w.cell? ⟨g, o, none⟩ = some (.int .u8 x) := by
  rcases h.2 with ⟨e1, e2⟩ | ⟨g', cap, cur, e1, e2, e3, e4, _, e6, e7⟩
  · rw [e1] at hg; cases hg
  · rw [e1] at hg
    have e : g' = g := Option.some.inj hg
    subst e
    rw [block_cell e3]
    have h7 : (byteVals l)[o]? = cur[o]? := by
      rw [← e7, List.getElem?_take, if_pos (by omega)]
      simp
    rw [← h7]
    unfold byteVals
    rw [List.getElem?_map, List.getElem?_eq_getElem ho]
    exact ⟨_, rfl⟩

theorem first_at (s : ByteArray) : ∀ ls : List LeafD, (∀ x ∈ ls, x.nm ≠ s) ∨ ∃ i, ∃ hi : i < ls.length, ls[i].nm = s ∧ ∀ j (hj : j < i), (ls[j]'(by omega)).nm ≠ s
  | [] => .inl (fun _ h => by cases h)
  | a :: ls => by
    by_cases h : a.nm = s
    · exact .inr ⟨0, by simp, h, fun j hj => by omega⟩
    · rcases first_at s ls with h1 | ⟨i, hi, h1, h2⟩
      · refine .inl fun x hx => ?_
        rcases List.mem_cons.1 hx with rfl | hx
        · exact h
        · exact h1 x hx
      · refine .inr ⟨i + 1, by simpa using hi, by simpa using h1, fun j hj => ?_⟩
        cases j with
        | zero => simpa using h
        | succ j => simpa using h2 j (by omega)

section
variable {w : World} {B : Nat} {c : Nat → Nat} {i n p Bk M Rb h : Nat} {seed : Int} {last : Option Addr} {E : List Acct} {lv : Value} {th : Int} {tv : Value} {told : Bool}

/-- Nothing of the player has turned; what is new is the script's. -/
theorem PlI.new0 (x : PlI w B c i n p Bk M Rb h seed last E lv th tv told) {w2 : World} (b : Below w.heap.size w w2) : PlOk w2 B (fun g => if g < w.heap.size then c g else 0) i (n + 1) p :=
  ⟨_, _, _, _, _, _, _, _, _, _, _, x.kept b.size (fun g hg => if_pos hg) (by omega) (fun g hg _ => b.block g hg)⟩
theorem own_new0 {w w0 w1 : World} {c : Nat → Nat} {v : Value} {k : Nat} {xs : List Value} (h : w1.ownsRow w0.heap.size 5 1 v k xs) (b0 : w.heap.size ≤ w0.heap.size) : ∀ g, v.ownBlock = some g → (if g < w.heap.size then c g else 0) = 0 := fun g hg => by
  have := (h.lt g hg).1
  rw [if_neg (by omega)]

theorem pair_proof (x : PlI w B c i n p Bk M Rb h seed last E lv th tv told) (s : ByteArray) : ∃ l code, l.length ≤ 93 ∧
    PairL w B c i n p 34 35 #[ptrV Bk, .string s] #[ptrV Rb, .string s] l code := by
  rcases x.tree with ⟨t1, t2⟩ | ⟨t1, t2, T, b, cap, V, vc, gs, ls, la, lc, e1, tm, e2, lo, e3, e4, e5, g1, g2, g3, g4, g5⟩
  · refine ⟨[], 8, by simp, fun w0 b0 => ?_⟩
    have hb := (x.later b0).book.toBookT
    rw [t1] at hb
    refine (bproof_early hb s).mono ?_
    rintro e w1 ⟨rfl, rfl⟩
    refine ⟨_, rfl, own_none _ _, KeptS.refl _ _, fun w1' b1 => ?_⟩
    have b01 := b0.trans (b1.mono b0.size)
    have hr := (x.later b01).ref
    rw [t2] at hr
    refine (refproof_early hr s).mono ?_
    rintro e w2 ⟨rfl, rfl⟩
    exact ⟨rfl, KeptS.refl _ _, _, fun g hg => if_pos hg, own_new0 (own_none w1 w1.heap.size) b0.size, x.new0 b01⟩
  · have hh := x.hh
    rcases first_at s ls with hno | ⟨k, hk, hks, hmin⟩
    · refine ⟨[], 4, by simp, fun w0 b0 => ?_⟩
      have hb := (x.later b0).book.toBookT
      rw [e1] at hb
      refine (bproof_no hb (tm.later b0) s hh e3 hno).mono ?_
      rintro e w1 ⟨rfl, hb1⟩
      refine ⟨_, rfl, own_none _ _, KeptS.of_below hb1, fun w1' b1 => ?_⟩
      have b01 := (b0.trans (hb1.mono b0.size)).trans (b1.mono (Nat.le_trans b0.size hb1.size))
      have hr := (x.later b01).ref
      rw [t1, t2, e2] at hr
      refine (refproof_any hr (lo.below b01) hh e3 s).mono ?_
      rintro e w2 ⟨he, _, hb2⟩
      exact ⟨he hno, KeptS.of_below hb2, _, fun g hg => if_pos hg, own_new0 (own_none w1 w0.heap.size) b0.size, x.new0 (b01.trans (hb2.mono b01.size))⟩
    · have hok := lo.ok _ (List.getElem_mem hk)
      have h8 : s.size ≤ 8 := by rw [← hks]; exact hok.1
      have hlen : (proofTo ls h k ls[k] h).length = s.size + 19 + 11 * h := by rw [proofTo_length, hks]
      refine ⟨proofTo ls h k ls[k] h, 0, by omega, fun w0 b0 => ?_⟩
      have hb := (x.later b0).book.toBookT
      rw [e1] at hb
      refine (bproof_yes hb (tm.later b0) s hh e3 e4 e5 k hk hks hmin).mono ?_
      rintro e w1 ⟨⟨v, rfl, hown⟩, hb1⟩
      rw [← hlen] at hown
      refine ⟨_, rfl, hown, KeptS.of_below hb1, fun w1' b1 => ?_⟩
      have b01 := (b0.trans (hb1.mono b0.size)).trans (b1.mono (Nat.le_trans b0.size hb1.size))
      have hr := (x.later b01).ref
      rw [t1, t2, e2] at hr
      refine (refproof_any hr (lo.below b01) hh e3 s).mono ?_
      rintro e w2 ⟨_, he, hb2⟩
      exact ⟨he k hk hks hmin, KeptS.of_below hb2, _, fun g hg => if_pos hg, own_new0 hown b0.size, x.new0 (b01.trans (hb2.mono b01.size))⟩

theorem pair_pub (K : SortK) (x : PlI w B c i n p Bk M Rb h seed last E lv th tv told) (hn : n ≤ 2000000000000) : ∃ l code, l.length ≤ 93 ∧
    PairL w B c i n p 31 32 #[ptrV Bk] #[ptrV Rb] l code := by
  have hl := x.len
  have hh := x.hh
  by_cases hf : 2 ^ h < E.length
  · refine ⟨[], 7, by simp, fun w0 b0 => ?_⟩
    refine (publish_full (x.later b0).book.toBookT hh (by omega) hf).mono ?_
    rintro e w1 ⟨rfl, d, rfl⟩
    have bd : Below w0.heap.size w0 (w0.drewN d) := below_drewN (Below.refl _ _) _
    refine ⟨_, rfl, own_none _ _, KeptS.of_below bd, fun w1' b1 => ?_⟩
    have b01 := (b0.trans (bd.mono b0.size)).trans (b1.mono (Nat.le_trans b0.size bd.size))
    refine (refpub_full (x.later b01).ref hh (by omega) hf).mono ?_
    rintro e w2 ⟨rfl, rfl⟩
    exact ⟨rfl, KeptS.refl _ _, _, fun g hg => if_pos hg, own_new0 (own_none w0 w0.heap.size) b0.size, x.new0 b01⟩
  · have hf' : E.length ≤ 2 ^ h := by omega
    have hbal : ∀ a ∈ E, 0 ≤ a.bal ∧ a.bal < 18446744073709551616 := fun a ha => by
      refine ⟨x.book.pos a ha, ?_⟩
      have h1 := le_sum x.book.pos ha
      have h2 := x.book.sum
      unfold maxS at h2
      omega
    refine ⟨reportB (leavesE seed E E.length) h, 0, by rw [reportB_length]; omega, fun w0 b0 => ?_⟩
    have hp0 := leaves_pos (x.later b0).book.toBookT
    have hsm := x.book.sum
    refine (publish_ok K (x.later b0).book hh hf' x.nm).mono ?_
    rintro e w1 ⟨⟨v, T, b, cap, V, vc, gs, rfl, hown, hb1, tm, q1, q2, q3, q4⟩, k1⟩
    have hown' : w1.ownsRow w0.heap.size 5 1 v (reportB (leavesE seed E E.length) h).length (byteVals (reportB (leavesE seed E E.length) h)) := by rw [reportB_length]; exact hown
    have k1' : Kept (blksE Bk M E) w0 w1 := k1.mono (fun k hk => by simp at hk; subst hk; simp [blksE])
    refine ⟨_, rfl, hown', KeptS.of_kept k1' x.mineB, fun w1' b1 => ?_⟩
    refine (refpub_ok (x.refAt b0 k1' b1) hh hf' x.nm hbal).mono ?_
    rintro e w2 ⟨rfl, ⟨la, lc, hr, lo, hla⟩, k2⟩
    have k2' := k2.mono (one_sub Rb lv)
    have z0 := b0.size
    have z1 := k1.size
    have z1' := b1.size
    have z2 := k2.size
    have vlt : ∀ g, v.ownBlock = some g → w0.heap.size ≤ g ∧ g < w1.heap.size := fun g hg => hown.lt g hg
    -- what is new of tithe's, from w1 on
    have w12 : ∀ g, w0.heap.size ≤ g → g < w1.heap.size → w2.heap[g]? = w1.heap[g]? := fun g h1 h2 => by
      refine (k2.block g (by omega) (fun hm => ?_)).trans (b1.block g h2)
      simp at hm
      have := (Array.getElem?_eq_some_iff.1 x.ref.blk).1
      omega
    have far : ∀ g, g < w.heap.size → c g = 3 * i + 3 → w2.heap[g]? = w.heap[g]? := fun g hg e => by
      refine (k2'.block g (by omega) (fun hm => ?_)).trans ((b1.block g (by omega)).trans ((k1'.block g (by omega) (fun hm => ?_)).trans (b0.block g hg)))
      · have := x.cr g hm; omega
      · have := x.cb g hm; omega
    have c1 : ∀ g, g < w.heap.size → (if g < w.heap.size then c g else if some g = v.ownBlock then 0 else 3 * i + 3) = c g := fun g hg => if_pos hg
    have c3 : ∀ g, w0.heap.size ≤ g → some g ≠ v.ownBlock → (if g < w.heap.size then c g else if some g = v.ownBlock then 0 else 3 * i + 3) = 3 * i + 3 := fun g hg hne => by rw [if_neg (by omega), if_neg hne]
    have r12 : (reportB (leavesE seed E E.length) h).length = 12 := reportB_length _ _
    have nT : some T ≠ v.ownBlock := fun e => by
      obtain ⟨cur, ht⟩ := own_type hown e.symm
      rw [tm.blk] at ht
      simp at ht
    have nV : some V ≠ v.ownBlock := fun e => by
      obtain ⟨y, hy⟩ := own_cell0 hown' e.symm (o := 0) (by omega)
      rw [tm.rows 0 (Nat.zero_le _)] at hy
      cases hy
    have nb : leavesE seed E E.length ≠ [] → some b ≠ v.ownBlock := fun h0 e => by
      obtain ⟨y, hy⟩ := own_cell0 hown' e.symm (o := 0) (by omega)
      have h1 := (tm.leaves.cells 0 (List.length_pos_iff.2 h0)).1
      simp only [Nat.zero_mul, Nat.add_zero] at h1
      rw [h1] at hy
      cases hy
    have ng : ∀ j, j ≤ h → some (gs.getD j 0) ≠ v.ownBlock := fun j hj e => by
      obtain ⟨y, hy⟩ := own_cell0 hown' e.symm (o := 3) (by omega)
      have hpos : 0 < (levelT (leavesE seed E E.length) j (2 ^ (h - j))).length := by
        rw [levelT_len]
        exact Nat.pow_pos (by omega)
      have h1 := ((tm.sides j hj).1 0 hpos).2.2.2
      simp only [Nat.zero_mul, Nat.zero_add] at h1
      rw [h1] at hy
      cases hy
    refine ⟨rfl, KeptS.of_kept k2' x.mineR, fun g => if g < w.heap.size then c g else if some g = v.ownBlock then 0 else 3 * i + 3, c1, fun g hg => ?_, Bk, M, Rb, h, seed, some ⟨T, 0, none⟩, E, lv, (h : Int), .slice la E.length lc, true, ?_, ?_, ⟨?_, hb1.sum⟩, ?_, hr, ?_, hh, by omega, x.nm, .inr ⟨rfl, rfl, T, b, cap, V, vc, gs, leavesE seed E E.length, la, lc, rfl, ?_, ?_, lo, ?_, hp0, ?_, ?_, ?_, ?_, ?_, ?_⟩⟩
    · have := vlt g hg
      show (if g < w.heap.size then c g else if some g = v.ownBlock then 0 else 3 * i + 3) = 0
      rw [if_neg (by omega), if_pos hg.symm]
    · exact (far p (Array.getElem?_eq_some_iff.1 x.blk).1 x.cp).trans x.blk
    · exact (c1 p (Array.getElem?_eq_some_iff.1 x.blk).1).trans x.cp
    · refine hb1.toBookT.alike fun k hk => ?_
      have hl := x.book.toBookT.lts k hk
      refine (k2.block k (by omega) (fun hm => ?_)).trans (b1.block k (by omega))
      have e2 := x.cr k (one_sub Rb lv k hm)
      have e1 := x.cb k hk
      omega
    · exact fun k hk => (c1 k (x.book.toBookT.lts k hk)).trans (x.cb k hk)
    · exact fun k hk => (c1 k (x.ref.lts k hk)).trans (x.cr k hk)
    · exact tm.alike (w12 T q1 (Array.getElem?_eq_some_iff.1 tm.blk).1) (fun _ => w12 b q2 tm.leaves.lt) (w12 V q3 tm.vlt) (fun j hj => w12 _ (q4 j hj) (tm.sides j hj).2) (by omega)
    · rw [leavesE_len]
    · rw [leavesE_len]; exact hf'
    · rw [leaves_sum]; exact hsm
    · exact c3 T q1 nT
    · exact fun h0 => c3 b q2 (nb h0)
    · exact c3 V q3 nV
    · exact fun j hj => c3 _ (q4 j hj) (ng j hj)
    · intro ad e
      have h1 := hla ad e
      refine ⟨c3 ad.block (by omega) (fun e' => ?_), h1.2⟩
      have := vlt ad.block e'.symm
      omega
end

end Go.Proofs.YtbjobbkgelipmaaGreat

/-
  step where a book is asked for a report or a proof: a list comes out, and is kept.
-/
namespace Go.Proofs.YtbjobbkgelipmaaGreat
open Go.RowKit Go.Maps

set_option maxRecDepth 100000 in
/-- A list that is owned, made a text. -/
theorem conv_own {w : World} {base : Nat} {v : Value} {l : List UInt8} (h : w.ownsRow base 5 1 v l.length (byteVals l)) : (convert 51 9 v).run Tryz.prog w = .ok (.string ⟨l.toArray⟩) w := by
  rcases h.2 with ⟨e1, e2⟩ | ⟨g, cap, cur, e1, e2, e3, e4, e5, e6, e7⟩
  · have : l = [] := List.eq_nil_of_length_eq_zero e2
    subst this
    rw [e1]
    rfl
  · rw [e1]
    refine run_convert_bytes_back (P := Tryz.prog) w 51 9 5 ⟨g, 0, none⟩ cap l Tryz.underlying51 Tryz.underlying5 Tryz.underlying9 (fun j hj => ?_)
    rw [addr_add, block_cell e3]
    have h7 : (byteVals l)[j]? = cur[j]? := by
      rw [← e7, List.getElem?_take, if_pos (by omega)]
      simp
    show cur[0 + j]? = _
    rw [Nat.zero_add, ← h7]
    simp [byteVals, List.getElem?_eq_getElem hj]

set_option maxHeartbeats 1000000 in
set_option maxRecDepth 100000 in
theorem step_proof {w : World} {B n : Nat} {c : Nat → Nat} {ps hv : Value} {hs : List HoldD} {pl : List Nat} (J : Joint w B n c ps hv hs pl) (h0 : 0 < pl.length) (_hn : n < 2000000000000) (nn h sd : Int) (s t : ByteArray) (la : Option Addr) (ll lc : Nat) (a : Int) (hr1 : -9223372036854775808 ≤ nn) (hr2 : nn < 9223372036854775808) (_hss : s.size ≤ 140737488351232) (hl : (hs.length + 4) * 8 ≤ 140737488355328) :
    Calls Tryz.prog 12 #[.pointer (some ⟨B, 0, none⟩), opV 12 nn h sd s t la ll lc a] w fun e w' => e = .returned (.bool true) ∧ Below B w w' ∧ ∃ c' hv' hs', Joint w' B (n + 1) c' ps hv' hs' pl ∧ hs'.length = hs.length + 4 := by
  obtain ⟨gp, cap, _, cB0, hgp, hcap, hpl⟩ := J.at h0
  have h4 := J.four
  have hq := pickL_range nn (pl.length : Int) (by omega)
  have HPk := fun w => hide (pickL_any nn (pl.length : Int) w hr1 hr2 (by omega) (by omega))
  generalize pickL nn (pl.length : Int) = q at *
  obtain ⟨i, rfl⟩ : ∃ i : Nat, q = (i : Int) := ⟨q.toNat, by omega⟩
  have hi : i < pl.length := by omega
  have cpi := hpl i hi
  obtain ⟨Bk, M, Rb, hh, seed, last, E, lv, th, tv, told, x⟩ := J.pls i hi
  have hBl := J.inv.lt
  obtain ⟨l, code, hl93, hPr⟩ := pair_proof x s
  have HPr := hide hPr
  have hpl' : pl[i] < w.heap.size := (Array.getElem?_eq_some_iff.1 x.blk).1
  have hpn : ¬ Mine c i w.heap.size pl[i] := fun hm => by have := x.cp; rcases hm.2 with e | e <;> omega
  have hOn : ¬ Mine c i w.heap.size w.heap.size := fun hm => by have := hm.1; omega
  have cp0 : w.cell? ⟨pl[i], 0, none⟩ = some (.pointer (some ⟨Bk, 0, none⟩)) := block_cell x.blk
  have cp1 : w.cell? ⟨pl[i], 1, none⟩ = some (.pointer (some ⟨Rb, 0, none⟩)) := block_cell x.blk
  have HJ := hide fun (w' : World) (c' : Nat → Nat) (k : KeptS (Mine c i w.heap.size) w w') (hc : ∀ g, g < w.heap.size → c' g = c g) (hp : PlOk w' B c' i (n + 1) pl[i]) => And.intro (k.below (Nat.le_of_lt hBl) (fun g hm => Nat.le_of_lt (J.above g (by rcases hm.2 with e | e <;> omega)))) (J.turn hi k hc (Nat.le_succ n) hp)
  have HCL := hide (And.intro J.above (And.intro J.inv.lt (And.intro hl (fun (x : HoldD) (hx : x ∈ hs) (g : Nat) (hg : x.v.ownBlock = some g) => own_lt (J.inv.ok x hx).own hg))))
  clear J x hpl hl
  obtain ⟨L, hL⟩ : ∃ L, pl.length = L := ⟨_, rfl⟩
  have hiL : i < L := by omega
  have hLc : L ≤ cap := by omega
  have hL4 : L ≤ 4 := by omega
  have hL0 : 0 < L := by omega
  rw [hL] at cB0 HPk
  generalize hpi : pl[i] = p at *
  unfold PairL ptrV strV at HPr
  clear hq h0 h4 hcap
  unfold opV
  go_enter Tryz.func12, Tryz.ntmps12
  go_wp2_with fail
  generalize hW0 : w.alloc (Obj.cells #[Value.int IntKind.i64 12, Value.int IntKind.i64 nn, Value.int IntKind.i64 h, Value.int IntKind.u64 sd, Value.string s, Value.string t, Value.slice la ll lc, Value.int IntKind.u64 a] 38) = W0
  have hz0 : W0.heap.size = w.heap.size + 1 := by rw [← hW0]; simp
  have o0 : W0.cell? ⟨w.heap.size, 0, none⟩ = some (.int .i64 12) := by rw [← hW0]; simp
  have o1 : W0.cell? ⟨w.heap.size, 1, none⟩ = some (.int .i64 nn) := by rw [← hW0]; simp
  have o4 : W0.cell? ⟨w.heap.size, 4, none⟩ = some (.string s) := by rw [← hW0]; simp
  have hA0 : Below w.heap.size w W0 := by rw [← hW0]; exact (Below.refl _ _).alloc (Nat.le_refl _) _
  have p0 := keepB hA0 hpl' cp0
  have p1 := keepB hA0 hpl' cp1
  have b0 := keepB hA0 hBl cB0
  have i0 := keepB hA0 hgp cpi
  have HA0 := hide hA0
  clear hW0 hA0 cp0 cp1 cB0 cpi
  go_quiet ((go_at_call 18; exact (unhide (HPk _)).mono fun _ _ h => ⟨h.1, _, h.2⟩))
  go_wp2_with fail
  have hSe : (W0.drewN nq).drew.cell? ⟨w.heap.size, 4, none⟩ = some (.string s) ∧ (W0.drewN nq).drew.cell? ⟨p, 0, none⟩ = some (.pointer (some ⟨Bk, 0, none⟩)) ∧ (W0.drewN nq).drew.cell? ⟨p, 1, none⟩ = some (.pointer (some ⟨Rb, 0, none⟩)) := ⟨o4, p0, p1⟩
  have hBd : Below w.heap.size w (W0.drewN nq).drew := (below_drewN (unhide HA0) nq).drew
  have hO : w.heap.size < (W0.drewN nq).drew.heap.size := by show w.heap.size < W0.heap.size; omega
  have hp' : p < (W0.drewN nq).drew.heap.size := by show p < W0.heap.size; omega
  have H1 := hide (unhide HPr _ hBd)
  have HB := hide (And.intro hBd (And.intro hO hp'))
  have HN := hide (And.intro hOn hpn)
  clear HPk HPr hBd hO hp' hOn hpn
  go_region_held3 (fun w' => w'.cell? ⟨w.heap.size, 4, none⟩ = some (.string s) ∧ w'.cell? ⟨p, 0, none⟩ = some (.pointer (some ⟨Bk, 0, none⟩)) ∧ w'.cell? ⟨p, 1, none⟩ = some (.pointer (some ⟨Rb, 0, none⟩)))
    (first | with_reducible exact hS3 | with_reducible exact hSe)
    (first
      | (go_at_call 34; refine (unhide H1).mono ?_; rintro e w3 ⟨v, rfl, hown3, hk3, hnx⟩; have hS3 : w3.cell? ⟨w.heap.size, 4, none⟩ = some (.string s) ∧ w3.cell? ⟨p, 0, none⟩ = some (.pointer (some ⟨Bk, 0, none⟩)) ∧ w3.cell? ⟨p, 1, none⟩ = some (.pointer (some ⟨Rb, 0, none⟩)) := ⟨(hk3.cell (unhide HB).2.1 (unhide HN).1).trans o4, (hk3.cell (unhide HB).2.2 (unhide HN).2).trans p0, (hk3.cell (unhide HB).2.2 (unhide HN).2).trans p1⟩; have HK3 := hide hk3; have HO3 := hide hown3; clear hown3; have H2 := hide hnx; clear hk3 hnx))
  clear hSe o4 p0 p1
  have o4' := hS3.1
  have p0' := hS3.2.1
  have p1' := hS3.2.2
  have hSf : w3.drew.cell? ⟨w.heap.size, 4, none⟩ = some (.string s) ∧ w3.drew.cell? ⟨p, 0, none⟩ = some (.pointer (some ⟨Bk, 0, none⟩)) ∧ w3.drew.cell? ⟨p, 1, none⟩ = some (.pointer (some ⟨Rb, 0, none⟩)) := hS3
  go_wp2_with fail
  go_region_held3 (fun w' => w'.cell? ⟨w.heap.size, 4, none⟩ = some (.string s) ∧ w'.cell? ⟨p, 0, none⟩ = some (.pointer (some ⟨Bk, 0, none⟩)) ∧ w'.cell? ⟨p, 1, none⟩ = some (.pointer (some ⟨Rb, 0, none⟩)))
    (first | with_reducible exact hS4 | with_reducible exact hSf)
    (first
      | (go_at_call 35; refine (unhide H2 _ (Below.refl _ _).drew).mono ?_; rintro e w4 ⟨rfl, hk4, c', hc', hcc, hpl4⟩; have hS4 : w4.cell? ⟨w.heap.size, 4, none⟩ = some (.string s) ∧ w4.cell? ⟨p, 0, none⟩ = some (.pointer (some ⟨Bk, 0, none⟩)) ∧ w4.cell? ⟨p, 1, none⟩ = some (.pointer (some ⟨Rb, 0, none⟩)) := ⟨(hk4.cell (Nat.lt_of_lt_of_le (unhide HB).2.1 (unhide HK3).size) (unhide HN).1).trans hS3.1, (hk4.cell (Nat.lt_of_lt_of_le (unhide HB).2.2 (unhide HK3).size) (unhide HN).2).trans hS3.2.1, (hk4.cell (Nat.lt_of_lt_of_le (unhide HB).2.2 (unhide HK3).size) (unhide HN).2).trans hS3.2.2⟩; have HE := hide (unhide HJ w4 c' ((KeptS.of_below (unhide HB).1).trans ((unhide HK3).trans ((KeptS.of_below (Below.refl _ _).drew).trans hk4))) hc' hpl4); have HO4 := hide (own_lower (own_same (unhide HO3) (fun g hg => hk4.block g ((unhide HO3).lt g hg).2 (fun hm => by have h1 := hm.1; have h2 := ((unhide HO3).lt g hg).1; have h3 := (unhide HB).1.size; omega))) (show B + 1 ≤ _ by have h1 := (unhide HCL).2.1; have h3 := (unhide HB).1.size; omega)); have H4c := hide hcc; clear hk4 hc' hcc hpl4))
  clear hS3 hS4 hSf o4' p0' p1'
  have hcv := conv_own (unhide HO4)
  have HSp : ∀ x ∈ hs, x.v.ownBlock = none ∨ x.v.ownBlock ≠ v.ownBlock := fun x hx => by
    cases hx' : x.v.ownBlock with
    | none => exact .inl rfl
    | some g =>
      refine .inr fun e => ?_
      have h1 := (unhide HCL).2.2.2 x hx g hx'
      have h2 := ((unhide HO3).lt g e.symm).1
      have h3 := (unhide HB).1.size
      omega
  have HSp' := hide HSp
  clear HSp
  go_wp2_with fail
  refine (keep_any (unhide HE).2.inv (unhide HO4) (unhide HSp') (by omega) (unhide HCL).2.2.1).mono ?_
  rintro e w5 ⟨rfl, hv', vb', hs', hSt, hlen⟩
  have hJ5 := (unhide HE).2.keep (unhide HO4) (unhide H4c) hSt
  have hB5 : Below B w w5 := (unhide HE).1.trans (hSt.frame.below (Nat.le_of_lt (unhide HE).2.inv.lt) (fun g hg => by have := ((unhide HO4).lt g hg).1; omega) (fun g hg => by have := ((unhide HE).2.inv.own.lt g hg).1; omega))
  have HF := hide (And.intro hB5 (And.intro hJ5 hlen))
  clear hSt hJ5 hB5 hlen hcv HE HO4 HO3
  go_wp2
  go_ret
  exact ⟨rfl, (unhide HF).1, _, _, _, (unhide HF).2.1, (unhide HF).2.2⟩

set_option maxHeartbeats 1000000 in
set_option maxRecDepth 100000 in
theorem step_pub (K : SortK) {w : World} {B n : Nat} {c : Nat → Nat} {ps hv : Value} {hs : List HoldD} {pl : List Nat} (J : Joint w B n c ps hv hs pl) (h0 : 0 < pl.length) (hn : n < 2000000000000) (nn h sd : Int) (s t : ByteArray) (la : Option Addr) (ll lc : Nat) (a : Int) (hr1 : -9223372036854775808 ≤ nn) (hr2 : nn < 9223372036854775808) (_hss : s.size ≤ 140737488351232) (hl : (hs.length + 4) * 8 ≤ 140737488355328) :
    Calls Tryz.prog 12 #[.pointer (some ⟨B, 0, none⟩), opV 11 nn h sd s t la ll lc a] w fun e w' => e = .returned (.bool true) ∧ Below B w w' ∧ ∃ c' hv' hs', Joint w' B (n + 1) c' ps hv' hs' pl ∧ hs'.length = hs.length + 4 := by
  obtain ⟨gp, cap, _, cB0, hgp, hcap, hpl⟩ := J.at h0
  have h4 := J.four
  have hq := pickL_range nn (pl.length : Int) (by omega)
  have HPk := fun w => hide (pickL_any nn (pl.length : Int) w hr1 hr2 (by omega) (by omega))
  generalize pickL nn (pl.length : Int) = q at *
  obtain ⟨i, rfl⟩ : ∃ i : Nat, q = (i : Int) := ⟨q.toNat, by omega⟩
  have hi : i < pl.length := by omega
  have cpi := hpl i hi
  obtain ⟨Bk, M, Rb, hh, seed, last, E, lv, th, tv, told, x⟩ := J.pls i hi
  have hBl := J.inv.lt
  obtain ⟨l, code, hl93, hPr⟩ := pair_pub K x (by omega)
  have HPr := hide hPr
  have hpl' : pl[i] < w.heap.size := (Array.getElem?_eq_some_iff.1 x.blk).1
  have hpn : ¬ Mine c i w.heap.size pl[i] := fun hm => by have := x.cp; rcases hm.2 with e | e <;> omega
  have hOn : ¬ Mine c i w.heap.size w.heap.size := fun hm => by have := hm.1; omega
  have cp0 : w.cell? ⟨pl[i], 0, none⟩ = some (.pointer (some ⟨Bk, 0, none⟩)) := block_cell x.blk
  have cp1 : w.cell? ⟨pl[i], 1, none⟩ = some (.pointer (some ⟨Rb, 0, none⟩)) := block_cell x.blk
  have HJ := hide fun (w' : World) (c' : Nat → Nat) (k : KeptS (Mine c i w.heap.size) w w') (hc : ∀ g, g < w.heap.size → c' g = c g) (hp : PlOk w' B c' i (n + 1) pl[i]) => And.intro (k.below (Nat.le_of_lt hBl) (fun g hm => Nat.le_of_lt (J.above g (by rcases hm.2 with e | e <;> omega)))) (J.turn hi k hc (Nat.le_succ n) hp)
  have HCL := hide (And.intro J.above (And.intro J.inv.lt (And.intro hl (fun (x : HoldD) (hx : x ∈ hs) (g : Nat) (hg : x.v.ownBlock = some g) => own_lt (J.inv.ok x hx).own hg))))
  clear J x hpl hl
  obtain ⟨L, hL⟩ : ∃ L, pl.length = L := ⟨_, rfl⟩
  have hiL : i < L := by omega
  have hLc : L ≤ cap := by omega
  have hL4 : L ≤ 4 := by omega
  have hL0 : 0 < L := by omega
  rw [hL] at cB0 HPk
  generalize hpi : pl[i] = p at *
  unfold PairL ptrV strV at HPr
  clear hq h0 h4 hcap
  unfold opV
  go_enter Tryz.func12, Tryz.ntmps12
  go_wp2_with fail
  generalize hW0 : w.alloc (Obj.cells #[Value.int IntKind.i64 11, Value.int IntKind.i64 nn, Value.int IntKind.i64 h, Value.int IntKind.u64 sd, Value.string s, Value.string t, Value.slice la ll lc, Value.int IntKind.u64 a] 38) = W0
  have hz0 : W0.heap.size = w.heap.size + 1 := by rw [← hW0]; simp
  have o0 : W0.cell? ⟨w.heap.size, 0, none⟩ = some (.int .i64 11) := by rw [← hW0]; simp
  have o1 : W0.cell? ⟨w.heap.size, 1, none⟩ = some (.int .i64 nn) := by rw [← hW0]; simp
  have o4 : W0.cell? ⟨w.heap.size, 4, none⟩ = some (.string s) := by rw [← hW0]; simp
  have hA0 : Below w.heap.size w W0 := by rw [← hW0]; exact (Below.refl _ _).alloc (Nat.le_refl _) _
  have p0 := keepB hA0 hpl' cp0
  have p1 := keepB hA0 hpl' cp1
  have b0 := keepB hA0 hBl cB0
  have i0 := keepB hA0 hgp cpi
  have HA0 := hide hA0
  clear hW0 hA0 cp0 cp1 cB0 cpi
  go_quiet ((go_at_call 18; exact (unhide (HPk _)).mono fun _ _ h => ⟨h.1, _, h.2⟩))
  go_wp2_with fail
  have hBd : Below w.heap.size w (W0.drewN nq) := below_drewN (unhide HA0) nq
  have hO : w.heap.size < (W0.drewN nq).heap.size := by show w.heap.size < W0.heap.size; omega
  have hp' : p < (W0.drewN nq).heap.size := by show p < W0.heap.size; omega
  have H1 := hide (unhide HPr _ hBd)
  have HB := hide (And.intro hBd (And.intro hO hp'))
  have HN := hide (And.intro hOn hpn)
  clear HPk HPr hBd hO hp' hOn hpn
  refine (unhide H1).mono ?_
  rintro e w3 ⟨v, rfl, hown3, hk3, hnx⟩
  have p1' : w3.cell? ⟨p, 1, none⟩ = some (.pointer (some ⟨Rb, 0, none⟩)) := (hk3.cell (unhide HB).2.2 (unhide HN).2).trans p1
  have HK3 := hide hk3
  have HO3 := hide hown3
  have H2 := hide hnx
  clear hk3 hown3 hnx H1 o4 p0 p1
  go_wp2_with fail
  refine (unhide H2 _ (Below.refl _ _)).mono ?_
  rintro e w4 ⟨rfl, hk4, c', hc', hcc, hpl4⟩
  have HE := hide (unhide HJ w4 c' ((KeptS.of_below (unhide HB).1).trans ((unhide HK3).trans hk4)) hc' hpl4)
  have HO4 := hide (own_lower (own_same (unhide HO3) (fun g hg => hk4.block g ((unhide HO3).lt g hg).2 (fun hm => by have h1 := hm.1; have h2 := ((unhide HO3).lt g hg).1; have h3 := (unhide HB).1.size; omega))) (show B + 1 ≤ _ by have h1 := (unhide HCL).2.1; have h3 := (unhide HB).1.size; omega))
  have H4c := hide hcc
  clear hk4 hc' hcc hpl4 p1'
  have hcv := conv_own (unhide HO4)
  have HSp : ∀ x ∈ hs, x.v.ownBlock = none ∨ x.v.ownBlock ≠ v.ownBlock := fun x hx => by
    cases hx' : x.v.ownBlock with
    | none => exact .inl rfl
    | some g =>
      refine .inr fun e => ?_
      have h1 := (unhide HCL).2.2.2 x hx g hx'
      have h2 := ((unhide HO3).lt g e.symm).1
      have h3 := (unhide HB).1.size
      omega
  have HSp' := hide HSp
  clear HSp
  go_wp2_with fail
  refine (keep_any (unhide HE).2.inv (unhide HO4) (unhide HSp') (by omega) (unhide HCL).2.2.1).mono ?_
  rintro e w5 ⟨rfl, hv', vb', hs', hSt, hlen⟩
  have hJ5 := (unhide HE).2.keep (unhide HO4) (unhide H4c) hSt
  have hB5 : Below B w w5 := (unhide HE).1.trans (hSt.frame.below (Nat.le_of_lt (unhide HE).2.inv.lt) (fun g hg => by have := ((unhide HO4).lt g hg).1; omega) (fun g hg => by have := ((unhide HE).2.inv.own.lt g hg).1; omega))
  have HF := hide (And.intro hB5 (And.intro hJ5 hlen))
  clear hSt hJ5 hB5 hlen hcv HE HO4 HO3
  go_wp2
  go_ret
  exact ⟨rfl, (unhide HF).1, _, _, _, (unhide HF).2.1, (unhide HF).2.2⟩

end Go.Proofs.YtbjobbkgelipmaaGreat

/-
  free and step where a book is made.
-/
namespace Go.Proofs.YtbjobbkgelipmaaGreat
open Go.RowKit Go.Maps

theorem Tryz.infoPlayer : (Tryz.prog.info? 52).map (fun i => (i.zero, i.size, i.bytes)) = some (some (.pointer none), 1, 8) := by kernel_rfl

theorem Joint.more {w w1 w2 w5 : World} {B n : Nat} {c : Nat → Nat} {ps hv : Value} {hs : List HoldD} {pl : List Nat} (J : Joint w B n c ps hv hs pl) {M Bk Rb h g cap : Nat} {seed : Int} {o : Obj} (b1 : Below w.heap.size w w1) (hM : w.heap.size ≤ M) (hBk : w.heap.size ≤ Bk) (hb : BookM w1 Bk M (h : Int) seed none [])
    (b2 : Below w1.heap.size w1 w2) (hRb : w1.heap.size ≤ Rb) (hr : RefT (B + 1) w2 Rb (h : Int) seed [] (.slice none 0 0) 0 (.slice none 0 0) false) (hh : h ≤ 6)
    (hg : ((w2.alloc (.cells #[ptrV Bk, ptrV Rb] 58)).alloc o).grownBy w5 ps.ownBlock)
    (hown : w5.ownsRow (B + 1) 52 1 (.slice (some ⟨g, 0, none⟩) (pl.length + 1) cap) (pl.length + 1) (pl.map ptrV ++ [ptrV w2.heap.size])) (hnew : ps.ownBlock = some g ∨ w2.heap.size + 1 + 1 ≤ g) (hl : pl.length < 4) :
    Below B w (w5.setCell ⟨B, 0, none⟩ (.slice (some ⟨g, 0, none⟩) (pl.length + 1) cap)) ∧ ∃ c', Joint (w5.setCell ⟨B, 0, none⟩ (.slice (some ⟨g, 0, none⟩) (pl.length + 1) cap)) B n c' (.slice (some ⟨g, 0, none⟩) (pl.length + 1) cap) hv hs (pl ++ [w2.heap.size]) := by
  have z1 := b1.size
  have z2 := b2.size
  have hBl := J.inv.lt
  have hz : ((w2.alloc (.cells #[ptrV Bk, ptrV Rb] 58)).alloc o).heap.size = w2.heap.size + 2 := by simp
  have z5 := hg.size
  rw [hz] at z5
  have hps : ∀ k, ps.ownBlock = some k → k < w.heap.size := fun k hk => own_lt J.own hk
  have hsz6 : (w5.setCell ⟨B, 0, none⟩ (.slice (some ⟨g, 0, none⟩) (pl.length + 1) cap)).heap.size = w5.heap.size := by simp
  generalize hV : (Value.slice (some ⟨g, 0, none⟩) (pl.length + 1) cap) = V at *
  have a2 : ∀ k, k < w2.heap.size → ((w2.alloc (.cells #[ptrV Bk, ptrV Rb] 58)).alloc o).heap[k]? = w2.heap[k]? := fun k hk => (Below.heap_alloc _ _ _ (by simp; omega)).trans (Below.heap_alloc _ _ _ hk)
  have k5 : ∀ k, k < w2.heap.size → some k ≠ ps.ownBlock → w5.heap[k]? = w2.heap[k]? := fun k hk hne => (hg.block k (by omega) hne).trans (a2 k hk)
  have k6 : ∀ k, k < w2.heap.size → k ≠ B → some k ≠ ps.ownBlock → (w5.setCell ⟨B, 0, none⟩ V).heap[k]? = w2.heap[k]? := fun k hk hB hne => (Below.heap_setCell _ _ _ _ hB).trans (k5 k hk hne)
  have kw : ∀ k, k < w.heap.size → k ≠ B → some k ≠ ps.ownBlock → (w5.setCell ⟨B, 0, none⟩ V).heap[k]? = w.heap[k]? := fun k hk hB hne => (k6 k (by omega) hB hne).trans ((b2.block k (by omega)).trans (b1.block k hk))
  have knew : ∀ k, w.heap.size ≤ k → k < w2.heap.size → (w5.setCell ⟨B, 0, none⟩ V).heap[k]? = w2.heap[k]? := fun k h1 h2 => k6 k h2 (by omega) (fun e => by have := hps k e.symm; omega)
  have hBps : some B ≠ ps.ownBlock := fun e => by
    obtain ⟨cur, ht⟩ := own_type J.own e.symm
    rw [J.inv.cell] at ht; simp at ht
  have cB5 : w5.heap[B]? = some (.cells #[ps, hv] 43 (0, 0)) := (k5 B (by omega) hBps).trans ((b2.block B (by omega)).trans ((b1.block B hBl).trans J.inv.cell))
  have tne : ∀ (k : Nat) (t : TypeId) (cur : Array Value), t ≠ 52 → w.heap[k]? = some (.cells cur t (0, 0)) → some k ≠ ps.ownBlock := fun k t cur ht hc e => by
    obtain ⟨cur', hc'⟩ := own_type J.own e.symm
    rw [hc] at hc'; simp at hc'; exact ht hc'.2
  have tnB : ∀ (k : Nat) (t : TypeId) (cur : Array Value), t ≠ 43 → w.heap[k]? = some (.cells cur t (0, 0)) → k ≠ B := fun k t cur ht hc e => by
    rw [e, J.inv.cell] at hc; simp at hc; exact ht hc.2.symm
  refine ⟨⟨?_, ?_, ?_, by omega, fun k hk => ?_⟩, fun k => if k < w.heap.size then c k else if k < w1.heap.size then 3 * pl.length + 1 else if k < w2.heap.size then 3 * pl.length + 2 else if k = w2.heap.size then 3 * pl.length + 3 else 0, ?_⟩
  · exact hg.os.trans (b2.os.trans b1.os)
  · exact hg.tape.trans (b2.tape.trans b1.tape)
  · exact hg.output.trans (b2.output.trans b1.output)
  · refine kw k (by omega) (by omega) (fun e => ?_)
    have := (J.own.lt k e.symm).1
    omega
  have c1 : ∀ k, k < w.heap.size → (if k < w.heap.size then c k else if k < w1.heap.size then 3 * pl.length + 1 else if k < w2.heap.size then 3 * pl.length + 2 else if k = w2.heap.size then 3 * pl.length + 3 else 0) = c k := fun k hk => if_pos hk
  have hgB : V.ownBlock = some g := by rw [← hV]; rfl
  refine ⟨⟨heap_setCell_same _ B 0 _ _ _ cB5, ?_, fun x hx => ?_⟩, (c1 B hBl).trans J.cB, fun k hk => (c1 k (own_lt J.inv.own hk)).trans (J.chv k hk), fun x hx => ⟨(c1 _ (Array.getElem?_eq_some_iff.1 (J.inv.ok x hx).cell).1).trans (J.chs x hx).1, fun k hk => (c1 k (own_lt (J.inv.ok x hx).own hk)).trans ((J.chs x hx).2 k hk)⟩, fun k hk => ?_, fun k hk => ?_, ?_, fun i hi => ?_, by simp; omega⟩
  · refine own_same J.inv.own fun k hk => ?_
    obtain ⟨cur, ht⟩ := own_type J.inv.own hk
    exact kw k (own_lt J.inv.own hk) (tnB k _ cur (by decide) ht) (tne k _ cur (by decide) ht)
  · have hx' := J.inv.ok x hx
    refine hx'.kept (kw _ (Array.getElem?_eq_some_iff.1 hx'.cell).1 (tnB _ _ _ (by decide) hx'.cell) (tne _ _ _ (by decide) hx'.cell)) (own_same hx'.own fun k hk => ?_)
    obtain ⟨cur, ht⟩ := own_type hx'.own hk
    exact kw k (own_lt hx'.own hk) (tnB k _ cur (by decide) ht) (tne k _ cur (by decide) ht)
  · rw [hgB] at hk
    have e : g = k := Option.some.inj hk
    subst e
    rcases hnew with e | e
    · exact (c1 g (hps g e)).trans (J.cps g e)
    · show (if g < w.heap.size then c g else if g < w1.heap.size then 3 * pl.length + 1 else if g < w2.heap.size then 3 * pl.length + 2 else if g = w2.heap.size then 3 * pl.length + 3 else 0) = 0
      rw [if_neg (by omega), if_neg (by omega), if_neg (by omega), if_neg (by omega)]
  · by_cases hlt : k < w.heap.size
    · exact J.above k (by rw [← c1 k hlt]; exact hk)
    · omega
  · have hown' : w5.ownsRow (B + 1) 52 1 V (pl ++ [w2.heap.size]).length ((pl ++ [w2.heap.size]).map ptrV) := by
      rw [List.length_append, List.map_append]
      exact hown
    refine own_same hown' fun k hk => Below.heap_setCell _ _ _ _ (fun e => ?_)
    have e' : k = B := e
    have := (hown.lt k hk).1
    omega
  · by_cases hil : i < pl.length
    · rw [List.getElem_append_left hil]
      refine (J.pls i hil).kept (by omega) c1 (Nat.le_refl _) (fun k hk hc => kw k hk (fun e => ?_) (fun e => ?_))
      · rw [e, J.cB] at hc; omega
      · rw [J.cps k e.symm] at hc; omega
    · have hi' : i = pl.length := by simp at hi; omega
      subst hi'
      rw [List.getElem_append_right (Nat.le_refl _)]
      simp only [Nat.sub_self, List.getElem_cons_zero]
      have hMl := hb.toBookT.lts
      have hRl := hr.lts
      have kp : (w5.setCell ⟨B, 0, none⟩ V).heap[w2.heap.size]? = some (.cells #[ptrV Bk, ptrV Rb] 58 (0, 0)) := by
        refine (Below.heap_setCell _ _ _ _ (show w2.heap.size ≠ B by omega)).trans ((hg.block _ (by omega) (fun e => by have := hps _ e.symm; omega)).trans ((Below.heap_alloc _ _ _ (by simp)).trans ?_))
        exact heap_alloc_new w2 _
      have hmem : ∀ k ∈ blksE Bk M [], k = Bk ∨ k = M := fun k hk => by simpa [blksE] using hk
      have hge : ∀ k ∈ blksE Bk M [], w.heap.size ≤ k := fun k hk => by rcases hmem k hk with rfl | rfl <;> assumption
      have hmr : ∀ k ∈ refBs Rb (.slice none 0 0), k = Rb := fun k hk => by
        unfold refBs at hk
        rcases List.mem_cons.1 hk with h | h
        · exact h
        · simp [Value.ownBlock] at h
      refine ⟨Bk, M, Rb, h, seed, none, [], .slice none 0 0, 0, .slice none 0 0, false, kp, ?_, ⟨hb.toBookT.alike fun k hk => ?_, hb.sum⟩, fun k hk => ?_, hr.alike fun k hk => ?_, fun k hk => ?_, hh, Nat.zero_le _, fun a ha => (by cases ha), .inl ⟨rfl, rfl⟩⟩
      · rw [if_neg (by omega), if_neg (by omega), if_neg (by omega), if_pos rfl]
      · exact (knew k (hge k hk) (by have := hMl k hk; omega)).trans (b2.block k (hMl k hk))
      · rw [if_neg (by have := hge k hk; omega), if_pos (hMl k hk)]
      · have e := hmr k hk
        exact knew k (by omega) (hRl k hk)
      · have e := hmr k hk
        have := hRl k hk
        rw [if_neg (by omega), if_neg (by omega), if_pos this]

theorem Joint.len {w : World} {B n : Nat} {c : Nat → Nat} {ps hv : Value} {hs : List HoldD} {pl : List Nat} (J : Joint w B n c ps hv hs pl) : ∃ a cap, ps = .slice a pl.length cap := by
  obtain ⟨a, cap, e, _⟩ := own_shape J.own
  exact ⟨a, cap, e⟩

set_option maxHeartbeats 1000000 in
set_option maxRecDepth 100000 in
theorem free_new {w : World} {B n : Nat} {c : Nat → Nat} {ps hv : Value} {hs : List HoldD} {pl : List Nat} (J : Joint w B n c ps hv hs pl) (nn h sd : Int) (s t : ByteArray) (la : Option Addr) (ll lc : Nat) (a : Int) :
    Calls Tryz.prog 17 #[.pointer (some ⟨B, 0, none⟩), opV 4 nn h sd s t la ll lc a] w fun e w' => e = .returned (.bool true) ∧ Below B w w' ∧ ∃ c' ps' pl', Joint w' B n c' ps' hv hs pl' := by
  obtain ⟨j0, hj, hy0, hy1, hy2⟩ := info_parts Tryz.infoPlayer
  obtain ⟨a0, cap0, hps⟩ := J.len
  have hBl := J.inv.lt
  have h4 := J.four
  have cB : w.cell? ⟨B, 0, none⟩ = some ps := block_cell J.inv.cell
  rw [hps] at cB
  have HJ := hide J
  unfold opV
  by_cases hbad : h < 0 ∨ 6 < h
  · have HB := hide hbad
    clear J hps hbad
    go_enter Tryz.func17, Tryz.ntmps17
    go_wp2_with fail
    generalize hW0 : w.alloc (Obj.cells #[Value.int IntKind.i64 4, Value.int IntKind.i64 nn, Value.int IntKind.i64 h, Value.int IntKind.u64 sd, Value.string s, Value.string t, Value.slice la ll lc, Value.int IntKind.u64 a] 38) = W0
    have hz0 : W0.heap.size = w.heap.size + 1 := by rw [← hW0]; simp
    have o2 : W0.cell? ⟨w.heap.size, 2, none⟩ = some (.int .i64 h) := by rw [← hW0]; simp
    have o3 : W0.cell? ⟨w.heap.size, 3, none⟩ = some (.int .u64 sd) := by rw [← hW0]; simp
    have hA0 : Below w.heap.size w W0 := by rw [← hW0]; exact (Below.refl _ _).alloc (Nat.le_refl _) _
    have hO : w.heap.size < W0.heap.size := by omega
    refine (new_bad h sd W0 (unhide HB)).mono ?_
    rintro e w1 ⟨rfl, b1⟩
    have o2' := keepB b1 hO o2
    have o3' := keepB b1 hO o3
    have H1 := hide (hA0.trans (b1.mono hA0.size))
    clear hW0 hA0 b1 o2 o3
    go_wp2_with fail
    refine (refnew_bad h sd w1 (unhide HB)).mono ?_
    rintro e w2 ⟨rfl, b2⟩
    have H2 := hide ((unhide H1).trans (b2.mono (unhide H1).size))
    clear b2 H1 o2' o3'
    go_wp2
    go_ret
    exact ⟨rfl, (unhide H2).mono (Nat.le_of_lt hBl), _, _, _, (unhide HJ).later (unhide H2) (Nat.le_refl _)⟩
  · obtain ⟨k, rfl⟩ : ∃ k : Nat, h = (k : Int) := ⟨h.toNat, by omega⟩
    have hk6 : k ≤ 6 := by omega
    clear hbad
    go_enter Tryz.func17, Tryz.ntmps17
    go_wp2_with fail
    generalize hW0 : w.alloc (Obj.cells #[Value.int IntKind.i64 4, Value.int IntKind.i64 nn, Value.int IntKind.i64 (k : Int), Value.int IntKind.u64 sd, Value.string s, Value.string t, Value.slice la ll lc, Value.int IntKind.u64 a] 38) = W0
    have hz0 : W0.heap.size = w.heap.size + 1 := by rw [← hW0]; simp
    have o2 : W0.cell? ⟨w.heap.size, 2, none⟩ = some (.int .i64 (k : Int)) := by rw [← hW0]; simp
    have o3 : W0.cell? ⟨w.heap.size, 3, none⟩ = some (.int .u64 sd) := by rw [← hW0]; simp
    have hA0 : Below w.heap.size w W0 := by rw [← hW0]; exact (Below.refl _ _).alloc (Nat.le_refl _) _
    have hO : w.heap.size < W0.heap.size := by omega
    clear hW0 J
    refine (new_good (k : Int) sd W0 (by omega) (by omega)).mono ?_
    rintro e w1 ⟨rfl, hb1, b1⟩
    have o2' := keepB b1 hO o2
    have o3' := keepB b1 hO o3
    have H1 := hide (hA0.trans (b1.mono hA0.size))
    have HBM := hide hb1
    have hBk : w.heap.size ≤ W0.heap.size + 2 := by omega
    have hM : w.heap.size ≤ W0.heap.size + 1 := by omega
    clear hA0 b1 o2 o3 hb1
    generalize W0.heap.size + 2 = Bk at *
    generalize W0.heap.size + 1 = M at *
    go_wp2_with fail
    refine (refnew_good (B + 1) (k : Int) sd w1 (by omega) (by omega)).mono ?_
    rintro e w2 ⟨rfl, hr2, b2, hz2⟩
    clear hz2
    have H2 := hide b2
    have HR := hide hr2
    have z1 := (unhide H1).size
    have z2 := b2.size
    have cB2 := keepB b2 (Nat.lt_of_lt_of_le hBl z1) (keepB (unhide H1) hBl cB)
    have hRb : w1.heap.size ≤ w1.heap.size + 1 := by omega
    clear b2 hr2 o2' o3'
    have H12 := hide ((unhide H1).trans ((unhide H2).mono z1))
    generalize w1.heap.size + 1 = Rb at *
    by_cases hl : pl.length < 4
    · have hlI : (pl.length : Int) < 4 := by omega
      have HOw := hide (own_same (unhide HJ).own (fun g hg => (unhide H12).block g (own_lt (unhide HJ).own hg)))
      have hown2 := unhide HOw
      rw [hps] at hown2
      have HO2 := hide hown2
      clear HOw hown2
      have HH := hide hps
      clear hps
      go_wp2_with (at_builtin; refine wpList_append_both rfl (.tmp 157) (.tmp 162) 40 rfl (B + 1) 52 j0 (.pointer none) 8 Tryz.underlying40 hj hy0 hy1 hy2 rfl _ _ _ rfl (((unhide HO2).alloc _).alloc _) ⟨w2.heap.size + 1, 0, none⟩ 1 1 [ptrV w2.heap.size] rfl rfl ?c1 ?c2 (by decide) ?c3 ?c4 ?c5 ?_)
      case c1 =>
        intro j u hj
        match j, hj with
        | 0, hj => simp at hj; subst hj; simp [Addr.add, ptrV]
      case c2 => intro u hu; simp at hu; subst hu; rfl
      case c3 => unfold maxLen; omega
      case c4 => omega
      case c5 => simp; omega
      intro g1 cap1 w5 hown5 _ hg5 hnew5
      rw [← unhide HH] at hg5 hnew5
      have hfin := (unhide HJ).more (unhide H1) hM hBk (unhide HBM) (unhide H2) hRb (unhide HR) hk6 hg5 hown5 hnew5 hl
      have hBps : some B ≠ ps.ownBlock := fun e => by
        obtain ⟨cur, ht⟩ := own_type (unhide HJ).own e.symm
        rw [(unhide HJ).inv.cell] at ht; simp at ht
      have hB5 : w5.heap[B]? = some (.cells #[ps, hv] 43 (0, 0)) := (hg5.block B (by simp; omega) hBps).trans ((Below.heap_alloc _ _ _ (by simp; omega)).trans ((Below.heap_alloc _ _ _ (by omega)).trans (((unhide H12).block B hBl).trans (unhide HJ).inv.cell)))
      have c5 : w5.cell? ⟨B, 0, none⟩ = some ps := block_cell hB5
      have f5 : w5.frozen? ⟨B, 0, none⟩ = false := block_free hB5
      rw [unhide HH] at c5
      have HF := hide hfin
      clear hown5 hg5 hnew5 hfin hB5 hBps HO2 HH
      go_wp2
      go_ret
      obtain ⟨h1, c', h2⟩ := unhide HF
      exact ⟨rfl, h1, c', _, _, h2⟩
    · have hlI : ¬ (pl.length : Int) < 4 := by omega
      go_wp2
      go_ret
      exact ⟨rfl, (unhide H12).mono (Nat.le_of_lt hBl), _, _, _, (unhide HJ).later (unhide H12) (Nat.le_refl _)⟩

set_option maxHeartbeats 400000 in
set_option maxRecDepth 100000 in
theorem step_new {w : World} {B n : Nat} {c : Nat → Nat} {ps hv : Value} {hs : List HoldD} {pl : List Nat} (J : Joint w B n c ps hv hs pl) (nn h sd : Int) (s t : ByteArray) (la : Option Addr) (ll lc : Nat) (a : Int) :
    Calls Tryz.prog 12 #[.pointer (some ⟨B, 0, none⟩), opV 4 nn h sd s t la ll lc a] w fun e w' => e = .returned (.bool true) ∧ Below B w w' ∧ ∃ c' ps' pl', Joint w' B n c' ps' hv hs pl' := by
  have hBl := J.inv.lt
  have HF := hide fun (w' : World) (hb : Below w.heap.size w w') => free_new (J.later hb (Nat.le_refl _)) nn h sd s t la ll lc a
  clear J
  unfold opV at *
  go_enter Tryz.func12, Tryz.ntmps12
  go_wp2_with fail
  refine (unhide HF _ ((Below.refl w.heap.size w).alloc (Nat.le_refl _) _)).mono ?_
  rintro e w1 ⟨rfl, hb, hJ⟩
  have HE := hide (And.intro ((((Below.refl w.heap.size w).alloc (Nat.le_refl _) _).mono (by omega : B ≤ w.heap.size)).trans hb) hJ)
  clear hb hJ HF
  go_wp2
  go_ret
  exact ⟨rfl, (unhide HE).1, (unhide HE).2⟩

set_option maxHeartbeats 400000 in
set_option maxRecDepth 100000 in
/-- A step on a book, of which there is none. -/
theorem step_nobook {w : World} {B n : Nat} {c : Nat → Nat} {ps hv : Value} {hs : List HoldD} {pl : List Nat} (J : Joint w B n c ps hv hs pl) (h0 : pl.length = 0) (k nn h sd : Int) (s t : ByteArray) (la : Option Addr) (ll lc : Nat) (a : Int) (hk : 4 < k) :
    Calls Tryz.prog 12 #[.pointer (some ⟨B, 0, none⟩), opV k nn h sd s t la ll lc a] w fun e w' => e = .returned (.bool true) ∧ Below B w w' ∧ Joint w' B n c ps hv hs pl := by
  obtain ⟨a0, cap0, hps⟩ := J.len
  have hBl := J.inv.lt
  have cB : w.cell? ⟨B, 0, none⟩ = some ps := block_cell J.inv.cell
  rw [hps, h0] at cB
  have HJ := hide J
  have k1 : 1 ≤ k := by omega
  have k4 : ¬ k ≤ 4 := by omega
  clear J hps hk
  unfold opV
  go_enter Tryz.func12, Tryz.ntmps12
  go_wp2
  go_ret
  exact ⟨rfl, ((Below.refl w.heap.size w).alloc (Nat.le_refl _) _).mono (Nat.le_of_lt hBl), (unhide HJ).later ((Below.refl w.heap.size w).alloc (Nat.le_refl _) _) (Nat.le_refl _)⟩

end Go.Proofs.YtbjobbkgelipmaaGreat
