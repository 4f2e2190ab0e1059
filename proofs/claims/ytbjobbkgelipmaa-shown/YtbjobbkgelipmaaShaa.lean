/-
  The walk of tithekeep's does.
-/
import Derived.Deep.RegionHeld3
import Derived.BigQuiet
import Derived.Test.YtbjobbkgelipmaaSbac
import Derived.Test.YtbjobbkgelipmaaSoaa
import Derived.Test.YtbjobbkgelipmaaSbaj
import Derived.Test.YtbjobbkgelipmaaSoab
import Derived.Test.YtbjobbkgelipmaaSoac
import Derived.Test.YtbjobbkgelipmaaSban
import Derived.Test.YtbjobbkgelipmaaSbab
namespace Go.Proofs.Ytbjobbkgelipmaa
open Go.RowKit

/-- What is of no book stays as it was. -/
def Kp (W W' : World) : Prop := (∀ (b : Nat) (cs : Array Value) (t : TypeId), t ≠ 64 → t ≠ 70 → W.heap[b]? = some (.cells cs t (0, 0)) → W'.heap[b]? = some (.cells cs t (0, 0))) ∧ W.heap.size ≤ W'.heap.size
theorem Kp.refl (W : World) : Kp W W := ⟨fun _ _ _ _ _ h => h, Nat.le_refl _⟩
theorem Kp.trans {a b c : World} (h : Kp a b) (k : Kp b c) : Kp a c := ⟨fun g cs t h1 h2 hg => k.1 g cs t h1 h2 (h.1 g cs t h1 h2 hg), Nat.le_trans h.2 k.2⟩
theorem Kp.below {W W' : World} (h : Below W.heap.size W W') : Kp W W' := ⟨fun b _ _ _ _ hc => (h.block b (Array.getElem?_eq_some_iff.1 hc).1).trans hc, h.size⟩
theorem Kp.kept {w W W' : World} {B M : Nat} {h seed : Int} {last : Option Addr} {E : List Acct} (hb : BkI w W B M h seed last E) (hK : Kept (blksE B M E) W W') : Kp W W' :=
  ⟨fun b _ _ h1 h2 hc => (hK.block b (Array.getElem?_eq_some_iff.1 hc).1 (hb.apart hc h1 h2)).trans hc, hK.size⟩
/-- What begins with no number of 64 bits stays as it was. -/
def Kq (W W' : World) : Prop := ∀ g v, W.cell? ⟨g, 0, none⟩ = some v → (∀ n, v ≠ .int .i64 n) → (∀ n, v ≠ .int .u64 n) → W'.heap[g]? = W.heap[g]?
theorem Kq.trans {a b c : World} (h : Kq a b) (k : Kq b c) : Kq a c := fun g v hv h1 h2 => (k g v ((World.cell?_of_block (w := a) (h g v hv h1 h2)).trans hv) h1 h2).trans (h g v hv h1 h2)
theorem Kq.below {W W' : World} (h : Below W.heap.size W W') : Kq W W' := fun g v hv _ _ => h.block g (Nat.lt_of_not_le fun hn => by simp [World.cell?, Array.getElem?_eq_none hn] at hv)
theorem Kq.kept {w W W' : World} {B M : Nat} {h seed : Int} {last : Option Addr} {E : List Acct} (hb : BkI w W B M h seed last E) (hK : Kept (blksE B M E) W W') : Kq W W' := fun g v hv h1 h2 => by
  refine hK.block g (Nat.lt_of_not_le fun hn => by simp [World.cell?, Array.getElem?_eq_none hn] at hv) fun hm => ?_
  unfold blksE at hm
  rcases List.mem_cons.1 hm with rfl | hm
  · rw [block_cell hb.book.blk] at hv
    exact h1 _ (Option.some.inj hv).symm
  · rcases List.mem_cons.1 hm with rfl | hm
    · obtain ⟨es, clock, hb', _⟩ := hb.book.own
      simp [World.cell?, hb'] at hv
    · obtain ⟨a, ha, rfl⟩ := List.mem_map.1 hm
      rw [block_cell (hb.book.acc a ha)] at hv
      exact h2 _ (Option.some.inj hv).symm
/-- The book is one still, whatever was done. -/
def Still6 (w W W' : World) (B M : Nat) (h seed : Int) (last : Option Addr) : Prop := (∃ E', BkI w W' B M h seed last E') ∧ Kp W W' ∧ Kq W W'
theorem Still6.of {w W W' : World} {B M : Nat} {h seed : Int} {last : Option Addr} {E : List Acct} {f : Nat → Option Int} (hb : BkI w W B M h seed last E) (hd : Done w W W' B M h seed last E f) : Still6 w W W' B M h seed last := by
  obtain ⟨E', h1, _, h3⟩ := hd
  exact ⟨⟨E', h1⟩, Kp.kept hb h3, Kq.kept hb h3⟩

set_option maxHeartbeats 4000000 in
set_option maxRecDepth 100000 in
theorem does_any {w W : World} {B M : Nat} {h seed : Int} {last : Option Addr} {E : List Acct} (hI : BkI w W B M h seed last E) (a0 : Option Addr) (len cap : Nat) (xs : List MoveD) (hlen : xs.length = len) (hlen2 : len < 9223372036854775807) (hM : 0 < len → ∃ b off, a0 = some ⟨b, off, none⟩ ∧ MovesAt w b off xs) :
    Calls Try.prog 18 #[.pointer (some ⟨B, 0, none⟩), .slice a0 len cap] W fun e W' => e = .returned (.tuple #[]) ∧ Still6 w W W' B M h seed last := by
  have HI : Hid (Still6 w W W B M h seed last) := ⟨⟨E, hI⟩, Kp.refl W, fun _ _ _ _ _ => rfl⟩
  have HM := hide hM
  have HL := hide hlen
  clear hI hM hlen
  go_enter Try.func18, Try.ntmps18
  go_wp2_with fail
  go_loopw [4, 5, 6] (fun i _ _ wr => ∃ k : Nat, k ≤ 60 ∧ i = .int .i64 k ∧ Still6 w W wr B M h seed last) (fun i _ _ _ => 60 - (intOf i).toNat)
  case atStart => exact ⟨0, by omega, rfl, unhide HI⟩
  case round =>
    obtain ⟨k, hk, rfl, ⟨E, hI⟩, hKp⟩ := hrel
    clear HI
    by_cases h1 : k < len
    · by_cases h2 : k < 60
      · have i1 : (k : Int) < (len : Int) := by omega
        have i2 : (k : Int) < 60 := by omega
        have hkl : k < xs.length := by rw [unhide HL]; exact h1
        obtain ⟨b, off, rfl, hmv⟩ := unhide HM (by omega)
        have hmW := hmv.below hI.below
        obtain ⟨x, hx⟩ : ∃ x, xs[k] = x := ⟨_, rfl⟩
        have hxo : x.ok := hmv.ok x (hx ▸ List.getElem_mem hkl)
        have d0 := hmW.c0 k hkl
        have d1 := hmW.c1 k hkl
        have d2 := hmW.c2 k hkl
        have d3 := hmW.c3 k hkl
        rw [hx] at d0 d1 d2 d3
        obtain ⟨kd, A, Bn, n⟩ := x
        have hxk : IntKind.i64.wrap (k : Int) = (k : Int) := by rw [IntKind.wrap_i64]; omega
        have HP0 := fun w => hide (pick_any kd 6 w hxo.1.1 hxo.1.2 (by omega) (by omega))
        have HNA := fun w => hide (name_any A w hxo.2.1.1 hxo.2.1.2)
        have HNB := fun w => hide (name_any Bn w hxo.2.2.1.1 hxo.2.2.1.2)
        have hr0 := pick_range kd 6 (by omega)
        have hr1 := pick_range A 6 (by omega)
        have hr2 := pick_range Bn 6 (by omega)
        generalize pickI kd 6 = p0 at *
        generalize pickI A 6 = p1 at *
        generalize pickI Bn 6 = p2 at *
        obtain ⟨p, rfl⟩ : ∃ p : Nat, p0 = (p : Int) := ⟨p0.toNat, by omega⟩
        obtain ⟨q, rfl⟩ : ∃ p : Nat, p1 = (p : Int) := ⟨p1.toNat, by omega⟩
        obtain ⟨r, rfl⟩ : ∃ p : Nat, p2 = (p : Int) := ⟨p2.toNat, by omega⟩
        simp only [Int.toNat_natCast] at HNA HNB
        have hn1 : 0 ≤ n := hxo.2.2.2.1
        have hn2 : n < 18446744073709551616 := hxo.2.2.2.2
        have hp6 : p < 6 := by omega
        have hq6 : q < 6 := by omega
        have hr6 : r < 6 := by omega
        have HI := hide (And.intro hI hKp)
        clear hI hKp hmv hmW hx hxo hr0 hr1 hr2
        go_upto_region 4 with fail
        have hA1 : Below wr.heap.size wr (wr.alloc (Obj.cells #[Value.int IntKind.i64 kd, Value.int IntKind.i64 A, Value.int IntKind.i64 Bn, Value.int IntKind.u64 n] 32)) := (Below.refl _ _).alloc (Nat.le_refl _) _
        have hQ1 := heap_alloc_new wr (Obj.cells #[Value.int IntKind.i64 kd, Value.int IntKind.i64 A, Value.int IntKind.i64 Bn, Value.int IntKind.u64 n] 32)
        have hI1 := (unhide HI).1.later hA1
        have hK1 := And.intro ((unhide HI).2.1.trans (Kp.below hA1)) ((unhide HI).2.2.trans (Kq.below hA1))
        generalize (wr.alloc (Obj.cells #[Value.int IntKind.i64 kd, Value.int IntKind.i64 A, Value.int IntKind.i64 Bn, Value.int IntKind.u64 n] 32)) = W1 at *
        generalize wr.heap.size = Q at *
        have z1 : W1.cell? ⟨Q, 1, none⟩ = some (.int .i64 A) := block_cell hQ1
        have HI1 := hide (And.intro hI1 (And.intro hK1 hQ1))
        clear hA1 hI1 hK1 hQ1 HI d0 d1 d2 d3 wr
        go_wp2_with fail
        refine (unhide (HNA _)).mono ?_
        rintro e w3 ⟨rfl, hb3⟩
        have hQ3 := (hb3.block Q (Array.getElem?_eq_some_iff.1 (unhide HI1).2.2).1).trans (unhide HI1).2.2
        have z0 : w3.cell? ⟨Q, 0, none⟩ = some (.int .i64 kd) := block_cell hQ3
        have hI3 := (unhide HI1).1.later hb3
        have HI3 := hide (And.intro hI3 (And.intro (And.intro ((unhide HI1).2.1.1.trans (Kp.below hb3)) ((unhide HI1).2.1.2.trans (Kq.below hb3))) hQ3))
        clear z1 hb3 hQ3 HI1 HNA hI3
        go_upto_region 7 with (go_at_call 9; refine (unhide (HP0 _)).mono ?_; rintro e w4 ⟨rfl, rfl⟩)
        have z2 := block_cell (unhide HI3).2.2 (i := 2)
        have z3 := block_cell (unhide HI3).2.2 (i := 3)
        simp only [List.getElem?_toArray, List.getElem?_cons_succ, List.getElem?_cons_zero] at z2 z3
        have P6 : (p = 0 ∨ p = 1) ∨ p = 2 ∨ p = 3 ∨ p = 4 ∨ p = 5 := by omega
        clear HP0 z0
        rcases P6 with P6 | rfl | rfl | rfl | rfl
        · rcases P6 with rfl | rfl
          all_goals
            have HO := hide (kopen_any (unhide HI3).1 q hq6)
            go_wp2_with fail
            refine (unhide HO).mono ?_
            rintro e w5 ⟨rfl, hd⟩
            have hS := Still6.of (unhide HI3).1 hd
            have HF : Hid (Still6 w W w5 B M h seed last) := ⟨hS.1, (unhide HI3).2.1.1.trans hS.2.1, (unhide HI3).2.1.2.trans hS.2.2⟩
            clear hS hd HO
            go_wp2
            go_roundw
            case rel => exact ⟨k + 1, by omega, by go_num, unhide HF⟩
            case measure => simp [intOf]; omega
        · have HO := hide (kpay_any (unhide HI3).1 q hq6 n hn1 hn2)
          go_wp2_with fail
          refine (unhide HO).mono ?_
          rintro e w5 ⟨rfl, hd⟩
          have hS := Still6.of (unhide HI3).1 hd
          have HF : Hid (Still6 w W w5 B M h seed last) := ⟨hS.1, (unhide HI3).2.1.1.trans hS.2.1, (unhide HI3).2.1.2.trans hS.2.2⟩
          clear hS hd HO
          go_wp2
          go_roundw
          case rel => exact ⟨k + 1, by omega, by go_num, unhide HF⟩
          case measure => simp [intOf]; omega
        · have HO := hide (kdraw_any (unhide HI3).1 q hq6 n hn1 hn2)
          go_wp2_with fail
          refine (unhide HO).mono ?_
          rintro e w5 ⟨rfl, hd⟩
          have hS := Still6.of (unhide HI3).1 hd
          have HF : Hid (Still6 w W w5 B M h seed last) := ⟨hS.1, (unhide HI3).2.1.1.trans hS.2.1, (unhide HI3).2.1.2.trans hS.2.2⟩
          clear hS hd HO
          go_wp2
          go_roundw
          case rel => exact ⟨k + 1, by omega, by go_num, unhide HF⟩
          case measure => simp [intOf]; omega
        · have hQ := (unhide HI3).2.2
          have HD := hide (fun W' (hW : Below w4.heap.size w4 W') => kmove_any ((unhide HI3).1.later hW) q r hq6 hr6 n hn1 hn2)
          have hbd : Below w4.heap.size w4 w4.drew := (Below.refl _ _).drew
          have k3 : w4.drew.cell? ⟨Q, 2, none⟩ = some (.int .i64 Bn) ∧ w4.drew.cell? ⟨Q, 3, none⟩ = some (.int .u64 n) := ⟨z2, z3⟩
          have hQl := (Array.getElem?_eq_some_iff.1 hQ).1
          generalize nmB q = nq at *
          generalize nmB r = nr at *
          go_upto_region 15 with fail
          go_region_held3 (fun w' => w'.cell? ⟨Q, 2, none⟩ = some (.int .i64 Bn) ∧ w'.cell? ⟨Q, 3, none⟩ = some (.int .u64 n))
            (first
              | with_reducible exact k3
              | with_reducible exact k6
              | with_reducible exact k7
              | fail)
            (first
              | (go_at_call 12; (with_reducible refine (unhide (HNB _)).mono ?_); rintro e w6 ⟨rfl, hb6⟩; have hb46 : Below w4.heap.size w4 w6 := hbd.trans (hb6.mono hbd.size); have hQ6 := (hb46.block Q hQl).trans hQ; have k6 : w6.cell? ⟨Q, 2, none⟩ = some (.int .i64 Bn) ∧ w6.cell? ⟨Q, 3, none⟩ = some (.int .u64 n) := ⟨block_cell hQ6, block_cell hQ6⟩)
              | (go_at_call 15; (with_reducible refine (unhide HD w6 hb46).mono ?_); rintro e w7 ⟨rfl, hd⟩; have hS7 := Still6.of ((unhide HI3).1.later hb46) hd; have hQ7 := hS7.2.1.1 Q _ _ (by decide) (by decide) hQ6; have k7 : w7.cell? ⟨Q, 2, none⟩ = some (.int .i64 Bn) ∧ w7.cell? ⟨Q, 3, none⟩ = some (.int .u64 n) := ⟨block_cell hQ7, block_cell hQ7⟩)
              | fail)
          have HF : Hid (Still6 w W w7 B M h seed last) := ⟨hS7.1, ((unhide HI3).2.1.1.trans (Kp.below hb46)).trans hS7.2.1, ((unhide HI3).2.1.2.trans (Kq.below hb46)).trans hS7.2.2⟩
          clear k3 k6 k7 hQ hQ6 hQ7 hb6 hb46 hd hS7 HD HNB z2 z3
          go_wp2
          go_roundw
          case rel => exact ⟨k + 1, by omega, by go_num, unhide HF⟩
          case measure => simp [intOf]; omega
        · have HO := hide (kclose_any (unhide HI3).1 q hq6)
          go_wp2_with fail
          refine (unhide HO).mono ?_
          rintro e w5 ⟨rfl, hd⟩
          have hS := Still6.of (unhide HI3).1 hd
          have HF : Hid (Still6 w W w5 B M h seed last) := ⟨hS.1, (unhide HI3).2.1.1.trans hS.2.1, (unhide HI3).2.1.2.trans hS.2.2⟩
          clear hS hd HO
          go_wp2
          go_roundw
          case rel => exact ⟨k + 1, by omega, by go_num, unhide HF⟩
          case measure => simp [intOf]; omega
      · have i1 : (k : Int) < (len : Int) := by omega
        have i2 : ¬ (k : Int) < 60 := by omega
        have HF : Hid (Still6 w W wr B M h seed last) := ⟨⟨E, hI⟩, hKp⟩
        clear hI hKp
        go_wp2
        go_end0
        exact ⟨rfl, unhide HF⟩
    · have i1 : ¬ (k : Int) < (len : Int) := by omega
      have HF : Hid (Still6 w W wr B M h seed last) := ⟨⟨E, hI⟩, hKp⟩
      clear hI hKp
      go_wp2
      go_end0
      exact ⟨rfl, unhide HF⟩

end Go.Proofs.Ytbjobbkgelipmaa

/-
  A published book's proofs, and what Verify says of them; one byte of them turned.
-/
namespace Go.Proofs.Ytbjobbkgelipmaa
open Go.RowKit

theorem first_ix (s : ByteArray) : ∀ ls : List LeafD, (∀ x ∈ ls, x.nm ≠ s) ∨ ∃ i, ∃ hi : i < ls.length, ls[i].nm = s ∧ ∀ j (hj : j < i), (ls[j]'(by omega)).nm ≠ s
  | [] => .inl fun x hx => by cases hx
  | a :: t => by
    by_cases e : a.nm = s
    · exact .inr ⟨0, by simp, e, fun j hj => by omega⟩
    · rcases first_ix s t with h | ⟨i, hi, h1, h2⟩
      · refine .inl fun x hx => ?_
        rcases List.mem_cons.1 hx with rfl | hx
        · exact e
        · exact h x hx
      · refine .inr ⟨i + 1, by simpa using hi, by simpa using h1, fun j hj => ?_⟩
        cases j with
        | zero => simpa using e
        | succ j => simpa using h2 j (by omega)

theorem sumL_ge : ∀ {ls : List LeafD} {x : LeafD}, (∀ y ∈ ls, 0 ≤ y.bal) → x ∈ ls → x.bal ≤ sumL ls ∧ 0 ≤ sumL ls
  | [], _, _, hx => by cases hx
  | a :: t, x, hp, hx => by
    have h0 : ∀ t : List LeafD, (∀ y ∈ t, 0 ≤ y.bal) → 0 ≤ sumL t := fun t => by
      induction t with
      | nil => intro _; exact Int.le_refl _
      | cons b t ih =>
        intro hp
        have h1 := hp b (by simp)
        have h2 := ih fun y hy => hp y (List.mem_cons_of_mem _ hy)
        unfold sumL at *
        simp only [List.map_cons, List.sum_cons]
        omega
    have ha := hp a (by simp)
    have ht := h0 t fun y hy => hp y (List.mem_cons_of_mem _ hy)
    have e : sumL (a :: t) = a.bal + sumL t := by unfold sumL; simp
    rcases List.mem_cons.1 hx with rfl | hx
    · exact ⟨by omega, by omega⟩
    · have := sumL_ge (fun y hy => hp y (List.mem_cons_of_mem _ hy)) hx
      exact ⟨by omega, by omega⟩

/-- Leaves of which a tree is made. -/
structure LsOk (ls : List LeafD) (h : Nat) : Prop where
  hh : h ≤ 6
  len : ls.length ≤ 2 ^ h
  ok : ∀ x ∈ ls, x.ok ∧ 1 ≤ x.nm.size
  sum : sumL ls ≤ maxS
theorem lsok_of {w W : World} {B M : Nat} {hI seed : Int} {last : Option Addr} {E : List Acct} (hb : BkI w W B M hI seed last E) {h : Nat} (h3 : 3 ≤ h) (h6 : h ≤ 6) : LsOk (leavesE seed E E.length) h := by
  have hl := ofSix_len hb.book.names hb.six
  have h8 : 2 ^ 3 ≤ 2 ^ h := Nat.pow_le_pow_right (by omega) h3
  refine ⟨h6, by rw [leavesE_len]; omega, fun x hx => ?_, by rw [leaves_sum]; exact hb.book.sum⟩
  have hpos := leaves_pos hb.book.toBookT x hx
  have hsl := sumL_ge (fun y hy => leaves_pos hb.book.toBookT y hy) hx
  unfold leavesE at hx
  obtain ⟨i, hi, rfl⟩ := List.mem_map.1 hx
  have hi' : i < E.length := by simpa using hi
  have hm : E.getD i ⟨[], 0, 0⟩ ∈ E := by
    rw [List.getD_eq_getElem?_getD, List.getElem?_eq_getElem hi']
    exact List.getElem_mem hi'
  obtain ⟨j, hj, hn⟩ := hb.six _ hm
  have hs := nmB_small j hj
  have hz : (⟨((E.getD i ⟨[], 0, 0⟩).name).toArray⟩ : ByteArray).size = (nmB j).size := by
    rw [hn]
  have hsalt := saltI_range seed i
  have hsum : sumL (leavesE seed E E.length) ≤ maxS := by rw [leaves_sum]; exact hb.book.sum
  unfold maxS at hsum
  exact ⟨⟨by rw [show (leafOf seed E i).nm = ⟨((E.getD i ⟨[], 0, 0⟩).name).toArray⟩ from rfl, hz]; exact hs.1, hpos, by omega, hsalt.1, hsalt.2⟩, by rw [show (leafOf seed E i).nm = ⟨((E.getD i ⟨[], 0, 0⟩).name).toArray⟩ from rfl, hz]; exact hs.2⟩

/-- What Proof answers, and what Verify says of it. -/
def ProofSay (ls : List LeafD) (h : Nat) (s : ByteArray) (w : World) (e : Ending) (w' : World) : Prop := Below w.heap.size w w' ∧
  (((∀ x ∈ ls, x.nm ≠ s) ∧ e = .returned (.tuple #[.slice none 0 0, .int .i64 4])) ∨
   ∃ (x : LeafD) (P : List UInt8) (v : Value), x ∈ ls ∧ x.nm = s ∧ e = .returned (.tuple #[v, .int .i64 0]) ∧ P.length = s.size + 19 + 11 * h ∧ w'.ownsRow w.heap.size 5 1 v (s.size + 19 + 11 * h) (byteVals P) ∧ verAns (reportB ls h) P = (s.data.toList, x.bal, 0))
theorem kproof_any {w : World} {B M T b cap V vc : Nat} {h : Nat} {seed tot : Int} {E : List Acct} {gs : List Nat} {ls : List LeafD} (hb : BookT w B M (h : Int) seed (some ⟨T, 0, none⟩) tot E) (t : TreeM w T b cap V vc gs ls h) (s : ByteArray) (hok : LsOk ls h) :
    Calls Try.prog 17 #[.pointer (some ⟨B, 0, none⟩), .string s] w (ProofSay ls h s w) := by
  have hpos : ∀ x ∈ ls, 0 ≤ x.bal := fun x hx => (hok.ok x hx).1.2.1
  rcases first_ix s ls with hno | ⟨i, hi, h1, h2⟩
  · exact (bproof_no hb t s hok.hh hok.len hno).mono fun e w' ⟨he, hb'⟩ => ⟨hb', .inl ⟨hno, he⟩⟩
  · refine (bproof_yes hb t s hok.hh hok.len hpos hok.sum i hi h1 h2).mono fun e w' ⟨⟨v, he, ho⟩, hb'⟩ => ⟨hb', .inr ⟨ls[i], _, v, List.getElem_mem hi, h1, he, ?_, ho, ?_⟩⟩
    · have := ho.1
      simp [byteVals] at this
      exact this
    · rw [proofTo_beside]
      have hx := (hok.ok _ (List.getElem_mem hi))
      have := honest ls h i ls[i] hok.hh (Nat.lt_of_lt_of_le hi hok.len) hx.2 hx.1 (List.getElem?_eq_getElem hi) hpos hok.sum
      rw [h1] at this
      exact this

/-- Of two accepted proofs, one of them the other with a byte turned: a name twice, or two texts of one digest. -/
theorem turned_two {R P : List UInt8} {k : Nat} {v : UInt8} {x y : List UInt8} {er : Int} (hP : verOk R P) (hQ : verOk R (P.set k v)) (hE : ExtAns R [P, P.set k v] x y er) (h3 : er ≠ 3) : er = 0 ∧ x ≠ y ∧ dg x = dg y ∧ x ≠ [] ∧ y ≠ [] := by
  have hall : ∀ l ∈ [P, P.set k v], verOk R l := fun l hl => by
    simp only [List.mem_cons, List.not_mem_nil, or_false] at hl
    rcases hl with rfl | rfl
    · exact hP
    · exact hQ
  rcases hE with ⟨h1, _⟩ | ⟨_, ⟨l, hl, hn⟩, _⟩ | ⟨_, _, _, _, _, h⟩ | ⟨h1, _, hnd, hE, rfl⟩
  · exact absurd hP.1 h1
  · exact absurd (hall l hl) hn
  · exact absurd h h3
  · rcases extR_digest (fun l hl => (hall l hl).2.2) hE with ⟨_, _, hN⟩ | hD
    · exfalso
      have hne : accName P ≠ accName (P.set k v) := by
        have := hnd
        simp only [List.map_cons, List.map_nil, List.nodup_cons, List.mem_singleton, List.not_mem_nil, not_false_eq_true, List.nodup_nil, and_true] at this
        exact this
      have hpl : bAt P 1 ≠ bAt (P.set k v) 1 := fun e => hne (names_apart (fun l hl => (hall l hl).2.2) (fun l hl => (hall l hl).2.1) hN (by simp) (by simp) e)
      have hk : k = 1 := by
        refine Classical.byContradiction fun hk => hpl ?_
        unfold bAt
        rw [List.getD_eq_getElem?_getD, List.getD_eq_getElem?_getD, List.getElem?_set_ne hk]
      subst hk
      refine hne ?_
      unfold accName
      have e2 : bAt (P.set 1 v) 2 = bAt P 2 := by
        unfold bAt
        rw [List.getD_eq_getElem?_getD, List.getD_eq_getElem?_getD, List.getElem?_set_ne (by omega)]
      rw [e2, List.drop_set_of_lt (by omega)]
    · exact ⟨rfl, hD⟩

end Go.Proofs.Ytbjobbkgelipmaa

/-
  The texts of honest proofs are the tree's: no place has two.
-/
namespace Go.Proofs.Ytbjobbkgelipmaa
open Go.RowKit

/-- A tree's text at a place. -/
def treeT (ls : List LeafD) : Nat → Nat → List UInt8
  | 0, q => match ls[q]? with
    | some x => 0 :: leafB x.nm.data.toList x.bal x.salt
    | none => []
  | k + 1, q => 1 :: (sideB (sideT ls k (2 * q)) ++ sideB (sideT ls k (2 * q + 1)))

theorem sib_pair (ls : List LeafD) (k q : Nat) : upText q (sideT ls k q) (sideT ls k (sib q)) = 1 :: (sideB (sideT ls k (2 * (q / 2))) ++ sideB (sideT ls k (2 * (q / 2) + 1))) := by
  unfold upText sib
  by_cases ho : q % 2 = 1
  · rw [if_pos ho, if_pos ho, show 2 * (q / 2) = q - 1 by omega, show q - 1 + 1 = q by omega]
  · rw [if_neg ho, if_neg ho, show 2 * (q / 2) = q by omega]

/-- A leaf of a tree, and its place. -/
structure HonAt (ls : List LeafD) (h p : Nat) (x : LeafD) : Prop where
  hh : h ≤ 6
  hp : p < 2 ^ h
  n1 : 1 ≤ x.nm.size
  ok : x.ok
  at_ : ls[p]? = some x
  pos : ∀ y ∈ ls, 0 ≤ y.bal
  sum : sumL ls ≤ maxS

theorem HonAt.said {ls : List LeafD} {h p : Nat} {x : LeafD} (a : HonAt ls h p x) : verAns (reportB ls h) (honP ls h p x) = (x.nm.data.toList, x.bal, 0) := honest ls h p x a.hh a.hp a.n1 a.ok a.at_ a.pos a.sum
theorem HonAt.ver {ls : List LeafD} {h p : Nat} {x : LeafD} (a : HonAt ls h p x) : verOk (reportB ls h) (honP ls h p x) := verOk_iff.2 (by rw [a.said])
theorem HonAt.repH {ls : List LeafD} {h p : Nat} {x : LeafD} (a : HonAt ls h p x) : repH (reportB ls h) = h := by
  have := a.hh
  show (UInt8.ofNat h).toNat = h
  simp
  omega
theorem HonAt.name {ls : List LeafD} {h p : Nat} {x : LeafD} (a : HonAt ls h p x) : accName (honP ls h p x) = x.nm.data.toList := by
  have h1 := verAns_yes a.ver
  rw [a.said] at h1
  exact (congrArg (fun t => t.1) h1).symm

theorem HonAt.texts {ls : List LeafD} {h p : Nat} {x : LeafD} (a : HonAt ls h p x) {ts : List (List UInt8)} (W : Way (honP ls h p x) h ts) : ∀ lv, lv ≤ h → ts.getD lv [] = treeT ls lv (p / 2 ^ lv) := by
  have h64 : 2 ^ h ≤ 2 ^ 6 := Nat.pow_le_pow_right (by omega) a.hh
  have hp256 : p < 256 := by have := a.hp; omega
  have hpl := (honP_bytes ls h p x a.hh hp256 a.ok.1).2.1
  intro lv hlv
  cases lv with
  | zero =>
    rw [W.t0, accText0_leaf h _ (honP_head ls h p x a.hh a.hp a.n1 a.ok.1), honP_name ls h p x a.hh hp256 a.ok.1, (honP_nums ls h p x a.hh hp256 a.ok).1, (honP_nums ls h p x a.hh hp256 a.ok).2]
    rw [Nat.pow_zero, Nat.div_one]
    simp only [treeT, a.at_]
  | succ k =>
    rw [W.up k (by omega), hpl]
    obtain ⟨ts', hu⟩ := hon_up ls h p x a.hh a.hp a.n1 a.ok a.at_ a.pos a.sum k (by omega)
    have hn : nowOf (honP ls h p x) k = sideT ls k (p / 2 ^ k) := by unfold nowOf; rw [hu]
    have hb : besOf (honP ls h p x) k = sideT ls k (sib (p / 2 ^ k)) := honP_side ls h p x a.hh hp256 a.ok.1 a.pos a.sum k (by omega)
    rw [hn, hb, sib_pair]
    have hq2 : p / 2 ^ (k + 1) = p / 2 ^ k / 2 := by rw [Nat.div_div_eq_div_mul, Nat.pow_succ]
    rw [hq2]
    rfl

theorem firstTwo_same {l : List (List UInt8)} {t : List UInt8} (h : ∀ x ∈ l, x = t) : firstTwo l = none := by
  cases l with
  | nil => rfl
  | cons a r =>
    simp only [firstTwo, Option.map_eq_none_iff, List.find?_eq_none]
    intro x hx
    rw [h a (by simp), h x (List.mem_cons_of_mem _ hx)]
    simp

/-- Extract of honest proofs of different names: nothing. -/
theorem ext_honest {ls : List LeafD} {h : Nat} {Ls : List (List UInt8)} {x y : List UInt8} {er : Int} (hok : repOk (reportB ls h)) (hh : repH (reportB ls h) = h) (hall : ∀ l ∈ Ls, ∃ p z, HonAt ls h p z ∧ l = honP ls h p z) (hnd : (Ls.map accName).Nodup) (hE : ExtAns (reportB ls h) Ls x y er) : er = 0 ∧ x = [] ∧ y = [] := by
  have hv : ∀ l ∈ Ls, verOk (reportB ls h) l := fun l hl => by
    obtain ⟨p, z, a, rfl⟩ := hall l hl
    exact a.ver
  rcases hE with ⟨h1, _⟩ | ⟨_, ⟨l, hl, hn⟩, _⟩ | ⟨_, _, h3, _⟩ | ⟨_, _, _, hE, rfl⟩
  · exact absurd hok h1
  · exact absurd (hv l hl) hn
  · exact absurd hnd h3
  · rw [hh] at hE
    have hno : ∀ lv pl, lv ≤ h → firstTwo (textsAt lv pl (Ls.map (dataOf h (repRoot (reportB ls h))))) = none := fun lv pl hl => by
      refine firstTwo_same (t := treeT ls lv pl) fun t ht => ?_
      obtain ⟨l, hlm, e, rfl⟩ := mem_textsAt.1 ht
      obtain ⟨p, z, a, rfl⟩ := hall l hlm
      have hs := a.ver.2.2
      rw [hh] at hs
      have W := (way_acc hs).1
      have h64 : 2 ^ h ≤ 2 ^ 6 := Nat.pow_le_pow_right (by omega) a.hh
      have hpl := (honP_bytes ls h p z a.hh (by have := a.hp; omega) a.ok.1).2.1
      rw [hpl] at e
      rw [a.texts W lv hl, e]
    rcases hE with ⟨lv, pl, h1, _, h3, _⟩ | ⟨rfl, rfl, _⟩
    · rw [hno lv pl h1] at h3; cases h3
    · exact ⟨rfl, rfl, rfl⟩

end Go.Proofs.Ytbjobbkgelipmaa

/-
  A published book: what its tree says of the six accounts; the tree stays whatever is done.
-/
namespace Go.Proofs.Ytbjobbkgelipmaa
open Go.RowKit

theorem TreeM.kq {W W' : World} {T b cap V vc h : Nat} {gs : List Nat} {ls : List LeafD} (t : TreeM W T b cap V vc gs ls h) (k : Kq W W') (hs : W.heap.size ≤ W'.heap.size) : TreeM W' T b cap V vc gs ls h := by
  have nI : ∀ {a : Option Addr} {n c : Nat} (m : Int), Value.slice a n c ≠ .int .i64 m := fun m h => by cases h
  have nU : ∀ {a : Option Addr} {n c : Nat} (m : Int), Value.slice a n c ≠ .int .u64 m := fun m h => by cases h
  have hV := k V _ (t.rows 0 (Nat.zero_le _)) nI nU
  refine ⟨(k T _ (block_cell t.blk (i := 0)) nI nU).trans t.blk, ⟨Nat.lt_of_lt_of_le t.leaves.lt hs, fun i hi => ?_, t.leaves.ok⟩, fun j hj => (World.cell?_of_block (w := W) hV).trans (t.rows j hj), Nat.lt_of_lt_of_le t.vlt hs, fun j hj => ⟨fun i hi => ?_, Nat.lt_of_lt_of_le (t.sides j hj).2 hs⟩⟩
  · have h0 := (t.leaves.cells 0 (by omega)).1
    simp only [Nat.zero_mul, Nat.add_zero] at h0
    have hb := k b _ h0 (fun m h => by cases h) (fun m h => by cases h)
    have ec : ∀ o, W'.cell? ⟨b, o, none⟩ = W.cell? ⟨b, o, none⟩ := fun o => World.cell?_of_block (w := W) hb
    rw [ec, ec, ec]
    exact t.leaves.cells i hi
  · have h0 := ((t.sides j hj).1 0 (by omega)).1
    simp only [Nat.zero_mul] at h0
    have hb := k _ _ h0 (fun m h => by cases h) (fun m h => by cases h)
    have ec : ∀ o, W'.cell? ⟨gs.getD j 0, o, none⟩ = W.cell? ⟨gs.getD j 0, o, none⟩ := fun o => World.cell?_of_block (w := W) hb
    rw [ec, ec, ec, ec]
    exact (t.sides j hj).1 i hi

theorem acct_one : ∀ {E : List Acct}, E.Pairwise (fun a b => a.name ≠ b.name) → ∀ {a b : Acct}, a ∈ E → b ∈ E → a.name = b.name → a = b
  | [], _, _, _, ha, _, _ => by cases ha
  | c :: E, hp, a, b, ha, hb, e => by
    rw [List.pairwise_cons] at hp
    rcases List.mem_cons.1 ha with h1 | h1
    · rcases List.mem_cons.1 hb with h2 | h2
      · rw [h1, h2]
      · rw [h1] at e
        exact absurd e (hp.1 b h2)
    · rcases List.mem_cons.1 hb with h2 | h2
      · rw [h2] at e
        exact absurd e.symm (hp.1 a h1)
      · exact acct_one hp.2 h1 h2 e

theorem leaf_acct {seed : Int} {E : List Acct} {x : LeafD} (hx : x ∈ leavesE seed E E.length) : ∃ a ∈ E, a.name = x.nm.data.toList ∧ a.bal = x.bal := by
  unfold leavesE at hx
  obtain ⟨i, hi, rfl⟩ := List.mem_map.1 hx
  have hi' : i < E.length := by simpa using hi
  exact ⟨E[i], List.getElem_mem hi', by simp [leafOf, hi'], by simp [leafOf, hi']⟩
theorem acct_leaf {seed : Int} {E : List Acct} {a : Acct} (ha : a ∈ E) : ∃ x ∈ leavesE seed E E.length, x.nm = ⟨a.name.toArray⟩ ∧ x.bal = a.bal := by
  obtain ⟨i, hi, rfl⟩ := List.getElem_of_mem ha
  exact ⟨leafOf seed E i, List.mem_map.2 ⟨i, by simpa using hi, rfl⟩, by simp [leafOf, hi], by simp [leafOf, hi]⟩

theorem leaf_look {seed : Int} {E : List Acct} (hp : E.Pairwise (fun a b => a.name ≠ b.name)) {x : LeafD} (hx : x ∈ leavesE seed E E.length) {i : Nat} (hn : x.nm = nmB i) : fE E i = some x.bal := by
  obtain ⟨a, ha, h1, h2⟩ := leaf_acct hx
  rw [hn] at h1
  rw [fE_look]
  cases hl : lookE E (nmB i).data.toList with
  | none => exact absurd h1 (lookE_none hl a ha)
  | some b =>
    obtain ⟨hb, hbn⟩ := lookE_name hl
    rw [acct_one hp hb ha (hbn.trans h1.symm), ← h2]
    rfl
theorem leaf_none {seed : Int} {E : List Acct} {i : Nat} (h : ∀ x ∈ leavesE seed E E.length, x.nm ≠ nmB i) : fE E i = none := by
  rw [fE_look]
  cases hl : lookE E (nmB i).data.toList with
  | none => rfl
  | some b =>
    obtain ⟨hb, hbn⟩ := lookE_name hl
    obtain ⟨x, hx, h1, _⟩ := acct_leaf (seed := seed) hb
    rw [hbn] at h1
    exact absurd h1 (by simpa using h x hx)

theorem rep_root {ls : List LeafD} {h : Nat} (o : LsOk ls h) : repRoot (reportB ls h) = sideT ls h 0 ∧ (sideT ls h 0).2 = sumL ls ∧ repH (reportB ls h) = h ∧ repOk (reportB ls h) := by
  have hpos : ∀ y ∈ ls, 0 ≤ y.bal := fun y hy => (o.ok y hy).1.2.1
  have hr := side_range ls hpos o.sum h 0
  have h1 : repRoot (reportB ls h) = sideT ls h 0 := by
    have := sideAt_sideB [UInt8.ofNat h] [] (sideT ls h 0) hr.1 (by have := hr.2; unfold maxS at this; omega)
    simpa [reportB, repRoot] using this
  have h2 : (sideT ls h 0).2 = sumL ls := by
    rw [side_sum ls hpos o.sum h 0, sumTo_all ls _ (by have := o.len; omega)]
    simp [sumTo]
  have h3 : repH (reportB ls h) = h := by
    have := o.hh
    show (UInt8.ofNat h).toNat = h
    simp
    omega
  have hlr : (reportB ls h).length = 12 := by unfold reportB; rw [List.length_cons, sideB_length]
  refine ⟨h1, h2, h3, ⟨⟨hlr, ?_⟩, by rw [h1]; exact hr.2⟩⟩
  have : repH (reportB ls h) ≤ 6 := by rw [h3]; exact o.hh
  exact this

/-- What Proof answers: an honest proof. -/
def HonSay (ls : List LeafD) (h : Nat) (s : ByteArray) (w : World) (e : Ending) (w' : World) : Prop := Below w.heap.size w w' ∧
  (((∀ x ∈ ls, x.nm ≠ s) ∧ e = .returned (.tuple #[.slice none 0 0, .int .i64 4])) ∨
   ∃ (p : Nat) (x : LeafD) (v : Value), HonAt ls h p x ∧ x.nm = s ∧ e = .returned (.tuple #[v, .int .i64 0]) ∧ (honP ls h p x).length = s.size + 19 + 11 * h ∧ w'.ownsRow w.heap.size 5 1 v (s.size + 19 + 11 * h) (byteVals (honP ls h p x)))
theorem khon_any {w : World} {B M T b cap V vc : Nat} {h : Nat} {seed tot : Int} {E : List Acct} {gs : List Nat} {ls : List LeafD} (hb : BookT w B M (h : Int) seed (some ⟨T, 0, none⟩) tot E) (t : TreeM w T b cap V vc gs ls h) (s : ByteArray) (hok : LsOk ls h) :
    Calls Try.prog 17 #[.pointer (some ⟨B, 0, none⟩), .string s] w (HonSay ls h s w) := by
  have hpos : ∀ x ∈ ls, 0 ≤ x.bal := fun x hx => (hok.ok x hx).1.2.1
  rcases first_ix s ls with hno | ⟨i, hi, h1, h2⟩
  · exact (bproof_no hb t s hok.hh hok.len hno).mono fun e w' ⟨he, hb'⟩ => ⟨hb', .inl ⟨hno, he⟩⟩
  · refine (bproof_yes hb t s hok.hh hok.len hpos hok.sum i hi h1 h2).mono fun e w' ⟨⟨v, he, ho⟩, hb'⟩ => ⟨hb', .inr ⟨i, ls[i], v, ?_, h1, he, ?_, ?_⟩⟩
    · have hx := hok.ok _ (List.getElem_mem hi)
      exact ⟨hok.hh, Nat.lt_of_lt_of_le hi hok.len, hx.2, hx.1, List.getElem?_eq_getElem hi, hpos, hok.sum⟩
    · have := ho.1
      rw [proofTo_beside] at this
      simp only [byteVals, List.length_map, Nat.mul_one] at this
      exact this
    · rw [proofTo_beside] at ho
      exact ho

end Go.Proofs.Ytbjobbkgelipmaa

/-
  The walk of tithekeep's known.
-/
namespace Go.Proofs.Ytbjobbkgelipmaa
open Go.RowKit

theorem own_bytes {base n : Nat} {v : Value} {l : List UInt8} {w : World} (hown : w.ownsRow base 5 1 v n (byteVals l)) (h0 : 0 < n) :
    ∃ g cap, v = .slice (some ⟨g, 0, none⟩) n cap ∧ base ≤ g ∧ g < w.heap.size ∧ n ≤ cap ∧ cap ≤ 9223372036854775807 ∧ BytesAt w g 0 l := by
  rcases hown.2 with ⟨_, h⟩ | ⟨g, cap, cur, rfl, hg, hb, h1, h2, _, hx⟩
  · omega
  · refine ⟨g, cap, rfl, hg, (Array.getElem?_eq_some_iff.1 hb).1, h1, h2, ?_⟩
    intro j hj
    have h1 : (byteVals l)[j]? = some (.int .u8 (l[j].toNat : Int)) := by simp [byteVals, List.getElem?_eq_getElem hj]
    rw [← hx, List.getElem?_take] at h1
    split at h1
    · rw [Nat.zero_add]
      simp only [World.cell?, hb]
      simpa using h1
    · cases h1
theorem BytesAt.take {w : World} {b o k : Nat} {l : List UInt8} (h : BytesAt w b o l) : BytesAt w b o (l.take k) := by
  intro j hj
  rw [List.length_take] at hj
  rw [List.getElem_take]
  exact h j (by omega)

/-- What is cut short is refused. -/
theorem ver_short {R P : List UInt8} (h : (verAns R P).2.2 = 0) (k : Nat) (hk : k < P.length) (_hh : P.length ≤ 19 + 8 + 11 * 6) (h2 : k < 20 + 11 * repH R) : verAns R (P.take k) = ([], 0, 9) := by
  have hok : repOk R := Classical.byContradiction fun hn => by rw [verAns_norep hn] at h; cases h
  refine verAns_no hok fun hv => ?_
  have h3 := hv.2.1.2.2.2.2.2
  have h4 := hv.2.1.2.2.2.1
  rw [List.length_take] at h3
  omega

def kLeaf : LeafD := ⟨⟨#[107]⟩, 3, saltI 1 0⟩
theorem kAns : verAns (reportB [kLeaf] 2) (proofTo [kLeaf] 2 0 kLeaf 2) = ([107], 3, 0) := by
  rw [proofTo_beside]
  have hs := saltI_range 1 0
  have hx : LeafD.ok kLeaf := ⟨by decide, by decide, by decide, hs.1, hs.2⟩
  exact honest [kLeaf] 2 0 kLeaf (by omega) (by decide) (by decide) hx rfl (fun y hy => by simp at hy; rw [hy]; decide) (by unfold maxS sumL; simp [kLeaf])
theorem kRepH : repH (reportB [kLeaf] 2) = 2 := rfl
theorem kHalf : verAns (reportB [kLeaf] 2) ((proofTo [kLeaf] 2 0 kLeaf 2).take 21) = ([], 0, 9) := by
  have hl : (proofTo [kLeaf] 2 0 kLeaf 2).length = 42 := by rw [proofTo_length]; rfl
  exact ver_short (by rw [kAns]) 21 (by omega) (by omega) (by rw [kRepH]; omega)

set_option maxHeartbeats 1000000 in
set_option maxRecDepth 100000 in
theorem known_any (K : SortK) (w : World) :
    Calls Try.prog 7 #[] w fun e w' => e = .returned (.bool true) ∧ Below w.heap.size w w' := by
  have HK := hide K
  have HN := hide (new_good 2 1 w (by omega) (by omega))
  unfold cfgV at HN
  clear K
  obtain ⟨N, hN⟩ : ∃ N, w.heap.size = N := ⟨_, rfl⟩
  rw [hN] at HN ⊢
  go_enter Try.func7, Try.ntmps7
  go_wp2_with fail
  refine (unhide HN).mono ?_
  rintro e w1 ⟨rfl, hB1, hb1⟩
  have hz1 := hb1.size
  rw [hN] at hz1
  have HO := hide (open_yes hB1 ⟨#[107]⟩ rfl (by unfold maxLen; decide))
  have HB1 := hide hb1
  clear HN hB1 hb1
  go_wp2_with fail
  refine (unhide HO).mono ?_
  rintro e w2 ⟨rfl, ⟨A, hA, hB2⟩, hk2⟩
  have hb2 : Below N w w2 := (unhide HB1).trans (hk2.below hz1 (fun k hk => by simp [blksE] at hk; omega))
  have hz2 := hk2.size
  have HB2 := hide hb2
  have hpe : payE (insE ⟨(⟨#[107]⟩ : ByteArray).data.toList, A, 0⟩ []) (⟨#[107]⟩ : ByteArray).data.toList 3 = (0, [⟨[107], A, 3⟩]) := by simp [payE, insE, lookE, sumE, setE, maxS]
  have HP := hide (pay_any hB2 ⟨#[107]⟩ 3 (by unfold maxLen; decide) (by omega) (by omega))
  rw [hpe] at HP
  clear HO hB2 hk2 hb2 HB1 hpe
  go_wp2_with fail
  refine (unhide HP).mono ?_
  rintro e w3 ⟨rfl, hB3, hk3⟩
  have hz3 := hk3.size
  have hb3 : Below N w w3 := (unhide HB2).trans (hk3.below (by omega) (fun k hk => by simp [blksE, insE] at hk; omega))
  have HB3 := hide hb3
  have HU := hide (publish_ok (h := 2) (unhide HK) hB3 (by omega) (by simp) (fun a ha => by simp at ha; rw [ha]; simp))
  have hlv : leavesE 1 [⟨[107], A, 3⟩] ([⟨[107], A, 3⟩] : List Acct).length = [kLeaf] := rfl
  rw [hlv] at HU
  clear HP hB3 hk3 hb3 HB2 hlv
  go_wp2_with fail
  refine (unhide HU).mono ?_
  rintro e w4 ⟨⟨v, T, b, cap, V, vc, gs, rfl, hown4, hB4, hT4, _⟩, hk4⟩
  have hz4 := hk4.size
  have hb4 : Below N w w4 := (unhide HB3).trans (hk4.below (by omega) (fun k hk => by simp at hk; omega))
  have HB4 := hide hb4
  have HR := hide (bproof_yes hB4.toBookT hT4 ⟨#[107]⟩ (by omega) (by decide) (fun y hy => by simp at hy; rw [hy]; decide) (by unfold maxS sumL; simp [kLeaf]) 0 (by decide) rfl (fun j hj => by omega))
  have hg0 : ([kLeaf] : List LeafD)[0] = kLeaf := rfl
  rw [hg0] at HR
  obtain ⟨g1, c1, rfl, _, hg1, hc1, hc1', hY1⟩ := own_bytes hown4 (by omega)
  have HY1 := hide hY1
  clear HU hown4 hB4 hT4 hk4 hb4 HB3 hg0 hY1
  go_wp2_with fail
  refine (unhide HR).mono ?_
  rintro e w5 ⟨⟨v, rfl, hown5⟩, hb5⟩
  have hsz : (⟨#[107]⟩ : ByteArray).size = 1 := rfl
  rw [hsz] at hown5
  have hb5' : Below N w w5 := (unhide HB4).trans (hb5.mono (by omega))
  have hz5 := hb5.size
  have HB5 := hide hb5'
  obtain ⟨g2, c2, rfl, _, hg2, hc2, hc2', hY2⟩ := own_bytes hown5 (by omega)
  have hY1 := (unhide HY1).below hb5 hg1
  have hl : (proofTo [kLeaf] 2 0 kLeaf 2).length = 42 := by rw [proofTo_length]; rfl
  have hlr : (reportB [kLeaf] 2).length = 12 := by unfold reportB; rw [List.length_cons, sideB_length]
  have ans := kAns
  have half := kHalf
  have hrh := kRepH
  generalize proofTo [kLeaf] 2 0 kLeaf 2 = P at *
  generalize reportB [kLeaf] 2 = R at *
  have hV1 := ownver_caps R P g1 g2 c1 c2 w5 (by omega) hc1' (by omega) (fun h => by omega) hc2' (by omega) hg2 hY1 hY2
  have hlt : (P.take 21).length = 21 := by rw [List.length_take]; omega
  have hV2 := fun (w6 : World) (hw6 : Below w5.heap.size w5 w6) => ownver_caps R (P.take 21) g1 g2 c1 c2 w6 (by omega) hc1' (by omega) (fun h => by omega) hc2' (by have := hw6.size; omega) (by have := hw6.size; omega) (hY1.below hw6 (by omega)) (hY2.below hw6 (by omega)).take
  rw [ans, hl, hlr] at hV1
  rw [half, hlt, hlr] at hV2
  unfold verV strV at hV1 hV2
  have HV1 := hide hV1
  have HV2 := hide hV2
  clear hV1 hV2 ans half hrh hl hlr hlt hY1 hY2 HY1 HR hown5 hb5 hb5' hsz HB4 hg1 hg2 hN HK
  have hzN : N ≤ w5.heap.size := by omega
  clear hz1 hz2 hz3 hz4 hz5
  have c42 : 42 ≤ c2 := by omega
  go_wp2_with fail
  refine (unhide HV1).mono ?_
  rintro e w6 ⟨rfl, hb6⟩
  have HV3 := hide (unhide HV2 _ hb6)
  have HB6 := hide ((unhide HB5).trans (hb6.mono hzN))
  have hz6 := hb6.size
  clear HV1 HV2 hb6 HB5
  go_wp2_with fail
  refine (unhide HV3).mono ?_
  rintro e w7 ⟨rfl, hb7⟩
  have HB7 := hide ((unhide HB6).trans (hb7.mono (by omega)))
  clear HV3 HB6 hb7
  go_wp2
  go_ret
  exact ⟨rfl, unhide HB7⟩

end Go.Proofs.Ytbjobbkgelipmaa
