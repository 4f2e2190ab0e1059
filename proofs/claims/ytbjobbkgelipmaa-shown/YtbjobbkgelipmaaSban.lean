/-
  The walk of tithe's Proof (a book's).
-/
import Derived.Deep.DeepCutAuto
import Derived.Test.YtbjobbkgelipmaaSbam
import Derived.Test.YtbjobbkgelipmaaSbai
import Derived.Test.YtbjobbkgelipmaaSbaa
import Derived.Test.YtbjobbkgelipmaaSbab
import Derived.Test.YtbjobbkgelipmaaSbae
namespace Go.Proofs.Ytbjobbkgelipmaa
open Go.RowKit

theorem proofTo_beside (ls : List LeafD) (h p : Nat) (x : LeafD) : ∀ k, proofTo ls h p x k = [UInt8.ofNat h, UInt8.ofNat p] ++ leafB x.nm.data.toList x.bal x.salt ++ sidesB (besideT ls p k)
  | 0 => by simp [proofTo, sidesB, besideT]
  | k + 1 => by rw [proofTo, proofTo_beside ls h p x k, besideT_snoc, sidesB_snoc]; simp

set_option maxHeartbeats 400000 in
set_option maxRecDepth 100000 in
theorem bproof_early {w : World} {B M : Nat} {h seed tot : Int} {E : List Acct} (hb : BookT w B M h seed none tot E) (s : ByteArray) :
    Calls Try.prog 17 #[.pointer (some ⟨B, 0, none⟩), .string s] w fun e w' => e = .returned (.tuple #[.slice none 0 0, .int .i64 8]) ∧ w' = w := by
  have c4 : w.cell? ⟨B, 4, none⟩ = some (.pointer none) := block_cell hb.blk
  clear hb
  go_enter Try.func17, Try.ntmps17
  go_wp2
  go_ret2
  exact ⟨rfl, rfl⟩

set_option maxHeartbeats 400000 in
set_option maxRecDepth 100000 in
theorem bproof_no {w : World} {B M T b cap V vc : Nat} {h : Nat} {seed tot : Int} {E : List Acct} {gs : List Nat} {ls : List LeafD} (hb : BookT w B M (h : Int) seed (some ⟨T, 0, none⟩) tot E) (t : TreeM w T b cap V vc gs ls h) (s : ByteArray) (hh : h ≤ 6) (hn : ls.length ≤ 2 ^ h) (hno : ∀ x ∈ ls, x.nm ≠ s) :
    Calls Try.prog 17 #[.pointer (some ⟨B, 0, none⟩), .string s] w fun e w' => e = .returned (.tuple #[.slice none 0 0, .int .i64 4]) ∧ Below w.heap.size w w' := by
  have c4 : w.cell? ⟨B, 4, none⟩ = some (.pointer (some ⟨T, 0, none⟩)) := block_cell hb.blk
  have hP := tproof_any t s hh hn
  have HP : Hid (Calls Try.prog 28 #[.pointer (some ⟨T, 0, none⟩), .string s] w fun e w' => e = .returned (.tuple #[proofZ, .bool false]) ∧ Below w.heap.size w w') := hP.mono fun e w' hp => ⟨hp.2.1 hno, hp.1⟩
  clear hb t hP hno hn hh
  unfold proofZ at HP
  go_enter Try.func17, Try.ntmps17
  go_wp2_with fail
  refine (unhide HP).mono ?_
  rintro e w1 ⟨rfl, hb1⟩
  have HB := hide (hb1.alloc hb1.size (Obj.cells #[Value.int IntKind.i64 0, Value.string ⟨#[]⟩, Value.int IntKind.u64 0, Value.int IntKind.u64 0, Value.slice none 0 0] 79))
  clear hb1 HP
  go_wp2
  go_ret2
  exact ⟨rfl, unhide HB⟩

set_option maxHeartbeats 1000000 in
set_option maxRecDepth 100000 in
theorem bproof_yes {w : World} {B M T b cap V vc : Nat} {h : Nat} {seed tot : Int} {E : List Acct} {gs : List Nat} {ls : List LeafD} (hb : BookT w B M (h : Int) seed (some ⟨T, 0, none⟩) tot E) (t : TreeM w T b cap V vc gs ls h) (s : ByteArray) (hh : h ≤ 6) (hn : ls.length ≤ 2 ^ h) (hp : ∀ x ∈ ls, 0 ≤ x.bal) (hm : sumL ls ≤ maxS)
    (i : Nat) (hi : i < ls.length) (hie : ls[i].nm = s) (hmin : ∀ j (hj : j < i), (ls[j]'(by omega)).nm ≠ s) :
    Calls Try.prog 17 #[.pointer (some ⟨B, 0, none⟩), .string s] w fun e w' => (∃ v, e = .returned (.tuple #[v, .int .i64 0]) ∧ w'.ownsRow w.heap.size 5 1 v (s.size + 19 + 11 * h) (byteVals (proofTo ls h i ls[i] h))) ∧ Below w.heap.size w w' := by
  have c4 : w.cell? ⟨B, 4, none⟩ = some (.pointer (some ⟨T, 0, none⟩)) := block_cell hb.blk
  have h64 : 2 ^ h ≤ 2 ^ 6 := Nat.pow_le_pow_right (by omega) hh
  have hok := t.leaves.ok _ (List.getElem_mem hi)
  have hP := tproof_any t s hh hn
  rw [proofTo_beside]
  obtain ⟨x, hx⟩ : ∃ x, ls[i] = x := ⟨_, rfl⟩
  have HP : Hid (Calls Try.prog 28 #[.pointer (some ⟨T, 0, none⟩), .string s] w fun e w' => (∃ g, e = .returned (.tuple #[proofV (i : Int) x.nm x.bal x.salt (some ⟨g, 0, none⟩) h h, .bool true]) ∧ g < w'.heap.size ∧ SidesAt w' g (besideT ls i h)) ∧ Below w.heap.size w w') := hP.mono fun e w' hp => by
    obtain ⟨g, he, h1, _, h3⟩ := hp.2.2 i hi hie hmin
    rw [hx] at he
    exact ⟨⟨g, he, h1, h3⟩, hp.1⟩
  rw [hx] at hok hie ⊢
  have hbl := besideT_len ls i h
  have hW := fun (w' : World) (g : Nat) (hg : g < w'.heap.size) (hs : SidesAt w' g (besideT ls i h)) => wrproof_any i x.nm x.bal x.salt g h (besideT ls i h) w' (by omega) hok.1 hok.2.1 hok.2.2.1 hok.2.2.2.1 hok.2.2.2.2 (by rw [hbl]; exact hh) hg hs (fun y hy => by
    unfold besideT at hy
    obtain ⟨k, _, rfl⟩ := List.mem_map.1 hy
    have := side_range ls hp hm k (sib (i / 2 ^ k))
    unfold maxS at this
    omega)
  rw [hbl, hie] at hW
  rw [hie] at HP ⊢
  generalize [UInt8.ofNat h, UInt8.ofNat i] ++ leafB s.data.toList x.bal x.salt ++ sidesB (besideT ls i h) = PB at *
  have HW := hide hW
  generalize besideT ls i h = ys at *
  generalize x.bal = bal at *
  generalize x.salt = salt at *
  clear hb t hP hok hn hp hm hx hie hmin hW hbl h64
  unfold proofV at *
  go_enter Try.func17, Try.ntmps17
  go_wp2_with fail
  refine (unhide HP).mono ?_
  rintro e w1 ⟨⟨g, rfl, hg, hsd⟩, hb1⟩
  have m1 := heap_alloc_new w1 (Obj.cells #[Value.int IntKind.i64 (i : Int), Value.string s, Value.int IntKind.u64 bal, Value.int IntKind.u64 salt, Value.slice (some ⟨g, 0, none⟩) h h] 79)
  have hA1 : Below w1.heap.size w1 (w1.alloc (Obj.cells #[Value.int IntKind.i64 (i : Int), Value.string s, Value.int IntKind.u64 bal, Value.int IntKind.u64 salt, Value.slice (some ⟨g, 0, none⟩) h h] 79)) := (Below.refl _ _).alloc (Nat.le_refl _) _
  have HB := hide (hb1.alloc hb1.size (Obj.cells #[Value.int IntKind.i64 (i : Int), Value.string s, Value.int IntKind.u64 bal, Value.int IntKind.u64 salt, Value.slice (some ⟨g, 0, none⟩) h h] 79))
  have HC := hide (unhide HW _ g (Nat.lt_of_lt_of_le hg hA1.size) (hsd.below hA1 hg))
  clear hsd hg hb1 HP HW hA1
  go_upto_region 6 with fail
  generalize (w1.alloc (Obj.cells #[Value.int IntKind.i64 (i : Int), Value.string s, Value.int IntKind.u64 bal, Value.int IntKind.u64 salt, Value.slice (some ⟨g, 0, none⟩) h h] 79)) = W3 at *
  generalize w1.heap.size = X at *
  have z0 : W3.cell? ⟨X, 0, none⟩ = some (.int .i64 (i : Int)) := block_cell m1
  have z1 : W3.cell? ⟨X, 1, none⟩ = some (.string s) := block_cell m1
  have z2 : W3.cell? ⟨X, 2, none⟩ = some (.int .u64 bal) := block_cell m1
  have z3 : W3.cell? ⟨X, 3, none⟩ = some (.int .u64 salt) := block_cell m1
  have z4 : W3.cell? ⟨X, 4, none⟩ = some (.slice (some ⟨g, 0, none⟩) h h) := block_cell m1
  clear m1
  go_wp2_with fail
  refine (unhide HC).mono ?_
  rintro e w4 ⟨⟨v4, rfl, hown4⟩, hb4⟩
  have HE := hide (And.intro (own_lower hown4 (unhide HB).size) ((unhide HB).trans (hb4.mono (unhide HB).size)))
  clear hown4 hb4 HC HB z0 z1 z2 z3 z4
  go_wp2
  go_ret2
  exact ⟨⟨_, rfl, (unhide HE).1⟩, (unhide HE).2⟩

end Go.Proofs.Ytbjobbkgelipmaa

/-
  The walk of tithe's join.
-/
namespace Go.Proofs.Ytbjobbkgelipmaa
open Go.RowKit

def sideZ0 : Value := .agg #[.int .u8 0, .int .u8 0, .int .u8 0, .int .u64 0]

set_option maxRecDepth 100000 in
set_option maxHeartbeats 400000 in
theorem join_no (pl : Nat) (d d' : Dg) (x x' : Int) (w : World) (h0 : 0 ≤ x) (h0' : 0 ≤ x') (hs : maxS < x + x') :
    Calls Try.prog 64 #[.int .i64 (pl : Int), sideV d x, sideV d' x'] w fun e w' => e = .returned (.tuple #[sideZ0, .bool false]) ∧ Below w.heap.size w w' := by
  unfold sideV sideZ0 at *
  have HA := fun w => hide (add_any x x' w h0 h0')
  rw [decide_eq_false (by omega)] at HA
  generalize capS x + capS x' = cs at *
  clear hs h0 h0'
  go_enter Try.func64, Try.ntmps64
  go_wp2_with fail
  refine (unhide (HA _)).mono ?_
  rintro e w1 ⟨rfl, rfl⟩
  clear HA
  go_wp2
  refine bodyPost_ret (v := .tuple #[.agg #[.int .u8 0, .int .u8 0, .int .u8 0, .int .u64 0], .bool false]) ?_ rfl ⟨rfl, ?_⟩
  · simp [results, Try.results64, go_sem]
  · repeat first
      | exact Below.refl _ _
      | refine Below.drew ?_
      | refine Below.setCell ?_ (by simp; try omega) _
      | refine Below.alloc ?_ (by simp; try omega) _

set_option maxRecDepth 100000 in
set_option maxHeartbeats 1000000 in
theorem join_yes (pl : Nat) (d d' : Dg) (x x' : Int) (w : World) (hp : pl ≤ 255) (h0 : 0 ≤ x) (h0' : 0 ≤ x') (hs : x + x' ≤ maxS) :
    Calls Try.prog 64 #[.int .i64 (pl : Int), sideV d x, sideV d' x'] w fun e w' => e = .returned (.tuple #[sideV (dg (upText pl (d, x) (d', x'))) (x + x'), .bool true]) ∧ Below w.heap.size w w' := by
  have HA := fun w => hide (add_any x x' w h0 h0')
  rw [decide_eq_true hs] at HA
  generalize capS x + capS x' = cs at *
  unfold maxS at hs
  obtain ⟨dl, dr, xl, xr, HI, hT, hr⟩ : ∃ (dl dr : Dg) (xl xr : Int), (∀ w, Hid (Calls Try.prog 72 #[.int .i64 (pl : Int), sideV d x, sideV d' x'] w fun e w' => e = .returned (.tuple #[sideV dl xl, sideV dr xr]) ∧ Below w.heap.size w w')) ∧ upText pl (d, x) (d', x') = 1 :: (sideB (dl, xl) ++ sideB (dr, xr)) ∧ (0 ≤ xl ∧ 0 ≤ xr ∧ xl + xr < 18446744073709551616 ∧ xl + xr = x + x') := by
    by_cases he : pl % 2 = 0
    · refine ⟨d, d', x, x', fun w => hide ?_, ?_, by omega⟩
      · have := inorder_any pl d d' x x' w hp
        rw [if_pos he] at this
        exact this
      · unfold upText; rw [if_neg (by omega)]
    · refine ⟨d', d, x', x, fun w => hide ?_, ?_, by omega⟩
      · have := inorder_any pl d d' x x' w hp
        rw [if_neg he] at this
        exact this
      · unfold upText; rw [if_pos (by omega)]
  have HN := fun w => hide (nodeside_any dl dr xl xr w hr.1 hr.2.1 hr.2.2.1)
  rw [hT]
  rw [hr.2.2.2] at HN
  generalize (1 :: (sideB (dl, xl) ++ sideB (dr, xr))) = T at *
  clear hs h0 h0' hT hr hp
  unfold sideV at *
  generalize ((dg T).1.toNat : Int) = t0 at *
  generalize ((dg T).2.1.toNat : Int) = t1 at *
  generalize ((dg T).2.2.toNat : Int) = t2 at *
  generalize (d.1.toNat : Int) = a0 at *
  generalize (d.2.1.toNat : Int) = a1 at *
  generalize (d.2.2.toNat : Int) = a2 at *
  generalize (d'.1.toNat : Int) = b0 at *
  generalize (d'.2.1.toNat : Int) = b1 at *
  generalize (d'.2.2.toNat : Int) = b2 at *
  generalize (dl.1.toNat : Int) = l0 at *
  generalize (dl.2.1.toNat : Int) = l1 at *
  generalize (dl.2.2.toNat : Int) = l2 at *
  generalize (dr.1.toNat : Int) = r0 at *
  generalize (dr.2.1.toNat : Int) = r1 at *
  generalize (dr.2.2.toNat : Int) = r2 at *
  generalize x + x' = xs at *
  go_enter Try.func64, Try.ntmps64
  go_wp2_with fail
  refine (unhide (HA _)).mono ?_
  rintro e w1 ⟨rfl, rfl⟩
  clear HA
  go_wp2_with fail
  generalize hW0 : (((w.alloc (Obj.cells #[Value.int IntKind.u8 a0, Value.int IntKind.u8 a1, Value.int IntKind.u8 a2, Value.int IntKind.u64 x] 88)).alloc (Obj.cells #[Value.int IntKind.u8 b0, Value.int IntKind.u8 b1, Value.int IntKind.u8 b2, Value.int IntKind.u64 x'] 88)).alloc (Obj.cells #[Value.int IntKind.u8 0, Value.int IntKind.u8 0, Value.int IntKind.u8 0, Value.int IntKind.u64 0] 88)) = W0
  have hz0 : W0.heap.size = w.heap.size + 3 := by rw [← hW0]; simp
  have kk : Res4 W0 (w.heap.size + 2) := by rw [← hW0]; exact res4_block (heap_new2 w _ _ _)
  have hA0 : Below w.heap.size w W0 := by
    rw [← hW0]
    exact (((Below.refl _ _).alloc (Nat.le_refl _) _).alloc (by simp) _).alloc (by simp; omega) _
  clear hW0
  refine (unhide (HI _)).mono ?_
  rintro e w1 ⟨rfl, hb1⟩
  have z1 : w.heap.size + 3 ≤ w1.heap.size := by have := hb1.size; omega
  have k1 : Res4 w1 (w.heap.size + 2) := Res4.below kk (by omega) hb1
  have HA := hide (hA0.trans (hb1.mono (by omega)))
  clear kk hA0 hb1 HI
  go_wp2_with fail
  refine (unhide (HN _)).mono ?_
  rintro e w4 ⟨rfl, hb4⟩
  have k4 := Res4.below k1 (by omega) hb4
  have z4 := hb4.size
  have HA4 := hide ((unhide HA).trans (hb4.mono (by omega)))
  obtain ⟨q0, q1, q2, q3, g0, g1, g2, g3, j0, j1, j2, j3⟩ := k4.cells
  clear hb4 HA k1 k4 HN
  go_wp2
  refine bodyPost_ret (v := .tuple #[.agg #[.int .u8 t0, .int .u8 t1, .int .u8 t2, .int .u64 xs], .bool true]) ?_ rfl ⟨rfl, ?_⟩
  · simp [results, Try.results64, go_sem, g0, g1, g2, g3]
  · refine Below.setCell (Below.setCell (Below.setCell (Below.setCell (unhide HA4) (by simp; try omega) _) (by simp; try omega) _) (by simp; try omega) _) (by simp; try omega) _

end Go.Proofs.Ytbjobbkgelipmaa

/-
  The walk of tithe's climb.
-/
namespace Go.Proofs.Ytbjobbkgelipmaa
open Go.RowKit

/-- What lies in memory on the way up. -/
structure CM (w : World) (fv : Value) (R H : Nat) (e0 e1 e2 x : Int) (w' : World) : Prop where
  fn : w'.heap[w.heap.size]? = some (.cells #[fv] 138 (0, 0))
  res : w'.heap[R]? = some (.cells #[.int .u8 0, .int .u8 0, .int .u8 0, .int .u64 0] 88 (0, 0))
  here : w'.heap[H]? = some (.cells #[.int .u8 e0, .int .u8 e1, .int .u8 e2, .int .u64 x] 88 (0, 0))
  gt : R < H
  wR : w.heap.size < R
  below : Below w.heap.size w w'
theorem CM.lt {w w' : World} {fv : Value} {R H : Nat} {e0 e1 e2 x : Int} (h : CM w fv R H e0 e1 e2 x w') : H < w'.heap.size := (Array.getElem?_eq_some_iff.1 h.here).1
theorem CM.later {w W w4 : World} {fv : Value} {R H : Nat} {e0 e1 e2 x : Int} (h : CM w fv R H e0 e1 e2 x W) (hb : Below W.heap.size W w4) : CM w fv R H e0 e1 e2 x w4 := by
  have h1 := h.lt
  have h2 := h.gt
  have h3 := h.wR
  exact ⟨(hb.block _ (by omega)).trans h.fn, (hb.block _ (by omega)).trans h.res, (hb.block _ (by omega)).trans h.here, h.gt, h.wR, h.below.trans (hb.mono (by omega))⟩
theorem CM.set {w W : World} {fv : Value} {R H : Nat} {e0 e1 e2 x : Int} (h : CM w fv R H e0 e1 e2 x W) (f0 f1 f2 q : Int) :
    CM w fv R H f0 f1 f2 q ((((W.setCell ⟨H, 0, none⟩ (.int .u8 f0)).setCell ⟨H, 1, none⟩ (.int .u8 f1)).setCell ⟨H, 2, none⟩ (.int .u8 f2)).setCell ⟨H, 3, none⟩ (.int .u64 q)) := by
  have h2 := h.gt
  have h3 := h.wR
  have e : ∀ k, k ≠ H → ((((W.setCell ⟨H, 0, none⟩ (.int .u8 f0)).setCell ⟨H, 1, none⟩ (.int .u8 f1)).setCell ⟨H, 2, none⟩ (.int .u8 f2)).setCell ⟨H, 3, none⟩ (.int .u64 q)).heap[k]? = W.heap[k]? := fun k hk => by
    rw [Below.heap_setCell _ _ _ _ hk, Below.heap_setCell _ _ _ _ hk, Below.heap_setCell _ _ _ _ hk, Below.heap_setCell _ _ _ _ hk]
  refine ⟨(e _ (by omega)).trans h.fn, (e _ (by omega)).trans h.res, ?_, h.gt, h.wR, ?_⟩
  · have g1 := heap_setCell_same W H 0 _ _ (.int .u8 f0) h.here
    have g2 := heap_setCell_same _ H 1 _ _ (.int .u8 f1) g1
    have g3 := heap_setCell_same _ H 2 _ _ (.int .u8 f2) g2
    exact heap_setCell_same _ H 3 _ _ (.int .u64 q) g3
  · exact (((h.below.setCell (by show w.heap.size ≤ H; omega) _).setCell (by show w.heap.size ≤ H; omega) _).setCell (by show w.heap.size ≤ H; omega) _).setCell (by show w.heap.size ≤ H; omega) _
theorem CM.drew {w W : World} {fv : Value} {R H : Nat} {e0 e1 e2 x : Int} (h : CM w fv R H e0 e1 e2 x W) : CM w fv R H e0 e1 e2 x W.drew := ⟨h.fn, h.res, h.here, h.gt, h.wR, h.below.drew⟩

theorem sidesOf_at {l : List UInt8} {a h k : Nat} (hk : k < h) : (sidesOf (l.drop a) h)[k]'(by rw [sidesOf_len]; exact hk) = sideAt l (a + 11 * k) := by
  rw [sidesOf_get, sideAt_drop]

theorem accText0_leaf (h : Nat) (l : List UInt8) (hh : accHead h l) : accText0 l = 0 :: leafB (accName l) (accBal l) (accSalt l) := by
  rw [accText0_parts h l hh]
  have hs : (accName l).length = bAt l 2 := by
    unfold accName
    rw [List.length_take, List.length_drop]
    have := hh.2.2.2.2
    omega
  unfold leafB
  rw [hs]
  have e : UInt8.ofNat (bAt l 2) = l.getD 2 0 := by
    unfold bAt
    simp
  rw [e]
  simp

/-- What climb owes. -/
def ClimbPost (h : Nat) (l : List UInt8) (w : World) (e : Ending) (w' : World) : Prop := Below w.heap.size w w' ∧ match accUp l h with
  | none => e = .returned (.tuple #[sideZ0, .bool false])
  | some (_, now) => e = .returned (.tuple #[sideV now.1 now.2, .bool true])

def joinV : Value := .func (.func 64) #[] #[]

set_option maxHeartbeats 2000000 in
set_option maxRecDepth 100000 in
theorem climb_any (h : Nat) (l : List UInt8) (sb : Nat) (w : World) (hh : h ≤ 6) (hacc : accHead h l) (hbal : accBal l ≤ maxS) (hsums : ∀ i, i < h → (sideAt l (19 + bAt l 2 + 11 * i)).2 ≤ maxS) (hlt : sb < w.heap.size)
    (hS : SidesAt w sb (sidesOf (l.drop (19 + bAt l 2)) h)) :
    Calls Try.prog 65 #[.agg #[joinV], proofV (bAt l 1 : Int) ⟨(accName l).toArray⟩ (accBal l) (accSalt l) (some ⟨sb, 0, none⟩) h h] w (ClimbPost h l w) := by
  have hb1 : bAt l 1 ≤ 255 := by have := UInt8.toNat_lt (l.getD 1 0); unfold bAt; omega
  have hleaf := fun w => leafside_any ⟨(accName l).toArray⟩ (accBal l) (accSalt l) w (by rw [accName_size h l hacc]; exact hacc.2.2.2.2.1) (accBal_range l).1 (accBal_range l).2 (accSalt_range l).1 (accSalt_range l).2
  have e0 : (⟨(accName l).toArray⟩ : ByteArray).data.toList = accName l := by simp
  rw [e0, ← accText0_leaf h l hacc] at hleaf
  have hup0 : accUp l 0 = some ([accText0 l], (dg (accText0 l), accBal l)) := rfl
  have hrange := fun {k : Nat} {ts : List (List UInt8)} {now : Dg × Int} (hu : accUp l k = some (ts, now)) => accUp_le hbal (accBal_range l).1 hu
  obtain ⟨pl, hpl⟩ : ∃ pl, bAt l 1 = pl := ⟨_, rfl⟩
  obtain ⟨nm, hnm⟩ : ∃ nm : ByteArray, ⟨(accName l).toArray⟩ = nm := ⟨_, rfl⟩
  obtain ⟨bal, hbl⟩ : ∃ x, accBal l = x := ⟨_, rfl⟩
  obtain ⟨salt, hsl⟩ : ∃ x, accSalt l = x := ⟨_, rfl⟩
  rw [hnm, hbl, hsl] at hleaf
  rw [hpl, hnm, hbl, hsl]
  rw [hbl] at hup0
  have HSS := hide hsums
  have HS := hide hS
  have HR : Hid (∀ (k : Nat) (ts : List (List UInt8)) (now : Dg × Int), accUp l k = some (ts, now) → 0 ≤ now.2 ∧ now.2 ≤ maxS ∧ ts.length = k + 1) := fun k ts now hu => hrange hu
  have HU0 := hide hup0
  obtain ⟨t0, t1, t2, hT⟩ : ∃ t0 t1 t2 : Int, sideV (dg (accText0 l)) bal = .agg #[.int .u8 t0, .int .u8 t1, .int .u8 t2, .int .u64 bal] := ⟨_, _, _, rfl⟩
  have HT := hide hT
  rw [hT] at hleaf
  have HL := fun w => hide (hleaf w)
  have HPL := hide hpl
  rw [hpl] at hb1
  clear hsums hS hrange hup0 hleaf e0 hacc hnm hbl hsl hpl hT hbal
  unfold proofV leafV joinV at *
  go_enter Try.func65, Try.ntmps65
  go_wp2_with fail
  obtain ⟨R, hR⟩ : ∃ R, w.heap.size + 1 + 1 = R := ⟨_, rfl⟩
  rw [hR]
  obtain ⟨P, hP⟩ : ∃ P, w.heap.size + 1 = P := ⟨_, rfl⟩
  rw [hP]
  refine (unhide (HL _)).mono ?_
  rintro e w1 ⟨rfl, hb1⟩
  have k0 := heap_next (o := (Obj.cells #[Value.int IntKind.u8 0, Value.int IntKind.u8 0, Value.int IntKind.u8 0, Value.int IntKind.u64 0] 88)) (heap_next (o := (Obj.cells #[Value.int IntKind.i64 (pl : Int), Value.string nm, Value.int IntKind.u64 bal, Value.int IntKind.u64 salt, Value.slice (some ⟨sb, 0, none⟩) h h] 79)) (heap_alloc_new w (Obj.cells #[Value.func (.func 64) #[] #[]] 138)))
  have k1 := heap_next (o := (Obj.cells #[Value.int IntKind.u8 0, Value.int IntKind.u8 0, Value.int IntKind.u8 0, Value.int IntKind.u64 0] 88)) (heap_new1 w (Obj.cells #[Value.func (.func 64) #[] #[]] 138) (Obj.cells #[Value.int IntKind.i64 (pl : Int), Value.string nm, Value.int IntKind.u64 bal, Value.int IntKind.u64 salt, Value.slice (some ⟨sb, 0, none⟩) h h] 79))
  have k2 := heap_new2 w (Obj.cells #[Value.func (.func 64) #[] #[]] 138) (Obj.cells #[Value.int IntKind.i64 (pl : Int), Value.string nm, Value.int IntKind.u64 bal, Value.int IntKind.u64 salt, Value.slice (some ⟨sb, 0, none⟩) h h] 79) (Obj.cells #[Value.int IntKind.u8 0, Value.int IntKind.u8 0, Value.int IntKind.u8 0, Value.int IntKind.u64 0] 88)
  have hz1 : R < w1.heap.size := by have := hb1.size; simp only [World.size_alloc] at this; omega
  have m0 := (hb1.block _ (Array.getElem?_eq_some_iff.1 k0).1).trans k0
  have m1 := (hb1.block _ (Array.getElem?_eq_some_iff.1 k1).1).trans k1
  have m2 := (hb1.block _ (Array.getElem?_eq_some_iff.1 k2).1).trans k2
  have hB1 : Below w.heap.size w w1 := ((((Below.refl _ _).alloc (Nat.le_refl _) _).alloc (by simp) _).alloc (by simp; omega) _).trans (hb1.mono (by simp only [World.size_alloc]; omega))
  have hCM : CM w (.func (.func 64) #[] #[]) R w1.heap.size t0 t1 t2 bal (w1.alloc (Obj.cells #[Value.int IntKind.u8 t0, Value.int IntKind.u8 t1, Value.int IntKind.u8 t2, Value.int IntKind.u64 bal] 88)) := by
    refine ⟨heap_next m0, ?_, heap_alloc_new w1 _, hz1, by omega, hB1.alloc hB1.size _⟩
    rw [← hR]
    exact heap_next m2
  have p0 : w1.cell? ⟨P, 0, none⟩ = some (.int .i64 (pl : Int)) := by rw [← hP]; exact block_cell m1
  have p4 : w1.cell? ⟨P, 4, none⟩ = some (.slice (some ⟨sb, 0, none⟩) h h) := by rw [← hP]; exact block_cell m1
  have hPw : P < w1.heap.size := by omega
  have HCM := hide hCM
  have HRR := hide hR
  clear k0 k1 k2 m0 m1 m2 hB1 hCM hb1 HL hR hz1 hP
  go_upto_region 2 with fail
  have HA1 : Below w1.heap.size w1 (w1.alloc (Obj.cells #[Value.int IntKind.u8 t0, Value.int IntKind.u8 t1, Value.int IntKind.u8 t2, Value.int IntKind.u64 bal] 88)) := (Below.refl _ _).alloc (Nat.le_refl _) _
  replace p0 := keepB HA1 hPw p0
  replace p4 := keepB HA1 hPw p4
  generalize (w1.alloc (Obj.cells #[Value.int IntKind.u8 t0, Value.int IntKind.u8 t1, Value.int IntKind.u8 t2, Value.int IntKind.u64 bal] 88)) = W2 at *
  clear HA1 hPw
  go_wp2
  go_loopw [7, 8, 19] (fun p _ i wr => ∃ (k : Nat) (ts : List (List UInt8)) (now : Dg × Int), k ≤ h ∧ i = .int .i64 k ∧ p = .int .i64 ((pl / 2 ^ k : Nat) : Int) ∧ accUp l k = some (ts, now) ∧ CM w (.func (.func 64) #[] #[]) R w1.heap.size (now.1.1.toNat : Int) (now.1.2.1.toNat : Int) (now.1.2.2.toNat : Int) now.2 wr) (fun _ _ i _ => h - (intOf i).toNat)
  case atStart =>
    refine ⟨0, _, _, Nat.zero_le _, rfl, by simp, unhide HU0, ?_⟩
    have hT := unhide HT
    unfold sideV at hT
    simp at hT
    rw [hT.1, hT.2.1, hT.2.2]
    exact unhide HCM
  case round =>
    obtain ⟨k, ts, now, hk, rfl, rfl, hup, hcm⟩ := hrel
    generalize hH : w1.heap.size = H at *
    clear hH p0 p4 HCM
    by_cases hk' : k < h
    · have hyk := ((unhide HS).below hcm.below hlt) k (by rw [sidesOf_len]; exact hk')
      rw [sidesOf_at hk'] at hyk
      have hyle := unhide HSS k hk'
      have hrg := unhide HR k ts now hup
      have hyr := (sideAt_range l (19 + bAt l 2 + 11 * k)).1
      generalize hY : sideAt l (19 + bAt l 2 + 11 * k) = y at *
      obtain ⟨c0, c1, c2, c3⟩ := hyk
      obtain ⟨q, hq⟩ : ∃ q, pl / 2 ^ k = q := ⟨_, rfl⟩
      have hq2 : q / 2 = pl / 2 ^ (k + 1) := by rw [← hq, Nat.div_div_eq_div_mul, Nat.pow_succ]
      rw [hq]
      have hq255 : q ≤ 255 := by rw [← hq]; exact Nat.le_trans (Nat.div_le_self _ _) hb1
      have HQ2 := hide hq2
      by_cases hs : now.2 + y.2 ≤ maxS
      · have hJ := fun w => join_yes q now.1 y.1 now.2 y.2 w hq255 hrg.1 hyr hs
        have HUP := hide (accUp_step hup hY (fun h => by omega))
        rw [(unhide HPL), hq] at HUP
        have e : upText q (now.1, now.2) (y.1, y.2) = upText q now y := rfl
        rw [e] at hJ
        generalize upText q now y = T at *
        obtain ⟨s0, s1, s2, hS1, hS2⟩ : ∃ s0 s1 s2 : Int, sideV (dg T) (now.2 + y.2) = .agg #[.int .u8 s0, .int .u8 s1, .int .u8 s2, .int .u64 (now.2 + y.2)] ∧ (((dg T).1.toNat : Int) = s0 ∧ ((dg T).2.1.toNat : Int) = s1 ∧ ((dg T).2.2.toNat : Int) = s2) := ⟨_, _, _, rfl, rfl, rfl, rfl⟩
        rw [hS1] at hJ
        have HS2 := hide hS2
        unfold sideV at hJ
        generalize (now.1.1.toNat : Int) = f0 at *
        generalize (now.1.2.1.toNat : Int) = f1 at *
        generalize (now.1.2.2.toNat : Int) = f2 at *
        generalize (y.1.1.toNat : Int) = g0 at *
        generalize (y.1.2.1.toNat : Int) = g1 at *
        generalize (y.1.2.2.toNat : Int) = g2 at *
        generalize hn2 : now.2 = nx at *
        generalize hy2 : y.2 = yx at *
        have HJ := fun w => hide (hJ w)
        have HCM := hide hcm
        clear hJ hcm hS1 hS2 hs hyr hrg hyle hY hup hq hq2 e hn2 hy2
        go_upto_region 6 with fail
        have hc3 := (unhide HCM).later ((Below.refl _ _).alloc (Nat.le_refl _) (Obj.cells #[Value.int IntKind.u8 g0, Value.int IntKind.u8 g1, Value.int IntKind.u8 g2, Value.int IntKind.u64 yx] 88))
        have hx3 := heap_alloc_new wr (Obj.cells #[Value.int IntKind.u8 g0, Value.int IntKind.u8 g1, Value.int IntKind.u8 g2, Value.int IntKind.u64 yx] 88)
        generalize (wr.alloc (Obj.cells #[Value.int IntKind.u8 g0, Value.int IntKind.u8 g1, Value.int IntKind.u8 g2, Value.int IntKind.u64 yx] 88)) = W3 at *
        generalize wr.heap.size = X at *
        have v0 : W3.cell? ⟨X, 0, none⟩ = some (.int .u8 g0) := block_cell hx3
        have v1 : W3.cell? ⟨X, 1, none⟩ = some (.int .u8 g1) := block_cell hx3
        have v2 : W3.cell? ⟨X, 2, none⟩ = some (.int .u8 g2) := block_cell hx3
        have v3 : W3.cell? ⟨X, 3, none⟩ = some (.int .u64 yx) := block_cell hx3
        have z0 : W3.cell? ⟨H, 0, none⟩ = some (.int .u8 f0) := block_cell hc3.here
        have z1 : W3.cell? ⟨H, 1, none⟩ = some (.int .u8 f1) := block_cell hc3.here
        have z2 : W3.cell? ⟨H, 2, none⟩ = some (.int .u8 f2) := block_cell hc3.here
        have z3 : W3.cell? ⟨H, 3, none⟩ = some (.int .u64 nx) := block_cell hc3.here
        have zf : W3.cell? ⟨w.heap.size, 0, none⟩ = some (.func (.func 64) #[] #[]) := block_cell hc3.fn
        have HC3 := hide hc3
        clear hc3 hx3 HCM c0 c1 c2 c3
        go_wp2_with fail
        refine (unhide (HJ _)).mono ?_
        rintro e w4 ⟨rfl, hb4⟩
        have hc4 := (unhide HC3).later hb4
        clear v0 v1 v2 v3 z0 z1 z2 z3 zf hb4 HC3 HJ
        have z0 : w4.cell? ⟨H, 0, none⟩ = some (.int .u8 f0) := block_cell hc4.here
        have z1 : w4.cell? ⟨H, 1, none⟩ = some (.int .u8 f1) := block_cell hc4.here
        have z2 : w4.cell? ⟨H, 2, none⟩ = some (.int .u8 f2) := block_cell hc4.here
        have z3 : w4.cell? ⟨H, 3, none⟩ = some (.int .u64 nx) := block_cell hc4.here
        have zf : ∀ i, w4.frozen? ⟨H, i, none⟩ = false := fun i => block_free hc4.here
        have HC5 := hide (hc4.set s0 s1 s2 (nx + yx))
        clear hc4
        go_wp2
        go_roundw
        case rel =>
          refine ⟨k + 1, _, _, by omega, by go_num, ?_, unhide HUP, ?_⟩
          · rw [← unhide HQ2]; go_num
          · rw [(unhide HS2).1, (unhide HS2).2.1, (unhide HS2).2.2]
            exact unhide HC5
        case measure => simp [intOf]; omega
      · have hJ := fun w => join_no q now.1 y.1 now.2 y.2 w hrg.1 hyr (by omega)
        have HNO : Hid (accUp l h = none) := by
          have h1 : accUp l (k + 1) = none := by
            simp only [accUp, hup, hY]
            rw [if_pos (Or.inr (by omega))]
          have := accUp_none (j := h - (k + 1)) h1
          rwa [show k + 1 + (h - (k + 1)) = h by omega] at this
        unfold sideV sideZ0 at hJ
        generalize (now.1.1.toNat : Int) = f0 at *
        generalize (now.1.2.1.toNat : Int) = f1 at *
        generalize (now.1.2.2.toNat : Int) = f2 at *
        generalize (y.1.1.toNat : Int) = g0 at *
        generalize (y.1.2.1.toNat : Int) = g1 at *
        generalize (y.1.2.2.toNat : Int) = g2 at *
        generalize hn2 : now.2 = nx at *
        generalize hy2 : y.2 = yx at *
        have HJ := fun w => hide (hJ w)
        have HCM := hide hcm
        clear hJ hcm hs hyr hrg hyle hY hup hq hq2 hn2 hy2
        go_upto_region 6 with fail
        have hc3 := (unhide HCM).later ((Below.refl _ _).alloc (Nat.le_refl _) (Obj.cells #[Value.int IntKind.u8 g0, Value.int IntKind.u8 g1, Value.int IntKind.u8 g2, Value.int IntKind.u64 yx] 88))
        have hx3 := heap_alloc_new wr (Obj.cells #[Value.int IntKind.u8 g0, Value.int IntKind.u8 g1, Value.int IntKind.u8 g2, Value.int IntKind.u64 yx] 88)
        generalize (wr.alloc (Obj.cells #[Value.int IntKind.u8 g0, Value.int IntKind.u8 g1, Value.int IntKind.u8 g2, Value.int IntKind.u64 yx] 88)) = W3 at *
        generalize wr.heap.size = X at *
        have v0 : W3.cell? ⟨X, 0, none⟩ = some (.int .u8 g0) := block_cell hx3
        have v1 : W3.cell? ⟨X, 1, none⟩ = some (.int .u8 g1) := block_cell hx3
        have v2 : W3.cell? ⟨X, 2, none⟩ = some (.int .u8 g2) := block_cell hx3
        have v3 : W3.cell? ⟨X, 3, none⟩ = some (.int .u64 yx) := block_cell hx3
        have z0 : W3.cell? ⟨H, 0, none⟩ = some (.int .u8 f0) := block_cell hc3.here
        have z1 : W3.cell? ⟨H, 1, none⟩ = some (.int .u8 f1) := block_cell hc3.here
        have z2 : W3.cell? ⟨H, 2, none⟩ = some (.int .u8 f2) := block_cell hc3.here
        have z3 : W3.cell? ⟨H, 3, none⟩ = some (.int .u64 nx) := block_cell hc3.here
        have zf : W3.cell? ⟨w.heap.size, 0, none⟩ = some (.func (.func 64) #[] #[]) := block_cell hc3.fn
        have HC3 := hide hc3
        clear hc3 hx3 HCM c0 c1 c2 c3
        go_wp2_with fail
        refine (unhide (HJ _)).mono ?_
        rintro e w4 ⟨rfl, hb4⟩
        have hc4 := (unhide HC3).later hb4
        clear v0 v1 v2 v3 z0 z1 z2 z3 zf hb4 HC3 HJ
        have z0 : w4.cell? ⟨H, 0, none⟩ = some (.int .u8 f0) := block_cell hc4.here
        have z1 : w4.cell? ⟨H, 1, none⟩ = some (.int .u8 f1) := block_cell hc4.here
        have z2 : w4.cell? ⟨H, 2, none⟩ = some (.int .u8 f2) := block_cell hc4.here
        have z3 : w4.cell? ⟨H, 3, none⟩ = some (.int .u64 nx) := block_cell hc4.here
        have zf : ∀ i, w4.frozen? ⟨H, i, none⟩ = false := fun i => block_free hc4.here
        have r0 : w4.cell? ⟨R, 0, none⟩ = some (.int .u8 0) := block_cell hc4.res
        have r1 : w4.cell? ⟨R, 1, none⟩ = some (.int .u8 0) := block_cell hc4.res
        have r2 : w4.cell? ⟨R, 2, none⟩ = some (.int .u8 0) := block_cell hc4.res
        have r3 : w4.cell? ⟨R, 3, none⟩ = some (.int .u64 0) := block_cell hc4.res
        have rf : ∀ i, w4.frozen? ⟨R, i, none⟩ = false := fun i => block_free hc4.res
        have hRH : R ≠ H := by have := hc4.gt; omega
        have HC5 := hide (And.intro (hc4.set 0 0 0 0).below hc4.wR)
        clear hc4
        go_wp2
        refine bodyPost_ret (v := .tuple #[sideZ0, .bool false]) ?_ rfl ⟨?_, ?_⟩
        · simp [results, Try.results65, go_sem, sideZ0, r0, r1, r2, r3]
        · have hw := (unhide HC5).2
          exact ((((unhide HC5).1.setCell (by show w.heap.size ≤ R; omega) _).setCell (by show w.heap.size ≤ R; omega) _).setCell (by show w.heap.size ≤ R; omega) _).setCell (by show w.heap.size ≤ R; omega) _
        · rw [unhide HNO]
    · have hkk : k = h := by omega
      subst hkk
      have HUP := hide hup
      obtain ⟨s0, s1, s2, hS1⟩ : ∃ s0 s1 s2 : Int, sideV now.1 now.2 = .agg #[.int .u8 s0, .int .u8 s1, .int .u8 s2, .int .u64 now.2] := ⟨_, _, _, rfl⟩
      have HS1 := hide hS1
      have e : (now.1.1.toNat : Int) = s0 ∧ (now.1.2.1.toNat : Int) = s1 ∧ (now.1.2.2.toNat : Int) = s2 := by unfold sideV at hS1; simpa using hS1
      rw [e.1, e.2.1, e.2.2] at hcm
      have z0 : wr.cell? ⟨H, 0, none⟩ = some (.int .u8 s0) := block_cell hcm.here
      have z1 : wr.cell? ⟨H, 1, none⟩ = some (.int .u8 s1) := block_cell hcm.here
      have z2 : wr.cell? ⟨H, 2, none⟩ = some (.int .u8 s2) := block_cell hcm.here
      have z3 : wr.cell? ⟨H, 3, none⟩ = some (.int .u64 now.2) := block_cell hcm.here
      have r0 : wr.cell? ⟨R, 0, none⟩ = some (.int .u8 0) := block_cell hcm.res
      have r1 : wr.cell? ⟨R, 1, none⟩ = some (.int .u8 0) := block_cell hcm.res
      have r2 : wr.cell? ⟨R, 2, none⟩ = some (.int .u8 0) := block_cell hcm.res
      have r3 : wr.cell? ⟨R, 3, none⟩ = some (.int .u64 0) := block_cell hcm.res
      have rf : ∀ i, wr.frozen? ⟨R, i, none⟩ = false := fun i => block_free hcm.res
      have HC5 := hide (And.intro hcm.below hcm.wR)
      obtain ⟨nx, hnx⟩ : ∃ nx, now.2 = nx := ⟨_, rfl⟩
      rw [hnx] at z3
      have HNX := hide hnx
      clear hcm e hS1 hup hnx
      go_wp2
      refine bodyPost_ret (v := .tuple #[.agg #[.int .u8 s0, .int .u8 s1, .int .u8 s2, .int .u64 nx], .bool true]) ?_ rfl ⟨?_, ?_⟩
      · simp [results, Try.results65, go_sem, r0, r1, r2, r3]
      · have hw := (unhide HC5).2
        exact ((((unhide HC5).1.setCell (by show w.heap.size ≤ R; omega) _).setCell (by show w.heap.size ≤ R; omega) _).setCell (by show w.heap.size ≤ R; omega) _).setCell (by show w.heap.size ≤ R; omega) _
      · rw [unhide HUP]
        show _ = Ending.returned (.tuple #[sideV now.1 now.2, .bool true])
        rw [unhide HS1, unhide HNX]

end Go.Proofs.Ytbjobbkgelipmaa

/-
  '==' of two sides.
-/
namespace Go.Proofs.Ytbjobbkgelipmaa
open Go.RowKit

set_option maxRecDepth 100000 in
theorem eql_dg (d : Nat) (w : World) (a0 a1 a2 b0 b1 b2 : Int) :
    (Op.equalIn (d + 2) 57 (.agg #[.int .u8 a0, .int .u8 a1, .int .u8 a2]) (.agg #[.int .u8 b0, .int .u8 b1, .int .u8 b2])).run Try.prog w = .ok (a0 == b0 && (a1 == b1 && a2 == b2)) w := by
  obtain ⟨i0, hi, hz0, hz1, hz2⟩ := info_parts Try.infoByte
  have h := run_equalIn_array (P := Try.prog) w (d + 1) #[.int .u8 a0, .int .u8 a1, .int .u8 a2] #[.int .u8 b0, .int .u8 b1, .int .u8 b2] Try.underlyingDg hi
  rw [h, Try.cellsByte]
  have hq : ∀ (x y : Int) (w : World), (Op.equalIn (d + 1) 5 (.int .u8 x) (.int .u8 y)).run Try.prog w = .ok (x == y) w := fun x y w => run_equalIn_int w d 5 .u8 .u8 x y Try.underlying5
  have hp : ∀ (l : Array Value) (k : Nat) (v : Value) (w : World), l[k]? = some v → (part 5 l k).run Try.prog w = .ok v w := fun l k v w hx => run_part_plain w Try.plainByte hx
  simp only [List.range_succ, List.range_zero, List.nil_append, List.cons_append, Op.eqItems, Sem.run_bind]
  rw [hp _ (0 * 1) (.int .u8 a0) w rfl]
  simp only [Result.andThen_ok]
  rw [hp _ (0 * 1) (.int .u8 b0) w rfl]
  simp only [Result.andThen_ok, hq]
  cases h0 : (a0 == b0)
  · simp
  · simp only [Bool.not_true, Bool.false_eq_true, if_false, Sem.run_bind]
    rw [hp _ (1 * 1) (.int .u8 a1) w rfl]
    simp only [Result.andThen_ok]
    rw [hp _ (1 * 1) (.int .u8 b1) w rfl]
    simp only [Result.andThen_ok, hq]
    cases h1 : (a1 == b1)
    · simp
    · simp only [Bool.not_true, Bool.false_eq_true, if_false, Sem.run_bind]
      rw [hp _ (2 * 1) (.int .u8 a2) w rfl]
      simp only [Result.andThen_ok]
      rw [hp _ (2 * 1) (.int .u8 b2) w rfl]
      simp only [Result.andThen_ok, hq]
      cases h2 : (a2 == b2) <;> simp
end Go.Proofs.Ytbjobbkgelipmaa
