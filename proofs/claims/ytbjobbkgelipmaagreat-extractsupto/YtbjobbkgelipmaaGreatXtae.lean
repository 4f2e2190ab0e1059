/-
  extracted: what lies in memory while lists are lent.
-/
import Derived.Deep.AppendLies
import Derived.Deep.DeepCutAuto
import Derived.BigQuiet
import Derived.Test.YtbjobbkgelipmaaGreatXtaa
import Derived.Test.YtbjobbkgelipmaaGreatXtad
import Derived.Test.YtbjobbkgelipmaaGreatBkad
import Derived.Test.YtbjobbkgelipmaaGreatBkag
import Derived.Test.YtbjobbkgelipmaaGreatBkah
import Derived.Test.YtbjobbkgelipmaaGreatXtab
import Derived.Test.YtbjobbkgelipmaaGreatBkao
import Derived.Test.YtbjobbkgelipmaaGreatXtac
namespace Go.Proofs.YtbjobbkgelipmaaGreat
open Go.RowKit

def txB (Bs : List ByteArray) (j : Nat) : ByteArray := Bs.getD j ⟨#[]⟩
theorem txB_at {Bs : List ByteArray} {j : Nat} (hj : j < Bs.length) : txB Bs j = Bs[j] := by
  unfold txB
  rw [List.getD_eq_getElem?_getD, List.getElem?_eq_getElem hj]
  rfl
/-- A list with its spare room, and cut to its text. -/
def wholeV (Bs : List ByteArray) (b : Nat → Nat) (j : Nat) : Value := .slice (some ⟨b j, 0, none⟩) ((txB Bs j).size + 8) ((txB Bs j).size + 8)
def cutV (Bs : List ByteArray) (b : Nat → Nat) (j : Nat) : Value := .slice (some ⟨b j, 0, none⟩) (txB Bs j).size ((txB Bs j).size + 8)

/-- What has been lent so far. -/
structure XM (w W : World) (A Q : Nat) (s : ByteArray) (la : Option Addr) (lc : Nat) (v : Value) (Bs : List ByteArray) (k : Nat) (b : Nat → Nat) : Prop where
  below : Below w.heap.size w W
  o4 : W.cell? ⟨w.heap.size, 4, none⟩ = some (.string s)
  o6 : W.cell? ⟨w.heap.size, 6, none⟩ = some (.slice la Bs.length lc)
  hA : w.heap.size < A
  hQ : A < Q
  rep : W.rowIs A 5 (s.size + 8) (lentV s.data.toList)
  list : W.rowIs Q 51 (Bs.length + 8) (fun j => if j < k then cutV Bs b j else .slice none 0 0)
  own : W.ownsRow (Q + 1) 51 1 v k ((List.range k).map (wholeV Bs b))
  row : ∀ j, j < k → W.rowIs (b j) 5 ((txB Bs j).size + 8) (lentV (txB Bs j).data.toList)
  inc : ∀ i j, i < j → j < k → b i < b j
  bQ : ∀ j, j < k → Q < b j

/-- Nothing of it turns in new memory. -/
theorem XM.later {w W W' : World} {A Q : Nat} {s : ByteArray} {la : Option Addr} {lc : Nat} {v : Value} {Bs : List ByteArray} {k : Nat} {b : Nat → Nat} (x : XM w W A Q s la lc v Bs k b) (hb : Below W.heap.size W W') : XM w W' A Q s la lc v Bs k b := by
  have hQl := x.list.lt
  have hA := x.hA
  have hQ := x.hQ
  exact ⟨x.below.trans (hb.mono x.below.size), keepB hb (by omega) x.o4, keepB hb (by omega) x.o6, x.hA, x.hQ, x.rep.of_block (hb.block _ (by omega)), x.list.of_block (hb.block _ hQl), own_same x.own (fun g hg => hb.block g (own_lt x.own hg)), fun j hj => (x.row j hj).of_block (hb.block _ (x.row j hj).lt), x.inc, x.bQ⟩

/-- One list more. -/
theorem XM.next {w wr w3 w5 : World} {A Q : Nat} {s : ByteArray} {la : Option Addr} {lc : Nat} {v : Value} {Bs : List ByteArray} {k : Nat} {b : Nat → Nat} (x : XM w wr A Q s la lc v Bs k b) (b3 : Below wr.heap.size wr w3) (r3 : w3.rowIs wr.heap.size 5 ((txB Bs k).size + 8) (lentV (txB Bs k).data.toList)) {o : Obj} {g cap : Nat}
    (hg : (w3.alloc o).grownBy w5 v.ownBlock) (hown : w5.ownsRow (Q + 1) 51 1 (.slice (some ⟨g, 0, none⟩) (k + 1) cap) (k + 1) ((List.range k).map (wholeV Bs b) ++ [.slice (some ⟨wr.heap.size, 0, none⟩) ((txB Bs k).size + 8) ((txB Bs k).size + 8)])) :
    XM w (w5.setCell ⟨Q, k, none⟩ (.slice (some ⟨wr.heap.size, 0, none⟩) (txB Bs k).size ((txB Bs k).size + 8))) A Q s la lc (.slice (some ⟨g, 0, none⟩) (k + 1) cap) Bs (k + 1) (fun j => if j = k then wr.heap.size else b j) := by
  have hA := x.hA
  have hQ := x.hQ
  have hQl := x.list.lt
  have z3 := b3.size
  have zg := hg.size
  rw [World.size_alloc] at zg
  have hvb : ∀ c, v.ownBlock = some c → Q + 1 ≤ c ∧ ∃ cur, wr.heap[c]? = some (.cells cur 51 (0, 0)) := fun c hc => ⟨(x.own.lt c hc).1, own_type x.own hc⟩
  have k5 : ∀ c, c < w3.heap.size → some c ≠ v.ownBlock → w5.heap[c]? = w3.heap[c]? := fun c hc hne => (hg.block c (by rw [World.size_alloc]; omega) hne).trans (Below.heap_alloc _ _ _ hc)
  have kw : ∀ c, c < wr.heap.size → some c ≠ v.ownBlock → w5.heap[c]? = wr.heap[c]? := fun c hc hne => (k5 c (by omega) hne).trans (b3.block c hc)
  have kQ : ∀ c, c ≠ Q → (w5.setCell ⟨Q, k, none⟩ (.slice (some ⟨wr.heap.size, 0, none⟩) (txB Bs k).size ((txB Bs k).size + 8))).heap[c]? = w5.heap[c]? := fun c hc => Below.heap_setCell _ _ _ _ hc
  have nlow : ∀ c, c ≤ Q → some c ≠ v.ownBlock := fun c hc e => by have := (hvb c e.symm).1; omega
  have nbyte : ∀ c n f, wr.rowIs c 5 n f → some c ≠ v.ownBlock := fun c n f h e => by
    obtain ⟨cur, hc, _⟩ := h
    obtain ⟨_, cur', hc'⟩ := hvb c e.symm
    rw [hc] at hc'
    simp at hc'
  have hgb : some wr.heap.size ≠ v.ownBlock := fun e => by have := own_lt x.own e.symm; omega
  have hf : ∀ j, j < k → (fun j => if j = k then wr.heap.size else b j) j = b j := fun j hj => if_neg (by omega)
  have hlt : ∀ j, j < k → b j < wr.heap.size := fun j hj => (x.row j hj).lt
  refine ⟨⟨?_, ?_, ?_, ?_, fun c hc => ?_⟩, ?_, ?_, hA, hQ, ?_, ?_, ?_, fun j hj => ?_, fun i j hij hj => ?_, fun j hj => ?_⟩
  · exact hg.os.trans (b3.os.trans x.below.os)
  · exact hg.tape.trans (b3.tape.trans x.below.tape)
  · exact hg.output.trans (b3.output.trans x.below.output)
  · have := x.below.size
    simp
    omega
  · have := x.below.size
    exact (kQ c (by omega)).trans ((kw c (by omega) (nlow c (by omega))).trans (x.below.block c hc))
  · exact (World.cell?_of_block ((kQ w.heap.size (by omega)).trans (kw w.heap.size (by omega) (nlow w.heap.size (by omega))))).trans x.o4
  · exact (World.cell?_of_block ((kQ w.heap.size (by omega)).trans (kw w.heap.size (by omega) (nlow w.heap.size (by omega))))).trans x.o6
  · exact x.rep.of_block ((kQ _ (by omega)).trans (kw _ (by omega) (nlow _ (by omega))))
  · have h1 := x.list.of_block (kw Q hQl (nlow Q (Nat.le_refl _)))
    refine (h1.set k _).congr (fun j hj => ?_)
    by_cases e : j = k
    · subst e
      rw [if_pos rfl, if_pos (by omega)]
      unfold cutV
      dsimp only
      rw [if_pos rfl]
    · rw [if_neg e]
      by_cases h2 : j < k
      · rw [if_pos h2, if_pos (by omega)]
        unfold cutV
        dsimp only
        rw [if_neg e]
      · rw [if_neg h2, if_neg (by omega)]
  · have e1 : (List.range (k + 1)).map (wholeV Bs fun j => if j = k then wr.heap.size else b j) = (List.range k).map (wholeV Bs b) ++ [.slice (some ⟨wr.heap.size, 0, none⟩) ((txB Bs k).size + 8) ((txB Bs k).size + 8)] := by
      rw [List.range_succ, List.map_append]
      congr 1
      · apply List.map_congr_left
        intro j hj
        have : j < k := by simpa using hj
        unfold wholeV
        dsimp only
        rw [if_neg (by omega)]
      · simp [wholeV]
    rw [e1]
    refine own_same hown (fun c hc => kQ c (fun e => ?_))
    have := (hown.lt c hc).1
    omega
  · by_cases e : j = k
    · subst e
      show World.rowIs _ (if j = j then wr.heap.size else b j) _ _ _
      rw [if_pos rfl]
      exact r3.of_block ((kQ _ (by omega)).trans (k5 _ r3.lt hgb))
    · have hjk : j < k := by omega
      show World.rowIs _ (if j = k then wr.heap.size else b j) _ _ _
      rw [if_neg e]
      have := x.bQ j hjk
      exact (x.row j hjk).of_block ((kQ _ (by omega)).trans (kw _ (hlt j hjk) (nbyte _ _ _ (x.row j hjk))))
  · show (if i = k then wr.heap.size else b i) < (if j = k then wr.heap.size else b j)
    rw [if_neg (by omega)]
    by_cases e : j = k
    · rw [if_pos e]; exact hlt i (by omega)
    · rw [if_neg e]; exact x.inc i j hij (by omega)
  · show Q < (if j = k then wr.heap.size else b j)
    by_cases e : j = k
    · rw [if_pos e]; exact hQl
    · rw [if_neg e]; exact x.bQ j (by omega)

end Go.Proofs.YtbjobbkgelipmaaGreat

/-
  keep, one list after another.
-/
namespace Go.Proofs.YtbjobbkgelipmaaGreat
open Go.RowKit

/-- Some lists have been kept, others wait. -/
def KS (W0 : World) (B nn H : Nat) (c : Nat → Nat) (ps : Value) (pl : List Nat) (P : Nat → Prop) (m : Nat) (W : World) : Prop :=
  ∃ hv hs, Joint W B nn (colz c H) ps hv hs pl ∧ hs.length = m ∧ Waits W H hs P ∧ (∀ g, P g → W.heap[g]? = W0.heap[g]?) ∧ Below B W0 W ∧ H ≤ W.heap.size ∧
    ∀ g, H ≤ g → g < W0.heap.size → (∃ cur t, W0.heap[g]? = some (.cells cur t (0, 0)) ∧ t ≠ 5 ∧ t ≠ 71) → W.heap[g]? = W0.heap[g]?
theorem KS.less {W0 W : World} {B nn H : Nat} {c : Nat → Nat} {ps : Value} {pl : List Nat} {P P' : Nat → Prop} {m : Nat} (k : KS W0 B nn H c ps pl P m W) (h : ∀ g, P' g → P g) : KS W0 B nn H c ps pl P' m W := by
  obtain ⟨hv, hs, J, hl, q, hs1, hb, hz, ho⟩ := k
  exact ⟨hv, hs, J, hl, ⟨fun g hg => q.new g (h g hg), fun x hx g hg hp => q.far x hx g hg (h g hp)⟩, fun g hg => hs1 g (h g hg), hb, hz, ho⟩
theorem KS.start {w W0 : World} {B nn : Nat} {c : Nat → Nat} {ps hv : Value} {hs : List HoldD} {pl : List Nat} (J : Joint w B nn c ps hv hs pl) (hb : Below w.heap.size w W0) {P : Nat → Prop} (hP : ∀ g, P g → w.heap.size ≤ g ∧ ∃ cur, W0.heap[g]? = some (.cells cur 5 (0, 0))) : KS W0 B nn w.heap.size c ps pl P hs.length W0 :=
  ⟨hv, hs, J.inz.later hb (Nat.le_refl _), rfl, ⟨hP, fun x hx g hg hp => by
    have h1 := own_lt (J.inv.ok x hx).own hg
    have h2 := (hP g hp).1
    omega⟩, fun _ _ => rfl, Below.refl _ _, hb.size, fun _ _ _ _ => rfl⟩
theorem KS.step {W0 W : World} {B nn H : Nat} {c : Nat → Nat} {ps : Value} {pl : List Nat} {P : Nat → Prop} {m : Nat} (k : KS W0 B nn H c ps pl P m W) (hBH : B < H) {vb : Value} {nb N : Nat} {xs : List Value} (hb : W0.ownsRow N 5 1 vb nb xs) (hN : B + 1 ≤ N) (hP : ∀ g, vb.ownBlock = some g → P g) (hn : nb + 3 ≤ 140737488355328) (hl : (m + 4) * 8 ≤ 140737488355328) :
    Calls Tryz.prog 33 #[.pointer (some ⟨B, 0, none⟩), vb] W fun e W' => e = .returned (.tuple #[]) ∧ KS W0 B nn H c ps pl (fun g => P g ∧ some g ≠ vb.ownBlock) (m + 4) W' := by
  obtain ⟨hv, hs, J, hlen, q, hsm, hbel, hz, ho⟩ := k
  have hb' : W.ownsRow (B + 1) 5 1 vb nb xs := own_lower (own_same hb (fun g hg => hsm g (hP g hg))) hN
  refine (keep_wait J hz hBH q hb' hP hn (by rw [hlen]; exact hl)).mono ?_
  rintro e W' ⟨rfl, hv', hs', J', hlen', q', hs1, hb1, ho1⟩
  refine ⟨rfl, hv', hs', J', by omega, q', fun g hg => (hs1 g hg.1 hg.2).trans (hsm g hg.1), hbel.trans hb1, Nat.le_trans hz hb1.size, fun g h1 h2 h3 => ?_⟩
  have e1 := ho g h1 h2 h3
  obtain ⟨cur, t, h4, h5, h6⟩ := h3
  have e2 : W.heap[g]? = some (.cells cur t (0, 0)) := e1.trans h4
  exact (ho1 g h1 (Array.getElem?_eq_some_iff.1 e2).1 ⟨cur, t, e2, h5, h6⟩).trans e1

theorem KS.cellV {W0 W : World} {B nn H : Nat} {c : Nat → Nat} {ps : Value} {pl : List Nat} {P : Nat → Prop} {m : Nat} (k : KS W0 B nn H c ps pl P m W) {Vb o : Nat} {cur : Array Value} {t : TypeId} {v : Value} (h1 : H ≤ Vb) (hV : W0.heap[Vb]? = some (.cells cur t (0, 0))) (ht1 : t ≠ 5) (ht2 : t ≠ 71) (hc : W0.cell? ⟨Vb, o, none⟩ = some v) : W.cell? ⟨Vb, o, none⟩ = some v := by
  obtain ⟨_, _, _, _, _, _, _, _, ho⟩ := k
  exact (World.cell?_of_block (ho Vb h1 (Array.getElem?_eq_some_iff.1 hV).1 ⟨cur, t, hV, ht1, ht2⟩)).trans hc
theorem KS.done {w W0 W : World} {B nn H : Nat} {c : Nat → Nat} {ps : Value} {pl : List Nat} {P : Nat → Prop} {m : Nat} (k : KS W0 B nn H c ps pl P m W) (hb : Below B w W0) : Below B w W ∧ ∃ c' hv' hs', Joint W B nn c' ps hv' hs' pl ∧ hs'.length = m := by
  obtain ⟨hv', hs', hJ', hlen', _, _, hb', _, _⟩ := k
  exact ⟨hb.trans hb', _, hv', hs', hJ', hlen'⟩

end Go.Proofs.YtbjobbkgelipmaaGreat

/-
  The walk of tithe's join.
-/
namespace Go.Proofs.YtbjobbkgelipmaaGreat
open Go.RowKit

def sideZ0 : Value := .agg #[.int .u8 0, .int .u8 0, .int .u8 0, .int .u64 0]

set_option maxRecDepth 100000 in
set_option maxHeartbeats 400000 in
theorem join_no (pl : Nat) (d d' : Dg) (x x' : Int) (w : World) (h0 : 0 ≤ x) (h0' : 0 ≤ x') (hs : maxS < x + x') :
    Calls Tryz.prog 95 #[.int .i64 (pl : Int), sideV d x, sideV d' x'] w fun e w' => e = .returned (.tuple #[sideZ0, .bool false]) ∧ Below w.heap.size w w' := by
  unfold sideV sideZ0 at *
  have HA := fun w => hide (add_any x x' w h0 h0')
  rw [decide_eq_false (by omega)] at HA
  generalize capS x + capS x' = cs at *
  clear hs h0 h0'
  go_enter Tryz.func95, Tryz.ntmps95
  go_wp2_with fail
  refine (unhide (HA _)).mono ?_
  rintro e w1 ⟨rfl, rfl⟩
  clear HA
  go_wp2
  refine bodyPost_ret (v := .tuple #[.agg #[.int .u8 0, .int .u8 0, .int .u8 0, .int .u64 0], .bool false]) ?_ rfl ⟨rfl, ?_⟩
  · simp [results, Tryz.results95, go_sem]
  · repeat first
      | exact Below.refl _ _
      | refine Below.drew ?_
      | refine Below.setCell ?_ (by simp; try omega) _
      | refine Below.alloc ?_ (by simp; try omega) _

set_option maxRecDepth 100000 in
set_option maxHeartbeats 1000000 in
theorem join_yes (pl : Nat) (d d' : Dg) (x x' : Int) (w : World) (hp : pl ≤ 255) (h0 : 0 ≤ x) (h0' : 0 ≤ x') (hs : x + x' ≤ maxS) :
    Calls Tryz.prog 95 #[.int .i64 (pl : Int), sideV d x, sideV d' x'] w fun e w' => e = .returned (.tuple #[sideV (dg (upText pl (d, x) (d', x'))) (x + x'), .bool true]) ∧ Below w.heap.size w w' := by
  have HA := fun w => hide (add_any x x' w h0 h0')
  rw [decide_eq_true hs] at HA
  generalize capS x + capS x' = cs at *
  unfold maxS at hs
  obtain ⟨dl, dr, xl, xr, HI, hT, hr⟩ : ∃ (dl dr : Dg) (xl xr : Int), (∀ w, Hid (Calls Tryz.prog 105 #[.int .i64 (pl : Int), sideV d x, sideV d' x'] w fun e w' => e = .returned (.tuple #[sideV dl xl, sideV dr xr]) ∧ Below w.heap.size w w')) ∧ upText pl (d, x) (d', x') = 1 :: (sideB (dl, xl) ++ sideB (dr, xr)) ∧ (0 ≤ xl ∧ 0 ≤ xr ∧ xl + xr < 18446744073709551616 ∧ xl + xr = x + x') := by
    by_cases he : pl % 2 = 0
    · refine ⟨d, d', x, x', fun w => hide ?_, ?_, by omega⟩
      · have := inorder_any pl d d' x x' w hp
        rw [if_pos he] at this
        exact this
      · unfold upText; rw [if_neg (by omega)]
    · refine ⟨d', d, x', x, fun w => hide ?_, ?_, by omega⟩
      · have := inorder_any pl d d' x x' w hp
        rw [if_neg he] at this
        exact this
      · unfold upText; rw [if_pos (by omega)]
  have HN := fun w => hide (nodeside_any dl dr xl xr w hr.1 hr.2.1 hr.2.2.1)
  rw [hT]
  rw [hr.2.2.2] at HN
  generalize (1 :: (sideB (dl, xl) ++ sideB (dr, xr))) = T at *
  clear hs h0 h0' hT hr hp
  unfold sideV at *
  generalize ((dg T).1.toNat : Int) = t0 at *
  generalize ((dg T).2.1.toNat : Int) = t1 at *
  generalize ((dg T).2.2.toNat : Int) = t2 at *
  generalize (d.1.toNat : Int) = a0 at *
  generalize (d.2.1.toNat : Int) = a1 at *
  generalize (d.2.2.toNat : Int) = a2 at *
  generalize (d'.1.toNat : Int) = b0 at *
  generalize (d'.2.1.toNat : Int) = b1 at *
  generalize (d'.2.2.toNat : Int) = b2 at *
  generalize (dl.1.toNat : Int) = l0 at *
  generalize (dl.2.1.toNat : Int) = l1 at *
  generalize (dl.2.2.toNat : Int) = l2 at *
  generalize (dr.1.toNat : Int) = r0 at *
  generalize (dr.2.1.toNat : Int) = r1 at *
  generalize (dr.2.2.toNat : Int) = r2 at *
  generalize x + x' = xs at *
  go_enter Tryz.func95, Tryz.ntmps95
  go_wp2_with fail
  refine (unhide (HA _)).mono ?_
  rintro e w1 ⟨rfl, rfl⟩
  clear HA
  go_wp2_with fail
  generalize hW0 : (((w.alloc (Obj.cells #[Value.int IntKind.u8 a0, Value.int IntKind.u8 a1, Value.int IntKind.u8 a2, Value.int IntKind.u64 x] 106)).alloc (Obj.cells #[Value.int IntKind.u8 b0, Value.int IntKind.u8 b1, Value.int IntKind.u8 b2, Value.int IntKind.u64 x'] 106)).alloc (Obj.cells #[Value.int IntKind.u8 0, Value.int IntKind.u8 0, Value.int IntKind.u8 0, Value.int IntKind.u64 0] 106)) = W0
  have hz0 : W0.heap.size = w.heap.size + 3 := by rw [← hW0]; simp
  have kk : Res4 W0 (w.heap.size + 2) := by rw [← hW0]; exact res4_block (heap_new2 w _ _ _)
  have hA0 : Below w.heap.size w W0 := by
    rw [← hW0]
    exact (((Below.refl _ _).alloc (Nat.le_refl _) _).alloc (by simp) _).alloc (by simp; omega) _
  clear hW0
  refine (unhide (HI _)).mono ?_
  rintro e w1 ⟨rfl, hb1⟩
  have z1 : w.heap.size + 3 ≤ w1.heap.size := by have := hb1.size; omega
  have k1 : Res4 w1 (w.heap.size + 2) := Res4.below kk (by omega) hb1
  have HA := hide (hA0.trans (hb1.mono (by omega)))
  clear kk hA0 hb1 HI
  go_wp2_with fail
  refine (unhide (HN _)).mono ?_
  rintro e w4 ⟨rfl, hb4⟩
  have k4 := Res4.below k1 (by omega) hb4
  have z4 := hb4.size
  have HA4 := hide ((unhide HA).trans (hb4.mono (by omega)))
  obtain ⟨q0, q1, q2, q3, g0, g1, g2, g3, j0, j1, j2, j3⟩ := k4.cells
  clear hb4 HA k1 k4 HN
  go_wp2
  refine bodyPost_ret (v := .tuple #[.agg #[.int .u8 t0, .int .u8 t1, .int .u8 t2, .int .u64 xs], .bool true]) ?_ rfl ⟨rfl, ?_⟩
  · simp [results, Tryz.results95, go_sem, g0, g1, g2, g3]
  · refine Below.setCell (Below.setCell (Below.setCell (Below.setCell (unhide HA4) (by simp; try omega) _) (by simp; try omega) _) (by simp; try omega) _) (by simp; try omega) _

end Go.Proofs.YtbjobbkgelipmaaGreat

/-
  The walk of tithe's climb.
-/
namespace Go.Proofs.YtbjobbkgelipmaaGreat
open Go.RowKit

/-- What lies in memory on the way up. -/
structure CM (w : World) (fv : Value) (R H : Nat) (e0 e1 e2 x : Int) (w' : World) : Prop where
  fn : w'.heap[w.heap.size]? = some (.cells #[fv] 178 (0, 0))
  res : w'.heap[R]? = some (.cells #[.int .u8 0, .int .u8 0, .int .u8 0, .int .u64 0] 106 (0, 0))
  here : w'.heap[H]? = some (.cells #[.int .u8 e0, .int .u8 e1, .int .u8 e2, .int .u64 x] 106 (0, 0))
  gt : R < H
  wR : w.heap.size < R
  below : Below w.heap.size w w'
theorem CM.lt {w w' : World} {fv : Value} {R H : Nat} {e0 e1 e2 x : Int} (h : CM w fv R H e0 e1 e2 x w') : H < w'.heap.size := (Array.getElem?_eq_some_iff.1 h.here).1
theorem CM.later {w W w4 : World} {fv : Value} {R H : Nat} {e0 e1 e2 x : Int} (h : CM w fv R H e0 e1 e2 x W) (hb : Below W.heap.size W w4) : CM w fv R H e0 e1 e2 x w4 := by
  have h1 := h.lt
  have h2 := h.gt
  have h3 := h.wR
  exact ⟨(hb.block _ (by omega)).trans h.fn, (hb.block _ (by omega)).trans h.res, (hb.block _ (by omega)).trans h.here, h.gt, h.wR, h.below.trans (hb.mono (by omega))⟩
theorem CM.set {w W : World} {fv : Value} {R H : Nat} {e0 e1 e2 x : Int} (h : CM w fv R H e0 e1 e2 x W) (f0 f1 f2 q : Int) :
    CM w fv R H f0 f1 f2 q ((((W.setCell ⟨H, 0, none⟩ (.int .u8 f0)).setCell ⟨H, 1, none⟩ (.int .u8 f1)).setCell ⟨H, 2, none⟩ (.int .u8 f2)).setCell ⟨H, 3, none⟩ (.int .u64 q)) := by
  have h2 := h.gt
  have h3 := h.wR
  have e : ∀ k, k ≠ H → ((((W.setCell ⟨H, 0, none⟩ (.int .u8 f0)).setCell ⟨H, 1, none⟩ (.int .u8 f1)).setCell ⟨H, 2, none⟩ (.int .u8 f2)).setCell ⟨H, 3, none⟩ (.int .u64 q)).heap[k]? = W.heap[k]? := fun k hk => by
    rw [Below.heap_setCell _ _ _ _ hk, Below.heap_setCell _ _ _ _ hk, Below.heap_setCell _ _ _ _ hk, Below.heap_setCell _ _ _ _ hk]
  refine ⟨(e _ (by omega)).trans h.fn, (e _ (by omega)).trans h.res, ?_, h.gt, h.wR, ?_⟩
  · have g1 := heap_setCell_same W H 0 _ _ (.int .u8 f0) h.here
    have g2 := heap_setCell_same _ H 1 _ _ (.int .u8 f1) g1
    have g3 := heap_setCell_same _ H 2 _ _ (.int .u8 f2) g2
    exact heap_setCell_same _ H 3 _ _ (.int .u64 q) g3
  · exact (((h.below.setCell (by show w.heap.size ≤ H; omega) _).setCell (by show w.heap.size ≤ H; omega) _).setCell (by show w.heap.size ≤ H; omega) _).setCell (by show w.heap.size ≤ H; omega) _
theorem CM.drew {w W : World} {fv : Value} {R H : Nat} {e0 e1 e2 x : Int} (h : CM w fv R H e0 e1 e2 x W) : CM w fv R H e0 e1 e2 x W.drew := ⟨h.fn, h.res, h.here, h.gt, h.wR, h.below.drew⟩

theorem sidesOf_at {l : List UInt8} {a h k : Nat} (hk : k < h) : (sidesOf (l.drop a) h)[k]'(by rw [sidesOf_len]; exact hk) = sideAt l (a + 11 * k) := by
  rw [sidesOf_get, sideAt_drop]

theorem accText0_leaf (h : Nat) (l : List UInt8) (hh : accHead h l) : accText0 l = 0 :: leafB (accName l) (accBal l) (accSalt l) := by
  rw [accText0_parts h l hh]
  have hs : (accName l).length = bAt l 2 := by
    unfold accName
    rw [List.length_take, List.length_drop]
    have := hh.2.2.2.2
    omega
  unfold leafB
  rw [hs]
  have e : UInt8.ofNat (bAt l 2) = l.getD 2 0 := by
    unfold bAt
    simp
  rw [e]
  simp

/-- What climb owes. -/
def ClimbPost (h : Nat) (l : List UInt8) (w : World) (e : Ending) (w' : World) : Prop := Below w.heap.size w w' ∧ match accUp l h with
  | none => e = .returned (.tuple #[sideZ0, .bool false])
  | some (_, now) => e = .returned (.tuple #[sideV now.1 now.2, .bool true])

def joinV : Value := .func (.func 95) #[] #[]

set_option maxHeartbeats 2000000 in
set_option maxRecDepth 100000 in
theorem climb_any (h : Nat) (l : List UInt8) (sb : Nat) (w : World) (hh : h ≤ 6) (hacc : accHead h l) (hbal : accBal l ≤ maxS) (hsums : ∀ i, i < h → (sideAt l (19 + bAt l 2 + 11 * i)).2 ≤ maxS) (hlt : sb < w.heap.size)
    (hS : SidesAt w sb (sidesOf (l.drop (19 + bAt l 2)) h)) :
    Calls Tryz.prog 96 #[.agg #[joinV], proofV (bAt l 1 : Int) ⟨(accName l).toArray⟩ (accBal l) (accSalt l) (some ⟨sb, 0, none⟩) h h] w (ClimbPost h l w) := by
  have hb1 : bAt l 1 ≤ 255 := by have := UInt8.toNat_lt (l.getD 1 0); unfold bAt; omega
  have hleaf := fun w => leafside_any ⟨(accName l).toArray⟩ (accBal l) (accSalt l) w (by rw [accName_size h l hacc]; exact hacc.2.2.2.2.1) (accBal_range l).1 (accBal_range l).2 (accSalt_range l).1 (accSalt_range l).2
  have e0 : (⟨(accName l).toArray⟩ : ByteArray).data.toList = accName l := by simp
  rw [e0, ← accText0_leaf h l hacc] at hleaf
  have hup0 : accUp l 0 = some ([accText0 l], (dg (accText0 l), accBal l)) := rfl
  have hrange := fun {k : Nat} {ts : List (List UInt8)} {now : Dg × Int} (hu : accUp l k = some (ts, now)) => accUp_le hbal (accBal_range l).1 hu
  obtain ⟨pl, hpl⟩ : ∃ pl, bAt l 1 = pl := ⟨_, rfl⟩
  obtain ⟨nm, hnm⟩ : ∃ nm : ByteArray, ⟨(accName l).toArray⟩ = nm := ⟨_, rfl⟩
  obtain ⟨bal, hbl⟩ : ∃ x, accBal l = x := ⟨_, rfl⟩
  obtain ⟨salt, hsl⟩ : ∃ x, accSalt l = x := ⟨_, rfl⟩
  rw [hnm, hbl, hsl] at hleaf
  rw [hpl, hnm, hbl, hsl]
  rw [hbl] at hup0
  have HSS := hide hsums
  have HS := hide hS
  have HR : Hid (∀ (k : Nat) (ts : List (List UInt8)) (now : Dg × Int), accUp l k = some (ts, now) → 0 ≤ now.2 ∧ now.2 ≤ maxS ∧ ts.length = k + 1) := fun k ts now hu => hrange hu
  have HU0 := hide hup0
  obtain ⟨t0, t1, t2, hT⟩ : ∃ t0 t1 t2 : Int, sideV (dg (accText0 l)) bal = .agg #[.int .u8 t0, .int .u8 t1, .int .u8 t2, .int .u64 bal] := ⟨_, _, _, rfl⟩
  have HT := hide hT
  rw [hT] at hleaf
  have HL := fun w => hide (hleaf w)
  have HPL := hide hpl
  rw [hpl] at hb1
  clear hsums hS hrange hup0 hleaf e0 hacc hnm hbl hsl hpl hT hbal
  unfold proofV leafV joinV at *
  go_enter Tryz.func96, Tryz.ntmps96
  go_wp2_with fail
  obtain ⟨R, hR⟩ : ∃ R, w.heap.size + 1 + 1 = R := ⟨_, rfl⟩
  rw [hR]
  obtain ⟨P, hP⟩ : ∃ P, w.heap.size + 1 = P := ⟨_, rfl⟩
  rw [hP]
  refine (unhide (HL _)).mono ?_
  rintro e w1 ⟨rfl, hb1⟩
  have k0 := heap_next (o := (Obj.cells #[Value.int IntKind.u8 0, Value.int IntKind.u8 0, Value.int IntKind.u8 0, Value.int IntKind.u64 0] 106)) (heap_next (o := (Obj.cells #[Value.int IntKind.i64 (pl : Int), Value.string nm, Value.int IntKind.u64 bal, Value.int IntKind.u64 salt, Value.slice (some ⟨sb, 0, none⟩) h h] 118)) (heap_alloc_new w (Obj.cells #[Value.func (.func 95) #[] #[]] 178)))
  have k1 := heap_next (o := (Obj.cells #[Value.int IntKind.u8 0, Value.int IntKind.u8 0, Value.int IntKind.u8 0, Value.int IntKind.u64 0] 106)) (heap_new1 w (Obj.cells #[Value.func (.func 95) #[] #[]] 178) (Obj.cells #[Value.int IntKind.i64 (pl : Int), Value.string nm, Value.int IntKind.u64 bal, Value.int IntKind.u64 salt, Value.slice (some ⟨sb, 0, none⟩) h h] 118))
  have k2 := heap_new2 w (Obj.cells #[Value.func (.func 95) #[] #[]] 178) (Obj.cells #[Value.int IntKind.i64 (pl : Int), Value.string nm, Value.int IntKind.u64 bal, Value.int IntKind.u64 salt, Value.slice (some ⟨sb, 0, none⟩) h h] 118) (Obj.cells #[Value.int IntKind.u8 0, Value.int IntKind.u8 0, Value.int IntKind.u8 0, Value.int IntKind.u64 0] 106)
  have hz1 : R < w1.heap.size := by have := hb1.size; simp only [World.size_alloc] at this; omega
  have m0 := (hb1.block _ (Array.getElem?_eq_some_iff.1 k0).1).trans k0
  have m1 := (hb1.block _ (Array.getElem?_eq_some_iff.1 k1).1).trans k1
  have m2 := (hb1.block _ (Array.getElem?_eq_some_iff.1 k2).1).trans k2
  have hB1 : Below w.heap.size w w1 := ((((Below.refl _ _).alloc (Nat.le_refl _) _).alloc (by simp) _).alloc (by simp; omega) _).trans (hb1.mono (by simp only [World.size_alloc]; omega))
  have hCM : CM w (.func (.func 95) #[] #[]) R w1.heap.size t0 t1 t2 bal (w1.alloc (Obj.cells #[Value.int IntKind.u8 t0, Value.int IntKind.u8 t1, Value.int IntKind.u8 t2, Value.int IntKind.u64 bal] 106)) := by
    refine ⟨heap_next m0, ?_, heap_alloc_new w1 _, hz1, by omega, hB1.alloc hB1.size _⟩
    rw [← hR]
    exact heap_next m2
  have p0 : w1.cell? ⟨P, 0, none⟩ = some (.int .i64 (pl : Int)) := by rw [← hP]; exact block_cell m1
  have p4 : w1.cell? ⟨P, 4, none⟩ = some (.slice (some ⟨sb, 0, none⟩) h h) := by rw [← hP]; exact block_cell m1
  have hPw : P < w1.heap.size := by omega
  have HCM := hide hCM
  have HRR := hide hR
  clear k0 k1 k2 m0 m1 m2 hB1 hCM hb1 HL hR hz1 hP
  go_upto_region 2 with fail
  have HA1 : Below w1.heap.size w1 (w1.alloc (Obj.cells #[Value.int IntKind.u8 t0, Value.int IntKind.u8 t1, Value.int IntKind.u8 t2, Value.int IntKind.u64 bal] 106)) := (Below.refl _ _).alloc (Nat.le_refl _) _
  replace p0 := keepB HA1 hPw p0
  replace p4 := keepB HA1 hPw p4
  generalize (w1.alloc (Obj.cells #[Value.int IntKind.u8 t0, Value.int IntKind.u8 t1, Value.int IntKind.u8 t2, Value.int IntKind.u64 bal] 106)) = W2 at *
  clear HA1 hPw
  go_wp2
  go_loopw [7, 8, 19] (fun p _ i wr => ∃ (k : Nat) (ts : List (List UInt8)) (now : Dg × Int), k ≤ h ∧ i = .int .i64 k ∧ p = .int .i64 ((pl / 2 ^ k : Nat) : Int) ∧ accUp l k = some (ts, now) ∧ CM w (.func (.func 95) #[] #[]) R w1.heap.size (now.1.1.toNat : Int) (now.1.2.1.toNat : Int) (now.1.2.2.toNat : Int) now.2 wr) (fun _ _ i _ => h - (intOf i).toNat)
  case atStart =>
    refine ⟨0, _, _, Nat.zero_le _, rfl, by simp, unhide HU0, ?_⟩
    have hT := unhide HT
    unfold sideV at hT
    simp at hT
    rw [hT.1, hT.2.1, hT.2.2]
    exact unhide HCM
  case round =>
    obtain ⟨k, ts, now, hk, rfl, rfl, hup, hcm⟩ := hrel
    generalize hH : w1.heap.size = H at *
    clear hH p0 p4 HCM
    by_cases hk' : k < h
    · have hyk := ((unhide HS).below hcm.below hlt) k (by rw [sidesOf_len]; exact hk')
      rw [sidesOf_at hk'] at hyk
      have hyle := unhide HSS k hk'
      have hrg := unhide HR k ts now hup
      have hyr := (sideAt_range l (19 + bAt l 2 + 11 * k)).1
      generalize hY : sideAt l (19 + bAt l 2 + 11 * k) = y at *
      obtain ⟨c0, c1, c2, c3⟩ := hyk
      obtain ⟨q, hq⟩ : ∃ q, pl / 2 ^ k = q := ⟨_, rfl⟩
      have hq2 : q / 2 = pl / 2 ^ (k + 1) := by rw [← hq, Nat.div_div_eq_div_mul, Nat.pow_succ]
      rw [hq]
      have hq255 : q ≤ 255 := by rw [← hq]; exact Nat.le_trans (Nat.div_le_self _ _) hb1
      have HQ2 := hide hq2
      by_cases hs : now.2 + y.2 ≤ maxS
      · have hJ := fun w => join_yes q now.1 y.1 now.2 y.2 w hq255 hrg.1 hyr hs
        have HUP := hide (accUp_step hup hY (fun h => by omega))
        rw [(unhide HPL), hq] at HUP
        have e : upText q (now.1, now.2) (y.1, y.2) = upText q now y := rfl
        rw [e] at hJ
        generalize upText q now y = T at *
        obtain ⟨s0, s1, s2, hS1, hS2⟩ : ∃ s0 s1 s2 : Int, sideV (dg T) (now.2 + y.2) = .agg #[.int .u8 s0, .int .u8 s1, .int .u8 s2, .int .u64 (now.2 + y.2)] ∧ (((dg T).1.toNat : Int) = s0 ∧ ((dg T).2.1.toNat : Int) = s1 ∧ ((dg T).2.2.toNat : Int) = s2) := ⟨_, _, _, rfl, rfl, rfl, rfl⟩
        rw [hS1] at hJ
        have HS2 := hide hS2
        unfold sideV at hJ
        generalize (now.1.1.toNat : Int) = f0 at *
        generalize (now.1.2.1.toNat : Int) = f1 at *
        generalize (now.1.2.2.toNat : Int) = f2 at *
        generalize (y.1.1.toNat : Int) = g0 at *
        generalize (y.1.2.1.toNat : Int) = g1 at *
        generalize (y.1.2.2.toNat : Int) = g2 at *
        generalize hn2 : now.2 = nx at *
        generalize hy2 : y.2 = yx at *
        have HJ := fun w => hide (hJ w)
        have HCM := hide hcm
        clear hJ hcm hS1 hS2 hs hyr hrg hyle hY hup hq hq2 e hn2 hy2
        go_upto_region 6 with fail
        have hc3 := (unhide HCM).later ((Below.refl _ _).alloc (Nat.le_refl _) (Obj.cells #[Value.int IntKind.u8 g0, Value.int IntKind.u8 g1, Value.int IntKind.u8 g2, Value.int IntKind.u64 yx] 106))
        have hx3 := heap_alloc_new wr (Obj.cells #[Value.int IntKind.u8 g0, Value.int IntKind.u8 g1, Value.int IntKind.u8 g2, Value.int IntKind.u64 yx] 106)
        generalize (wr.alloc (Obj.cells #[Value.int IntKind.u8 g0, Value.int IntKind.u8 g1, Value.int IntKind.u8 g2, Value.int IntKind.u64 yx] 106)) = W3 at *
        generalize wr.heap.size = X at *
        have v0 : W3.cell? ⟨X, 0, none⟩ = some (.int .u8 g0) := block_cell hx3
        have v1 : W3.cell? ⟨X, 1, none⟩ = some (.int .u8 g1) := block_cell hx3
        have v2 : W3.cell? ⟨X, 2, none⟩ = some (.int .u8 g2) := block_cell hx3
        have v3 : W3.cell? ⟨X, 3, none⟩ = some (.int .u64 yx) := block_cell hx3
        have z0 : W3.cell? ⟨H, 0, none⟩ = some (.int .u8 f0) := block_cell hc3.here
        have z1 : W3.cell? ⟨H, 1, none⟩ = some (.int .u8 f1) := block_cell hc3.here
        have z2 : W3.cell? ⟨H, 2, none⟩ = some (.int .u8 f2) := block_cell hc3.here
        have z3 : W3.cell? ⟨H, 3, none⟩ = some (.int .u64 nx) := block_cell hc3.here
        have zf : W3.cell? ⟨w.heap.size, 0, none⟩ = some (.func (.func 95) #[] #[]) := block_cell hc3.fn
        have HC3 := hide hc3
        clear hc3 hx3 HCM c0 c1 c2 c3
        go_wp2_with fail
        refine (unhide (HJ _)).mono ?_
        rintro e w4 ⟨rfl, hb4⟩
        have hc4 := (unhide HC3).later hb4
        clear v0 v1 v2 v3 z0 z1 z2 z3 zf hb4 HC3 HJ
        have z0 : w4.cell? ⟨H, 0, none⟩ = some (.int .u8 f0) := block_cell hc4.here
        have z1 : w4.cell? ⟨H, 1, none⟩ = some (.int .u8 f1) := block_cell hc4.here
        have z2 : w4.cell? ⟨H, 2, none⟩ = some (.int .u8 f2) := block_cell hc4.here
        have z3 : w4.cell? ⟨H, 3, none⟩ = some (.int .u64 nx) := block_cell hc4.here
        have zf : ∀ i, w4.frozen? ⟨H, i, none⟩ = false := fun i => block_free hc4.here
        have HC5 := hide (hc4.set s0 s1 s2 (nx + yx))
        clear hc4
        go_wp2
        go_roundw
        case rel =>
          refine ⟨k + 1, _, _, by omega, by go_num, ?_, unhide HUP, ?_⟩
          · rw [← unhide HQ2]; go_num
          · rw [(unhide HS2).1, (unhide HS2).2.1, (unhide HS2).2.2]
            exact unhide HC5
        case measure => simp [intOf]; omega
      · have hJ := fun w => join_no q now.1 y.1 now.2 y.2 w hrg.1 hyr (by omega)
        have HNO : Hid (accUp l h = none) := by
          have h1 : accUp l (k + 1) = none := by
            simp only [accUp, hup, hY]
            rw [if_pos (Or.inr (by omega))]
          have := accUp_none (j := h - (k + 1)) h1
          rwa [show k + 1 + (h - (k + 1)) = h by omega] at this
        unfold sideV sideZ0 at hJ
        generalize (now.1.1.toNat : Int) = f0 at *
        generalize (now.1.2.1.toNat : Int) = f1 at *
        generalize (now.1.2.2.toNat : Int) = f2 at *
        generalize (y.1.1.toNat : Int) = g0 at *
        generalize (y.1.2.1.toNat : Int) = g1 at *
        generalize (y.1.2.2.toNat : Int) = g2 at *
        generalize hn2 : now.2 = nx at *
        generalize hy2 : y.2 = yx at *
        have HJ := fun w => hide (hJ w)
        have HCM := hide hcm
        clear hJ hcm hs hyr hrg hyle hY hup hq hq2 hn2 hy2
        go_upto_region 6 with fail
        have hc3 := (unhide HCM).later ((Below.refl _ _).alloc (Nat.le_refl _) (Obj.cells #[Value.int IntKind.u8 g0, Value.int IntKind.u8 g1, Value.int IntKind.u8 g2, Value.int IntKind.u64 yx] 106))
        have hx3 := heap_alloc_new wr (Obj.cells #[Value.int IntKind.u8 g0, Value.int IntKind.u8 g1, Value.int IntKind.u8 g2, Value.int IntKind.u64 yx] 106)
        generalize (wr.alloc (Obj.cells #[Value.int IntKind.u8 g0, Value.int IntKind.u8 g1, Value.int IntKind.u8 g2, Value.int IntKind.u64 yx] 106)) = W3 at *
        generalize wr.heap.size = X at *
        have v0 : W3.cell? ⟨X, 0, none⟩ = some (.int .u8 g0) := block_cell hx3
        have v1 : W3.cell? ⟨X, 1, none⟩ = some (.int .u8 g1) := block_cell hx3
        have v2 : W3.cell? ⟨X, 2, none⟩ = some (.int .u8 g2) := block_cell hx3
        have v3 : W3.cell? ⟨X, 3, none⟩ = some (.int .u64 yx) := block_cell hx3
        have z0 : W3.cell? ⟨H, 0, none⟩ = some (.int .u8 f0) := block_cell hc3.here
        have z1 : W3.cell? ⟨H, 1, none⟩ = some (.int .u8 f1) := block_cell hc3.here
        have z2 : W3.cell? ⟨H, 2, none⟩ = some (.int .u8 f2) := block_cell hc3.here
        have z3 : W3.cell? ⟨H, 3, none⟩ = some (.int .u64 nx) := block_cell hc3.here
        have zf : W3.cell? ⟨w.heap.size, 0, none⟩ = some (.func (.func 95) #[] #[]) := block_cell hc3.fn
        have HC3 := hide hc3
        clear hc3 hx3 HCM c0 c1 c2 c3
        go_wp2_with fail
        refine (unhide (HJ _)).mono ?_
        rintro e w4 ⟨rfl, hb4⟩
        have hc4 := (unhide HC3).later hb4
        clear v0 v1 v2 v3 z0 z1 z2 z3 zf hb4 HC3 HJ
        have z0 : w4.cell? ⟨H, 0, none⟩ = some (.int .u8 f0) := block_cell hc4.here
        have z1 : w4.cell? ⟨H, 1, none⟩ = some (.int .u8 f1) := block_cell hc4.here
        have z2 : w4.cell? ⟨H, 2, none⟩ = some (.int .u8 f2) := block_cell hc4.here
        have z3 : w4.cell? ⟨H, 3, none⟩ = some (.int .u64 nx) := block_cell hc4.here
        have zf : ∀ i, w4.frozen? ⟨H, i, none⟩ = false := fun i => block_free hc4.here
        have r0 : w4.cell? ⟨R, 0, none⟩ = some (.int .u8 0) := block_cell hc4.res
        have r1 : w4.cell? ⟨R, 1, none⟩ = some (.int .u8 0) := block_cell hc4.res
        have r2 : w4.cell? ⟨R, 2, none⟩ = some (.int .u8 0) := block_cell hc4.res
        have r3 : w4.cell? ⟨R, 3, none⟩ = some (.int .u64 0) := block_cell hc4.res
        have rf : ∀ i, w4.frozen? ⟨R, i, none⟩ = false := fun i => block_free hc4.res
        have hRH : R ≠ H := by have := hc4.gt; omega
        have HC5 := hide (And.intro (hc4.set 0 0 0 0).below hc4.wR)
        clear hc4
        go_wp2
        refine bodyPost_ret (v := .tuple #[sideZ0, .bool false]) ?_ rfl ⟨?_, ?_⟩
        · simp [results, Tryz.results96, go_sem, sideZ0, r0, r1, r2, r3]
        · have hw := (unhide HC5).2
          exact ((((unhide HC5).1.setCell (by show w.heap.size ≤ R; omega) _).setCell (by show w.heap.size ≤ R; omega) _).setCell (by show w.heap.size ≤ R; omega) _).setCell (by show w.heap.size ≤ R; omega) _
        · rw [unhide HNO]
    · have hkk : k = h := by omega
      subst hkk
      have HUP := hide hup
      obtain ⟨s0, s1, s2, hS1⟩ : ∃ s0 s1 s2 : Int, sideV now.1 now.2 = .agg #[.int .u8 s0, .int .u8 s1, .int .u8 s2, .int .u64 now.2] := ⟨_, _, _, rfl⟩
      have HS1 := hide hS1
      have e : (now.1.1.toNat : Int) = s0 ∧ (now.1.2.1.toNat : Int) = s1 ∧ (now.1.2.2.toNat : Int) = s2 := by unfold sideV at hS1; simpa using hS1
      rw [e.1, e.2.1, e.2.2] at hcm
      have z0 : wr.cell? ⟨H, 0, none⟩ = some (.int .u8 s0) := block_cell hcm.here
      have z1 : wr.cell? ⟨H, 1, none⟩ = some (.int .u8 s1) := block_cell hcm.here
      have z2 : wr.cell? ⟨H, 2, none⟩ = some (.int .u8 s2) := block_cell hcm.here
      have z3 : wr.cell? ⟨H, 3, none⟩ = some (.int .u64 now.2) := block_cell hcm.here
      have r0 : wr.cell? ⟨R, 0, none⟩ = some (.int .u8 0) := block_cell hcm.res
      have r1 : wr.cell? ⟨R, 1, none⟩ = some (.int .u8 0) := block_cell hcm.res
      have r2 : wr.cell? ⟨R, 2, none⟩ = some (.int .u8 0) := block_cell hcm.res
      have r3 : wr.cell? ⟨R, 3, none⟩ = some (.int .u64 0) := block_cell hcm.res
      have rf : ∀ i, wr.frozen? ⟨R, i, none⟩ = false := fun i => block_free hcm.res
      have HC5 := hide (And.intro hcm.below hcm.wR)
      obtain ⟨nx, hnx⟩ : ∃ nx, now.2 = nx := ⟨_, rfl⟩
      rw [hnx] at z3
      have HNX := hide hnx
      clear hcm e hS1 hup hnx
      go_wp2
      refine bodyPost_ret (v := .tuple #[.agg #[.int .u8 s0, .int .u8 s1, .int .u8 s2, .int .u64 nx], .bool true]) ?_ rfl ⟨?_, ?_⟩
      · simp [results, Tryz.results96, go_sem, r0, r1, r2, r3]
      · have hw := (unhide HC5).2
        exact ((((unhide HC5).1.setCell (by show w.heap.size ≤ R; omega) _).setCell (by show w.heap.size ≤ R; omega) _).setCell (by show w.heap.size ≤ R; omega) _).setCell (by show w.heap.size ≤ R; omega) _
      · rw [unhide HUP]
        show _ = Ending.returned (.tuple #[sideV now.1 now.2, .bool true])
        rw [unhide HS1, unhide HNX]

end Go.Proofs.YtbjobbkgelipmaaGreat

/-
  The walk of tithe's accepts.
-/
namespace Go.Proofs.YtbjobbkgelipmaaGreat
open Go.RowKit

set_option maxHeartbeats 2000000 in
set_option maxRecDepth 100000 in
theorem accepts_any (h : Nat) (root : Dg × Int) (l : List UInt8) (sb : Nat) (w : World) (hh : h ≤ 6) (hacc : accHead h l) (hbal : accBal l ≤ maxS) (hsums : ∀ i, i < h → (sideAt l (19 + bAt l 2 + 11 * i)).2 ≤ maxS) (hlt : sb < w.heap.size)
    (hS : SidesAt w sb (sidesOf (l.drop (19 + bAt l 2)) h)) :
    Calls Tryz.prog 78 #[ownRepV (h : Int) (root.1.1.toNat : Int) (root.1.2.1.toNat : Int) (root.1.2.2.toNat : Int) root.2, proofV (bAt l 1 : Int) ⟨(accName l).toArray⟩ (accBal l) (accSalt l) (some ⟨sb, 0, none⟩) h h] w fun e w' => e = .returned (.bool (accTexts h root l).isSome) ∧ Below w.heap.size w w' := by
  have hC := fun w' (hb : Below w.heap.size w w') => climb_any h l sb w' hh hacc hbal hsums (by have := hb.size; omega) (hS.below hb hlt)
  obtain ⟨pl, hpl⟩ : ∃ pl : Int, (bAt l 1 : Int) = pl := ⟨_, rfl⟩
  obtain ⟨nm, hnm⟩ : ∃ nm : ByteArray, ⟨(accName l).toArray⟩ = nm := ⟨_, rfl⟩
  obtain ⟨bal, hbl⟩ : ∃ x, accBal l = x := ⟨_, rfl⟩
  obtain ⟨salt, hsl⟩ : ∃ x, accSalt l = x := ⟨_, rfl⟩
  rw [hpl, hnm, hbl, hsl] at hC ⊢
  obtain ⟨d0, hd0⟩ : ∃ d : Int, (root.1.1.toNat : Int) = d := ⟨_, rfl⟩
  obtain ⟨d1, hd1⟩ : ∃ d : Int, (root.1.2.1.toNat : Int) = d := ⟨_, rfl⟩
  obtain ⟨d2, hd2⟩ : ∃ d : Int, (root.1.2.2.toNat : Int) = d := ⟨_, rfl⟩
  rw [hd0, hd1, hd2]
  have hRV : sideV root.1 root.2 = .agg #[.int .u8 d0, .int .u8 d1, .int .u8 d2, .int .u64 root.2] := by rw [← hd0, ← hd1, ← hd2]; rfl
  have HRV := hide hRV
  have hq := eql_digest
  clear hacc hbal hsums hS hpl hnm hbl hsl hd0 hd1 hd2 hRV
  unfold proofV joinV at *
  cases hu : accUp l h with
  | none =>
    have hE : (accTexts h root l).isSome = false := by simp only [accTexts, hu]; rfl
    rw [hE]
    have HC : ∀ w', Below w.heap.size w w' → Hid (Calls Tryz.prog 96 #[.agg #[.func (.func 95) #[] #[]], .agg #[.int .i64 pl, .string nm, .int .u64 bal, .int .u64 salt, .slice (some ⟨sb, 0, none⟩) h h]] w' fun e w'' => e = .returned (.tuple #[.agg #[.int .u8 0, .int .u8 0, .int .u8 0, .int .u64 0], .bool false]) ∧ Below w'.heap.size w' w'') := fun w' hb => (hC w' hb).mono fun e w'' hp => by
      obtain ⟨p1, p2⟩ := hp
      rw [hu] at p2
      exact ⟨p2, p1⟩
    clear hC hE hu
    unfold ownRepV
    go_enter Tryz.func78, Tryz.ntmps78
    go_wp2_with fail
    have hA : Below w.heap.size w ((w.alloc (Obj.cells #[Value.int IntKind.i64 (h : Int), Value.int IntKind.u8 d0, Value.int IntKind.u8 d1, Value.int IntKind.u8 d2, Value.int IntKind.u64 root.2] 108)).alloc (Obj.cells #[Value.int IntKind.i64 pl, Value.string nm, Value.int IntKind.u64 bal, Value.int IntKind.u64 salt, Value.slice (some ⟨sb, 0, none⟩) h h] 118)) := ((Below.refl _ _).alloc (Nat.le_refl _) _).alloc (by simp) _
    refine (unhide (HC _ hA)).mono ?_
    rintro e w1 ⟨rfl, hb1⟩
    have hB := hA.trans (hb1.mono (by simp only [World.size_alloc]; omega))
    have HB := hide (hB.alloc hB.size (Obj.cells #[Value.int IntKind.u8 0, Value.int IntKind.u8 0, Value.int IntKind.u8 0, Value.int IntKind.u64 0] 106))
    clear hA hb1 hB HC
    go_wp2
    go_ret
    exact ⟨rfl, unhide HB⟩
  | some p =>
    obtain ⟨ts, now⟩ := p
    have hE : (accTexts h root l).isSome = decide (now = root) := by
      simp only [accTexts, hu]
      by_cases he : now = root
      · rw [if_pos he, decide_eq_true he]; rfl
      · rw [if_neg he, decide_eq_false he]; rfl
    rw [hE]
    obtain ⟨s0, s1, s2, hS1⟩ : ∃ s0 s1 s2 : Int, sideV now.1 now.2 = .agg #[.int .u8 s0, .int .u8 s1, .int .u8 s2, .int .u64 now.2] := ⟨_, _, _, rfl⟩
    have hEq := side_eq hS1 (unhide HRV)
    have e : (((now.1, now.2) : Dg × Int) = (root.1, root.2)) = (now = root) := rfl
    rw [show decide (now = root) = decide (((now.1, now.2) : Dg × Int) = (root.1, root.2)) from rfl, ← hEq]
    have HC : ∀ w', Below w.heap.size w w' → Hid (Calls Tryz.prog 96 #[.agg #[.func (.func 95) #[] #[]], .agg #[.int .i64 pl, .string nm, .int .u64 bal, .int .u64 salt, .slice (some ⟨sb, 0, none⟩) h h]] w' fun e w'' => e = .returned (.tuple #[.agg #[.int .u8 s0, .int .u8 s1, .int .u8 s2, .int .u64 now.2], .bool true]) ∧ Below w'.heap.size w' w'') := fun w' hb => (hC w' hb).mono fun e w'' hp => by
      obtain ⟨p1, p2⟩ := hp
      rw [hu] at p2
      rw [← hS1]
      exact ⟨p2, p1⟩
    generalize now.2 = nx at *
    generalize root.2 = rn at *
    clear hC hE hu hS1 hEq e
    unfold ownRepV
    generalize hD : (s0 == d0 && (s1 == d1 && s2 == d2)) = D
    replace hq : ∀ w : World, _ := fun w => eql_digest w s0 s1 s2 d0 d1 d2
    rw [hD] at hq
    go_enter Tryz.func78, Tryz.ntmps78
    go_wp2_with fail
    have k0 := heap_next (o := (Obj.cells #[Value.int IntKind.i64 pl, Value.string nm, Value.int IntKind.u64 bal, Value.int IntKind.u64 salt, Value.slice (some ⟨sb, 0, none⟩) h h] 118)) (heap_alloc_new w (Obj.cells #[Value.int IntKind.i64 (h : Int), Value.int IntKind.u8 d0, Value.int IntKind.u8 d1, Value.int IntKind.u8 d2, Value.int IntKind.u64 rn] 108))
    have hA : Below w.heap.size w ((w.alloc (Obj.cells #[Value.int IntKind.i64 (h : Int), Value.int IntKind.u8 d0, Value.int IntKind.u8 d1, Value.int IntKind.u8 d2, Value.int IntKind.u64 rn] 108)).alloc (Obj.cells #[Value.int IntKind.i64 pl, Value.string nm, Value.int IntKind.u64 bal, Value.int IntKind.u64 salt, Value.slice (some ⟨sb, 0, none⟩) h h] 118)) := ((Below.refl _ _).alloc (Nat.le_refl _) _).alloc (by simp) _
    refine (unhide (HC _ hA)).mono ?_
    rintro e w1 ⟨rfl, hb1⟩
    have hB := hA.trans (hb1.mono (by simp only [World.size_alloc]; omega))
    have m0 := heap_next (o := Obj.cells #[Value.int IntKind.u8 s0, Value.int IntKind.u8 s1, Value.int IntKind.u8 s2, Value.int IntKind.u64 nx] 106) ((hb1.block _ (Array.getElem?_eq_some_iff.1 k0).1).trans k0)
    have m1 := heap_alloc_new w1 (Obj.cells #[Value.int IntKind.u8 s0, Value.int IntKind.u8 s1, Value.int IntKind.u8 s2, Value.int IntKind.u64 nx] 106)
    have HB := hide (hB.alloc hB.size (Obj.cells #[Value.int IntKind.u8 s0, Value.int IntKind.u8 s1, Value.int IntKind.u8 s2, Value.int IntKind.u64 nx] 106))
    clear hA hb1 hB HC k0
    go_upto_region 2 with fail
    generalize (w1.alloc (Obj.cells #[Value.int IntKind.u8 s0, Value.int IntKind.u8 s1, Value.int IntKind.u8 s2, Value.int IntKind.u64 nx] 106)) = W2 at *
    generalize w1.heap.size = N at *
    have a0 : W2.cell? ⟨w.heap.size, 1, none⟩ = some (.int .u8 d0) := block_cell m0
    have a1 : W2.cell? ⟨w.heap.size, 2, none⟩ = some (.int .u8 d1) := block_cell m0
    have a2 : W2.cell? ⟨w.heap.size, 3, none⟩ = some (.int .u8 d2) := block_cell m0
    have a3 : W2.cell? ⟨w.heap.size, 4, none⟩ = some (.int .u64 rn) := block_cell m0
    have b0 : W2.cell? ⟨N, 0, none⟩ = some (.int .u8 s0) := block_cell m1
    have b1 : W2.cell? ⟨N, 1, none⟩ = some (.int .u8 s1) := block_cell m1
    have b2 : W2.cell? ⟨N, 2, none⟩ = some (.int .u8 s2) := block_cell m1
    have b3 : W2.cell? ⟨N, 3, none⟩ = some (.int .u64 nx) := block_cell m1
    have HD := hide hD
    clear m0 m1 hD
    cases D with
    | false =>
      go_wp2
      go_ret
      exact ⟨rfl, unhide HB⟩
    | true =>
      go_wp2
      go_ret
      exact ⟨by simp, unhide HB⟩

end Go.Proofs.YtbjobbkgelipmaaGreat

/-
  The walk of tithe's readAccepted.
-/
namespace Go.Proofs.YtbjobbkgelipmaaGreat
open Go.RowKit

theorem accUp_over {l : List UInt8} {i h : Nat} (hi : i < h) (hx : maxS < (sideAt l (19 + bAt l 2 + 11 * i)).2) : accUp l h = none := by
  have h1 : accUp l (i + 1) = none := by
    cases hu : accUp l i with
    | none => simp only [accUp, hu]
    | some p => simp only [accUp, hu]; rw [if_pos (Or.inl hx)]
  have := accUp_none (j := h - (i + 1)) h1
  rwa [show i + 1 + (h - (i + 1)) = h by omega] at this

/-- A proof's bytes whose numbers are within bounds. -/
def prfOk (h : Nat) (l : List UInt8) : Prop := accHead h l ∧ accBal l ≤ maxS ∧ ∀ i, i < h → (sideAt l (19 + bAt l 2 + 11 * i)).2 ≤ maxS

theorem prfOk_great {h : Nat} {l : List UInt8} (ha : accHead h l) : greatB (accBal l) (sidesOf (l.drop (19 + bAt l 2)) h) ≤ maxS ↔ prfOk h l := by
  rw [greatB_le]
  constructor
  · rintro ⟨h1, h2⟩
    refine ⟨ha, h1, fun i hi => ?_⟩
    have := h2 _ (List.getElem_mem (l := sidesOf (l.drop (19 + bAt l 2)) h) (n := i) (by rw [sidesOf_len]; exact hi))
    rwa [sidesOf_at hi] at this
  · rintro ⟨_, h1, h2⟩
    refine ⟨h1, fun y hy => ?_⟩
    obtain ⟨i, hi, rfl⟩ := List.getElem_of_mem hy
    rw [sidesOf_len] at hi
    rw [sidesOf_at hi]
    exact h2 i hi

theorem notOk_of {rep prf : List UInt8} (hn : ¬ prfOk (repH rep) prf) : ¬ verOk rep prf := by
  rintro ⟨h0, h1, h2⟩
  refine hn ⟨h1, ?_, fun i hi => ?_⟩
  · refine Int.not_lt.1 fun h => ?_
    unfold accOk at h2
    rw [if_pos h] at h2
    cases h2
  · refine Int.not_lt.1 fun h => ?_
    unfold accOk accTexts at h2
    rw [accUp_over hi h] at h2
    split at h2 <;> cases h2

/-- readProof, in all cases. -/
theorem rdpr_all (b cap h : Nat) (l : List UInt8) (w : World) (hcap : l.length ≤ cap) (hc0 : h = 0 → l.length < cap) (hm : cap ≤ 9223372036854775807) (hh : h ≤ 6) (hb : b < w.heap.size) (hB : BytesAt w b 0 l) :
    Calls Tryz.prog 77 #[.slice (some ⟨b, 0, none⟩) l.length cap, .int .i64 (h : Int)] w fun e w' => Below w.heap.size w w' ∧
      ((¬ prfOk h l ∧ ∃ (pl : Int) (nm : ByteArray) (bal salt : Int) (a : Option Addr) (k c : Nat), e = .returned (.tuple #[proofV pl nm bal salt a k c, .bool false])) ∨
       (prfOk h l ∧ ∃ g, e = .returned (.tuple #[proofV (bAt l 1 : Int) ⟨(accName l).toArray⟩ (accBal l) (accSalt l) (some ⟨g, 0, none⟩) h h, .bool true]) ∧ g < w'.heap.size ∧ SidesAt w' g (sidesOf (l.drop (19 + bAt l 2)) h))) := by
  by_cases h3 : l.length < 3
  · refine (rdpr_short b l.length cap h w h3).mono fun e w' ⟨he, hb'⟩ => ⟨hb', .inl ⟨fun hp => by have := hp.1.1; omega, 0, ⟨#[]⟩, 0, 0, none, 0, 0, he⟩⟩
  · by_cases h0 : bAt l 0 = h
    · refine (rdpr_good b l.length cap h l w rfl (by omega) hcap hc0 hm hh hb hB h0).mono fun e w' ⟨hb', p1, p2⟩ => ⟨hb', ?_⟩
      by_cases ha : accHead h l
      · obtain ⟨g, he, hg, hs⟩ := p2 ha
        by_cases hk : prfOk h l
        · rw [decide_eq_true ((prfOk_great ha).2 hk)] at he
          exact .inr ⟨hk, g, he, hg, hs⟩
        · rw [decide_eq_false (fun h => hk ((prfOk_great ha).1 h))] at he
          exact .inl ⟨hk, _, _, _, _, _, _, _, he⟩
      · exact .inl ⟨fun hp => ha hp.1, 0, ⟨#[]⟩, 0, 0, none, 0, 0, p1 ha⟩
    · have c0 : w.cell? ⟨b, 0, none⟩ = some (.int .u8 (bAt l 0 : Int)) := by
        have := hB 0 (by omega)
        rw [this]; unfold bAt; rw [List.getD_eq_getElem?_getD, List.getElem?_eq_getElem (by omega)]; rfl
      refine (rdpr_height b l.length cap h (bAt l 0) w (by omega) hb c0 (by have := UInt8.toNat_lt (l.getD 0 0); unfold bAt; omega) h0).mono fun e w' ⟨he, hb'⟩ => ⟨hb', .inl ⟨fun hp => h0 hp.1.2.1, 0, ⟨#[]⟩, 0, 0, none, 0, 0, he⟩⟩

def proofC (pl : Int) (nm : ByteArray) (bal salt : Int) (a : Option Addr) (k c : Nat) : Obj := Obj.cells #[Value.int IntKind.i64 pl, Value.string nm, Value.int IntKind.u64 bal, Value.int IntKind.u64 salt, Value.slice a k c] 118
def repC (h d0 d1 d2 x : Int) : Obj := Obj.cells #[Value.int IntKind.i64 h, Value.int IntKind.u8 d0, Value.int IntKind.u8 d1, Value.int IntKind.u8 d2, Value.int IntKind.u64 x] 108

set_option maxHeartbeats 1000000 in
set_option maxRecDepth 100000 in
theorem rdacc_no (v : Value) (w : World) (h d0 d1 d2 x : Int)
    (hP : ∀ w', Below w.heap.size w w' → Calls Tryz.prog 77 #[v, .int .i64 h] w' fun e w'' => (∃ (pl : Int) (nm : ByteArray) (bal salt : Int) (a : Option Addr) (k c : Nat), e = .returned (.tuple #[proofV pl nm bal salt a k c, .bool false])) ∧ Below w'.heap.size w' w'') :
    Calls Tryz.prog 61 #[ownRepV h d0 d1 d2 x, v] w fun e w' => e = .returned (.tuple #[proofZ, .bool false]) ∧ Below w.heap.size w w' := by
  have HP := fun w' hb => hide (hP w' hb)
  clear hP
  unfold ownRepV at *
  go_enter Tryz.func61, Tryz.ntmps61
  go_wp2_with fail
  have hA : Below w.heap.size w ((w.alloc (repC h d0 d1 d2 x)).alloc (proofC 0 ⟨#[]⟩ 0 0 none 0 0)) := ((Below.refl _ _).alloc (Nat.le_refl _) _).alloc (by simp) _
  have kR := heap_new1 w (repC h d0 d1 d2 x) (proofC 0 ⟨#[]⟩ 0 0 none 0 0)
  refine (unhide (HP _ hA)).mono ?_
  rintro e w2 ⟨⟨pl, nm, bal, salt, a, k, c, rfl⟩, hb2⟩
  have mR := heap_next (o := proofC pl nm bal salt a k c) ((hb2.block _ (Array.getElem?_eq_some_iff.1 kR).1).trans kR)
  have hB := hA.trans (hb2.mono (by simp only [World.size_alloc]; omega))
  have HB := hide (hB.alloc hB.size (proofC pl nm bal salt a k c))
  clear hb2 hB hA HP kR
  unfold proofV
  go_upto_region 2 with fail
  unfold proofC at *
  generalize (w2.alloc (Obj.cells #[Value.int IntKind.i64 pl, Value.string nm, Value.int IntKind.u64 bal, Value.int IntKind.u64 salt, Value.slice a k c] 118)) = W3 at *
  generalize w2.heap.size = P at *
  obtain ⟨R, hR⟩ : ∃ R, w.heap.size + 1 = R := ⟨_, rfl⟩
  rw [hR] at mR ⊢
  have r0 : W3.cell? ⟨R, 0, none⟩ = some (.int .i64 0) := block_cell mR
  have r1 : W3.cell? ⟨R, 1, none⟩ = some (.string ⟨#[]⟩) := block_cell mR
  have r2 : W3.cell? ⟨R, 2, none⟩ = some (.int .u64 0) := block_cell mR
  have r3 : W3.cell? ⟨R, 3, none⟩ = some (.int .u64 0) := block_cell mR
  have r4 : W3.cell? ⟨R, 4, none⟩ = some (.slice none 0 0) := block_cell mR
  have rf : ∀ i, W3.frozen? ⟨R, i, none⟩ = false := fun i => block_free mR
  have HR := hide hR
  clear mR hR
  go_wp2
  refine bodyPost_ret (v := .tuple #[proofZ, .bool false]) ?_ rfl ⟨rfl, ?_⟩
  · simp [results, Tryz.results61, go_sem, proofZ, r0, r1, r2, r3, r4]
  · have hw := unhide HR
    exact (((((unhide HB).setCell (by show w.heap.size ≤ R; omega) _).setCell (by show w.heap.size ≤ R; omega) _).setCell (by show w.heap.size ≤ R; omega) _).setCell (by show w.heap.size ≤ R; omega) _).setCell (by show w.heap.size ≤ R; omega) _

/-- What readAccepted owes where readProof has read a proof. -/
def RdAccP (w : World) (pl bal salt : Int) (nm : ByteArray) (k c : Nat) (bb : Bool) (Q : Option Addr → World → Prop) (e : Ending) (w' : World) : Prop :=
  bb = false ∧ e = .returned (.tuple #[proofZ, .bool false]) ∨ bb = true ∧ ∃ a W, e = .returned (.tuple #[proofV pl nm bal salt a k c, .bool true]) ∧ Q a W ∧ W.cell? ⟨w.heap.size + 1, 0, none⟩ = some (.int .i64 0) ∧ w'.heap.size = W.heap.size ∧ ∀ b, b ≠ w.heap.size + 1 → w'.heap[b]? = W.heap[b]?

set_option maxHeartbeats 1000000 in
set_option maxRecDepth 100000 in
theorem rdacc_acc (v : Value) (w : World) (h d0 d1 d2 x : Int) (pl bal salt : Int) (nm : ByteArray) (k c : Nat) (bb : Bool) (Q : Option Addr → World → Prop) (hQ : ∀ a W W', Q a W → Below W.heap.size W W' → Q a W')
    (hP : ∀ w', Below w.heap.size w w' → Calls Tryz.prog 77 #[v, .int .i64 h] w' fun e w'' => (∃ a : Option Addr, e = .returned (.tuple #[proofV pl nm bal salt a k c, .bool true]) ∧ Q a w'' ∧
      ∀ w3, Below w''.heap.size w'' w3 → Calls Tryz.prog 78 #[ownRepV h d0 d1 d2 x, proofV pl nm bal salt a k c] w3 fun e w4 => e = .returned (.bool bb) ∧ Below w3.heap.size w3 w4) ∧ Below w'.heap.size w' w'') :
    Calls Tryz.prog 61 #[ownRepV h d0 d1 d2 x, v] w fun e w' => RdAccP w pl bal salt nm k c bb Q e w' ∧ Below w.heap.size w w' := by
  have HP := fun w' hb => hide (hP w' hb)
  have HQ := hide hQ
  clear hP hQ
  unfold ownRepV proofV at *
  go_enter Tryz.func61, Tryz.ntmps61
  go_wp2_with fail
  have hA : Below w.heap.size w ((w.alloc (repC h d0 d1 d2 x)).alloc (proofC 0 ⟨#[]⟩ 0 0 none 0 0)) := ((Below.refl _ _).alloc (Nat.le_refl _) _).alloc (by simp) _
  have kA := heap_next (o := proofC 0 ⟨#[]⟩ 0 0 none 0 0) (heap_alloc_new w (repC h d0 d1 d2 x))
  have kR := heap_new1 w (repC h d0 d1 d2 x) (proofC 0 ⟨#[]⟩ 0 0 none 0 0)
  refine (unhide (HP _ hA)).mono ?_
  rintro e w2 ⟨⟨a, rfl, hq, hAcc⟩, hb2⟩
  have mA := heap_next (o := proofC pl nm bal salt a k c) ((hb2.block _ (Array.getElem?_eq_some_iff.1 kA).1).trans kA)
  have mR := heap_next (o := proofC pl nm bal salt a k c) ((hb2.block _ (Array.getElem?_eq_some_iff.1 kR).1).trans kR)
  have mP := heap_alloc_new w2 (proofC pl nm bal salt a k c)
  have hB := hA.trans (hb2.mono (by simp only [World.size_alloc]; omega))
  have hB3 := hB.alloc hB.size (proofC pl nm bal salt a k c)
  have hz2 : w.heap.size + 2 ≤ w2.heap.size := by have := hb2.size; simp only [World.size_alloc] at this; omega
  have hn3 := (Below.refl w2.heap.size w2).alloc (Nat.le_refl _) (proofC pl nm bal salt a k c)
  have hq3 := unhide HQ _ _ _ hq hn3
  have HC := hide (hAcc _ hn3)
  have HB3 := hide (And.intro hB3 hq3)
  have hz3 := hB3.size
  clear hb2 hB hA HP kR kA hAcc hn3 hB3 hq hq3
  go_upto_region 2 with fail
  unfold proofC repC at *
  have hs3 : (w2.alloc (Obj.cells #[Value.int IntKind.i64 pl, Value.string nm, Value.int IntKind.u64 bal, Value.int IntKind.u64 salt, Value.slice a k c] 118)).heap.size = w2.heap.size + 1 := by simp
  generalize (w2.alloc (Obj.cells #[Value.int IntKind.i64 pl, Value.string nm, Value.int IntKind.u64 bal, Value.int IntKind.u64 salt, Value.slice a k c] 118)) = W3 at *
  generalize w2.heap.size = P at *
  obtain ⟨R, hR⟩ : ∃ R, w.heap.size + 1 = R := ⟨_, rfl⟩
  rw [hR] at mR ⊢
  have a0 : W3.cell? ⟨w.heap.size, 0, none⟩ = some (.int .i64 h) := block_cell mA
  have a1 : W3.cell? ⟨w.heap.size, 1, none⟩ = some (.int .u8 d0) := block_cell mA
  have a2 : W3.cell? ⟨w.heap.size, 2, none⟩ = some (.int .u8 d1) := block_cell mA
  have a3 : W3.cell? ⟨w.heap.size, 3, none⟩ = some (.int .u8 d2) := block_cell mA
  have a4 : W3.cell? ⟨w.heap.size, 4, none⟩ = some (.int .u64 x) := block_cell mA
  have e0 : W3.cell? ⟨P, 0, none⟩ = some (.int .i64 pl) := block_cell mP
  have e1 : W3.cell? ⟨P, 1, none⟩ = some (.string nm) := block_cell mP
  have e2 : W3.cell? ⟨P, 2, none⟩ = some (.int .u64 bal) := block_cell mP
  have e3 : W3.cell? ⟨P, 3, none⟩ = some (.int .u64 salt) := block_cell mP
  have e4 : W3.cell? ⟨P, 4, none⟩ = some (.slice a k c) := block_cell mP
  have MP := hide (And.intro mP mR)
  have HR := hide (And.intro hR (And.intro hz2 hs3))
  clear mA mR mP hR hz2 hs3
  go_wp2_with fail
  refine (unhide HC).mono ?_
  rintro e w4 ⟨rfl, hb4⟩
  have mP := (hb4.block _ (Array.getElem?_eq_some_iff.1 (unhide MP).1).1).trans (unhide MP).1
  have mR := (hb4.block _ (Array.getElem?_eq_some_iff.1 (unhide MP).2).1).trans (unhide MP).2
  have HB4 := hide (And.intro ((unhide HB3).1.trans (hb4.mono hz3)) (And.intro (unhide HQ _ _ _ (unhide HB3).2 hb4) hb4.size))
  clear a0 a1 a2 a3 a4 e0 e1 e2 e3 e4 hb4 HC MP HB3 HQ
  have r0 : w4.cell? ⟨R, 0, none⟩ = some (.int .i64 0) := block_cell mR
  have r1 : w4.cell? ⟨R, 1, none⟩ = some (.string ⟨#[]⟩) := block_cell mR
  have r2 : w4.cell? ⟨R, 2, none⟩ = some (.int .u64 0) := block_cell mR
  have r3 : w4.cell? ⟨R, 3, none⟩ = some (.int .u64 0) := block_cell mR
  have r4 : w4.cell? ⟨R, 4, none⟩ = some (.slice none 0 0) := block_cell mR
  have rf : ∀ i, w4.frozen? ⟨R, i, none⟩ = false := fun i => block_free mR
  clear mR
  have hbel : ∀ (v0 v1 v2 v3 v4 : Value), Below w.heap.size w (((((w4.setCell ⟨R, 0, none⟩ v0).setCell ⟨R, 1, none⟩ v1).setCell ⟨R, 2, none⟩ v2).setCell ⟨R, 3, none⟩ v3).setCell ⟨R, 4, none⟩ v4) := fun v0 v1 v2 v3 v4 => by
    have hw := (unhide HR).1
    exact (((((unhide HB4).1.setCell (by show w.heap.size ≤ R; omega) _).setCell (by show w.heap.size ≤ R; omega) _).setCell (by show w.heap.size ≤ R; omega) _).setCell (by show w.heap.size ≤ R; omega) _).setCell (by show w.heap.size ≤ R; omega) _
  have HBL := hide hbel
  clear hbel
  cases bb with
  | false =>
    clear mP
    go_wp2
    refine bodyPost_ret (v := .tuple #[proofZ, .bool false]) ?_ rfl ⟨.inl ⟨rfl, rfl⟩, ?_⟩
    · simp [results, Tryz.results61, go_sem, proofZ, r0, r1, r2, r3, r4]
    · exact unhide HBL _ _ _ _ _
  | true =>
    have e0 : w4.cell? ⟨P, 0, none⟩ = some (.int .i64 pl) := block_cell mP
    have e1 : w4.cell? ⟨P, 1, none⟩ = some (.string nm) := block_cell mP
    have e2 : w4.cell? ⟨P, 2, none⟩ = some (.int .u64 bal) := block_cell mP
    have e3 : w4.cell? ⟨P, 3, none⟩ = some (.int .u64 salt) := block_cell mP
    have e4 : w4.cell? ⟨P, 4, none⟩ = some (.slice a k c) := block_cell mP
    clear mP
    go_wp2
    refine bodyPost_ret (v := .tuple #[.agg #[.int .i64 pl, .string nm, .int .u64 bal, .int .u64 salt, .slice a k c], .bool true]) ?_ rfl ⟨.inr ⟨rfl, a, w4, rfl, (unhide HB4).2.1, ?_, ?_, ?_⟩, ?_⟩
    · simp [results, Tryz.results61, go_sem, r0, r1, r2, r3, r4]
    · rw [(unhide HR).1]; exact r0
    · simp
    · intro b hne
      have hw := (unhide HR).1
      have hne' : b ≠ R := by omega
      rw [Below.heap_setCell _ _ _ _ hne', Below.heap_setCell _ _ _ _ hne', Below.heap_setCell _ _ _ _ hne', Below.heap_setCell _ _ _ _ hne', Below.heap_setCell _ _ _ _ hne']
    · exact unhide HBL _ _ _ _ _

end Go.Proofs.YtbjobbkgelipmaaGreat

/-
  The walk of tithe's readReport: a head that fits.
-/
namespace Go.Proofs.YtbjobbkgelipmaaGreat
open Go.RowKit

def repZs : Array Value := #[.int .i64 0, .int .u8 0, .int .u8 0, .int .u8 0, .int .u64 0]

set_option maxHeartbeats 1000000 in
set_option maxRecDepth 100000 in
theorem rdrep_good (b cap : Nat) (l : List UInt8) (w : World) (hb : b < w.heap.size) (hB : BytesAt w b 0 l) (hg : repHead l) (hc : 12 ≤ cap) (hm : cap ≤ 9223372036854775807) :
    Calls Tryz.prog 60 #[.slice (some ⟨b, 0, none⟩) 12 cap] w fun e w' => e = .returned (.tuple #[ownRepV (repH l : Int) ((repRoot l).1.1.toNat : Int) ((repRoot l).1.2.1.toNat : Int) ((repRoot l).1.2.2.toNat : Int) (repRoot l).2, .bool (leMax (repRoot l).2)]) ∧ Below w.heap.size w w' := by
  have hl := hg.1
  have hne : b ≠ w.heap.size := by omega
  have h6 : repH l ≤ 6 := hg.2
  have c0 : w.cell? ⟨b, 0, none⟩ = some (.int .u8 (repH l : Int)) := by
    have := hB 0 (by omega)
    rw [this]; unfold repH; rw [List.getD_eq_getElem?_getD, List.getElem?_eq_getElem (by omega)]; rfl
  have HC : ∀ w', Below w.heap.size w w' → Hid (Calls Tryz.prog 76 #[.slice (some ⟨b, 1, none⟩) 11 (cap - 1)] w' fun e w'' => e = .returned (sideV (repRoot l).1 (repRoot l).2) ∧ Below w'.heap.size w' w'') := fun w' hbw => by
    have hBw : BytesAt w' b 0 l := fun j hj => (hbw.cell (p := ⟨b, 0 + j, none⟩) hb).trans (hB j hj)
    have h := rdside_any b (0 + 1) 11 (cap - 1) (l.drop 1) w' (by rw [List.length_drop]; omega) (by omega) (by omega) (by omega) (by have := hbw.size; omega) hBw.drop
    have e : sideAt (l.drop 1) 0 = repRoot l := by
      unfold repRoot sideAt
      simp only [List.getD_eq_getElem?_getD, List.getElem?_drop, List.drop_drop]
    rw [e] at h
    exact h
  generalize hrr : repRoot l = rr at *
  obtain ⟨⟨y0, y1, y2⟩, n⟩ := rr
  unfold sideV at HC
  simp only at HC ⊢
  generalize (y0.toNat : Int) = d0 at *
  generalize (y1.toNat : Int) = d1 at *
  generalize (y2.toNat : Int) = d2 at *
  generalize hh : repH l = h at *
  have hwr : IntKind.i64.wrap (h : Int) = (h : Int) := by rw [IntKind.wrap_i64]; omega
  have hh6 : ¬ (6 : Int) < (h : Int) := by omega
  have cb : ∀ w', Below w.heap.size w w' → w'.cell? ⟨b, 0, none⟩ = some (.int .u8 (h : Int)) := fun w' hbw => (hbw.cell (p := ⟨b, 0, none⟩) hb).trans c0
  have HCB := hide cb
  have hle : leMax n = decide (n ≤ 4611686018427387904) := rfl
  rw [hle]
  generalize hbb : decide (n ≤ 4611686018427387904) = bb
  have lc : cap ≠ 1 := by omega
  clear hB hg hl hh h6 hrr cb hle
  go_enter Tryz.func60, Tryz.ntmps60
  go_wp2_with fail
  generalize hW0 : (w.alloc (Obj.cells #[Value.int IntKind.i64 0, Value.int IntKind.u8 0, Value.int IntKind.u8 0, Value.int IntKind.u8 0, Value.int IntKind.u64 0] 108)) = W0
  have hR0 : RB w repZs 108 W0 := by rw [← hW0]; exact RB.new w _ _
  clear hW0 c0
  have hSd : W0.drew.cell? ⟨b, 0, none⟩ = some (.int .u8 (h : Int)) ∧ RB w repZs 108 W0.drew := ⟨unhide HCB _ hR0.drew.below, hR0.drew⟩
  have hz : w.heap.size < W0.heap.size := hR0.lt
  go_cut [4] (fun s4 wx => ∃ A, s4 = .pointer (some ⟨A, 0, none⟩) ∧ Hid (MB w repZs 108 A #[.int .i64 (h : Int), .int .u8 d0, .int .u8 d1, .int .u8 d2, .int .u64 n] 108 wx))
  case first =>
    go_region_held3 (fun w' => w'.cell? ⟨b, 0, none⟩ = some (.int .u8 (h : Int)) ∧ RB w repZs 108 w')
      (first
        | with_reducible exact hSd
        | with_reducible exact hS4
        | with_reducible exact ⟨unhide HCB _ (hS4.2.alloc _).below, hS4.2.alloc _⟩
        | with_reducible exact ⟨unhide HCB _ (hR0.alloc _).drew.below, (hR0.alloc _).drew⟩
        | with_reducible exact ⟨unhide HCB _ (((((hM4.set _ _).set _ _).set _ _).set _ _).set _ _).rb.below, (((((hM4.set _ _).set _ _).set _ _).set _ _).set _ _).rb⟩
        | fail)
      (first
        | (go_at_call 76; refine (unhide (HC _ hSd.2.below)).mono ?_; rintro e w4 ⟨rfl, hb4⟩; have hR4 := hSd.2.later hb4; have hS4 := And.intro (unhide HCB _ hR4.below) hR4; have oA := True.intro)
        | (go_at_call 76; refine (unhide (HC _ (hR0.alloc _).drew.below)).mono ?_; rintro e w4 ⟨rfl, hb4⟩; have hM4 : MB w repZs 108 W0.heap.size _ _ w4 := (MB.new hR0 _ _).drew.later hb4; have hS4 := And.intro (unhide HCB _ hM4.rb.below) hM4.rb; have u0 : w4.cell? ⟨W0.heap.size, 0, none⟩ = some (.int .i64 0) := hM4.cell 0; have u1 : w4.cell? ⟨W0.heap.size, 1, none⟩ = some (.int .u8 0) := hM4.cell 1; have u2 : w4.cell? ⟨W0.heap.size, 2, none⟩ = some (.int .u8 0) := hM4.cell 2; have u3 : w4.cell? ⟨W0.heap.size, 3, none⟩ = some (.int .u8 0) := hM4.cell 3; have u4 : w4.cell? ⟨W0.heap.size, 4, none⟩ = some (.int .u64 0) := hM4.cell 4; have v0 : ∀ i, w4.frozen? ⟨W0.heap.size, i, none⟩ = false := hM4.free))
    all_goals (go_wp2_with fail; go_meet; first | exact ⟨_, rfl, hide (MB.new hS4.2 _ _)⟩ | exact ⟨_, rfl, hide (((((hM4.set 0 (.int .i64 (h : Int))).set 1 (.int .u8 d0)).set 2 (.int .u8 d1)).set 3 (.int .u8 d2)).set 4 (.int .u64 n))⟩)
  case rest =>
  obtain ⟨A, rfl, HM⟩ := hcut
  clear hSd hR0 hz HC HCB hh6
  have hM := (unhide HM).drew
  have hA : A ≠ w.heap.size := by have := hM.gt; omega
  have a0 : wc.cell? ⟨A, 0, none⟩ = some (.int .i64 (h : Int)) := hM.cell 0
  have a1 : wc.cell? ⟨A, 1, none⟩ = some (.int .u8 d0) := hM.cell 1
  have a2 : wc.cell? ⟨A, 2, none⟩ = some (.int .u8 d1) := hM.cell 2
  have a3 : wc.cell? ⟨A, 3, none⟩ = some (.int .u8 d2) := hM.cell 3
  have a4 : wc.cell? ⟨A, 4, none⟩ = some (.int .u64 n) := hM.cell 4
  have r0 : wc.cell? ⟨w.heap.size, 0, none⟩ = some (.int .i64 0) := hM.rb.cell 0
  have r1 : wc.cell? ⟨w.heap.size, 1, none⟩ = some (.int .u8 0) := hM.rb.cell 1
  have r2 : wc.cell? ⟨w.heap.size, 2, none⟩ = some (.int .u8 0) := hM.rb.cell 2
  have r3 : wc.cell? ⟨w.heap.size, 3, none⟩ = some (.int .u8 0) := hM.rb.cell 3
  have r4 : wc.cell? ⟨w.heap.size, 4, none⟩ = some (.int .u64 0) := hM.rb.cell 4
  have rf : ∀ i, wc.frozen? ⟨w.heap.size, i, none⟩ = false := hM.rb.free
  clear hM
  go_wp2_with fail
  go_region
  go_wp2
  refine bodyPost_ret (v := .tuple #[ownRepV (h : Int) d0 d1 d2 n, .bool bb]) ?_ rfl ⟨rfl, ?_⟩
  · simp [results, Tryz.results60, go_sem, ownRepV, r0, r1, r2, r3, r4]
  · exact (((((((unhide HM).setR 0 _).setR 1 _).setR 2 _).setR 3 _).setR 4 _).drew).rb.below

end Go.Proofs.YtbjobbkgelipmaaGreat
