/-
  The walk of tithe's climb.
-/
import Derived.Test.YtbjobbkgelipmaaGreatJoin
import Derived.Test.YtbjobbkgelipmaaGreatRdSides
import Derived.Test.YtbjobbkgelipmaaGreatMB
import Derived.Deep.DeepCutAuto
namespace Go.Proofs.YtbjobbkgelipmaaGreat
open Go.RowKit

/-- What lies in memory on the way up. -/
structure CM (w : World) (fv : Value) (R H : Nat) (e0 e1 e2 x : Int) (w' : World) : Prop where
  fn : w'.heap[w.heap.size]? = some (.cells #[fv] 178 (0, 0))
  res : w'.heap[R]? = some (.cells #[.int .u8 0, .int .u8 0, .int .u8 0, .int .u64 0] 106 (0, 0))
  here : w'.heap[H]? = some (.cells #[.int .u8 e0, .int .u8 e1, .int .u8 e2, .int .u64 x] 106 (0, 0))
  gt : R < H
  wR : w.heap.size < R
  below : Below w.heap.size w w'
theorem CM.lt {w w' : World} {fv : Value} {R H : Nat} {e0 e1 e2 x : Int} (h : CM w fv R H e0 e1 e2 x w') : H < w'.heap.size := (Array.getElem?_eq_some_iff.1 h.here).1
theorem CM.later {w W w4 : World} {fv : Value} {R H : Nat} {e0 e1 e2 x : Int} (h : CM w fv R H e0 e1 e2 x W) (hb : Below W.heap.size W w4) : CM w fv R H e0 e1 e2 x w4 := by
  have h1 := h.lt
  have h2 := h.gt
  have h3 := h.wR
  exact ⟨(hb.block _ (by omega)).trans h.fn, (hb.block _ (by omega)).trans h.res, (hb.block _ (by omega)).trans h.here, h.gt, h.wR, h.below.trans (hb.mono (by omega))⟩
theorem CM.set {w W : World} {fv : Value} {R H : Nat} {e0 e1 e2 x : Int} (h : CM w fv R H e0 e1 e2 x W) (f0 f1 f2 q : Int) :
    CM w fv R H f0 f1 f2 q ((((W.setCell ⟨H, 0, none⟩ (.int .u8 f0)).setCell ⟨H, 1, none⟩ (.int .u8 f1)).setCell ⟨H, 2, none⟩ (.int .u8 f2)).setCell ⟨H, 3, none⟩ (.int .u64 q)) := by
  have h2 := h.gt
  have h3 := h.wR
  have e : ∀ k, k ≠ H → ((((W.setCell ⟨H, 0, none⟩ (.int .u8 f0)).setCell ⟨H, 1, none⟩ (.int .u8 f1)).setCell ⟨H, 2, none⟩ (.int .u8 f2)).setCell ⟨H, 3, none⟩ (.int .u64 q)).heap[k]? = W.heap[k]? := fun k hk => by
    rw [Below.heap_setCell _ _ _ _ hk, Below.heap_setCell _ _ _ _ hk, Below.heap_setCell _ _ _ _ hk, Below.heap_setCell _ _ _ _ hk]
  refine ⟨(e _ (by omega)).trans h.fn, (e _ (by omega)).trans h.res, ?_, h.gt, h.wR, ?_⟩
  · have g1 := heap_setCell_same W H 0 _ _ (.int .u8 f0) h.here
    have g2 := heap_setCell_same _ H 1 _ _ (.int .u8 f1) g1
    have g3 := heap_setCell_same _ H 2 _ _ (.int .u8 f2) g2
    exact heap_setCell_same _ H 3 _ _ (.int .u64 q) g3
  · exact (((h.below.setCell (by show w.heap.size ≤ H; omega) _).setCell (by show w.heap.size ≤ H; omega) _).setCell (by show w.heap.size ≤ H; omega) _).setCell (by show w.heap.size ≤ H; omega) _
theorem CM.drew {w W : World} {fv : Value} {R H : Nat} {e0 e1 e2 x : Int} (h : CM w fv R H e0 e1 e2 x W) : CM w fv R H e0 e1 e2 x W.drew := ⟨h.fn, h.res, h.here, h.gt, h.wR, h.below.drew⟩

theorem sidesOf_at {l : List UInt8} {a h k : Nat} (hk : k < h) : (sidesOf (l.drop a) h)[k]'(by rw [sidesOf_len]; exact hk) = sideAt l (a + 11 * k) := by
  rw [sidesOf_get, sideAt_drop]

theorem accText0_leaf (h : Nat) (l : List UInt8) (hh : accHead h l) : accText0 l = 0 :: leafB (accName l) (accBal l) (accSalt l) := by
  rw [accText0_parts h l hh]
  have hs : (accName l).length = bAt l 2 := by
    unfold accName
    rw [List.length_take, List.length_drop]
    have := hh.2.2.2.2
    omega
  unfold leafB
  rw [hs]
  have e : UInt8.ofNat (bAt l 2) = l.getD 2 0 := by
    unfold bAt
    simp
  rw [e]
  simp

/-- What climb owes. -/
def ClimbPost (h : Nat) (l : List UInt8) (w : World) (e : Ending) (w' : World) : Prop := Below w.heap.size w w' ∧ match accUp l h with
  | none => e = .returned (.tuple #[sideZ0, .bool false])
  | some (_, now) => e = .returned (.tuple #[sideV now.1 now.2, .bool true])

def joinV : Value := .func (.func 95) #[] #[]

set_option maxHeartbeats 2000000 in
set_option maxRecDepth 100000 in
theorem climb_any (h : Nat) (l : List UInt8) (sb : Nat) (w : World) (hh : h ≤ 6) (hacc : accHead h l) (hbal : accBal l ≤ maxS) (hsums : ∀ i, i < h → (sideAt l (19 + bAt l 2 + 11 * i)).2 ≤ maxS) (hlt : sb < w.heap.size)
    (hS : SidesAt w sb (sidesOf (l.drop (19 + bAt l 2)) h)) :
    Calls Tryz.prog 96 #[.agg #[joinV], proofV (bAt l 1 : Int) ⟨(accName l).toArray⟩ (accBal l) (accSalt l) (some ⟨sb, 0, none⟩) h h] w (ClimbPost h l w) := by
  have hb1 : bAt l 1 ≤ 255 := by have := UInt8.toNat_lt (l.getD 1 0); unfold bAt; omega
  have hleaf := fun w => leafside_any ⟨(accName l).toArray⟩ (accBal l) (accSalt l) w (by rw [accName_size h l hacc]; exact hacc.2.2.2.2.1) (accBal_range l).1 (accBal_range l).2 (accSalt_range l).1 (accSalt_range l).2
  have e0 : (⟨(accName l).toArray⟩ : ByteArray).data.toList = accName l := by simp
  rw [e0, ← accText0_leaf h l hacc] at hleaf
  have hup0 : accUp l 0 = some ([accText0 l], (dg (accText0 l), accBal l)) := rfl
  have hrange := fun {k : Nat} {ts : List (List UInt8)} {now : Dg × Int} (hu : accUp l k = some (ts, now)) => accUp_le hbal (accBal_range l).1 hu
  obtain ⟨pl, hpl⟩ : ∃ pl, bAt l 1 = pl := ⟨_, rfl⟩
  obtain ⟨nm, hnm⟩ : ∃ nm : ByteArray, ⟨(accName l).toArray⟩ = nm := ⟨_, rfl⟩
  obtain ⟨bal, hbl⟩ : ∃ x, accBal l = x := ⟨_, rfl⟩
  obtain ⟨salt, hsl⟩ : ∃ x, accSalt l = x := ⟨_, rfl⟩
  rw [hnm, hbl, hsl] at hleaf
  rw [hpl, hnm, hbl, hsl]
  rw [hbl] at hup0
  have HSS := hide hsums
  have HS := hide hS
  have HR : Hid (∀ (k : Nat) (ts : List (List UInt8)) (now : Dg × Int), accUp l k = some (ts, now) → 0 ≤ now.2 ∧ now.2 ≤ maxS ∧ ts.length = k + 1) := fun k ts now hu => hrange hu
  have HU0 := hide hup0
  obtain ⟨t0, t1, t2, hT⟩ : ∃ t0 t1 t2 : Int, sideV (dg (accText0 l)) bal = .agg #[.int .u8 t0, .int .u8 t1, .int .u8 t2, .int .u64 bal] := ⟨_, _, _, rfl⟩
  have HT := hide hT
  rw [hT] at hleaf
  have HL := fun w => hide (hleaf w)
  have HPL := hide hpl
  rw [hpl] at hb1
  clear hsums hS hrange hup0 hleaf e0 hacc hnm hbl hsl hpl hT hbal
  unfold proofV leafV joinV at *
  go_enter Tryz.func96, Tryz.ntmps96
  go_wp2_with fail
  obtain ⟨R, hR⟩ : ∃ R, w.heap.size + 1 + 1 = R := ⟨_, rfl⟩
  rw [hR]
  obtain ⟨P, hP⟩ : ∃ P, w.heap.size + 1 = P := ⟨_, rfl⟩
  rw [hP]
  refine (unhide (HL _)).mono ?_
  rintro e w1 ⟨rfl, hb1⟩
  have k0 := heap_next (o := (Obj.cells #[Value.int IntKind.u8 0, Value.int IntKind.u8 0, Value.int IntKind.u8 0, Value.int IntKind.u64 0] 106)) (heap_next (o := (Obj.cells #[Value.int IntKind.i64 (pl : Int), Value.string nm, Value.int IntKind.u64 bal, Value.int IntKind.u64 salt, Value.slice (some ⟨sb, 0, none⟩) h h] 118)) (heap_alloc_new w (Obj.cells #[Value.func (.func 95) #[] #[]] 178)))
  have k1 := heap_next (o := (Obj.cells #[Value.int IntKind.u8 0, Value.int IntKind.u8 0, Value.int IntKind.u8 0, Value.int IntKind.u64 0] 106)) (heap_new1 w (Obj.cells #[Value.func (.func 95) #[] #[]] 178) (Obj.cells #[Value.int IntKind.i64 (pl : Int), Value.string nm, Value.int IntKind.u64 bal, Value.int IntKind.u64 salt, Value.slice (some ⟨sb, 0, none⟩) h h] 118))
  have k2 := heap_new2 w (Obj.cells #[Value.func (.func 95) #[] #[]] 178) (Obj.cells #[Value.int IntKind.i64 (pl : Int), Value.string nm, Value.int IntKind.u64 bal, Value.int IntKind.u64 salt, Value.slice (some ⟨sb, 0, none⟩) h h] 118) (Obj.cells #[Value.int IntKind.u8 0, Value.int IntKind.u8 0, Value.int IntKind.u8 0, Value.int IntKind.u64 0] 106)
  have hz1 : R < w1.heap.size := by have := hb1.size; simp only [World.size_alloc] at this; omega
  have m0 := (hb1.block _ (Array.getElem?_eq_some_iff.1 k0).1).trans k0
  have m1 := (hb1.block _ (Array.getElem?_eq_some_iff.1 k1).1).trans k1
  have m2 := (hb1.block _ (Array.getElem?_eq_some_iff.1 k2).1).trans k2
  have hB1 : Below w.heap.size w w1 := ((((Below.refl _ _).alloc (Nat.le_refl _) _).alloc (by simp) _).alloc (by simp; omega) _).trans (hb1.mono (by simp only [World.size_alloc]; omega))
  have hCM : CM w (.func (.func 95) #[] #[]) R w1.heap.size t0 t1 t2 bal (w1.alloc (Obj.cells #[Value.int IntKind.u8 t0, Value.int IntKind.u8 t1, Value.int IntKind.u8 t2, Value.int IntKind.u64 bal] 106)) := by
    refine ⟨heap_next m0, ?_, heap_alloc_new w1 _, hz1, by omega, hB1.alloc hB1.size _⟩
    rw [← hR]
    exact heap_next m2
  have p0 : w1.cell? ⟨P, 0, none⟩ = some (.int .i64 (pl : Int)) := by rw [← hP]; exact block_cell m1
  have p4 : w1.cell? ⟨P, 4, none⟩ = some (.slice (some ⟨sb, 0, none⟩) h h) := by rw [← hP]; exact block_cell m1
  have hPw : P < w1.heap.size := by omega
  have HCM := hide hCM
  have HRR := hide hR
  clear k0 k1 k2 m0 m1 m2 hB1 hCM hb1 HL hR hz1 hP
  go_upto_region 2 with fail
  have HA1 : Below w1.heap.size w1 (w1.alloc (Obj.cells #[Value.int IntKind.u8 t0, Value.int IntKind.u8 t1, Value.int IntKind.u8 t2, Value.int IntKind.u64 bal] 106)) := (Below.refl _ _).alloc (Nat.le_refl _) _
  replace p0 := keepB HA1 hPw p0
  replace p4 := keepB HA1 hPw p4
  generalize (w1.alloc (Obj.cells #[Value.int IntKind.u8 t0, Value.int IntKind.u8 t1, Value.int IntKind.u8 t2, Value.int IntKind.u64 bal] 106)) = W2 at *
  clear HA1 hPw
  go_wp2
  go_loopw [7, 8, 19] (fun p _ i wr => ∃ (k : Nat) (ts : List (List UInt8)) (now : Dg × Int), k ≤ h ∧ i = .int .i64 k ∧ p = .int .i64 ((pl / 2 ^ k : Nat) : Int) ∧ accUp l k = some (ts, now) ∧ CM w (.func (.func 95) #[] #[]) R w1.heap.size (now.1.1.toNat : Int) (now.1.2.1.toNat : Int) (now.1.2.2.toNat : Int) now.2 wr) (fun _ _ i _ => h - (intOf i).toNat)
  case atStart =>
    refine ⟨0, _, _, Nat.zero_le _, rfl, by simp, unhide HU0, ?_⟩
    have hT := unhide HT
    unfold sideV at hT
    simp at hT
    rw [hT.1, hT.2.1, hT.2.2]
    exact unhide HCM
  case round =>
    obtain ⟨k, ts, now, hk, rfl, rfl, hup, hcm⟩ := hrel
    generalize hH : w1.heap.size = H at *
    clear hH p0 p4 HCM
    by_cases hk' : k < h
    · have hyk := ((unhide HS).below hcm.below hlt) k (by rw [sidesOf_len]; exact hk')
      rw [sidesOf_at hk'] at hyk
      have hyle := unhide HSS k hk'
      have hrg := unhide HR k ts now hup
      have hyr := (sideAt_range l (19 + bAt l 2 + 11 * k)).1
      generalize hY : sideAt l (19 + bAt l 2 + 11 * k) = y at *
      obtain ⟨c0, c1, c2, c3⟩ := hyk
      obtain ⟨q, hq⟩ : ∃ q, pl / 2 ^ k = q := ⟨_, rfl⟩
      have hq2 : q / 2 = pl / 2 ^ (k + 1) := by rw [← hq, Nat.div_div_eq_div_mul, Nat.pow_succ]
      rw [hq]
      have hq255 : q ≤ 255 := by rw [← hq]; exact Nat.le_trans (Nat.div_le_self _ _) hb1
      have HQ2 := hide hq2
      by_cases hs : now.2 + y.2 ≤ maxS
      · have hJ := fun w => join_yes q now.1 y.1 now.2 y.2 w hq255 hrg.1 hyr hs
        have HUP := hide (accUp_step hup hY (fun h => by omega))
        rw [(unhide HPL), hq] at HUP
        have e : upText q (now.1, now.2) (y.1, y.2) = upText q now y := rfl
        rw [e] at hJ
        generalize upText q now y = T at *
        obtain ⟨s0, s1, s2, hS1, hS2⟩ : ∃ s0 s1 s2 : Int, sideV (dg T) (now.2 + y.2) = .agg #[.int .u8 s0, .int .u8 s1, .int .u8 s2, .int .u64 (now.2 + y.2)] ∧ (((dg T).1.toNat : Int) = s0 ∧ ((dg T).2.1.toNat : Int) = s1 ∧ ((dg T).2.2.toNat : Int) = s2) := ⟨_, _, _, rfl, rfl, rfl, rfl⟩
        rw [hS1] at hJ
        have HS2 := hide hS2
        unfold sideV at hJ
        generalize (now.1.1.toNat : Int) = f0 at *
        generalize (now.1.2.1.toNat : Int) = f1 at *
        generalize (now.1.2.2.toNat : Int) = f2 at *
        generalize (y.1.1.toNat : Int) = g0 at *
        generalize (y.1.2.1.toNat : Int) = g1 at *
        generalize (y.1.2.2.toNat : Int) = g2 at *
        generalize hn2 : now.2 = nx at *
        generalize hy2 : y.2 = yx at *
        have HJ := fun w => hide (hJ w)
        have HCM := hide hcm
        clear hJ hcm hS1 hS2 hs hyr hrg hyle hY hup hq hq2 e hn2 hy2
        go_upto_region 6 with fail
        have hc3 := (unhide HCM).later ((Below.refl _ _).alloc (Nat.le_refl _) (Obj.cells #[Value.int IntKind.u8 g0, Value.int IntKind.u8 g1, Value.int IntKind.u8 g2, Value.int IntKind.u64 yx] 106))
        have hx3 := heap_alloc_new wr (Obj.cells #[Value.int IntKind.u8 g0, Value.int IntKind.u8 g1, Value.int IntKind.u8 g2, Value.int IntKind.u64 yx] 106)
        generalize (wr.alloc (Obj.cells #[Value.int IntKind.u8 g0, Value.int IntKind.u8 g1, Value.int IntKind.u8 g2, Value.int IntKind.u64 yx] 106)) = W3 at *
        generalize wr.heap.size = X at *
        have v0 : W3.cell? ⟨X, 0, none⟩ = some (.int .u8 g0) := block_cell hx3
        have v1 : W3.cell? ⟨X, 1, none⟩ = some (.int .u8 g1) := block_cell hx3
        have v2 : W3.cell? ⟨X, 2, none⟩ = some (.int .u8 g2) := block_cell hx3
        have v3 : W3.cell? ⟨X, 3, none⟩ = some (.int .u64 yx) := block_cell hx3
        have z0 : W3.cell? ⟨H, 0, none⟩ = some (.int .u8 f0) := block_cell hc3.here
        have z1 : W3.cell? ⟨H, 1, none⟩ = some (.int .u8 f1) := block_cell hc3.here
        have z2 : W3.cell? ⟨H, 2, none⟩ = some (.int .u8 f2) := block_cell hc3.here
        have z3 : W3.cell? ⟨H, 3, none⟩ = some (.int .u64 nx) := block_cell hc3.here
        have zf : W3.cell? ⟨w.heap.size, 0, none⟩ = some (.func (.func 95) #[] #[]) := block_cell hc3.fn
        have HC3 := hide hc3
        clear hc3 hx3 HCM c0 c1 c2 c3
        go_wp2_with fail
        refine (unhide (HJ _)).mono ?_
        rintro e w4 ⟨rfl, hb4⟩
        have hc4 := (unhide HC3).later hb4
        clear v0 v1 v2 v3 z0 z1 z2 z3 zf hb4 HC3 HJ
        have z0 : w4.cell? ⟨H, 0, none⟩ = some (.int .u8 f0) := block_cell hc4.here
        have z1 : w4.cell? ⟨H, 1, none⟩ = some (.int .u8 f1) := block_cell hc4.here
        have z2 : w4.cell? ⟨H, 2, none⟩ = some (.int .u8 f2) := block_cell hc4.here
        have z3 : w4.cell? ⟨H, 3, none⟩ = some (.int .u64 nx) := block_cell hc4.here
        have zf : ∀ i, w4.frozen? ⟨H, i, none⟩ = false := fun i => block_free hc4.here
        have HC5 := hide (hc4.set s0 s1 s2 (nx + yx))
        clear hc4
        go_wp2
        go_roundw
        case rel =>
          refine ⟨k + 1, _, _, by omega, by go_num, ?_, unhide HUP, ?_⟩
          · rw [← unhide HQ2]; go_num
          · rw [(unhide HS2).1, (unhide HS2).2.1, (unhide HS2).2.2]
            exact unhide HC5
        case measure => simp [intOf]; omega
      · have hJ := fun w => join_no q now.1 y.1 now.2 y.2 w hrg.1 hyr (by omega)
        have HNO : Hid (accUp l h = none) := by
          have h1 : accUp l (k + 1) = none := by
            simp only [accUp, hup, hY]
            rw [if_pos (Or.inr (by omega))]
          have := accUp_none (j := h - (k + 1)) h1
          rwa [show k + 1 + (h - (k + 1)) = h by omega] at this
        unfold sideV sideZ0 at hJ
        generalize (now.1.1.toNat : Int) = f0 at *
        generalize (now.1.2.1.toNat : Int) = f1 at *
        generalize (now.1.2.2.toNat : Int) = f2 at *
        generalize (y.1.1.toNat : Int) = g0 at *
        generalize (y.1.2.1.toNat : Int) = g1 at *
        generalize (y.1.2.2.toNat : Int) = g2 at *
        generalize hn2 : now.2 = nx at *
        generalize hy2 : y.2 = yx at *
        have HJ := fun w => hide (hJ w)
        have HCM := hide hcm
        clear hJ hcm hs hyr hrg hyle hY hup hq hq2 hn2 hy2
        go_upto_region 6 with fail
        have hc3 := (unhide HCM).later ((Below.refl _ _).alloc (Nat.le_refl _) (Obj.cells #[Value.int IntKind.u8 g0, Value.int IntKind.u8 g1, Value.int IntKind.u8 g2, Value.int IntKind.u64 yx] 106))
        have hx3 := heap_alloc_new wr (Obj.cells #[Value.int IntKind.u8 g0, Value.int IntKind.u8 g1, Value.int IntKind.u8 g2, Value.int IntKind.u64 yx] 106)
        generalize (wr.alloc (Obj.cells #[Value.int IntKind.u8 g0, Value.int IntKind.u8 g1, Value.int IntKind.u8 g2, Value.int IntKind.u64 yx] 106)) = W3 at *
        generalize wr.heap.size = X at *
        have v0 : W3.cell? ⟨X, 0, none⟩ = some (.int .u8 g0) := block_cell hx3
        have v1 : W3.cell? ⟨X, 1, none⟩ = some (.int .u8 g1) := block_cell hx3
        have v2 : W3.cell? ⟨X, 2, none⟩ = some (.int .u8 g2) := block_cell hx3
        have v3 : W3.cell? ⟨X, 3, none⟩ = some (.int .u64 yx) := block_cell hx3
        have z0 : W3.cell? ⟨H, 0, none⟩ = some (.int .u8 f0) := block_cell hc3.here
        have z1 : W3.cell? ⟨H, 1, none⟩ = some (.int .u8 f1) := block_cell hc3.here
        have z2 : W3.cell? ⟨H, 2, none⟩ = some (.int .u8 f2) := block_cell hc3.here
        have z3 : W3.cell? ⟨H, 3, none⟩ = some (.int .u64 nx) := block_cell hc3.here
        have zf : W3.cell? ⟨w.heap.size, 0, none⟩ = some (.func (.func 95) #[] #[]) := block_cell hc3.fn
        have HC3 := hide hc3
        clear hc3 hx3 HCM c0 c1 c2 c3
        go_wp2_with fail
        refine (unhide (HJ _)).mono ?_
        rintro e w4 ⟨rfl, hb4⟩
        have hc4 := (unhide HC3).later hb4
        clear v0 v1 v2 v3 z0 z1 z2 z3 zf hb4 HC3 HJ
        have z0 : w4.cell? ⟨H, 0, none⟩ = some (.int .u8 f0) := block_cell hc4.here
        have z1 : w4.cell? ⟨H, 1, none⟩ = some (.int .u8 f1) := block_cell hc4.here
        have z2 : w4.cell? ⟨H, 2, none⟩ = some (.int .u8 f2) := block_cell hc4.here
        have z3 : w4.cell? ⟨H, 3, none⟩ = some (.int .u64 nx) := block_cell hc4.here
        have zf : ∀ i, w4.frozen? ⟨H, i, none⟩ = false := fun i => block_free hc4.here
        have r0 : w4.cell? ⟨R, 0, none⟩ = some (.int .u8 0) := block_cell hc4.res
        have r1 : w4.cell? ⟨R, 1, none⟩ = some (.int .u8 0) := block_cell hc4.res
        have r2 : w4.cell? ⟨R, 2, none⟩ = some (.int .u8 0) := block_cell hc4.res
        have r3 : w4.cell? ⟨R, 3, none⟩ = some (.int .u64 0) := block_cell hc4.res
        have rf : ∀ i, w4.frozen? ⟨R, i, none⟩ = false := fun i => block_free hc4.res
        have hRH : R ≠ H := by have := hc4.gt; omega
        have HC5 := hide (And.intro (hc4.set 0 0 0 0).below hc4.wR)
        clear hc4
        go_wp2
        refine bodyPost_ret (v := .tuple #[sideZ0, .bool false]) ?_ rfl ⟨?_, ?_⟩
        · simp [results, Tryz.results96, go_sem, sideZ0, r0, r1, r2, r3]
        · have hw := (unhide HC5).2
          exact ((((unhide HC5).1.setCell (by show w.heap.size ≤ R; omega) _).setCell (by show w.heap.size ≤ R; omega) _).setCell (by show w.heap.size ≤ R; omega) _).setCell (by show w.heap.size ≤ R; omega) _
        · rw [unhide HNO]
    · have hkk : k = h := by omega
      subst hkk
      have HUP := hide hup
      obtain ⟨s0, s1, s2, hS1⟩ : ∃ s0 s1 s2 : Int, sideV now.1 now.2 = .agg #[.int .u8 s0, .int .u8 s1, .int .u8 s2, .int .u64 now.2] := ⟨_, _, _, rfl⟩
      have HS1 := hide hS1
      have e : (now.1.1.toNat : Int) = s0 ∧ (now.1.2.1.toNat : Int) = s1 ∧ (now.1.2.2.toNat : Int) = s2 := by unfold sideV at hS1; simpa using hS1
      rw [e.1, e.2.1, e.2.2] at hcm
      have z0 : wr.cell? ⟨H, 0, none⟩ = some (.int .u8 s0) := block_cell hcm.here
      have z1 : wr.cell? ⟨H, 1, none⟩ = some (.int .u8 s1) := block_cell hcm.here
      have z2 : wr.cell? ⟨H, 2, none⟩ = some (.int .u8 s2) := block_cell hcm.here
      have z3 : wr.cell? ⟨H, 3, none⟩ = some (.int .u64 now.2) := block_cell hcm.here
      have r0 : wr.cell? ⟨R, 0, none⟩ = some (.int .u8 0) := block_cell hcm.res
      have r1 : wr.cell? ⟨R, 1, none⟩ = some (.int .u8 0) := block_cell hcm.res
      have r2 : wr.cell? ⟨R, 2, none⟩ = some (.int .u8 0) := block_cell hcm.res
      have r3 : wr.cell? ⟨R, 3, none⟩ = some (.int .u64 0) := block_cell hcm.res
      have rf : ∀ i, wr.frozen? ⟨R, i, none⟩ = false := fun i => block_free hcm.res
      have HC5 := hide (And.intro hcm.below hcm.wR)
      obtain ⟨nx, hnx⟩ : ∃ nx, now.2 = nx := ⟨_, rfl⟩
      rw [hnx] at z3
      have HNX := hide hnx
      clear hcm e hS1 hup hnx
      go_wp2
      refine bodyPost_ret (v := .tuple #[.agg #[.int .u8 s0, .int .u8 s1, .int .u8 s2, .int .u64 nx], .bool true]) ?_ rfl ⟨?_, ?_⟩
      · simp [results, Tryz.results96, go_sem, r0, r1, r2, r3]
      · have hw := (unhide HC5).2
        exact ((((unhide HC5).1.setCell (by show w.heap.size ≤ R; omega) _).setCell (by show w.heap.size ≤ R; omega) _).setCell (by show w.heap.size ≤ R; omega) _).setCell (by show w.heap.size ≤ R; omega) _
      · rw [unhide HUP]
        show _ = Ending.returned (.tuple #[sideV now.1 now.2, .bool true])
        rw [unhide HS1, unhide HNX]

end Go.Proofs.YtbjobbkgelipmaaGreat
