/-
  The walk of titheref's Tree.Side, at a node; and whole, by induction.
-/
import Derived.Test.YtbjobbkgelipmaaGreatSideL
namespace Go.Proofs.YtbjobbkgelipmaaGreat
open Go.RowKit

/-- What the region at a node leans on. -/
abbrev NodeS (w : World) (A B R : Nat) (a0 a1 a2 a3 b0 b1 b2 b3 : Int) (w' : World) : Prop :=
  w'.cell? ⟨A, 0, none⟩ = some (.int .u8 a0) ∧ w'.cell? ⟨A, 1, none⟩ = some (.int .u8 a1) ∧ w'.cell? ⟨A, 2, none⟩ = some (.int .u8 a2) ∧ w'.cell? ⟨A, 3, none⟩ = some (.int .u64 a3) ∧
  w'.cell? ⟨B, 0, none⟩ = some (.int .u8 b0) ∧ w'.cell? ⟨B, 1, none⟩ = some (.int .u8 b1) ∧ w'.cell? ⟨B, 2, none⟩ = some (.int .u8 b2) ∧ w'.cell? ⟨B, 3, none⟩ = some (.int .u64 b3) ∧
    Res4 w' R ∧ (A < w'.heap.size ∧ B < w'.heap.size ∧ R < w'.heap.size) ∧ Below w.heap.size w w'

theorem NodeS.keep {w W w4 : World} {A B R : Nat} {a0 a1 a2 a3 b0 b1 b2 b3 : Int} (hS : NodeS w A B R a0 a1 a2 a3 b0 b1 b2 b3 W) (hw : w.heap.size ≤ R) (hb : Below W.heap.size W w4) : NodeS w A B R a0 a1 a2 a3 b0 b1 b2 b3 w4 := by
  obtain ⟨h0, h1, h2, h3, g0, g1, g2, g3, h4, ⟨z0, z1, z2⟩, h6⟩ := hS
  have := hb.size
  exact ⟨keepB hb z0 h0, keepB hb z0 h1, keepB hb z0 h2, keepB hb z0 h3, keepB hb z1 g0, keepB hb z1 g1, keepB hb z1 g2, keepB hb z1 g3, h4.below z2 hb, ⟨by omega, by omega, by omega⟩, h6.trans (hb.mono (by omega))⟩

theorem NodeS.store {w W : World} {A B R : Nat} {a0 a1 a2 a3 b0 b1 b2 b3 : Int} (hS : NodeS w A B R a0 a1 a2 a3 b0 b1 b2 b3 W) (hw : w.heap.size ≤ R) (hA : A ≠ R) (hB : B ≠ R) (x0 x1 x2 x3 : Value) :
    NodeS w A B R a0 a1 a2 a3 b0 b1 b2 b3 ((((W.setCell ⟨R, 0, none⟩ x0).setCell ⟨R, 1, none⟩ x1).setCell ⟨R, 2, none⟩ x2).setCell ⟨R, 3, none⟩ x3) := by
  obtain ⟨h0, h1, h2, h3, g0, g1, g2, g3, h4, z, h6⟩ := hS
  have e := size_set4 W R x0 x1 x2 x3
  show NodeS w A B R a0 a1 a2 a3 b0 b1 b2 b3 (set4 W R x0 x1 x2 x3)
  exact ⟨cell_set4 _ _ _ _ _ _ _ _ _ hA h0, cell_set4 _ _ _ _ _ _ _ _ _ hA h1, cell_set4 _ _ _ _ _ _ _ _ _ hA h2, cell_set4 _ _ _ _ _ _ _ _ _ hA h3, cell_set4 _ _ _ _ _ _ _ _ _ hB g0, cell_set4 _ _ _ _ _ _ _ _ _ hB g1, cell_set4 _ _ _ _ _ _ _ _ _ hB g2, cell_set4 _ _ _ _ _ _ _ _ _ hB g3, h4.set4 _ _ _ _, by rw [e]; exact z, below_set4 h6 hw _ _ _ _⟩

set_option maxRecDepth 100000 in
set_option maxHeartbeats 400000 in
/-- A node, its two sides known by contracts. -/
theorem side_node (H : Int) (la : Option Addr) (n cap lv p : Nat) (dl dr : Dg) (nl nr : Int) (w : World) (hlv : lv ≤ 100) (hp : p ≤ 1000) (hl0 : 0 ≤ nl) (hl1 : nl < 18446744073709551616) (hr0 : 0 ≤ nr) (hr1 : nr < 18446744073709551616)
    (hL : ∀ w', Below w.heap.size w w' → Calls Tryz.prog 14 #[treeV H la n cap, .int .i64 (lv : Int), .int .i64 (2 * (p : Int))] w' fun e w'' => e = .returned (sideV dl nl) ∧ Below w'.heap.size w' w'')
    (hR : ∀ w', Below w.heap.size w w' → Calls Tryz.prog 14 #[treeV H la n cap, .int .i64 (lv : Int), .int .i64 (2 * (p : Int) + 1)] w' fun e w'' => e = .returned (sideV dr nr) ∧ Below w'.heap.size w' w'') :
    Calls Tryz.prog 14 #[treeV H la n cap, .int .i64 ((lv : Int) + 1), .int .i64 (p : Int)] w fun e w' => e = .returned (sideV (dg (1 :: (sideB (dl, nl) ++ sideB (dr, nr)))) ((nl + nr) % 18446744073709551616)) ∧ Below w.heap.size w w' := by
  obtain ⟨l0, l1, l2, hdl, tdl⟩ : ∃ l0 l1 l2 : Int, sideV dl nl = .agg #[.int .u8 l0, .int .u8 l1, .int .u8 l2, .int .u64 nl] ∧ ∀ w, Calls Tryz.prog 15 #[.agg #[.int .u8 l0, .int .u8 l1, .int .u8 l2, .int .u64 nl]] w fun e w' => e = .returned (strV (dgB dl ++ longB nl)) ∧ Below w.heap.size w w' :=
    ⟨_, _, _, rfl, fun w => sidetext_any dl nl w hl0 hl1⟩
  obtain ⟨r0, r1, r2, hdr, tdr⟩ : ∃ l0 l1 l2 : Int, sideV dr nr = .agg #[.int .u8 l0, .int .u8 l1, .int .u8 l2, .int .u64 nr] ∧ ∀ w, Calls Tryz.prog 15 #[.agg #[.int .u8 l0, .int .u8 l1, .int .u8 l2, .int .u64 nr]] w fun e w' => e = .returned (strV (dgB dr ++ longB nr)) ∧ Below w.heap.size w w' :=
    ⟨_, _, _, rfl, fun w => sidetext_any dr nr w hr0 hr1⟩
  obtain ⟨TL, hTL⟩ : ∃ T : ByteArray, T = ⟨(dgB dl ++ longB nl).toArray⟩ := ⟨_, rfl⟩
  obtain ⟨TR, hTR⟩ : ∃ T : ByteArray, T = ⟨(dgB dr ++ longB nr).toArray⟩ := ⟨_, rfl⟩
  have sL : TL.size = 11 := by rw [hTL]; simp [ByteArray.size, dgB, longB_length]
  have sR : TR.size = 11 := by rw [hTR]; simp [ByteArray.size, dgB, longB_length]
  have eT : ((⟨#[1]⟩ : ByteArray) ++ TL ++ TR).data.toList = 1 :: (sideB (dl, nl) ++ sideB (dr, nr)) := by rw [hTL, hTR]; simp [ByteArray.data_append, sideB]
  obtain ⟨ns, hns⟩ : ∃ ns : Int, ns = (nl + nr) % 18446744073709551616 := ⟨_, rfl⟩
  have hwr : IntKind.u64.wrap (nl + nr) = ns := by rw [hns, IntKind.wrap_u64]
  obtain ⟨d0, d1, d2, hD⟩ : ∃ d0 d1 d2 : Int, digV (dg (1 :: (sideB (dl, nl) ++ sideB (dr, nr)))) = .agg #[.int .u8 d0, .int .u8 d1, .int .u8 d2] ∧ sideV (dg (1 :: (sideB (dl, nl) ++ sideB (dr, nr)))) ((nl + nr) % 18446744073709551616) = .agg #[.int .u8 d0, .int .u8 d1, .int .u8 d2, .int .u64 ns] := by
    rw [hns]; exact ⟨_, _, _, rfl, rfl⟩
  have HS : ∀ w, Hid (Calls Tryz.prog 37 #[.string (⟨#[1]⟩ ++ TL ++ TR)] w fun e w' => e = .returned (.agg #[.int .u8 d0, .int .u8 d1, .int .u8 d2]) ∧ Below w.heap.size w w') := fun w => by
    have := refsum_any (⟨#[1]⟩ ++ TL ++ TR) w (by rw [ByteArray.size_append, ByteArray.size_append, show (⟨#[1]⟩ : ByteArray).size = 1 from rfl]; unfold maxLen; omega)
    rw [eT, hD.1] at this; exact this
  have HTL : ∀ w, Hid (Calls Tryz.prog 15 #[.agg #[.int .u8 l0, .int .u8 l1, .int .u8 l2, .int .u64 nl]] w fun e w' => e = .returned (.string TL) ∧ Below w.heap.size w w') := fun w => by rw [hTL]; exact tdl w
  have HTR : ∀ w, Hid (Calls Tryz.prog 15 #[.agg #[.int .u8 r0, .int .u8 r1, .int .u8 r2, .int .u64 nr]] w fun e w' => e = .returned (.string TR) ∧ Below w.heap.size w w') := fun w => by rw [hTR]; exact tdr w
  have hsa1 := str_add (P := Tryz.prog) ⟨#[1]⟩ TL (by rw [show (⟨#[1]⟩ : ByteArray).size = 1 from rfl]; omega)
  have hsa2 := str_add (P := Tryz.prog) (⟨#[1]⟩ ++ TL) TR (by rw [ByteArray.size_append, show (⟨#[1]⟩ : ByteArray).size = 1 from rfl]; omega)
  rw [hdl] at hL
  rw [hdr] at hR
  unfold treeV at hL hR ⊢
  have HL := hide hL
  have HR := hide hR
  have HD := hide hD
  clear hD hTL hTR sL sR eT hL hR hdl hdr tdl tdr hl0 hl1 hr0 hr1 hns
  go_enter Tryz.func14, Tryz.ntmps14
  go_wp2_with fail
  generalize hW0 : ((w.alloc (Obj.cells #[Value.int IntKind.i64 H, Value.slice la n cap] 31)).alloc (Obj.cells #[Value.int IntKind.u8 0, Value.int IntKind.u8 0, Value.int IntKind.u8 0, Value.int IntKind.u64 0] 49)) = W0
  have hA0 : Below w.heap.size w W0 := by rw [← hW0]; exact ((Below.refl w.heap.size w).alloc (Nat.le_refl _) _).alloc (by simp) _
  have c0 : W0.cell? ⟨w.heap.size, 0, none⟩ = some (.int .i64 H) := by rw [← hW0]; simp
  have c1 : W0.cell? ⟨w.heap.size, 1, none⟩ = some (.slice la n cap) := by rw [← hW0]; simp
  have hs0 : W0.heap.size = w.heap.size + 2 := by rw [← hW0]; simp
  have hres : Res4 W0 (w.heap.size + 1) := by
    rw [← hW0]
    intro i hi
    match i, hi with
    | 0, _ => simp
    | 1, _ => simp
    | 2, _ => simp
    | 3, _ => simp
  refine (unhide HL _ hA0).mono ?_
  rintro e w1 ⟨rfl, hb1⟩
  have hs1 : w.heap.size + 1 < w1.heap.size := by have := hb1.size; omega
  have hs1' : w.heap.size < w1.heap.size := by omega
  have e0 : w1.cell? ⟨w.heap.size, 0, none⟩ = some (.int .i64 H) := keepB hb1 (by omega) c0
  have e1 : w1.cell? ⟨w.heap.size, 1, none⟩ = some (.slice la n cap) := keepB hb1 (by omega) c1
  have Hres1 := hide (hres.below (by omega) hb1)
  have hA1 : Below w.heap.size w w1 := hA0.trans (hb1.mono (by omega))
  have HA1 := hide hA1
  clear hW0 hA0 c0 c1 hs0 hres hb1 HL hA1
  go_wp2_with fail
  generalize hW1 : (w1.alloc (Obj.cells #[Value.int IntKind.u8 l0, Value.int IntKind.u8 l1, Value.int IntKind.u8 l2, Value.int IntKind.u64 nl] 49)) = W1
  have hA1 : Below w.heap.size w W1 := by rw [← hW1]; exact (unhide HA1).alloc (by omega) _
  have f0 : W1.cell? ⟨w1.heap.size, 0, none⟩ = some (.int .u8 l0) := by rw [← hW1]; simp
  have f1 : W1.cell? ⟨w1.heap.size, 1, none⟩ = some (.int .u8 l1) := by rw [← hW1]; simp
  have f2 : W1.cell? ⟨w1.heap.size, 2, none⟩ = some (.int .u8 l2) := by rw [← hW1]; simp
  have f3 : W1.cell? ⟨w1.heap.size, 3, none⟩ = some (.int .u64 nl) := by rw [← hW1]; simp
  have hsW : W1.heap.size = w1.heap.size + 1 := by rw [← hW1]; simp
  have hres : Res4 W1 (w.heap.size + 1) := by rw [← hW1]; exact (unhide Hres1).below hs1 ((Below.refl _ _).alloc (Nat.le_refl _) _)
  refine (unhide HR _ hA1).mono ?_
  rintro e w2 ⟨rfl, hb2⟩
  have hs2 : w1.heap.size < w2.heap.size := by have := hb2.size; omega
  have g0 := keepB hb2 (by omega) f0
  have g1 := keepB hb2 (by omega) f1
  have g2 := keepB hb2 (by omega) f2
  have g3 := keepB hb2 (by omega) f3
  have Hres2 := hide (hres.below (by omega) hb2)
  have HA2 := hide (hA1.trans (hb2.mono (by omega)))
  clear hW1 hA1 f0 f1 f2 f3 hsW hres hb2 HR e0 e1 HA1 Hres1
  go_wp2_with fail
  generalize hW2 : (w2.alloc (Obj.cells #[Value.int IntKind.u8 r0, Value.int IntKind.u8 r1, Value.int IntKind.u8 r2, Value.int IntKind.u64 nr] 49)) = W2
  have hS : NodeS w w1.heap.size w2.heap.size (w.heap.size + 1) l0 l1 l2 nl r0 r1 r2 nr W2 := by
    rw [← hW2]
    have hA : Below w2.heap.size w2 (w2.alloc (Obj.cells #[Value.int IntKind.u8 r0, Value.int IntKind.u8 r1, Value.int IntKind.u8 r2, Value.int IntKind.u64 nr] 49)) := (Below.refl _ _).alloc (Nat.le_refl _) _
    exact ⟨keepB hA hs2 g0, keepB hA hs2 g1, keepB hA hs2 g2, keepB hA hs2 g3, by simp, by simp, by simp, by simp, (unhide Hres2).below (by omega) hA, ⟨by simp; omega, by simp, by simp; omega⟩, (unhide HA2).trans (hA.mono (by omega))⟩
  have hSd : NodeS w w1.heap.size w2.heap.size (w.heap.size + 1) l0 l1 l2 nl r0 r1 r2 nr W2.drew := ⟨hS.1, hS.2.1, hS.2.2.1, hS.2.2.2.1, hS.2.2.2.2.1, hS.2.2.2.2.2.1, hS.2.2.2.2.2.2.1, hS.2.2.2.2.2.2.2.1, hS.2.2.2.2.2.2.2.2.1, hS.2.2.2.2.2.2.2.2.2.1, hS.2.2.2.2.2.2.2.2.2.2.drew⟩
  have nA : w1.heap.size ≠ w.heap.size + 1 := by omega
  have nB : w2.heap.size ≠ w.heap.size + 1 := by omega
  clear hW2 hS g0 g1 g2 g3 Hres2 HA2
  go_region_held3 (fun w' => w'.cell? ⟨w1.heap.size, 0, none⟩ = some (.int .u8 l0) ∧ w'.cell? ⟨w1.heap.size, 1, none⟩ = some (.int .u8 l1) ∧ w'.cell? ⟨w1.heap.size, 2, none⟩ = some (.int .u8 l2) ∧ w'.cell? ⟨w1.heap.size, 3, none⟩ = some (.int .u64 nl) ∧
      w'.cell? ⟨w2.heap.size, 0, none⟩ = some (.int .u8 r0) ∧ w'.cell? ⟨w2.heap.size, 1, none⟩ = some (.int .u8 r1) ∧ w'.cell? ⟨w2.heap.size, 2, none⟩ = some (.int .u8 r2) ∧ w'.cell? ⟨w2.heap.size, 3, none⟩ = some (.int .u64 nr) ∧
      Res4 w' (w.heap.size + 1) ∧ (w1.heap.size < w'.heap.size ∧ w2.heap.size < w'.heap.size ∧ w.heap.size + 1 < w'.heap.size) ∧ Below w.heap.size w w')
    (first | with_reducible exact hS6 | with_reducible exact hS5 | with_reducible exact hS4 | with_reducible exact hSd | with_reducible exact NodeS.store hS6 (Nat.le_succ _) nA nB _ _ _ _)
    (first
      | (go_at_call_of 15 nl; refine (unhide (HTL _)).mono ?_; rintro e w4 ⟨rfl, hb4⟩; have hS4 := NodeS.keep hSd (Nat.le_succ _) hb4)
      | (go_at_call_of 15 nr; refine (unhide (HTR _)).mono ?_; rintro e w5 ⟨rfl, hb5⟩; have hS5 := NodeS.keep hS4 (Nat.le_succ _) hb5)
      | (go_at_call 37; refine (unhide (HS _)).mono ?_; rintro e w6 ⟨rfl, hb6⟩; have hS6 := NodeS.keep hS5 (Nat.le_succ _) hb6; obtain ⟨x0, x1, x2, x3, k0, k1, k2, k3, j0, j1, j2, j3⟩ := hS6.2.2.2.2.2.2.2.2.1.cells))
  have HB := hide hS6.2.2.2.2.2.2.2.2.2.2
  clear hS6 hS5 hS4 hSd
  go_wp2
  refine bodyPost_ret (v := sideV (dg (1 :: (sideB (dl, nl) ++ sideB (dr, nr)))) ((nl + nr) % 18446744073709551616)) ?_ rfl ⟨rfl, ?_⟩
  · rw [(unhide HD).2]
    simp [results, Tryz.results14, go_sem, k0, k1, k2, k3]
  · exact ((((unhide HB).setCell (by simp) _).setCell (by simp) _).setCell (by simp) _).setCell (by simp) _

end Go.Proofs.YtbjobbkgelipmaaGreat
