/-
  The walk of titheref's Tree.Side, at a leaf.
-/
import Derived.Test.YtbjobbkgelipmaaGreatSide
namespace Go.Proofs.YtbjobbkgelipmaaGreat
open Go.RowKit

/-- Four cells that may be written. -/
def Res4 (w : World) (R : Nat) : Prop := ∀ i, i < 4 → (w.cell? ⟨R, i, none⟩).isSome = true ∧ w.frozen? ⟨R, i, none⟩ = false

theorem Res4.below {W w4 : World} {R : Nat} (h : Res4 W R) (hlt : R < W.heap.size) (hb : Below W.heap.size W w4) : Res4 w4 R := by
  intro i hi
  rw [(bcell hb).1 _ _ hlt, (bcell hb).2 _ _ hlt]
  exact h i hi

theorem Res4.set {W : World} {R : Nat} (h : Res4 W R) (a : Addr) (v : Value) : Res4 (W.setCell a v) R := by
  intro i hi
  refine ⟨?_, ?_⟩
  · obtain ⟨v', hv⟩ := Option.isSome_iff_exists.1 (h i hi).1
    obtain ⟨v'', hv'⟩ := cell?_setCell_some (w := W) (p := a) (x := v) (q := ⟨R, i, none⟩) (v := v') hv
    rw [hv']; rfl
  · rw [World.frozen?_setCell]; exact (h i hi).2

theorem Res4.cells {W : World} {R : Nat} (h : Res4 W R) : ∃ r0 r1 r2 r3, W.cell? ⟨R, 0, none⟩ = some r0 ∧ W.cell? ⟨R, 1, none⟩ = some r1 ∧ W.cell? ⟨R, 2, none⟩ = some r2 ∧ W.cell? ⟨R, 3, none⟩ = some r3 ∧
    W.frozen? ⟨R, 0, none⟩ = false ∧ W.frozen? ⟨R, 1, none⟩ = false ∧ W.frozen? ⟨R, 2, none⟩ = false ∧ W.frozen? ⟨R, 3, none⟩ = false := by
  obtain ⟨r0, h0⟩ := Option.isSome_iff_exists.1 (h 0 (by omega)).1
  obtain ⟨r1, h1⟩ := Option.isSome_iff_exists.1 (h 1 (by omega)).1
  obtain ⟨r2, h2⟩ := Option.isSome_iff_exists.1 (h 2 (by omega)).1
  obtain ⟨r3, h3⟩ := Option.isSome_iff_exists.1 (h 3 (by omega)).1
  exact ⟨r0, r1, r2, r3, h0, h1, h2, h3, (h 0 (by omega)).2, (h 1 (by omega)).2, (h 2 (by omega)).2, (h 3 (by omega)).2⟩

def set4 (W : World) (R : Nat) (a b c d : Value) : World := (((W.setCell ⟨R, 0, none⟩ a).setCell ⟨R, 1, none⟩ b).setCell ⟨R, 2, none⟩ c).setCell ⟨R, 3, none⟩ d

theorem cell_set4 (W : World) (R b' o : Nat) (a b c d v : Value) (hne : b' ≠ R) (h : W.cell? ⟨b', o, none⟩ = some v) : (set4 W R a b c d).cell? ⟨b', o, none⟩ = some v := by
  unfold set4
  have e : ∀ (W : World) (i : Nat) (x : Value), (W.setCell ⟨R, i, none⟩ x).cell? ⟨b', o, none⟩ = W.cell? ⟨b', o, none⟩ := fun W i x =>
    World.cell?_of_block (w := W) (Below.heap_setCell W _ _ _ (by simpa using hne))
  rw [e, e, e, e]; exact h
theorem Res4.set4 {W : World} {R R' : Nat} (h : Res4 W R) (a b c d : Value) : Res4 (set4 W R' a b c d) R := (((h.set _ _).set _ _).set _ _).set _ _
theorem below_set4 {w W : World} {R : Nat} (hb : Below w.heap.size w W) (hR : w.heap.size ≤ R) (a b c d : Value) : Below w.heap.size w (set4 W R a b c d) :=
  (((hb.setCell (by exact hR) _).setCell (by exact hR) _).setCell (by exact hR) _).setCell (by exact hR) _
theorem size_set4 (W : World) (R : Nat) (a b c d : Value) : (set4 W R a b c d).heap.size = W.heap.size := by simp [set4]

/-- What the region at a leaf leans on. -/
abbrev SideS (w : World) (b o B R : Nat) (vs : Value) (nm : ByteArray) (bal salt : Int) (w' : World) : Prop :=
  w'.cell? ⟨B, 1, none⟩ = some vs ∧ w'.cell? ⟨b, o, none⟩ = some (.string nm) ∧ w'.cell? ⟨b, o + 1, none⟩ = some (.int .u64 bal) ∧ w'.cell? ⟨b, o + 2, none⟩ = some (.int .u64 salt) ∧
    Res4 w' R ∧ (B < w'.heap.size ∧ b < w'.heap.size ∧ R < w'.heap.size) ∧ Below w.heap.size w w'

theorem SideS.keep {w W w4 : World} {b o B R : Nat} {vs : Value} {nm : ByteArray} {bal salt : Int} (hS : SideS w b o B R vs nm bal salt W) (hw : w.heap.size ≤ R) (hb : Below W.heap.size W w4) : SideS w b o B R vs nm bal salt w4 := by
  obtain ⟨h0, h1, h2, h3, h4, ⟨z0, z1, z2⟩, h6⟩ := hS
  have := hb.size
  exact ⟨keepB hb z0 h0, keepB hb z1 h1, keepB hb z1 h2, keepB hb z1 h3, h4.below z2 hb, ⟨by omega, by omega, by omega⟩, h6.trans (hb.mono (by omega))⟩

theorem SideS.store {w W : World} {b o B R : Nat} {vs : Value} {nm : ByteArray} {bal salt : Int} (hS : SideS w b o B R vs nm bal salt W) (hw : w.heap.size ≤ R) (hB : B ≠ R) (hbR : b ≠ R) (x0 x1 x2 x3 : Value) :
    SideS w b o B R vs nm bal salt ((((W.setCell ⟨R, 0, none⟩ x0).setCell ⟨R, 1, none⟩ x1).setCell ⟨R, 2, none⟩ x2).setCell ⟨R, 3, none⟩ x3) := by
  obtain ⟨h0, h1, h2, h3, h4, z, h6⟩ := hS
  have e := size_set4 W R x0 x1 x2 x3
  show SideS w b o B R vs nm bal salt (set4 W R x0 x1 x2 x3)
  exact ⟨cell_set4 _ _ _ _ _ _ _ _ _ hB h0, cell_set4 _ _ _ _ _ _ _ _ _ hbR h1, cell_set4 _ _ _ _ _ _ _ _ _ hbR h2, cell_set4 _ _ _ _ _ _ _ _ _ hbR h3, h4.set4 _ _ _ _, by rw [e]; exact z, below_set4 h6 hw _ _ _ _⟩

theorem leafB_length (nm : List UInt8) (bal salt : Int) : (leafB nm bal salt).length = nm.length + 17 := by
  simp only [leafB, List.length_append, longB_length, List.length_cons, List.length_nil]; omega

set_option maxRecDepth 100000 in
set_option maxHeartbeats 400000 in
/-- A leaf. -/
theorem side_leaf (H : Int) (b off n cap p : Nat) (nm : ByteArray) (bal salt : Int) (w : World) (hn : p < n) (_hp : n ≤ 1048576) (hok : LeafD.ok ⟨nm, bal, salt⟩) (hlt : b < w.heap.size)
    (c0 : w.cell? ⟨b, off + p * 3, none⟩ = some (.string nm)) (c1 : w.cell? ⟨b, off + p * 3 + 1, none⟩ = some (.int .u64 bal)) (c2 : w.cell? ⟨b, off + p * 3 + 2, none⟩ = some (.int .u64 salt)) :
    Calls Tryz.prog 14 #[treeV H (some ⟨b, off, none⟩) n cap, .int .i64 0, .int .i64 (p : Int)] w fun e w' => e = .returned (sideV (dg (0 :: leafB nm.data.toList bal salt)) bal) ∧ Below w.heap.size w w' := by
  unfold treeV
  obtain ⟨T, hT⟩ : ∃ T : ByteArray, T = ⟨(leafB nm.data.toList bal salt).toArray⟩ := ⟨_, rfl⟩
  have sT : T.size ≤ 1000 := by
    have h8 : nm.size ≤ 8 := hok.1
    rw [hT]
    have e1 : (⟨(leafB nm.data.toList bal salt).toArray⟩ : ByteArray).size = (leafB nm.data.toList bal salt).length := by simp [ByteArray.size]
    rw [e1, leafB_length]
    have e2 : nm.data.toList.length = nm.size := by simp
    omega
  have eT : ((⟨#[0]⟩ : ByteArray) ++ T).data.toList = 0 :: leafB nm.data.toList bal salt := by rw [hT]; simp [ByteArray.data_append]
  obtain ⟨d0, d1, d2, hD⟩ : ∃ d0 d1 d2 : Int, digV (dg (0 :: leafB nm.data.toList bal salt)) = .agg #[.int .u8 d0, .int .u8 d1, .int .u8 d2] ∧ sideV (dg (0 :: leafB nm.data.toList bal salt)) bal = .agg #[.int .u8 d0, .int .u8 d1, .int .u8 d2, .int .u64 bal] := ⟨_, _, _, rfl, rfl⟩
  have HR : ∀ w, Hid (Calls Tryz.prog 37 #[.string (⟨#[0]⟩ ++ T)] w fun e w' => e = .returned (.agg #[.int .u8 d0, .int .u8 d1, .int .u8 d2]) ∧ Below w.heap.size w w') := fun w => by
    have := refsum_any (⟨#[0]⟩ ++ T) w (by rw [ByteArray.size_append, show (⟨#[0]⟩ : ByteArray).size = 1 from rfl]; unfold maxLen; omega)
    rw [eT, hD.1] at this; exact this
  have HT : ∀ w, Hid (Calls Tryz.prog 16 #[.agg #[.string nm, .int .u64 bal, .int .u64 salt]] w fun e w' => e = .returned (.string T) ∧ Below w.heap.size w w') := fun w => by
    have := leaftext_any nm bal salt w hok.1 hok.2.1 hok.2.2.1 hok.2.2.2.1 hok.2.2.2.2
    rw [hT]; exact this
  have hsa := str_add (P := Tryz.prog) ⟨#[0]⟩ T (by rw [show (⟨#[0]⟩ : ByteArray).size = 1 from rfl]; omega)
  have HD := hide hD
  have HO := hide hok
  clear hD hT sT eT hok
  go_enter Tryz.func14, Tryz.ntmps14
  go_wp2_with fail
  generalize hW : ((w.alloc (Obj.cells #[Value.int IntKind.i64 H, Value.slice (some ⟨b, off, none⟩) n cap] 31)).alloc (Obj.cells #[Value.int IntKind.u8 0, Value.int IntKind.u8 0, Value.int IntKind.u8 0, Value.int IntKind.u64 0] 49)) = W
  have hS : SideS w b (off + p * 3) w.heap.size (w.heap.size + 1) (Value.slice (some ⟨b, off, none⟩) n cap) nm bal salt W := by
    rw [← hW]
    have hA : Below w.heap.size w ((w.alloc (Obj.cells #[Value.int IntKind.i64 H, Value.slice (some ⟨b, off, none⟩) n cap] 31)).alloc (Obj.cells #[Value.int IntKind.u8 0, Value.int IntKind.u8 0, Value.int IntKind.u8 0, Value.int IntKind.u64 0] 49)) := ((Below.refl w.heap.size w).alloc (Nat.le_refl _) _).alloc (by simp) _
    refine ⟨by simp, keepB hA hlt c0, keepB hA hlt c1, keepB hA hlt c2, ?_, ⟨by simp; omega, by simp; omega, by simp⟩, hA⟩
    intro i hi
    match i, hi with
    | 0, _ => simp
    | 1, _ => simp
    | 2, _ => simp
    | 3, _ => simp
  clear hW c0 c1 c2
  have hbR : b ≠ w.heap.size + 1 := by omega
  have hSd : SideS w b (off + p * 3) w.heap.size (w.heap.size + 1) (Value.slice (some ⟨b, off, none⟩) n cap) nm bal salt W.drew := ⟨hS.1, hS.2.1, hS.2.2.1, hS.2.2.2.1, hS.2.2.2.2.1, hS.2.2.2.2.2.1, hS.2.2.2.2.2.2.drew⟩
  clear hS
  go_region_held3 (fun w' => w'.cell? ⟨w.heap.size, 1, none⟩ = some (Value.slice (some ⟨b, off, none⟩) n cap) ∧ w'.cell? ⟨b, off + p * 3, none⟩ = some (.string nm) ∧ w'.cell? ⟨b, off + p * 3 + 1, none⟩ = some (.int .u64 bal) ∧ w'.cell? ⟨b, off + p * 3 + 2, none⟩ = some (.int .u64 salt) ∧
      Res4 w' (w.heap.size + 1) ∧ (w.heap.size < w'.heap.size ∧ b < w'.heap.size ∧ w.heap.size + 1 < w'.heap.size) ∧ Below w.heap.size w w')
    (first | with_reducible exact hS5 | with_reducible exact hS4 | with_reducible exact hSd | with_reducible exact SideS.store hS5 (Nat.le_succ _) (Nat.ne_of_lt (Nat.lt_succ_self _)) hbR _ _ _ _)
    (first
      | (go_at_call 16; refine (unhide (HT _)).mono ?_; rintro e w4 ⟨rfl, hb4⟩; have hS4 := SideS.keep hSd (Nat.le_succ _) hb4)
      | (go_at_call 37; refine (unhide (HR _)).mono ?_; rintro e w5 ⟨rfl, hb5⟩; have hS5 := SideS.keep hS4 (Nat.le_succ _) hb5; obtain ⟨r0, r1, r2, r3, g0, g1, g2, g3, f0, f1, f2, f3⟩ := hS5.2.2.2.2.1.cells))
  have HB := hide hS5.2.2.2.2.2.2
  clear hS5 hS4 hSd
  go_wp2
  refine bodyPost_ret (v := sideV (dg (0 :: leafB nm.data.toList bal salt)) bal) ?_ rfl ⟨rfl, ?_⟩
  · rw [(unhide HD).2]
    simp [results, Tryz.results14, go_sem, g0, g1, g2, g3]
  · exact ((((unhide HB).setCell (by simp) _).setCell (by simp) _).setCell (by simp) _).setCell (by simp) _

end Go.Proofs.YtbjobbkgelipmaaGreat
