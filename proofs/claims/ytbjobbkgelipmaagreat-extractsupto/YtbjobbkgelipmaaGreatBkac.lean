/-
  The walk of titheref's Tree.Side.
-/
import Derived.StillTailTactics
import Derived.OwnWalk
import Derived.Lib.AppendStr
import Derived.Test.YtbjobbkgelipmaaGreatBkab
import Derived.Test.YtbjobbkgelipmaaGreatBkaa
namespace Go.Proofs.YtbjobbkgelipmaaGreat
open Go.RowKit

/-- A leaf: its name, its balance, its salt. -/
structure LeafD where
  nm : ByteArray
  bal : Int
  salt : Int

def LeafD.ok (x : LeafD) : Prop := x.nm.size ≤ 8 ∧ 0 ≤ x.bal ∧ x.bal < 18446744073709551616 ∧ 0 ≤ x.salt ∧ x.salt < 18446744073709551616

/-- A side's text. -/
def sideB (x : Dg × Int) : List UInt8 := dgB x.1 ++ longB x.2

/-- What stands at a place of a level. -/
def sideT (ls : List LeafD) : Nat → Nat → Dg × Int
  | 0, p => match ls[p]? with
    | some x => (dg (0 :: leafB x.nm.data.toList x.bal x.salt), x.bal)
    | none => (dg [2, UInt8.ofNat p], 0)
  | h + 1, p => (dg (1 :: (sideB (sideT ls h (2 * p)) ++ sideB (sideT ls h (2 * p + 1)))), ((sideT ls h (2 * p)).2 + (sideT ls h (2 * p + 1)).2) % 18446744073709551616)

/-- Leaves that lie in memory. -/
structure LeavesAt (w : World) (b off : Nat) (ls : List LeafD) : Prop where
  lt : b < w.heap.size
  cells : ∀ i (h : i < ls.length), w.cell? ⟨b, off + i * 3, none⟩ = some (.string ls[i].nm) ∧ w.cell? ⟨b, off + i * 3 + 1, none⟩ = some (.int .u64 ls[i].bal) ∧ w.cell? ⟨b, off + i * 3 + 2, none⟩ = some (.int .u64 ls[i].salt)
  ok : ∀ x ∈ ls, x.ok

theorem LeavesAt.below {w w' : World} {B b off : Nat} {ls : List LeafD} (h : LeavesAt w b off ls) (hb : Below B w w') (hlt : b < B) : LeavesAt w' b off ls := by
  have e : ∀ o, w'.cell? ⟨b, o, none⟩ = w.cell? ⟨b, o, none⟩ := fun o => hb.cell (p := ⟨b, o, none⟩) hlt
  refine ⟨Nat.lt_of_lt_of_le h.lt hb.size, fun i hi => ?_, h.ok⟩
  obtain ⟨h0, h1, h2⟩ := h.cells i hi
  exact ⟨(e _).trans h0, (e _).trans h1, (e _).trans h2⟩

def treeV (H : Int) (la : Option Addr) (n cap : Nat) : Value := .agg #[.int .i64 H, .slice la n cap]

set_option maxRecDepth 100000 in
set_option maxHeartbeats 400000 in
/-- A pad. -/
theorem side_pad (H : Int) (la : Option Addr) (n cap p : Nat) (w : World) (hn : n ≤ p) (hp : p < 256) :
    Calls Tryz.prog 14 #[treeV H la n cap, .int .i64 0, .int .i64 (p : Int)] w fun e w' => e = .returned (sideV (dg [2, UInt8.ofNat p]) 0) ∧ Below w.heap.size w w' := by
  unfold treeV
  have hwr : (p : Int) % 256 = (p : Int) := by omega
  have hcv : ∀ b w, w.cell? ⟨b, 0, none⟩ = some (.int .u8 2) → w.cell? ⟨b, 1, none⟩ = some (.int .u8 (p : Int)) → (convert 51 9 (.slice (some ⟨b, 0, none⟩) 2 2)).run Tryz.prog w = .ok (.string ⟨#[2, UInt8.ofNat p]⟩) w := by
    intro b w h0 h1
    have e : (p : Int) = ((UInt8.ofNat p).toNat : Int) := by rw [UInt8.toNat_ofNat_of_lt' (by simpa using hp)]
    have hh := run_convert_bytes_back (P := Tryz.prog) w 51 9 5 ⟨b, 0, none⟩ 2 [2, UInt8.ofNat p] Tryz.underlying51 Tryz.underlying5 Tryz.underlying9 (by
      intro j hj
      match j, hj with
      | 0, _ => rw [addr_add]; exact h0
      | 1, _ => rw [addr_add]; rw [h1]; exact congrArg (fun y => some (Value.int .u8 y)) e)
    simpa using hh
  obtain ⟨T, hT⟩ : ∃ T : ByteArray, T = ⟨#[2, UInt8.ofNat p]⟩ := ⟨_, rfl⟩
  rw [← hT] at hcv
  obtain ⟨d0, d1, d2, hD⟩ : ∃ d0 d1 d2 : Int, digV (dg [2, UInt8.ofNat p]) = .agg #[.int .u8 d0, .int .u8 d1, .int .u8 d2] ∧ sideV (dg [2, UInt8.ofNat p]) 0 = .agg #[.int .u8 d0, .int .u8 d1, .int .u8 d2, .int .u64 0] := ⟨_, _, _, rfl, rfl⟩
  have HR : ∀ w, Hid (Calls Tryz.prog 37 #[.string T] w fun e w' => e = .returned (.agg #[.int .u8 d0, .int .u8 d1, .int .u8 d2]) ∧ Below w.heap.size w w') := fun w => by rw [hT, ← hD.1]; exact refsum_any _ w (by unfold maxLen; simp [ByteArray.size])
  have HD := hide hD
  clear hD hT
  go_enter Tryz.func14, Tryz.ntmps14
  go_wp2_with (first | (go_at_call 37; refine (unhide (HR _)).mono ?_; rintro e w4 ⟨rfl, hb4⟩; have k4 := bcell hb4; have z4 := hb4.size; simp [Nat.add_one_le_iff] at z4))
  refine bodyPost_ret (v := sideV (dg [2, UInt8.ofNat p]) 0) ?_ rfl ⟨rfl, ?_⟩
  · rw [(unhide HD).2]
    simp [results, Tryz.results14, go_sem, k4.1]
  · have hA : Below w.heap.size w w4 := ((((Below.refl w.heap.size w).alloc (Nat.le_refl _) _).alloc (by simp) _).alloc (by simp; omega) _).trans (hb4.mono (by simp; omega))
    exact (((hA.setCell (by simp) _).setCell (by simp) _).setCell (by simp) _).setCell (by simp) _

end Go.Proofs.YtbjobbkgelipmaaGreat

/-
  The walk of titheref's Tree.Side, at a leaf.
-/
namespace Go.Proofs.YtbjobbkgelipmaaGreat
open Go.RowKit

/-- Four cells that may be written. -/
def Res4 (w : World) (R : Nat) : Prop := ∀ i, i < 4 → (w.cell? ⟨R, i, none⟩).isSome = true ∧ w.frozen? ⟨R, i, none⟩ = false

theorem Res4.below {W w4 : World} {R : Nat} (h : Res4 W R) (hlt : R < W.heap.size) (hb : Below W.heap.size W w4) : Res4 w4 R := by
  intro i hi
  rw [(bcell hb).1 _ _ hlt, (bcell hb).2 _ _ hlt]
  exact h i hi

theorem Res4.set {W : World} {R : Nat} (h : Res4 W R) (a : Addr) (v : Value) : Res4 (W.setCell a v) R := by
  intro i hi
  refine ⟨?_, ?_⟩
  · obtain ⟨v', hv⟩ := Option.isSome_iff_exists.1 (h i hi).1
    obtain ⟨v'', hv'⟩ := cell?_setCell_some (w := W) (p := a) (x := v) (q := ⟨R, i, none⟩) (v := v') hv
    rw [hv']; rfl
  · rw [World.frozen?_setCell]; exact (h i hi).2

theorem Res4.cells {W : World} {R : Nat} (h : Res4 W R) : ∃ r0 r1 r2 r3, W.cell? ⟨R, 0, none⟩ = some r0 ∧ W.cell? ⟨R, 1, none⟩ = some r1 ∧ W.cell? ⟨R, 2, none⟩ = some r2 ∧ W.cell? ⟨R, 3, none⟩ = some r3 ∧
    W.frozen? ⟨R, 0, none⟩ = false ∧ W.frozen? ⟨R, 1, none⟩ = false ∧ W.frozen? ⟨R, 2, none⟩ = false ∧ W.frozen? ⟨R, 3, none⟩ = false := by
  obtain ⟨r0, h0⟩ := Option.isSome_iff_exists.1 (h 0 (by omega)).1
  obtain ⟨r1, h1⟩ := Option.isSome_iff_exists.1 (h 1 (by omega)).1
  obtain ⟨r2, h2⟩ := Option.isSome_iff_exists.1 (h 2 (by omega)).1
  obtain ⟨r3, h3⟩ := Option.isSome_iff_exists.1 (h 3 (by omega)).1
  exact ⟨r0, r1, r2, r3, h0, h1, h2, h3, (h 0 (by omega)).2, (h 1 (by omega)).2, (h 2 (by omega)).2, (h 3 (by omega)).2⟩

def set4 (W : World) (R : Nat) (a b c d : Value) : World := (((W.setCell ⟨R, 0, none⟩ a).setCell ⟨R, 1, none⟩ b).setCell ⟨R, 2, none⟩ c).setCell ⟨R, 3, none⟩ d

theorem cell_set4 (W : World) (R b' o : Nat) (a b c d v : Value) (hne : b' ≠ R) (h : W.cell? ⟨b', o, none⟩ = some v) : (set4 W R a b c d).cell? ⟨b', o, none⟩ = some v := by
  unfold set4
  have e : ∀ (W : World) (i : Nat) (x : Value), (W.setCell ⟨R, i, none⟩ x).cell? ⟨b', o, none⟩ = W.cell? ⟨b', o, none⟩ := fun W i x =>
    World.cell?_of_block (w := W) (Below.heap_setCell W _ _ _ (by simpa using hne))
  rw [e, e, e, e]; exact h
theorem Res4.set4 {W : World} {R R' : Nat} (h : Res4 W R) (a b c d : Value) : Res4 (set4 W R' a b c d) R := (((h.set _ _).set _ _).set _ _).set _ _
theorem below_set4 {w W : World} {R : Nat} (hb : Below w.heap.size w W) (hR : w.heap.size ≤ R) (a b c d : Value) : Below w.heap.size w (set4 W R a b c d) :=
  (((hb.setCell (by exact hR) _).setCell (by exact hR) _).setCell (by exact hR) _).setCell (by exact hR) _
theorem size_set4 (W : World) (R : Nat) (a b c d : Value) : (set4 W R a b c d).heap.size = W.heap.size := by simp [set4]

/-- What the region at a leaf leans on. -/
abbrev SideS (w : World) (b o B R : Nat) (vs : Value) (nm : ByteArray) (bal salt : Int) (w' : World) : Prop :=
  w'.cell? ⟨B, 1, none⟩ = some vs ∧ w'.cell? ⟨b, o, none⟩ = some (.string nm) ∧ w'.cell? ⟨b, o + 1, none⟩ = some (.int .u64 bal) ∧ w'.cell? ⟨b, o + 2, none⟩ = some (.int .u64 salt) ∧
    Res4 w' R ∧ (B < w'.heap.size ∧ b < w'.heap.size ∧ R < w'.heap.size) ∧ Below w.heap.size w w'

theorem SideS.keep {w W w4 : World} {b o B R : Nat} {vs : Value} {nm : ByteArray} {bal salt : Int} (hS : SideS w b o B R vs nm bal salt W) (hw : w.heap.size ≤ R) (hb : Below W.heap.size W w4) : SideS w b o B R vs nm bal salt w4 := by
  obtain ⟨h0, h1, h2, h3, h4, ⟨z0, z1, z2⟩, h6⟩ := hS
  have := hb.size
  exact ⟨keepB hb z0 h0, keepB hb z1 h1, keepB hb z1 h2, keepB hb z1 h3, h4.below z2 hb, ⟨by omega, by omega, by omega⟩, h6.trans (hb.mono (by omega))⟩

theorem SideS.store {w W : World} {b o B R : Nat} {vs : Value} {nm : ByteArray} {bal salt : Int} (hS : SideS w b o B R vs nm bal salt W) (hw : w.heap.size ≤ R) (hB : B ≠ R) (hbR : b ≠ R) (x0 x1 x2 x3 : Value) :
    SideS w b o B R vs nm bal salt ((((W.setCell ⟨R, 0, none⟩ x0).setCell ⟨R, 1, none⟩ x1).setCell ⟨R, 2, none⟩ x2).setCell ⟨R, 3, none⟩ x3) := by
  obtain ⟨h0, h1, h2, h3, h4, z, h6⟩ := hS
  have e := size_set4 W R x0 x1 x2 x3
  show SideS w b o B R vs nm bal salt (set4 W R x0 x1 x2 x3)
  exact ⟨cell_set4 _ _ _ _ _ _ _ _ _ hB h0, cell_set4 _ _ _ _ _ _ _ _ _ hbR h1, cell_set4 _ _ _ _ _ _ _ _ _ hbR h2, cell_set4 _ _ _ _ _ _ _ _ _ hbR h3, h4.set4 _ _ _ _, by rw [e]; exact z, below_set4 h6 hw _ _ _ _⟩

theorem leafB_length (nm : List UInt8) (bal salt : Int) : (leafB nm bal salt).length = nm.length + 17 := by
  simp only [leafB, List.length_append, longB_length, List.length_cons, List.length_nil]; omega

set_option maxRecDepth 100000 in
set_option maxHeartbeats 400000 in
/-- A leaf. -/
theorem side_leaf (H : Int) (b off n cap p : Nat) (nm : ByteArray) (bal salt : Int) (w : World) (hn : p < n) (_hp : n ≤ 1048576) (hok : LeafD.ok ⟨nm, bal, salt⟩) (hlt : b < w.heap.size)
    (c0 : w.cell? ⟨b, off + p * 3, none⟩ = some (.string nm)) (c1 : w.cell? ⟨b, off + p * 3 + 1, none⟩ = some (.int .u64 bal)) (c2 : w.cell? ⟨b, off + p * 3 + 2, none⟩ = some (.int .u64 salt)) :
    Calls Tryz.prog 14 #[treeV H (some ⟨b, off, none⟩) n cap, .int .i64 0, .int .i64 (p : Int)] w fun e w' => e = .returned (sideV (dg (0 :: leafB nm.data.toList bal salt)) bal) ∧ Below w.heap.size w w' := by
  unfold treeV
  obtain ⟨T, hT⟩ : ∃ T : ByteArray, T = ⟨(leafB nm.data.toList bal salt).toArray⟩ := ⟨_, rfl⟩
  have sT : T.size ≤ 1000 := by
    have h8 : nm.size ≤ 8 := hok.1
    rw [hT]
    have e1 : (⟨(leafB nm.data.toList bal salt).toArray⟩ : ByteArray).size = (leafB nm.data.toList bal salt).length := by simp [ByteArray.size]
    rw [e1, leafB_length]
    have e2 : nm.data.toList.length = nm.size := by simp
    omega
  have eT : ((⟨#[0]⟩ : ByteArray) ++ T).data.toList = 0 :: leafB nm.data.toList bal salt := by rw [hT]; simp [ByteArray.data_append]
  obtain ⟨d0, d1, d2, hD⟩ : ∃ d0 d1 d2 : Int, digV (dg (0 :: leafB nm.data.toList bal salt)) = .agg #[.int .u8 d0, .int .u8 d1, .int .u8 d2] ∧ sideV (dg (0 :: leafB nm.data.toList bal salt)) bal = .agg #[.int .u8 d0, .int .u8 d1, .int .u8 d2, .int .u64 bal] := ⟨_, _, _, rfl, rfl⟩
  have HR : ∀ w, Hid (Calls Tryz.prog 37 #[.string (⟨#[0]⟩ ++ T)] w fun e w' => e = .returned (.agg #[.int .u8 d0, .int .u8 d1, .int .u8 d2]) ∧ Below w.heap.size w w') := fun w => by
    have := refsum_any (⟨#[0]⟩ ++ T) w (by rw [ByteArray.size_append, show (⟨#[0]⟩ : ByteArray).size = 1 from rfl]; unfold maxLen; omega)
    rw [eT, hD.1] at this; exact this
  have HT : ∀ w, Hid (Calls Tryz.prog 16 #[.agg #[.string nm, .int .u64 bal, .int .u64 salt]] w fun e w' => e = .returned (.string T) ∧ Below w.heap.size w w') := fun w => by
    have := leaftext_any nm bal salt w hok.1 hok.2.1 hok.2.2.1 hok.2.2.2.1 hok.2.2.2.2
    rw [hT]; exact this
  have hsa := str_add (P := Tryz.prog) ⟨#[0]⟩ T (by rw [show (⟨#[0]⟩ : ByteArray).size = 1 from rfl]; omega)
  have HD := hide hD
  have HO := hide hok
  clear hD hT sT eT hok
  go_enter Tryz.func14, Tryz.ntmps14
  go_wp2_with fail
  generalize hW : ((w.alloc (Obj.cells #[Value.int IntKind.i64 H, Value.slice (some ⟨b, off, none⟩) n cap] 31)).alloc (Obj.cells #[Value.int IntKind.u8 0, Value.int IntKind.u8 0, Value.int IntKind.u8 0, Value.int IntKind.u64 0] 49)) = W
  have hS : SideS w b (off + p * 3) w.heap.size (w.heap.size + 1) (Value.slice (some ⟨b, off, none⟩) n cap) nm bal salt W := by
    rw [← hW]
    have hA : Below w.heap.size w ((w.alloc (Obj.cells #[Value.int IntKind.i64 H, Value.slice (some ⟨b, off, none⟩) n cap] 31)).alloc (Obj.cells #[Value.int IntKind.u8 0, Value.int IntKind.u8 0, Value.int IntKind.u8 0, Value.int IntKind.u64 0] 49)) := ((Below.refl w.heap.size w).alloc (Nat.le_refl _) _).alloc (by simp) _
    refine ⟨by simp, keepB hA hlt c0, keepB hA hlt c1, keepB hA hlt c2, ?_, ⟨by simp; omega, by simp; omega, by simp⟩, hA⟩
    intro i hi
    match i, hi with
    | 0, _ => simp
    | 1, _ => simp
    | 2, _ => simp
    | 3, _ => simp
  clear hW c0 c1 c2
  have hbR : b ≠ w.heap.size + 1 := by omega
  have hSd : SideS w b (off + p * 3) w.heap.size (w.heap.size + 1) (Value.slice (some ⟨b, off, none⟩) n cap) nm bal salt W.drew := ⟨hS.1, hS.2.1, hS.2.2.1, hS.2.2.2.1, hS.2.2.2.2.1, hS.2.2.2.2.2.1, hS.2.2.2.2.2.2.drew⟩
  clear hS
  go_region_held3 (fun w' => w'.cell? ⟨w.heap.size, 1, none⟩ = some (Value.slice (some ⟨b, off, none⟩) n cap) ∧ w'.cell? ⟨b, off + p * 3, none⟩ = some (.string nm) ∧ w'.cell? ⟨b, off + p * 3 + 1, none⟩ = some (.int .u64 bal) ∧ w'.cell? ⟨b, off + p * 3 + 2, none⟩ = some (.int .u64 salt) ∧
      Res4 w' (w.heap.size + 1) ∧ (w.heap.size < w'.heap.size ∧ b < w'.heap.size ∧ w.heap.size + 1 < w'.heap.size) ∧ Below w.heap.size w w')
    (first | with_reducible exact hS5 | with_reducible exact hS4 | with_reducible exact hSd | with_reducible exact SideS.store hS5 (Nat.le_succ _) (Nat.ne_of_lt (Nat.lt_succ_self _)) hbR _ _ _ _)
    (first
      | (go_at_call 16; refine (unhide (HT _)).mono ?_; rintro e w4 ⟨rfl, hb4⟩; have hS4 := SideS.keep hSd (Nat.le_succ _) hb4)
      | (go_at_call 37; refine (unhide (HR _)).mono ?_; rintro e w5 ⟨rfl, hb5⟩; have hS5 := SideS.keep hS4 (Nat.le_succ _) hb5; obtain ⟨r0, r1, r2, r3, g0, g1, g2, g3, f0, f1, f2, f3⟩ := hS5.2.2.2.2.1.cells))
  have HB := hide hS5.2.2.2.2.2.2
  clear hS5 hS4 hSd
  go_wp2
  refine bodyPost_ret (v := sideV (dg (0 :: leafB nm.data.toList bal salt)) bal) ?_ rfl ⟨rfl, ?_⟩
  · rw [(unhide HD).2]
    simp [results, Tryz.results14, go_sem, g0, g1, g2, g3]
  · exact ((((unhide HB).setCell (by simp) _).setCell (by simp) _).setCell (by simp) _).setCell (by simp) _

end Go.Proofs.YtbjobbkgelipmaaGreat

/-
  The walk of titheref's Tree.Side, at a node; and whole, by induction.
-/
namespace Go.Proofs.YtbjobbkgelipmaaGreat
open Go.RowKit

/-- What the region at a node leans on. -/
abbrev NodeS (w : World) (A B R : Nat) (a0 a1 a2 a3 b0 b1 b2 b3 : Int) (w' : World) : Prop :=
  w'.cell? ⟨A, 0, none⟩ = some (.int .u8 a0) ∧ w'.cell? ⟨A, 1, none⟩ = some (.int .u8 a1) ∧ w'.cell? ⟨A, 2, none⟩ = some (.int .u8 a2) ∧ w'.cell? ⟨A, 3, none⟩ = some (.int .u64 a3) ∧
  w'.cell? ⟨B, 0, none⟩ = some (.int .u8 b0) ∧ w'.cell? ⟨B, 1, none⟩ = some (.int .u8 b1) ∧ w'.cell? ⟨B, 2, none⟩ = some (.int .u8 b2) ∧ w'.cell? ⟨B, 3, none⟩ = some (.int .u64 b3) ∧
    Res4 w' R ∧ (A < w'.heap.size ∧ B < w'.heap.size ∧ R < w'.heap.size) ∧ Below w.heap.size w w'

theorem NodeS.keep {w W w4 : World} {A B R : Nat} {a0 a1 a2 a3 b0 b1 b2 b3 : Int} (hS : NodeS w A B R a0 a1 a2 a3 b0 b1 b2 b3 W) (hw : w.heap.size ≤ R) (hb : Below W.heap.size W w4) : NodeS w A B R a0 a1 a2 a3 b0 b1 b2 b3 w4 := by
  obtain ⟨h0, h1, h2, h3, g0, g1, g2, g3, h4, ⟨z0, z1, z2⟩, h6⟩ := hS
  have := hb.size
  exact ⟨keepB hb z0 h0, keepB hb z0 h1, keepB hb z0 h2, keepB hb z0 h3, keepB hb z1 g0, keepB hb z1 g1, keepB hb z1 g2, keepB hb z1 g3, h4.below z2 hb, ⟨by omega, by omega, by omega⟩, h6.trans (hb.mono (by omega))⟩

theorem NodeS.store {w W : World} {A B R : Nat} {a0 a1 a2 a3 b0 b1 b2 b3 : Int} (hS : NodeS w A B R a0 a1 a2 a3 b0 b1 b2 b3 W) (hw : w.heap.size ≤ R) (hA : A ≠ R) (hB : B ≠ R) (x0 x1 x2 x3 : Value) :
    NodeS w A B R a0 a1 a2 a3 b0 b1 b2 b3 ((((W.setCell ⟨R, 0, none⟩ x0).setCell ⟨R, 1, none⟩ x1).setCell ⟨R, 2, none⟩ x2).setCell ⟨R, 3, none⟩ x3) := by
  obtain ⟨h0, h1, h2, h3, g0, g1, g2, g3, h4, z, h6⟩ := hS
  have e := size_set4 W R x0 x1 x2 x3
  show NodeS w A B R a0 a1 a2 a3 b0 b1 b2 b3 (set4 W R x0 x1 x2 x3)
  exact ⟨cell_set4 _ _ _ _ _ _ _ _ _ hA h0, cell_set4 _ _ _ _ _ _ _ _ _ hA h1, cell_set4 _ _ _ _ _ _ _ _ _ hA h2, cell_set4 _ _ _ _ _ _ _ _ _ hA h3, cell_set4 _ _ _ _ _ _ _ _ _ hB g0, cell_set4 _ _ _ _ _ _ _ _ _ hB g1, cell_set4 _ _ _ _ _ _ _ _ _ hB g2, cell_set4 _ _ _ _ _ _ _ _ _ hB g3, h4.set4 _ _ _ _, by rw [e]; exact z, below_set4 h6 hw _ _ _ _⟩

set_option maxRecDepth 100000 in
set_option maxHeartbeats 400000 in
/-- A node, its two sides known by contracts. -/
theorem side_node (H : Int) (la : Option Addr) (n cap lv p : Nat) (dl dr : Dg) (nl nr : Int) (w : World) (hlv : lv ≤ 100) (hp : p ≤ 1000) (hl0 : 0 ≤ nl) (hl1 : nl < 18446744073709551616) (hr0 : 0 ≤ nr) (hr1 : nr < 18446744073709551616)
    (hL : ∀ w', Below w.heap.size w w' → Calls Tryz.prog 14 #[treeV H la n cap, .int .i64 (lv : Int), .int .i64 (2 * (p : Int))] w' fun e w'' => e = .returned (sideV dl nl) ∧ Below w'.heap.size w' w'')
    (hR : ∀ w', Below w.heap.size w w' → Calls Tryz.prog 14 #[treeV H la n cap, .int .i64 (lv : Int), .int .i64 (2 * (p : Int) + 1)] w' fun e w'' => e = .returned (sideV dr nr) ∧ Below w'.heap.size w' w'') :
    Calls Tryz.prog 14 #[treeV H la n cap, .int .i64 ((lv : Int) + 1), .int .i64 (p : Int)] w fun e w' => e = .returned (sideV (dg (1 :: (sideB (dl, nl) ++ sideB (dr, nr)))) ((nl + nr) % 18446744073709551616)) ∧ Below w.heap.size w w' := by
  obtain ⟨l0, l1, l2, hdl, tdl⟩ : ∃ l0 l1 l2 : Int, sideV dl nl = .agg #[.int .u8 l0, .int .u8 l1, .int .u8 l2, .int .u64 nl] ∧ ∀ w, Calls Tryz.prog 15 #[.agg #[.int .u8 l0, .int .u8 l1, .int .u8 l2, .int .u64 nl]] w fun e w' => e = .returned (strV (dgB dl ++ longB nl)) ∧ Below w.heap.size w w' :=
    ⟨_, _, _, rfl, fun w => sidetext_any dl nl w hl0 hl1⟩
  obtain ⟨r0, r1, r2, hdr, tdr⟩ : ∃ l0 l1 l2 : Int, sideV dr nr = .agg #[.int .u8 l0, .int .u8 l1, .int .u8 l2, .int .u64 nr] ∧ ∀ w, Calls Tryz.prog 15 #[.agg #[.int .u8 l0, .int .u8 l1, .int .u8 l2, .int .u64 nr]] w fun e w' => e = .returned (strV (dgB dr ++ longB nr)) ∧ Below w.heap.size w w' :=
    ⟨_, _, _, rfl, fun w => sidetext_any dr nr w hr0 hr1⟩
  obtain ⟨TL, hTL⟩ : ∃ T : ByteArray, T = ⟨(dgB dl ++ longB nl).toArray⟩ := ⟨_, rfl⟩
  obtain ⟨TR, hTR⟩ : ∃ T : ByteArray, T = ⟨(dgB dr ++ longB nr).toArray⟩ := ⟨_, rfl⟩
  have sL : TL.size = 11 := by rw [hTL]; simp [ByteArray.size, dgB, longB_length]
  have sR : TR.size = 11 := by rw [hTR]; simp [ByteArray.size, dgB, longB_length]
  have eT : ((⟨#[1]⟩ : ByteArray) ++ TL ++ TR).data.toList = 1 :: (sideB (dl, nl) ++ sideB (dr, nr)) := by rw [hTL, hTR]; simp [ByteArray.data_append, sideB]
  obtain ⟨ns, hns⟩ : ∃ ns : Int, ns = (nl + nr) % 18446744073709551616 := ⟨_, rfl⟩
  have hwr : IntKind.u64.wrap (nl + nr) = ns := by rw [hns, IntKind.wrap_u64]
  obtain ⟨d0, d1, d2, hD⟩ : ∃ d0 d1 d2 : Int, digV (dg (1 :: (sideB (dl, nl) ++ sideB (dr, nr)))) = .agg #[.int .u8 d0, .int .u8 d1, .int .u8 d2] ∧ sideV (dg (1 :: (sideB (dl, nl) ++ sideB (dr, nr)))) ((nl + nr) % 18446744073709551616) = .agg #[.int .u8 d0, .int .u8 d1, .int .u8 d2, .int .u64 ns] := by
    rw [hns]; exact ⟨_, _, _, rfl, rfl⟩
  have HS : ∀ w, Hid (Calls Tryz.prog 37 #[.string (⟨#[1]⟩ ++ TL ++ TR)] w fun e w' => e = .returned (.agg #[.int .u8 d0, .int .u8 d1, .int .u8 d2]) ∧ Below w.heap.size w w') := fun w => by
    have := refsum_any (⟨#[1]⟩ ++ TL ++ TR) w (by rw [ByteArray.size_append, ByteArray.size_append, show (⟨#[1]⟩ : ByteArray).size = 1 from rfl]; unfold maxLen; omega)
    rw [eT, hD.1] at this; exact this
  have HTL : ∀ w, Hid (Calls Tryz.prog 15 #[.agg #[.int .u8 l0, .int .u8 l1, .int .u8 l2, .int .u64 nl]] w fun e w' => e = .returned (.string TL) ∧ Below w.heap.size w w') := fun w => by rw [hTL]; exact tdl w
  have HTR : ∀ w, Hid (Calls Tryz.prog 15 #[.agg #[.int .u8 r0, .int .u8 r1, .int .u8 r2, .int .u64 nr]] w fun e w' => e = .returned (.string TR) ∧ Below w.heap.size w w') := fun w => by rw [hTR]; exact tdr w
  have hsa1 := str_add (P := Tryz.prog) ⟨#[1]⟩ TL (by rw [show (⟨#[1]⟩ : ByteArray).size = 1 from rfl]; omega)
  have hsa2 := str_add (P := Tryz.prog) (⟨#[1]⟩ ++ TL) TR (by rw [ByteArray.size_append, show (⟨#[1]⟩ : ByteArray).size = 1 from rfl]; omega)
  rw [hdl] at hL
  rw [hdr] at hR
  unfold treeV at hL hR ⊢
  have HL := hide hL
  have HR := hide hR
  have HD := hide hD
  clear hD hTL hTR sL sR eT hL hR hdl hdr tdl tdr hl0 hl1 hr0 hr1 hns
  go_enter Tryz.func14, Tryz.ntmps14
  go_wp2_with fail
  generalize hW0 : ((w.alloc (Obj.cells #[Value.int IntKind.i64 H, Value.slice la n cap] 31)).alloc (Obj.cells #[Value.int IntKind.u8 0, Value.int IntKind.u8 0, Value.int IntKind.u8 0, Value.int IntKind.u64 0] 49)) = W0
  have hA0 : Below w.heap.size w W0 := by rw [← hW0]; exact ((Below.refl w.heap.size w).alloc (Nat.le_refl _) _).alloc (by simp) _
  have c0 : W0.cell? ⟨w.heap.size, 0, none⟩ = some (.int .i64 H) := by rw [← hW0]; simp
  have c1 : W0.cell? ⟨w.heap.size, 1, none⟩ = some (.slice la n cap) := by rw [← hW0]; simp
  have hs0 : W0.heap.size = w.heap.size + 2 := by rw [← hW0]; simp
  have hres : Res4 W0 (w.heap.size + 1) := by
    rw [← hW0]
    intro i hi
    match i, hi with
    | 0, _ => simp
    | 1, _ => simp
    | 2, _ => simp
    | 3, _ => simp
  refine (unhide HL _ hA0).mono ?_
  rintro e w1 ⟨rfl, hb1⟩
  have hs1 : w.heap.size + 1 < w1.heap.size := by have := hb1.size; omega
  have hs1' : w.heap.size < w1.heap.size := by omega
  have e0 : w1.cell? ⟨w.heap.size, 0, none⟩ = some (.int .i64 H) := keepB hb1 (by omega) c0
  have e1 : w1.cell? ⟨w.heap.size, 1, none⟩ = some (.slice la n cap) := keepB hb1 (by omega) c1
  have Hres1 := hide (hres.below (by omega) hb1)
  have hA1 : Below w.heap.size w w1 := hA0.trans (hb1.mono (by omega))
  have HA1 := hide hA1
  clear hW0 hA0 c0 c1 hs0 hres hb1 HL hA1
  go_wp2_with fail
  generalize hW1 : (w1.alloc (Obj.cells #[Value.int IntKind.u8 l0, Value.int IntKind.u8 l1, Value.int IntKind.u8 l2, Value.int IntKind.u64 nl] 49)) = W1
  have hA1 : Below w.heap.size w W1 := by rw [← hW1]; exact (unhide HA1).alloc (by omega) _
  have f0 : W1.cell? ⟨w1.heap.size, 0, none⟩ = some (.int .u8 l0) := by rw [← hW1]; simp
  have f1 : W1.cell? ⟨w1.heap.size, 1, none⟩ = some (.int .u8 l1) := by rw [← hW1]; simp
  have f2 : W1.cell? ⟨w1.heap.size, 2, none⟩ = some (.int .u8 l2) := by rw [← hW1]; simp
  have f3 : W1.cell? ⟨w1.heap.size, 3, none⟩ = some (.int .u64 nl) := by rw [← hW1]; simp
  have hsW : W1.heap.size = w1.heap.size + 1 := by rw [← hW1]; simp
  have hres : Res4 W1 (w.heap.size + 1) := by rw [← hW1]; exact (unhide Hres1).below hs1 ((Below.refl _ _).alloc (Nat.le_refl _) _)
  refine (unhide HR _ hA1).mono ?_
  rintro e w2 ⟨rfl, hb2⟩
  have hs2 : w1.heap.size < w2.heap.size := by have := hb2.size; omega
  have g0 := keepB hb2 (by omega) f0
  have g1 := keepB hb2 (by omega) f1
  have g2 := keepB hb2 (by omega) f2
  have g3 := keepB hb2 (by omega) f3
  have Hres2 := hide (hres.below (by omega) hb2)
  have HA2 := hide (hA1.trans (hb2.mono (by omega)))
  clear hW1 hA1 f0 f1 f2 f3 hsW hres hb2 HR e0 e1 HA1 Hres1
  go_wp2_with fail
  generalize hW2 : (w2.alloc (Obj.cells #[Value.int IntKind.u8 r0, Value.int IntKind.u8 r1, Value.int IntKind.u8 r2, Value.int IntKind.u64 nr] 49)) = W2
  have hS : NodeS w w1.heap.size w2.heap.size (w.heap.size + 1) l0 l1 l2 nl r0 r1 r2 nr W2 := by
    rw [← hW2]
    have hA : Below w2.heap.size w2 (w2.alloc (Obj.cells #[Value.int IntKind.u8 r0, Value.int IntKind.u8 r1, Value.int IntKind.u8 r2, Value.int IntKind.u64 nr] 49)) := (Below.refl _ _).alloc (Nat.le_refl _) _
    exact ⟨keepB hA hs2 g0, keepB hA hs2 g1, keepB hA hs2 g2, keepB hA hs2 g3, by simp, by simp, by simp, by simp, (unhide Hres2).below (by omega) hA, ⟨by simp; omega, by simp, by simp; omega⟩, (unhide HA2).trans (hA.mono (by omega))⟩
  have hSd : NodeS w w1.heap.size w2.heap.size (w.heap.size + 1) l0 l1 l2 nl r0 r1 r2 nr W2.drew := ⟨hS.1, hS.2.1, hS.2.2.1, hS.2.2.2.1, hS.2.2.2.2.1, hS.2.2.2.2.2.1, hS.2.2.2.2.2.2.1, hS.2.2.2.2.2.2.2.1, hS.2.2.2.2.2.2.2.2.1, hS.2.2.2.2.2.2.2.2.2.1, hS.2.2.2.2.2.2.2.2.2.2.drew⟩
  have nA : w1.heap.size ≠ w.heap.size + 1 := by omega
  have nB : w2.heap.size ≠ w.heap.size + 1 := by omega
  clear hW2 hS g0 g1 g2 g3 Hres2 HA2
  go_region_held3 (fun w' => w'.cell? ⟨w1.heap.size, 0, none⟩ = some (.int .u8 l0) ∧ w'.cell? ⟨w1.heap.size, 1, none⟩ = some (.int .u8 l1) ∧ w'.cell? ⟨w1.heap.size, 2, none⟩ = some (.int .u8 l2) ∧ w'.cell? ⟨w1.heap.size, 3, none⟩ = some (.int .u64 nl) ∧
      w'.cell? ⟨w2.heap.size, 0, none⟩ = some (.int .u8 r0) ∧ w'.cell? ⟨w2.heap.size, 1, none⟩ = some (.int .u8 r1) ∧ w'.cell? ⟨w2.heap.size, 2, none⟩ = some (.int .u8 r2) ∧ w'.cell? ⟨w2.heap.size, 3, none⟩ = some (.int .u64 nr) ∧
      Res4 w' (w.heap.size + 1) ∧ (w1.heap.size < w'.heap.size ∧ w2.heap.size < w'.heap.size ∧ w.heap.size + 1 < w'.heap.size) ∧ Below w.heap.size w w')
    (first | with_reducible exact hS6 | with_reducible exact hS5 | with_reducible exact hS4 | with_reducible exact hSd | with_reducible exact NodeS.store hS6 (Nat.le_succ _) nA nB _ _ _ _)
    (first
      | (go_at_call_of 15 nl; refine (unhide (HTL _)).mono ?_; rintro e w4 ⟨rfl, hb4⟩; have hS4 := NodeS.keep hSd (Nat.le_succ _) hb4)
      | (go_at_call_of 15 nr; refine (unhide (HTR _)).mono ?_; rintro e w5 ⟨rfl, hb5⟩; have hS5 := NodeS.keep hS4 (Nat.le_succ _) hb5)
      | (go_at_call 37; refine (unhide (HS _)).mono ?_; rintro e w6 ⟨rfl, hb6⟩; have hS6 := NodeS.keep hS5 (Nat.le_succ _) hb6; obtain ⟨x0, x1, x2, x3, k0, k1, k2, k3, j0, j1, j2, j3⟩ := hS6.2.2.2.2.2.2.2.2.1.cells))
  have HB := hide hS6.2.2.2.2.2.2.2.2.2.2
  clear hS6 hS5 hS4 hSd
  go_wp2
  refine bodyPost_ret (v := sideV (dg (1 :: (sideB (dl, nl) ++ sideB (dr, nr)))) ((nl + nr) % 18446744073709551616)) ?_ rfl ⟨rfl, ?_⟩
  · rw [(unhide HD).2]
    simp [results, Tryz.results14, go_sem, k0, k1, k2, k3]
  · exact ((((unhide HB).setCell (by simp) _).setCell (by simp) _).setCell (by simp) _).setCell (by simp) _

end Go.Proofs.YtbjobbkgelipmaaGreat

/-
  The walks of titheref's readers: number, side, report.
-/
namespace Go.Proofs.YtbjobbkgelipmaaGreat
open Go.RowKit

/-- A number out of bytes, the highest first. -/
def numB (l : List UInt8) : Int := l.foldl (fun n c => n * 256 + (c.toNat : Int)) 0
theorem numB_snoc (l : List UInt8) (c : UInt8) : numB (l ++ [c]) = numB l * 256 + (c.toNat : Int) := by simp [numB]
theorem numB_range_len : ∀ (n : Nat) (l : List UInt8), l.length = n → 0 ≤ numB l ∧ numB l < 256 ^ n
  | 0, l, h => by rw [List.length_eq_zero_iff.1 h]; decide
  | n + 1, l, h => by
    rcases List.eq_nil_or_concat l with rfl | ⟨l', c, rfl⟩
    · cases h
    · rw [List.concat_eq_append] at h ⊢
      have ih := numB_range_len n l' (by simpa using h)
      rw [numB_snoc, Int.pow_succ]
      have := c.toNat_lt
      constructor <;> omega
theorem pow256_le {a b : Nat} (h : a ≤ b) : (256 : Int) ^ a ≤ 256 ^ b := by
  have h2 : ((256 ^ a : Nat) : Int) ≤ ((256 ^ b : Nat) : Int) := Int.ofNat_le.2 (Nat.pow_le_pow_right (by decide) h)
  simpa using h2
theorem numB_range (l : List UInt8) (h : l.length ≤ 8) : 0 ≤ numB l ∧ numB l < 18446744073709551616 := by
  have h1 := numB_range_len l.length l rfl
  have h2 : (256 : Int) ^ l.length ≤ 256 ^ 8 := pow256_le h
  have h3 : (256 : Int) ^ 8 = 18446744073709551616 := by decide
  omega
theorem num_step (l : List UInt8) (k : Nat) (c : UInt8) (hk : k < 8) (hc : l[k]? = some c) :
    IntKind.u64.wrap (IntKind.u64.wrap (numB (l.take k) * 256) + IntKind.u64.wrap (c.toNat : Int)) = numB (l.take (k + 1)) := by
  have hl : k < l.length := (List.getElem?_eq_some_iff.1 hc).1
  have hx : l[k] = c := (List.getElem?_eq_some_iff.1 hc).2
  rw [List.take_succ_eq_append_getElem hl, numB_snoc, hx]
  have h1 := numB_range_len k (l.take k) (by rw [List.length_take]; omega)
  have h2 : (256 : Int) ^ k ≤ 256 ^ 7 := pow256_le (by omega)
  have h3 : (256 : Int) ^ 7 = 72057594037927936 := by decide
  have h4 := c.toNat_lt
  rw [IntKind.wrap_u64, IntKind.wrap_u64, IntKind.wrap_u64]
  omega

set_option maxHeartbeats 400000 in
set_option maxRecDepth 100000 in
theorem number_any (s : ByteArray) (at' : Nat) (w : World) (hs : at' + 8 ≤ s.size) (hm : s.size ≤ maxLen) :
    Calls Tryz.prog 80 #[.string s, .int .i64 (at' : Int)] w fun e w' => e = .returned (.int .u64 (numB ((s.data.toList.drop at').take 8))) ∧ w' = w := by
  unfold maxLen at hm
  go_enter Tryz.func80, Tryz.ntmps80
  go_wp2
  go_loop [5, 6] (fun n i => ∃ k : Nat, k ≤ 8 ∧ i = .int .i64 k ∧ n = .int .u64 (numB ((s.data.toList.drop at').take k))) (fun _ i => 8 - (intOf i).toNat)
  case atStart => exact ⟨0, by omega, rfl, rfl⟩
  case round =>
    obtain ⟨k, hk, rfl, rfl⟩ := hrel
    by_cases hlt : k < 8
    · have hak : at' + k < s.size := by omega
      generalize hN : numB ((s.data.toList.drop at').take k) = N
      have HN := hide hN
      clear hN
      have HT : Hid (IntKind.u64.wrap (IntKind.u64.wrap (N * 256) + IntKind.u64.wrap (s[at' + k].toNat : Int)) = numB ((s.data.toList.drop at').take (k + 1))) := by
        rw [← unhide HN]
        exact num_step _ k _ hlt (by rw [List.getElem?_drop]; exact List.getElem?_eq_getElem (by simpa using hak))
      go_wp2
      go_round
      case rel => exact ⟨k + 1, by omega, by go_num, by rw [unhide HT]⟩
      case measure => simp [intOf]; omega
    · have hk8 : k = 8 := by omega
      subst hk8
      go_wp2
      go_ret
      exact ⟨rfl, rfl⟩

/-- A side out of bytes, from a place on. -/
def sideAt (l : List UInt8) (a : Nat) : Dg × Int := ((l.getD a 0, l.getD (a + 1) 0, l.getD (a + 2) 0), numB ((l.drop (a + 3)).take 8))
theorem sideAt_range (l : List UInt8) (a : Nat) : 0 ≤ (sideAt l a).2 ∧ (sideAt l a).2 < 18446744073709551616 := numB_range _ (by rw [List.length_take]; omega)
theorem byte_getD (s : ByteArray) (k : Nat) (h : k < s.size) : s[k] = s.data.toList.getD k 0 := by
  have h2 : k < s.data.toList.length := by simpa using h
  simp only [List.getD, List.getElem?_eq_getElem h2]
  rfl

/-- A region that reads and then does one thing: the draw spelt as the walk spells it. -/
theorem region_tail {P : Program} {id : Nat} {Q : Exit → Act → World → Prop} {a : Act} {w : World} {l : List Oper} (n : Nat) (hm : P.follows .mixedOrders = true) (hB : Region.lexTailB .any l.toArray n = true)
    (h : wpStill P l.toArray w.drew (fun a' => wpList P l.toArray Q (l.drop n) a' w.drew) (l.take n) a) : (Code.region id l.toArray true).wp P Q a w := wp_region_still_tail n hm hB h

theorem index_at (s : ByteArray) (k : Nat) (h : k < s.size) (w : World) : (Instr.index 9 (.string s) (.int .i64 (k : Int))).run Tryz.prog w = .ok (.int .u8 ((s.data.toList.getD k 0).toNat : Int)) w := by
  rw [run_index_string _ _ _ _ _ Tryz.underlying9, ← byte_getD s k h]
  simp [h]

set_option maxHeartbeats 400000 in
set_option maxRecDepth 100000 in
theorem side_read (s : ByteArray) (a : Nat) (w : World) (hs : a + 11 ≤ s.size) (hm : s.size ≤ 140737488351232) :
    Calls Tryz.prog 79 #[.string s, .int .i64 (a : Int)] w fun e w' => e = .returned (sideV (sideAt s.data.toList a).1 (sideAt s.data.toList a).2) ∧ Below w.heap.size w w' := by
  have h0 : a < s.size := by omega
  have h1 : a + 1 < s.size := by omega
  have h2 : a + 2 < s.size := by omega
  obtain ⟨d0, hd0⟩ : ∃ d : Int, ((s.data.toList.getD a 0).toNat : Int) = d := ⟨_, rfl⟩
  obtain ⟨d1, hd1⟩ : ∃ d : Int, ((s.data.toList.getD (a + 1) 0).toNat : Int) = d := ⟨_, rfl⟩
  obtain ⟨d2, hd2⟩ : ∃ d : Int, ((s.data.toList.getD (a + 2) 0).toNat : Int) = d := ⟨_, rfl⟩
  have x0 := index_at s a h0
  have x1 := index_at s (a + 1) h1
  have x2 := index_at s (a + 2) h2
  rw [hd0] at x0
  rw [hd1, show ((a + 1 : Nat) : Int) = (a : Int) + 1 by omega] at x1
  rw [hd2, show ((a + 2 : Nat) : Int) = (a : Int) + 2 by omega] at x2
  obtain ⟨n, hn⟩ : ∃ n : Int, n = numB ((s.data.toList.drop (a + 3)).take 8) := ⟨_, rfl⟩
  have HN : ∀ w, Hid (Calls Tryz.prog 80 #[.string s, .int .i64 ((a : Int) + 3)] w fun e w' => e = .returned (.int .u64 n) ∧ w' = w) := fun w => by
    rw [hn]; exact number_any s (a + 3) w (by omega) (by unfold maxLen; omega)
  have HD : Hid (sideV (sideAt s.data.toList a).1 (sideAt s.data.toList a).2 = .agg #[.int .u8 d0, .int .u8 d1, .int .u8 d2, .int .u64 n]) := by
    rw [← hd0, ← hd1, ← hd2, hn]; rfl
  clear hn hd0 hd1 hd2
  have e1 : IntKind.i64.wrap ((a : Int) + 1) = (a : Int) + 1 := by rw [IntKind.wrap_i64]; omega
  have e2 : IntKind.i64.wrap ((a : Int) + 2) = (a : Int) + 2 := by rw [IntKind.wrap_i64]; omega
  have e3 : IntKind.i64.wrap ((a : Int) + 3) = (a : Int) + 3 := by rw [IntKind.wrap_i64]; omega
  clear h0 h1 h2 hs hm
  go_enter Tryz.func79, Tryz.ntmps79
  go_wp2_with fail
  refine region_tail 17 (by kernel_rfl) (by kernel_rfl) ?_
  simp only [List.take_succ_cons, List.take_zero, List.drop_succ_cons, List.drop_zero]
  repeat still_step
  still_call (unhide (HN _))
  repeat still_step
  refine wpStill_nil ?_
  go_wp2
  refine bodyPost_ret (v := sideV (sideAt s.data.toList a).1 (sideAt s.data.toList a).2) ?_ rfl ⟨rfl, ?_⟩
  · rw [unhide HD]
    simp [results, Tryz.results79, go_sem]
  · exact ((Below.refl _ _).alloc (Nat.le_refl _) _).drew

end Go.Proofs.YtbjobbkgelipmaaGreat

/-
  The walk of tithe's appendSide.
-/
namespace Go.Proofs.YtbjobbkgelipmaaGreat
open Go.RowKit

set_option maxRecDepth 100000 in
set_option maxHeartbeats 400000 in
theorem appside_any (base n : Nat) (v0 : Value) (xs : List Value) (d : Dg) (x : Int) (w : World) (h0 : 0 ≤ x) (h1 : x < 18446744073709551616) (hown0 : w.ownsRow base 5 1 v0 n xs) (hbase : base ≤ w.heap.size) (hn : n + 11 ≤ 140737488355328) :
    Calls Tryz.prog 72 #[v0, sideV d x] w fun e w' => (∃ v', e = .returned v' ∧ w'.ownsRow base 5 1 v' (n + 11) (xs ++ byteVals (sideB (d, x)))) ∧ Below base w w' ∧ KeepT w w' := by
  obtain ⟨i0, hi, hz0, hz1, hz2⟩ := info_parts Tryz.infoByte
  obtain ⟨a0, a1, a2⟩ := d
  obtain ⟨d0, hd0⟩ : ∃ d : Int, (a0.toNat : Int) = d := ⟨_, rfl⟩
  obtain ⟨d1, hd1⟩ : ∃ d : Int, (a1.toNat : Int) = d := ⟨_, rfl⟩
  obtain ⟨d2, hd2⟩ : ∃ d : Int, (a2.toNat : Int) = d := ⟨_, rfl⟩
  have hD : sideV (a0, a1, a2) x = .agg #[.int .u8 d0, .int .u8 d1, .int .u8 d2, .int .u64 x] := by rw [← hd0, ← hd1, ← hd2]; rfl
  have HE : Hid (xs ++ byteVals (sideB ((a0, a1, a2), x)) = (xs ++ [.int .u8 d0, .int .u8 d1, .int .u8 d2]) ++ byteVals (longB x)) := by
    rw [← hd0, ← hd1, ← hd2]; refine hide ?_; simp [sideB, byteVals, dgB]
  rw [hD]
  have H0 := hide hown0
  have HC := fun (v : Value) (ys : List Value) (w : World) (ho : w.ownsRow base 5 1 v (n + 3) ys) (hb : base ≤ w.heap.size) => hide (appnum_any base (n + 3) v ys x w h0 h1 ho hb (by omega))
  clear hD hown0 hd0 hd1 hd2 h0 h1
  go_enter Tryz.func72, Tryz.ntmps72
  go_wp2_with (at_builtin; refine wpList_append_own _ rfl (.tmp 5) (.tmp 7) 51 rfl base 5 i0 (.int .u8 0) 1 1 Tryz.underlying51 hi hz0 hz1 hz2 rfl (by decide) _ _ _ rfl ((unhide H0).alloc _) ⟨w.heap.size, 0, none⟩ 3 3 [.int .u8 d0, .int .u8 d1, .int .u8 d2] rfl rfl ?c1 ?c2 ?c3 ?c4 ?c5 ?_)
  case c1 =>
    intro j u hu
    match j, hu with
    | 0, hu => simp at hu; subst hu; simp [addr_add]
    | 1, hu => simp at hu; subst hu; simp [addr_add]
    | 2, hu => simp at hu; subst hu; simp [addr_add]
  case c2 => intro u hu; simp at hu; rcases hu with rfl | rfl | rfl <;> rfl
  case c3 => unfold maxLen; omega
  case c4 => omega
  case c5 => simp; omega
  intro v' w1 hown1 hgrow1 _
  have hsz : w.heap.size < w1.heap.size := by have := hgrow1.size; simp at this; omega
  have hb1 : Below base w w1 := by
    refine ((Below.refl base w).alloc hbase _).grown hgrow1 (by simp; omega) ?_
    intro b hb
    exact ((unhide H0).lt b hb).1
  have hx3 : w1.cell? ⟨w.heap.size, 3, none⟩ = some (.int .u64 x) := by
    rw [World.cell?_of_block (w := w.alloc _) (hgrow1.block w.heap.size (by simp) (fun e => by have := ((unhide H0).lt _ e.symm).2; omega))]
    simp
  have HB1 := hide (And.intro hb1 (((KeepT.refl w).alloc _).grown ((unhide H0).alloc _) hgrow1))
  have HR := hide (HC v' _ w1 hown1 (by omega))
  clear hown1 hgrow1 hb1 H0 HC
  go_wp2_with fail
  refine (unhide (unhide HR)).mono ?_
  rintro e w2 ⟨⟨v2, rfl, hown2⟩, hb2, hk2⟩
  have HO := hide (And.intro hown2 (And.intro ((unhide HB1).1.trans hb2) ((unhide HB1).2.trans hk2)))
  clear hown2 hb2 hk2 HR HB1
  go_wp2
  go_ret
  refine ⟨⟨_, rfl, ?_⟩, (unhide HO).2⟩
  rw [unhide HE]
  exact (unhide HO).1

end Go.Proofs.YtbjobbkgelipmaaGreat

/-
  The walk of titheref's report.
-/
namespace Go.Proofs.YtbjobbkgelipmaaGreat
open Go.RowKit

/-- Do some bytes make a report's head: twelve of them, a height up to six? -/
def repHead (l : List UInt8) : Prop := l.length = 12 ∧ (l.getD 0 0).toNat ≤ 6
def repRoot (l : List UInt8) : Dg × Int := sideAt l 1
def repH (l : List UInt8) : Nat := (l.getD 0 0).toNat
def sideZ : Value := .agg #[.int .u8 0, .int .u8 0, .int .u8 0, .int .u64 0]
def leMax (n : Int) : Bool := decide (n ≤ 4611686018427387904)

set_option maxHeartbeats 400000 in
set_option maxRecDepth 100000 in
theorem report_bad (s : ByteArray) (w : World) (_hm : s.size ≤ 140737488351232) (hb : ¬ repHead s.data.toList) :
    Calls Tryz.prog 62 #[.string s] w fun e w' => e = .returned (.tuple #[.int .i64 0, sideZ, .bool false]) ∧ Below w.heap.size w w' := by
  by_cases hl : s.size = 12
  · have hx := index_at s 0 (by omega)
    have h6 : 6 < (s.data.toList.getD 0 0).toNat := by
      have : s.data.toList.length = 12 := by simpa using hl
      exact Nat.lt_of_not_le fun h => hb ⟨this, h⟩
    generalize hd : ((s.data.toList.getD 0 0).toNat : Int) = d at hx
    have hd6 : (6 : Int) < d := by omega
    have hl' : ((s.size : Int) != 12) = false := by simp [bne, hl]
    have hx' : ∀ w, (Instr.index 9 (.string s) (.int .i64 0)).run Tryz.prog w = .ok (.int .u8 d) w := hx
    clear hx hl h6 hd hb
    go_enter Tryz.func62, Tryz.ntmps62
    go_wp2
    refine bodyPost_ret (v := .tuple #[.int .i64 0, sideZ, .bool false]) ?_ rfl ⟨rfl, ?_⟩
    · simp [results, Tryz.results62, go_sem, sideZ]
    · exact (Below.refl _ _).alloc (Nat.le_refl _) _
  · have hl' : ((s.size : Int) != 12) = true := by simp; omega
    clear hl hb
    go_enter Tryz.func62, Tryz.ntmps62
    go_wp2
    refine bodyPost_ret (v := .tuple #[.int .i64 0, sideZ, .bool false]) ?_ rfl ⟨rfl, ?_⟩
    · simp [results, Tryz.results62, go_sem, sideZ]
    · exact (Below.refl _ _).alloc (Nat.le_refl _) _

/-- Four cells of a side. -/
abbrev Quad (w' : World) (A : Nat) (d0 d1 d2 n : Int) : Prop :=
  w'.cell? ⟨A, 0, none⟩ = some (.int .u8 d0) ∧ w'.cell? ⟨A, 1, none⟩ = some (.int .u8 d1) ∧ w'.cell? ⟨A, 2, none⟩ = some (.int .u8 d2) ∧ w'.cell? ⟨A, 3, none⟩ = some (.int .u64 n)
theorem Quad.store {W : World} {A R : Nat} {d0 d1 d2 n : Int} (h : Quad W A d0 d1 d2 n) (hA : A ≠ R) (x0 x1 x2 x3 : Value) :
    Quad ((((W.setCell ⟨R, 0, none⟩ x0).setCell ⟨R, 1, none⟩ x1).setCell ⟨R, 2, none⟩ x2).setCell ⟨R, 3, none⟩ x3) A d0 d1 d2 n :=
  ⟨cell_set4 _ _ _ _ _ _ _ _ _ hA h.1, cell_set4 _ _ _ _ _ _ _ _ _ hA h.2.1, cell_set4 _ _ _ _ _ _ _ _ _ hA h.2.2.1, cell_set4 _ _ _ _ _ _ _ _ _ hA h.2.2.2⟩
theorem Quad.drew {X : World} {A : Nat} {d0 d1 d2 n : Int} (h : Quad X A d0 d1 d2 n) : Quad X.drew A d0 d1 d2 n := ⟨h.1, h.2.1, h.2.2.1, h.2.2.2⟩
theorem Quad.storeD {W : World} {A R : Nat} {d0 d1 d2 n : Int} (h : Quad W A d0 d1 d2 n) (hA : A ≠ R) (x0 x1 x2 x3 : Value) :
    Quad ((((W.setCell ⟨R, 0, none⟩ x0).setCell ⟨R, 1, none⟩ x1).setCell ⟨R, 2, none⟩ x2).setCell ⟨R, 3, none⟩ x3).drew A d0 d1 d2 n := (h.store hA x0 x1 x2 x3).drew
theorem Quad.below {W w4 : World} {A : Nat} {d0 d1 d2 n : Int} (h : Quad W A d0 d1 d2 n) (hlt : A < W.heap.size) (hb : Below W.heap.size W w4) : Quad w4 A d0 d1 d2 n :=
  ⟨keepB hb hlt h.1, keepB hb hlt h.2.1, keepB hb hlt h.2.2.1, keepB hb hlt h.2.2.2⟩

set_option maxHeartbeats 400000 in
set_option maxRecDepth 100000 in
theorem report_good (s : ByteArray) (w : World) (hb : repHead s.data.toList) :
    Calls Tryz.prog 62 #[.string s] w fun e w' => e = .returned (.tuple #[.int .i64 (repH s.data.toList : Int), sideV (repRoot s.data.toList).1 (repRoot s.data.toList).2, .bool (leMax (repRoot s.data.toList).2)]) ∧ Below w.heap.size w w' := by
  have hl : s.size = 12 := by simpa using hb.1
  have hx := index_at s 0 (by omega)
  have HC : ∀ w, Hid (Calls Tryz.prog 79 #[.string s, .int .i64 1] w fun e w' => e = .returned (sideV (repRoot s.data.toList).1 (repRoot s.data.toList).2) ∧ Below w.heap.size w w') := fun w => side_read s 1 w (by omega) (by omega)
  obtain ⟨d0, d1, d2, hD⟩ : ∃ d0 d1 d2 : Int, sideV (repRoot s.data.toList).1 (repRoot s.data.toList).2 = .agg #[.int .u8 d0, .int .u8 d1, .int .u8 d2, .int .u64 (repRoot s.data.toList).2] := ⟨_, _, _, rfl⟩
  rw [hD] at HC
  have HD := hide hD
  have hr := sideAt_range s.data.toList 1
  have hr0 : 0 ≤ (repRoot s.data.toList).2 := hr.1
  generalize (repRoot s.data.toList).2 = n at *
  have h6 : repH s.data.toList ≤ 6 := hb.2
  have hx' : ∀ w, (Instr.index 9 (.string s) (.int .i64 0)).run Tryz.prog w = .ok (.int .u8 (repH s.data.toList : Int)) w := hx
  generalize repH s.data.toList = h at *
  have hd6 : ¬ (6 : Int) < (h : Int) := by omega
  have hl' : ((s.size : Int) != 12) = false := by simp [bne, hl]
  have hwr : IntKind.i64.wrap (h : Int) = (h : Int) := by rw [IntKind.wrap_i64]; omega
  obtain ⟨bb, hbb⟩ : ∃ bb : Bool, leMax n = bb := ⟨_, rfl⟩
  have hle : decide (n ≤ 4611686018427387904) = bb := hbb
  have HBB := hide hbb
  clear hx hl hb hD hr hbb
  go_enter Tryz.func62, Tryz.ntmps62
  go_wp2_with fail
  refine (unhide (HC _)).mono ?_
  rintro e w1 ⟨rfl, hb1⟩
  have z1 : w.heap.size < w1.heap.size := by have := hb1.size; simp at this; omega
  have k0 : w1.cell? ⟨w.heap.size, 0, none⟩ = some (.int .u8 0) := keepB hb1 (by simp) (by simp)
  have k1 : w1.cell? ⟨w.heap.size, 1, none⟩ = some (.int .u8 0) := keepB hb1 (by simp) (by simp)
  have k2 : w1.cell? ⟨w.heap.size, 2, none⟩ = some (.int .u8 0) := keepB hb1 (by simp) (by simp)
  have k3 : w1.cell? ⟨w.heap.size, 3, none⟩ = some (.int .u64 0) := keepB hb1 (by simp) (by simp)
  have f0 : ∀ i, w1.frozen? ⟨w.heap.size, i, none⟩ = false := fun i => ((bcell hb1).2 _ _ (by simp)).trans (by simp)
  have HA := hide (((Below.refl w.heap.size w).alloc (Nat.le_refl _) _).trans (hb1.mono (by simp)))
  clear hb1 HC
  go_wp2_with fail
  have hne : w1.heap.size ≠ w.heap.size := by omega
  generalize hW : (w1.alloc (Obj.cells #[Value.int IntKind.u8 d0, Value.int IntKind.u8 d1, Value.int IntKind.u8 d2, Value.int IntKind.u64 n] 49)) = W
  have hS : Quad W w1.heap.size d0 d1 d2 n ∧ Res4 W w.heap.size := by
    rw [← hW]
    refine ⟨⟨by simp, by simp, by simp, by simp⟩, ?_⟩
    have hA : Below w1.heap.size w1 (w1.alloc (Obj.cells #[Value.int IntKind.u8 d0, Value.int IntKind.u8 d1, Value.int IntKind.u8 d2, Value.int IntKind.u64 n] 49)) := (Below.refl _ _).alloc (Nat.le_refl _) _
    refine Res4.below ?_ z1 hA
    intro i hi
    match i, hi with
    | 0, _ => exact ⟨by rw [k0]; rfl, f0 0⟩
    | 1, _ => exact ⟨by rw [k1]; rfl, f0 1⟩
    | 2, _ => exact ⟨by rw [k2]; rfl, f0 2⟩
    | 3, _ => exact ⟨by rw [k3]; rfl, f0 3⟩
  have HAW : Hid (Below w.heap.size w W) := by rw [← hW]; exact (unhide HA).alloc (by omega) _
  obtain ⟨r0, r1, r2, r3, g0, g1, g2, g3, j0, j1, j2, j3⟩ := hS.2.cells
  have hSd : Quad W.drew w1.heap.size d0 d1 d2 n := hS.1
  have hSW : Quad W w1.heap.size d0 d1 d2 n := hS.1
  clear hW hS k0 k1 k2 k3 f0 HA
  go_region_held3 (fun w' => w'.cell? ⟨w1.heap.size, 0, none⟩ = some (.int .u8 d0) ∧ w'.cell? ⟨w1.heap.size, 1, none⟩ = some (.int .u8 d1) ∧ w'.cell? ⟨w1.heap.size, 2, none⟩ = some (.int .u8 d2) ∧ w'.cell? ⟨w1.heap.size, 3, none⟩ = some (.int .u64 n))
    (first | with_reducible exact hSd | with_reducible exact Quad.storeD hSW hne _ _ _ _)
    (fail)
  go_wp2
  refine bodyPost_ret (v := .tuple #[.int .i64 (h : Int), sideV (repRoot s.data.toList).1 n, .bool (leMax n)]) ?_ rfl ⟨rfl, ?_⟩
  · rw [unhide HD, unhide HBB]
    simp [results, Tryz.results62, go_sem, g0, g1, g2, g3]
  · exact (((((unhide HAW).setCell (Nat.le_refl _) _).setCell (Nat.le_refl _) _).setCell (Nat.le_refl _) _).setCell (Nat.le_refl _) _).drew

end Go.Proofs.YtbjobbkgelipmaaGreat

/-
  The walk of tithe's nodeText.
-/
namespace Go.Proofs.YtbjobbkgelipmaaGreat
open Go.RowKit

theorem Quad.belowB {W w4 : World} {A B : Nat} {d0 d1 d2 n : Int} (h : Quad W A d0 d1 d2 n) (hlt : A < B) (hb : Below B W w4) : Quad w4 A d0 d1 d2 n :=
  ⟨(hb.cell (p := ⟨A, 0, none⟩) hlt).trans h.1, (hb.cell (p := ⟨A, 1, none⟩) hlt).trans h.2.1, (hb.cell (p := ⟨A, 2, none⟩) hlt).trans h.2.2.1, (hb.cell (p := ⟨A, 3, none⟩) hlt).trans h.2.2.2⟩
theorem own_lower {w : World} {b b' : Nat} {e : TypeId} {v : Value} {n : Nat} {xs : List Value} (h : w.ownsRow b e 1 v n xs) (hb : b' ≤ b) : w.ownsRow b' e 1 v n xs := by
  refine ⟨h.1, ?_⟩
  rcases h.2 with h0 | ⟨g, cap, cur, hv, hg, r⟩
  · exact .inl h0
  · exact .inr ⟨g, cap, cur, hv, by omega, r⟩

set_option maxRecDepth 100000 in
set_option maxHeartbeats 400000 in
theorem nodetext_any (d d' : Dg) (x x' : Int) (w : World) (h0 : 0 ≤ x) (h1 : x < 18446744073709551616) (h0' : 0 ≤ x') (h1' : x' < 18446744073709551616) :
    Calls Tryz.prog 101 #[sideV d x, sideV d' x'] w fun e w' => (∃ v', e = .returned v' ∧ w'.ownsRow w.heap.size 5 1 v' 23 (byteVals (1 :: (sideB (d, x) ++ sideB (d', x'))))) ∧ Below w.heap.size w w' := by
  obtain ⟨i0, hi, hz0, hz1, hz2⟩ := info_parts Tryz.infoByte
  have HC1 := fun (v : Value) (ys : List Value) (w' : World) (ho : w'.ownsRow (w.heap.size + 2) 5 1 v 1 ys) (hb : w.heap.size + 2 ≤ w'.heap.size) => hide (appside_any (w.heap.size + 2) 1 v ys d x w' h0 h1 ho hb (by omega))
  have HC2 := fun (v : Value) (ys : List Value) (w' : World) (ho : w'.ownsRow (w.heap.size + 2) 5 1 v 12 ys) (hb : w.heap.size + 2 ≤ w'.heap.size) => hide (appside_any (w.heap.size + 2) 12 v ys d' x' w' h0' h1' ho hb (by omega))
  clear h0 h1 h0' h1'
  have HE : Hid (byteVals (1 :: (sideB (d, x) ++ sideB (d', x'))) = (([] ++ [Value.int .u8 1]) ++ byteVals (sideB (d, x))) ++ byteVals (sideB (d', x'))) := by
    refine hide ?_; simp [byteVals]
  generalize byteVals (1 :: (sideB (d, x) ++ sideB (d', x'))) = ALL at *
  generalize byteVals (sideB (d, x)) = Y1 at *
  generalize byteVals (sideB (d', x')) = Y2 at *
  unfold sideV at *
  generalize (d.1.toNat : Int) = a0 at *
  generalize (d.2.1.toNat : Int) = a1 at *
  generalize (d.2.2.toNat : Int) = a2 at *
  generalize (d'.1.toNat : Int) = b0 at *
  generalize (d'.2.1.toNat : Int) = b1 at *
  generalize (d'.2.2.toNat : Int) = b2 at *
  go_enter Tryz.func101, Tryz.ntmps101
  go_wp2_with (at_make; refine wpList_make_own _ rfl _ _ 51 rfl (w.heap.size + 2) 5 i0 (.int .u8 0) 1 Tryz.underlying51 hi hz0 hz1 _ _ _ 23 rfl rfl rfl (by rw [hz2]; omega) (by unfold maxLen; omega) (by simp) ?_)
  intro w1 hown1 hgrow1
  try simp only [World.size_alloc] at hown1
  try simp only [World.size_alloc]
  generalize hW0 : ((w.alloc (Obj.cells #[Value.int IntKind.u8 a0, Value.int IntKind.u8 a1, Value.int IntKind.u8 a2, Value.int IntKind.u64 x] 106)).alloc (Obj.cells #[Value.int IntKind.u8 b0, Value.int IntKind.u8 b1, Value.int IntKind.u8 b2, Value.int IntKind.u64 x'] 106)) = W0 at *
  have hz : W0.heap.size = w.heap.size + 2 := by rw [← hW0]; simp
  have hBW : Below w.heap.size w W0 := by rw [← hW0]; exact ((Below.refl _ _).alloc (Nat.le_refl _) _).alloc (by simp) _
  have hQ1 : Quad W0 w.heap.size a0 a1 a2 x := by rw [← hW0]; exact ⟨by simp, by simp, by simp, by simp⟩
  have hQ2 : Quad W0 (w.heap.size + 1) b0 b1 b2 x' := by rw [← hW0]; exact ⟨by simp, by simp, by simp, by simp⟩
  have hB1 : Below (w.heap.size + 2) W0 w1 := (Below.refl _ _).grown hgrow1 (by omega) (fun b hb => by cases hb)
  have hQ1' := hQ1.belowB (by omega) hB1
  have hQ2' := hQ2.belowB (by omega) hB1
  have hz1' : w.heap.size + 2 ≤ w1.heap.size := by have := hB1.size; omega
  have HB := hide (hBW.trans (hB1.mono (by omega)))
  have HO := hide hown1
  have HQ := hide (And.intro hQ1' hQ2')
  clear hW0 hQ1 hQ2 hQ1' hQ2' hB1 hBW hgrow1 hown1 hz
  go_wp2_with (at_builtin; refine wpList_append_own _ rfl (.tmp 7) (.tmp 8) 51 rfl (w.heap.size + 2) 5 i0 (.int .u8 0) 1 1 Tryz.underlying51 hi hz0 hz1 hz2 rfl (by decide) _ _ _ rfl ((unhide HO).alloc _) ⟨w1.heap.size, 0, none⟩ 1 1 [_] rfl rfl (cell_one_new _ _ _) ?c2 ?c3 ?c4 ?c5 ?_)
  case c2 => intro u hu; simp at hu; subst hu; rfl
  case c3 => unfold maxLen; omega
  case c4 => omega
  case c5 => simp; omega
  intro v' w2 hown2 hgrow2 _
  have hB2 : Below (w.heap.size + 2) w1 w2 := ((Below.refl _ _).alloc hz1' _).grown hgrow2 (by simp; omega) (fun b hb => ((unhide HO).lt b hb).1)
  have hQ1 := (unhide HQ).1.belowB (by omega) hB2
  have hQ2 := (unhide HQ).2.belowB (by omega) hB2
  have hz2' : w.heap.size + 2 ≤ w2.heap.size := by have := hB2.size; omega
  have HB2 := hide ((unhide HB).trans (hB2.mono (by omega)))
  have HR := hide (HC1 v' _ w2 hown2 hz2')
  have HQ2 := hide hQ2
  clear hown2 hgrow2 hB2 hQ2 HQ HB HO HC1
  obtain ⟨q0, q1, q2, q3⟩ := hQ1
  go_wp2_with fail
  refine (unhide (unhide HR)).mono ?_
  rintro e w3 ⟨⟨v3, rfl, hown3⟩, hb3, _⟩
  have hQ2 := (unhide HQ2).belowB (by omega) hb3
  have hz3 : w.heap.size + 2 ≤ w3.heap.size := by have := hb3.size; omega
  have HB3 := hide ((unhide HB2).trans (hb3.mono (by omega)))
  have HR2 := hide (HC2 v3 _ w3 hown3 hz3)
  clear hown3 hb3 HQ2 HB2 HC2 HR q0 q1 q2 q3
  obtain ⟨q0, q1, q2, q3⟩ := hQ2
  go_wp2_with fail
  refine (unhide (unhide HR2)).mono ?_
  rintro e w4 ⟨⟨v4, rfl, hown4⟩, hb4, _⟩
  have HF := hide (And.intro hown4 ((unhide HB3).trans (hb4.mono (by omega))))
  clear hown4 hb4 HR2 HB3 q0 q1 q2 q3
  go_wp2
  go_ret
  refine ⟨⟨_, rfl, ?_⟩, (unhide HF).2⟩
  rw [unhide HE]
  exact own_lower (unhide HF).1 (by omega)

end Go.Proofs.YtbjobbkgelipmaaGreat

/-
  The walks of tithe's leafSize, appendLeaf, leafText.
-/
namespace Go.Proofs.YtbjobbkgelipmaaGreat
open Go.RowKit

set_option maxRecDepth 100000 in
set_option maxHeartbeats 400000 in
theorem leafsize_any (nm : ByteArray) (x x' : Int) (w : World) (hnm : nm.size ≤ 8) :
    Calls Tryz.prog 74 #[leafV nm x x'] w fun e w' => e = .returned (.int .i64 (1 + (nm.size : Int) + 16)) ∧ Below w.heap.size w w' := by
  unfold leafV
  go_enter Tryz.func74, Tryz.ntmps74
  go_wp2
  go_ret
  exact ⟨rfl, (Below.refl _ _).alloc (Nat.le_refl _) _⟩

/-- A leaf that lies in memory. -/
def LeafM (W : World) (A : Nat) (nm : ByteArray) (x x' : Int) : Prop := W.heap[A]? = some (.cells #[.string nm, .int .u64 x, .int .u64 x'] 115 (0, 0))
theorem LeafM.keep {W w4 : World} {A : Nat} {nm : ByteArray} {x x' : Int} (h : LeafM W A nm x x') (hk : KeepT W w4) : LeafM w4 A nm x x' := hk _ _ _ _ h (by decide)
theorem LeafM.cells {W : World} {A : Nat} {nm : ByteArray} {x x' : Int} (h : LeafM W A nm x x') : W.cell? ⟨A, 0, none⟩ = some (.string nm) ∧ W.cell? ⟨A, 1, none⟩ = some (.int .u64 x) ∧ W.cell? ⟨A, 2, none⟩ = some (.int .u64 x') := by
  refine ⟨?_, ?_, ?_⟩ <;> (rw [block_cell h]; rfl)

set_option maxRecDepth 100000 in
set_option maxHeartbeats 400000 in
theorem appleaf_any (base n : Nat) (v0 : Value) (xs : List Value) (nm : ByteArray) (x x' : Int) (w : World) (hnm : nm.size ≤ 8) (h0 : 0 ≤ x) (h1 : x < 18446744073709551616) (h0' : 0 ≤ x') (h1' : x' < 18446744073709551616) (hown0 : w.ownsRow base 5 1 v0 n xs) (hbase : base ≤ w.heap.size) (hn : n + 40 ≤ 140737488355328) :
    Calls Tryz.prog 75 #[v0, leafV nm x x'] w fun e w' => (∃ v', e = .returned v' ∧ w'.ownsRow base 5 1 v' (n + 1 + nm.size + 8 + 8) (xs ++ [Value.int .u8 (nm.size : Int)] ++ Lib.strCells nm ++ byteVals (longB x) ++ byteVals (longB x'))) ∧ Below base w w' ∧ KeepT w w' := by
  obtain ⟨i0, hi, hz0, hz1, hz2⟩ := info_parts Tryz.infoByte
  have HC1 := fun (v : Value) (ys : List Value) (w' : World) (ho : w'.ownsRow base 5 1 v (n + 1 + nm.size) ys) (hb : base ≤ w'.heap.size) => hide (appnum_any base (n + 1 + nm.size) v ys x w' h0 h1 ho hb (by omega))
  have HC2 := fun (v : Value) (ys : List Value) (w' : World) (ho : w'.ownsRow base 5 1 v (n + 1 + nm.size + 8) ys) (hb : base ≤ w'.heap.size) => hide (appnum_any base (n + 1 + nm.size + 8) v ys x' w' h0' h1' ho hb (by omega))
  clear h0 h1 h0' h1'
  have hw8 : IntKind.u8.wrap (nm.size : Int) = (nm.size : Int) := by rw [IntKind.wrap_u8]; omega
  have H0 := hide hown0
  clear hown0
  unfold leafV
  go_enter Tryz.func75, Tryz.ntmps75
  go_wp2_with (at_builtin; refine wpList_append_own _ rfl (.tmp 5) (.tmp 10) 51 rfl base 5 i0 (.int .u8 0) 1 1 Tryz.underlying51 hi hz0 hz1 hz2 rfl (by decide) _ _ _ rfl (((unhide H0).alloc _).alloc _) ⟨w.heap.size + 1, 0, none⟩ 1 1 [.int .u8 (nm.size : Int)] rfl rfl ?c1 ?c2 ?c3 ?c4 ?c5 ?_)
  case c1 =>
    intro j u hu
    match j, hu with
    | 0, hu => simp at hu; subst hu; simp [addr_add]
  case c2 => intro u hu; simp at hu; subst hu; rfl
  case c3 => unfold maxLen; omega
  case c4 => omega
  case c5 => simp; omega
  intro v' w1 hown1 hgrow1 _
  have hL0 : LeafM (w.alloc (Obj.cells #[Value.string nm, Value.int IntKind.u64 x, Value.int IntKind.u64 x'] 115)) w.heap.size nm x x' := heap_alloc_new w _
  have hk1 : KeepT (w.alloc (Obj.cells #[Value.string nm, Value.int IntKind.u64 x, Value.int IntKind.u64 x'] 115)) w1 := ((KeepT.refl _).alloc _).grown (((unhide H0).alloc _).alloc _) hgrow1
  have hK1 : KeepT w w1 := ((KeepT.refl w).alloc _).trans hk1
  have hL1 := hL0.keep hk1
  have hB1 : Below base w w1 := (((Below.refl base w).alloc hbase _).alloc (by simp; omega) _).grown hgrow1 (by simp; omega) (fun b hb => ((unhide H0).lt b hb).1)
  have hz1' : base ≤ w1.heap.size := by have := hB1.size; omega
  have HB := hide (And.intro hB1 (And.intro hK1 hL1))
  have HO := hide hown1
  obtain ⟨q0, q1, q2⟩ := hL1.cells
  clear hgrow1 hown1 hB1 hK1 hL0 hL1 hk1 H0
  go_wp2_with (at_builtin; refine Lib.wpList_append_own_string _ rfl (.tmp 12) (.tmp 14) 51 9 rfl base 5 i0 Tryz.underlying51 Tryz.underlying9 hi hz0 hz1 hz2 _ _ _ rfl (unhide HO) nm rfl ?d1 ?d2 hz1' ?_)
  case d1 => unfold maxLen; omega
  case d2 => omega
  intro v3 w3 hown3 hgrow3 _
  have hB3 : Below base w w3 := (unhide HB).1.grown hgrow3 hz1' (fun b hb => ((unhide HO).lt b hb).1)
  have hk3 : KeepT w1 w3 := (KeepT.refl _).grown (unhide HO) hgrow3
  have hL3 := (unhide HB).2.2.keep hk3
  have hz3 : base ≤ w3.heap.size := by have := hB3.size; omega
  have HB3 := hide (And.intro hB3 (And.intro ((unhide HB).2.1.trans hk3) hL3))
  have HR := hide (HC1 v3 _ w3 (by simpa using hown3) hz3)
  clear q0 q1 q2
  obtain ⟨q0, q1, q2⟩ := hL3.cells
  clear hown3 hgrow3 hB3 hk3 hL3 HB HO HC1
  go_wp2_with fail
  refine (unhide (unhide HR)).mono ?_
  rintro e w4 ⟨⟨v4, rfl, hown4⟩, hb4, hk4⟩
  have hL4 := (unhide HB3).2.2.keep hk4
  have hz4 : base ≤ w4.heap.size := by have := hb4.size; omega
  have HB4 := hide (And.intro ((unhide HB3).1.trans hb4) ((unhide HB3).2.1.trans hk4))
  have HR2 := hide (HC2 v4 _ w4 hown4 hz4)
  clear q0 q1 q2
  obtain ⟨q0, q1, q2⟩ := hL4.cells
  clear hown4 hb4 hk4 hL4 HR HB3 HC2
  go_wp2_with fail
  refine (unhide (unhide HR2)).mono ?_
  rintro e w5 ⟨⟨v5, rfl, hown5⟩, hb5, hk5⟩
  have HF := hide (And.intro hown5 (And.intro ((unhide HB4).1.trans hb5) ((unhide HB4).2.trans hk5)))
  clear hown5 hb5 hk5 HR2 HB4 q0 q1 q2
  go_wp2
  go_ret
  exact ⟨⟨_, rfl, by simpa using (unhide HF).1⟩, (unhide HF).2⟩

set_option maxRecDepth 100000 in
set_option maxHeartbeats 400000 in
theorem ownleaf_any (nm : ByteArray) (x x' : Int) (w : World) (hnm : nm.size ≤ 8) (h0 : 0 ≤ x) (h1 : x < 18446744073709551616) (h0' : 0 ≤ x') (h1' : x' < 18446744073709551616) :
    Calls Tryz.prog 99 #[leafV nm x x'] w fun e w' => (∃ v', e = .returned v' ∧ w'.ownsRow w.heap.size 5 1 v' (1 + 1 + nm.size + 8 + 8) ([Value.int .u8 0] ++ [Value.int .u8 (nm.size : Int)] ++ Lib.strCells nm ++ byteVals (longB x) ++ byteVals (longB x'))) ∧ Below w.heap.size w w' := by
  obtain ⟨i0, hi, hz0, hz1, hz2⟩ := info_parts Tryz.infoByte
  have HC1 := fun (v : Value) (w' : World) (ho : w'.ownsRow w.heap.size 5 1 v 1 [Value.int .u8 0]) (hb : w.heap.size ≤ w'.heap.size) => hide (appleaf_any w.heap.size 1 v _ nm x x' w' hnm h0 h1 h0' h1' ho hb (by omega))
  have HS := fun w' => hide (leafsize_any nm x x' w' hnm)
  clear h0 h1 h0' h1'
  unfold leafV at *
  go_enter Tryz.func99, Tryz.ntmps99
  go_wp2_with fail
  refine (unhide (HS _)).mono ?_
  rintro e w1 ⟨rfl, hb1⟩
  have hL0 : LeafM (w.alloc (Obj.cells #[Value.string nm, Value.int IntKind.u64 x, Value.int IntKind.u64 x'] 115)) w.heap.size nm x x' := heap_alloc_new w _
  have hL1 := hL0.keep (KeepT.below hb1)
  have hB1 : Below w.heap.size w w1 := ((Below.refl _ w).alloc (Nat.le_refl _) _).trans (hb1.mono (by simp))
  have hz1' : w.heap.size ≤ w1.heap.size := hB1.size
  have HB := hide (And.intro hB1 hL1)
  clear hb1 hL0 hL1 hB1 HS
  go_wp2_with (at_make; refine wpList_make_own _ rfl _ _ 51 rfl w.heap.size 5 i0 (.int .u8 0) 1 Tryz.underlying51 hi hz0 hz1 _ _ _ (1 + (1 + nm.size + 16)) rfl rfl (by omega) (by rw [hz2]; omega) (by unfold maxLen; omega) hz1' ?_)
  intro w2 hown2 hgrow2
  have hB2 : Below w.heap.size w w2 := (unhide HB).1.grown hgrow2 hz1' (fun b hb => by cases hb)
  have hL2 : LeafM w2 w.heap.size nm x x' := by
    have h := (unhide HB).2
    exact (hgrow2.block _ (Array.getElem?_eq_some_iff.1 h).1 (fun e => by cases e)).trans h
  have hz2' := hB2.size
  have HB2 := hide (And.intro hB2 hL2)
  have HO := hide hown2
  clear hgrow2 hown2 hB2 hL2 HB
  go_wp2_with (at_builtin; refine wpList_append_own _ rfl (.tmp 8) (.tmp 9) 51 rfl w.heap.size 5 i0 (.int .u8 0) 1 1 Tryz.underlying51 hi hz0 hz1 hz2 rfl (by decide) _ _ _ rfl ((unhide HO).alloc _) ⟨w2.heap.size, 0, none⟩ 1 1 [.int .u8 0] rfl rfl ?c1 ?c2 ?c3 ?c4 ?c5 ?_)
  case c1 =>
    intro j u hu
    match j, hu with
    | 0, hu => simp at hu; subst hu; simp [addr_add]
  case c2 => intro u hu; simp at hu; subst hu; rfl
  case c3 => unfold maxLen; omega
  case c4 => omega
  case c5 => simp; omega
  intro v3 w3 hown3 hgrow3 _
  have hk3 : KeepT w2 w3 := ((KeepT.refl _).alloc _).grown ((unhide HO).alloc _) hgrow3
  have hL3 := (unhide HB2).2.keep hk3
  have hB3 : Below w.heap.size w w3 := ((unhide HB2).1.alloc hz2' _).grown hgrow3 (by simp; omega) (fun b hb => ((unhide HO).lt b hb).1)
  have HR := hide (HC1 v3 w3 (by simpa using hown3) hB3.size)
  have HB3 := hide hB3
  obtain ⟨q0, q1, q2⟩ := hL3.cells
  clear hown3 hgrow3 hk3 hL3 hB3 HB2 HO HC1
  go_wp2_with fail
  refine (unhide (unhide HR)).mono ?_
  rintro e w5 ⟨⟨v5, rfl, hown5⟩, hb5, hk5⟩
  have HF := hide (And.intro hown5 ((unhide HB3).trans hb5))
  clear hown5 hb5 hk5 HR HB3 q0 q1 q2
  go_wp2
  go_ret
  exact ⟨⟨_, rfl, (unhide HF).1⟩, (unhide HF).2⟩

end Go.Proofs.YtbjobbkgelipmaaGreat

/-
  What titheref's accepted answers, in plain words.
-/
namespace Go.Proofs.YtbjobbkgelipmaaGreat
open Go.RowKit

def bAt (l : List UInt8) (k : Nat) : Nat := (l.getD k 0).toNat
/-- The head of a proof's bytes fits a height. -/
def accHead (h : Nat) (l : List UInt8) : Prop := 3 ≤ l.length ∧ bAt l 0 = h ∧ bAt l 1 < 2 ^ h ∧ 1 ≤ bAt l 2 ∧ bAt l 2 ≤ 8 ∧ l.length = 19 + bAt l 2 + 11 * h
def accBal (l : List UInt8) : Int := numB ((l.drop (3 + bAt l 2)).take 8)
def accSalt (l : List UInt8) : Int := numB ((l.drop (11 + bAt l 2)).take 8)
def accName (l : List UInt8) : List UInt8 := (l.drop 3).take (bAt l 2)
def accText0 (l : List UInt8) : List UInt8 := 0 :: (l.drop 2).take (17 + bAt l 2)
def maxS : Int := 4611686018427387904
/-- The text one level further up. -/
def upText (place : Nat) (now x : Dg × Int) : List UInt8 := if place % 2 = 1 then 1 :: (sideB x ++ sideB now) else 1 :: (sideB now ++ sideB x)
/-- The way up: its texts, and what stands there now; or it must not go on. -/
def accUp (l : List UInt8) : Nat → Option (List (List UInt8) × (Dg × Int))
  | 0 => some ([accText0 l], (dg (accText0 l), accBal l))
  | k + 1 => match accUp l k with
    | none => none
    | some (ts, now) => if maxS < (sideAt l (19 + bAt l 2 + 11 * k)).2 ∨ maxS < now.2 + (sideAt l (19 + bAt l 2 + 11 * k)).2 then none
      else some (ts ++ [upText (bAt l 1 / 2 ^ k) now (sideAt l (19 + bAt l 2 + 11 * k))], (dg (upText (bAt l 1 / 2 ^ k) now (sideAt l (19 + bAt l 2 + 11 * k))), now.2 + (sideAt l (19 + bAt l 2 + 11 * k)).2))
/-- Is the proof accepted by a height and a root? Its texts, then. -/
def accTexts (h : Nat) (root : Dg × Int) (l : List UInt8) : Option (List (List UInt8)) :=
  match accUp l h with
  | some (ts, now) => if now = root then some ts else none
  | none => none

theorem accUp_none {l : List UInt8} : ∀ {k j : Nat}, accUp l k = none → accUp l (k + j) = none
  | k, 0, h => h
  | k, j + 1, h => by
    have := accUp_none (j := j) h
    rw [show k + (j + 1) = (k + j) + 1 by omega]
    simp only [accUp, this]
theorem accUp_le {l : List UInt8} (hb : accBal l ≤ maxS) (hb0 : 0 ≤ accBal l) : ∀ {k : Nat} {ts : List (List UInt8)} {now : Dg × Int}, accUp l k = some (ts, now) → 0 ≤ now.2 ∧ now.2 ≤ maxS ∧ ts.length = k + 1
  | 0, ts, now, h => by
    simp only [accUp, Option.some.injEq, Prod.mk.injEq] at h
    obtain ⟨rfl, rfl⟩ := h
    exact ⟨hb0, hb, rfl⟩
  | k + 1, ts, now, h => by
    simp only [accUp] at h
    split at h
    · cases h
    · rename_i ts' now' h'
      have ih := accUp_le hb hb0 h'
      split at h
      · cases h
      · rename_i hc
        simp only [Option.some.injEq, Prod.mk.injEq] at h
        obtain ⟨rfl, rfl⟩ := h
        have hx := sideAt_range l (19 + bAt l 2 + 11 * k)
        refine ⟨?_, ?_, ?_⟩
        · simp only; omega
        · simp only; omega
        · rw [List.length_append, ih.2.2]; rfl

theorem accUp_step {l : List UInt8} {j : Nat} {ts : List (List UInt8)} {now x : Dg × Int} (h : accUp l j = some (ts, now)) (hx : sideAt l (19 + bAt l 2 + 11 * j) = x) (hc : ¬ (maxS < x.2 ∨ maxS < now.2 + x.2)) :
    accUp l (j + 1) = some (ts ++ [upText (bAt l 1 / 2 ^ j) now x], (dg (upText (bAt l 1 / 2 ^ j) now x), now.2 + x.2)) := by
  simp only [accUp, h, hx]
  rw [if_neg hc]
theorem accUp_stop {l : List UInt8} {j h : Nat} {root : Dg × Int} {ts : List (List UInt8)} {now x : Dg × Int} (hu : accUp l j = some (ts, now)) (hx : sideAt l (19 + bAt l 2 + 11 * j) = x) (hc : maxS < x.2 ∨ maxS < now.2 + x.2) (hjh : j < h) :
    (if maxS < accBal l then Option.none else accTexts h root l) = Option.none := by
  have h1 : accUp l (j + 1) = none := by
    simp only [accUp, hu, hx]
    rw [if_pos hc]
  have h2 : accUp l h = none := by
    have := accUp_none (j := h - (j + 1)) h1
    rwa [show j + 1 + (h - (j + 1)) = h by omega] at this
  split
  · rfl
  · simp only [accTexts, h2]
theorem accTexts_end {l : List UInt8} {h : Nat} {root : Dg × Int} {ts : List (List UInt8)} {now : Dg × Int} (hu : accUp l h = some (ts, now)) (hb : ¬ maxS < accBal l) :
    (if maxS < accBal l then Option.none else accTexts h root l) = if now = root then some ts else Option.none := by
  rw [if_neg hb]
  simp only [accTexts, hu]

def proofV (place : Int) (nm : ByteArray) (bal salt : Int) (a : Option Addr) (n c : Nat) : Value := .agg #[.int .i64 place, .string nm, .int .u64 bal, .int .u64 salt, .slice a n c]
def proofZ : Value := .agg #[.int .i64 0, .string ⟨#[]⟩, .int .u64 0, .int .u64 0, .slice none 0 0]

end Go.Proofs.YtbjobbkgelipmaaGreat

/-
  A leaf's text out of a proof's bytes: plain lists.
-/
namespace Go.Proofs.YtbjobbkgelipmaaGreat
open Go.RowKit

theorem numB_from : ∀ (b : List UInt8) (n : Int), b.foldl (fun n c => n * 256 + (c.toNat : Int)) n = n * 256 ^ b.length + numB b
  | [], n => by simp [numB]
  | c :: b, n => by
    have e : numB (c :: b) = (c.toNat : Int) * 256 ^ b.length + numB b := by
      unfold numB
      rw [List.foldl_cons, numB_from b]
      simp [numB]
    rw [List.foldl_cons, numB_from b, e, List.length_cons, Int.pow_succ, Int.add_mul, Int.mul_assoc, Int.mul_comm 256 (256 ^ b.length), Int.add_assoc]
theorem numB_append (a b : List UInt8) : numB (a ++ b) = numB a * 256 ^ b.length + numB b := by
  have h := numB_from b (numB a)
  rw [← h]
  unfold numB
  rw [List.foldl_append]
theorem longAt_numB (l : List UInt8) (h : l.length = 8) (j : Nat) (hj : j < 8) : longAt (numB l) j = l[j] := by
  have e1 : l = l.take j ++ (l[j] :: l.drop (j + 1)) := by rw [List.getElem_cons_drop, List.take_append_drop]
  have hd : (l.drop (j + 1)).length = 7 - j := by rw [List.length_drop]; omega
  have hr := numB_range_len (7 - j) (l.drop (j + 1)) hd
  have ht := numB_range_len j (l.take j) (by rw [List.length_take]; omega)
  have e2 : numB l = (numB (l.take j) * 256 + (l[j].toNat : Int)) * 256 ^ (7 - j) + numB (l.drop (j + 1)) := by
    conv => lhs; rw [e1]
    rw [show l.take j ++ (l[j] :: l.drop (j + 1)) = (l.take j ++ [l[j]]) ++ l.drop (j + 1) by simp, numB_append, numB_snoc, hd]
  have hp : (0 : Int) < 256 ^ (7 - j) := Int.pow_pos (by decide)
  have e3 : (2 : Int) ^ (8 * (7 - j)) = 256 ^ (7 - j) := by rw [Int.pow_mul]; rfl
  have e4 : numB l / 256 ^ (7 - j) = numB (l.take j) * 256 + (l[j].toNat : Int) := by
    rw [e2, Int.add_comm, Int.add_mul_ediv_right _ _ (by omega), Int.ediv_eq_zero_of_lt hr.1 hr.2]
    omega
  unfold longAt
  apply UInt8.toNat.inj
  have := lowByte_toNat (numB l / 2 ^ (8 * (7 - j)))
  rw [e3, e4] at this
  rw [e3, e4]
  have h4 := l[j].toNat_lt
  omega
theorem longB_numB (l : List UInt8) (h : l.length = 8) : longB (numB l) = l := by
  apply List.ext_getElem
  · rw [longB_length, h]
  · intro j h1 h2
    rw [← longAt_numB l h j (by omega)]
    simp [longB]

theorem accText0_parts (h : Nat) (l : List UInt8) (hh : accHead h l) :
    accText0 l = 0 :: ((l.getD 2 0) :: (accName l ++ (longB (accBal l) ++ longB (accSalt l)))) := by
  obtain ⟨h3, _, _, h1, h8, hl⟩ := hh
  unfold accText0 accName accBal accSalt
  rw [longB_numB _ (by rw [List.length_take, List.length_drop]; omega), longB_numB _ (by rw [List.length_take, List.length_drop]; omega)]
  have e2 : l.drop 2 = l.getD 2 0 :: l.drop 3 := by
    rw [List.getD_eq_getElem?_getD, List.getElem?_eq_getElem (by omega)]
    exact (List.getElem_cons_drop (by omega)).symm
  rw [e2, show 17 + bAt l 2 = (16 + bAt l 2) + 1 by omega, List.take_succ_cons]
  congr 2
  rw [show 16 + bAt l 2 = bAt l 2 + (8 + 8) by omega, List.take_add, List.take_add, List.drop_drop, List.drop_drop]
  rw [show 3 + bAt l 2 + 8 = 11 + bAt l 2 by omega]

theorem accText0_vals (h : Nat) (l : List UInt8) (hh : accHead h l) :
    ((([] ++ [Value.int .u8 0]) ++ [Value.int .u8 (((⟨(accName l).toArray⟩ : ByteArray).size : Nat) : Int)]) ++ Lib.strCells ⟨(accName l).toArray⟩ ++ byteVals (longB (accBal l))) ++ byteVals (longB (accSalt l)) = byteVals (accText0 l) := by
  rw [accText0_parts h l hh]
  have hs : ((⟨(accName l).toArray⟩ : ByteArray).size) = bAt l 2 := by
    show (accName l).toArray.size = _
    rw [List.size_toArray]
    unfold accName
    rw [List.length_take, List.length_drop]
    have := hh.2.2.2.2
    omega
  rw [hs]
  simp [byteVals, Lib.strCells, bAt]
theorem accText0_len (h : Nat) (l : List UInt8) (hh : accHead h l) : (accText0 l).length = 18 + bAt l 2 := by
  obtain ⟨h3, _, _, h1, h8, hl⟩ := hh
  unfold accText0
  rw [List.length_cons, List.length_take, List.length_drop]
  omega
theorem accName_size (h : Nat) (l : List UInt8) (hh : accHead h l) : (⟨(accName l).toArray⟩ : ByteArray).size = bAt l 2 := by
  show (accName l).toArray.size = _
  rw [List.size_toArray]
  unfold accName
  rw [List.length_take, List.length_drop]
  have := hh.2.2.2.2
  omega
theorem accBal_range (l : List UInt8) : 0 ≤ accBal l ∧ accBal l < 18446744073709551616 := numB_range _ (by rw [List.length_take]; omega)
theorem accSalt_range (l : List UInt8) : 0 ≤ accSalt l ∧ accSalt l < 18446744073709551616 := numB_range _ (by rw [List.length_take]; omega)

end Go.Proofs.YtbjobbkgelipmaaGreat
