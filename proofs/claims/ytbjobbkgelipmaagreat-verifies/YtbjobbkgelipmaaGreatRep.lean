/-
  The walk of titheref's report.
-/
import Derived.Test.YtbjobbkgelipmaaGreatNum
namespace Go.Proofs.YtbjobbkgelipmaaGreat
open Go.RowKit

/-- Do some bytes make a report's head: twelve of them, a height up to six? -/
def repHead (l : List UInt8) : Prop := l.length = 12 ∧ (l.getD 0 0).toNat ≤ 6
def repRoot (l : List UInt8) : Dg × Int := sideAt l 1
def repH (l : List UInt8) : Nat := (l.getD 0 0).toNat
def sideZ : Value := .agg #[.int .u8 0, .int .u8 0, .int .u8 0, .int .u64 0]
def leMax (n : Int) : Bool := decide (n ≤ 4611686018427387904)

set_option maxHeartbeats 400000 in
set_option maxRecDepth 100000 in
theorem report_bad (s : ByteArray) (w : World) (_hm : s.size ≤ 140737488351232) (hb : ¬ repHead s.data.toList) :
    Calls Tryz.prog 62 #[.string s] w fun e w' => e = .returned (.tuple #[.int .i64 0, sideZ, .bool false]) ∧ Below w.heap.size w w' := by
  by_cases hl : s.size = 12
  · have hx := index_at s 0 (by omega)
    have h6 : 6 < (s.data.toList.getD 0 0).toNat := by
      have : s.data.toList.length = 12 := by simpa using hl
      exact Nat.lt_of_not_le fun h => hb ⟨this, h⟩
    generalize hd : ((s.data.toList.getD 0 0).toNat : Int) = d at hx
    have hd6 : (6 : Int) < d := by omega
    have hl' : ((s.size : Int) != 12) = false := by simp [bne, hl]
    have hx' : ∀ w, (Instr.index 9 (.string s) (.int .i64 0)).run Tryz.prog w = .ok (.int .u8 d) w := hx
    clear hx hl h6 hd hb
    go_enter Tryz.func62, Tryz.ntmps62
    go_wp2
    refine bodyPost_ret (v := .tuple #[.int .i64 0, sideZ, .bool false]) ?_ rfl ⟨rfl, ?_⟩
    · simp [results, Tryz.results62, go_sem, sideZ]
    · exact (Below.refl _ _).alloc (Nat.le_refl _) _
  · have hl' : ((s.size : Int) != 12) = true := by simp; omega
    clear hl hb
    go_enter Tryz.func62, Tryz.ntmps62
    go_wp2
    refine bodyPost_ret (v := .tuple #[.int .i64 0, sideZ, .bool false]) ?_ rfl ⟨rfl, ?_⟩
    · simp [results, Tryz.results62, go_sem, sideZ]
    · exact (Below.refl _ _).alloc (Nat.le_refl _) _

/-- Four cells of a side. -/
abbrev Quad (w' : World) (A : Nat) (d0 d1 d2 n : Int) : Prop :=
  w'.cell? ⟨A, 0, none⟩ = some (.int .u8 d0) ∧ w'.cell? ⟨A, 1, none⟩ = some (.int .u8 d1) ∧ w'.cell? ⟨A, 2, none⟩ = some (.int .u8 d2) ∧ w'.cell? ⟨A, 3, none⟩ = some (.int .u64 n)
theorem Quad.store {W : World} {A R : Nat} {d0 d1 d2 n : Int} (h : Quad W A d0 d1 d2 n) (hA : A ≠ R) (x0 x1 x2 x3 : Value) :
    Quad ((((W.setCell ⟨R, 0, none⟩ x0).setCell ⟨R, 1, none⟩ x1).setCell ⟨R, 2, none⟩ x2).setCell ⟨R, 3, none⟩ x3) A d0 d1 d2 n :=
  ⟨cell_set4 _ _ _ _ _ _ _ _ _ hA h.1, cell_set4 _ _ _ _ _ _ _ _ _ hA h.2.1, cell_set4 _ _ _ _ _ _ _ _ _ hA h.2.2.1, cell_set4 _ _ _ _ _ _ _ _ _ hA h.2.2.2⟩
theorem Quad.drew {X : World} {A : Nat} {d0 d1 d2 n : Int} (h : Quad X A d0 d1 d2 n) : Quad X.drew A d0 d1 d2 n := ⟨h.1, h.2.1, h.2.2.1, h.2.2.2⟩
theorem Quad.storeD {W : World} {A R : Nat} {d0 d1 d2 n : Int} (h : Quad W A d0 d1 d2 n) (hA : A ≠ R) (x0 x1 x2 x3 : Value) :
    Quad ((((W.setCell ⟨R, 0, none⟩ x0).setCell ⟨R, 1, none⟩ x1).setCell ⟨R, 2, none⟩ x2).setCell ⟨R, 3, none⟩ x3).drew A d0 d1 d2 n := (h.store hA x0 x1 x2 x3).drew
theorem Quad.below {W w4 : World} {A : Nat} {d0 d1 d2 n : Int} (h : Quad W A d0 d1 d2 n) (hlt : A < W.heap.size) (hb : Below W.heap.size W w4) : Quad w4 A d0 d1 d2 n :=
  ⟨keepB hb hlt h.1, keepB hb hlt h.2.1, keepB hb hlt h.2.2.1, keepB hb hlt h.2.2.2⟩

set_option maxHeartbeats 400000 in
set_option maxRecDepth 100000 in
theorem report_good (s : ByteArray) (w : World) (hb : repHead s.data.toList) :
    Calls Tryz.prog 62 #[.string s] w fun e w' => e = .returned (.tuple #[.int .i64 (repH s.data.toList : Int), sideV (repRoot s.data.toList).1 (repRoot s.data.toList).2, .bool (leMax (repRoot s.data.toList).2)]) ∧ Below w.heap.size w w' := by
  have hl : s.size = 12 := by simpa using hb.1
  have hx := index_at s 0 (by omega)
  have HC : ∀ w, Hid (Calls Tryz.prog 79 #[.string s, .int .i64 1] w fun e w' => e = .returned (sideV (repRoot s.data.toList).1 (repRoot s.data.toList).2) ∧ Below w.heap.size w w') := fun w => side_read s 1 w (by omega) (by omega)
  obtain ⟨d0, d1, d2, hD⟩ : ∃ d0 d1 d2 : Int, sideV (repRoot s.data.toList).1 (repRoot s.data.toList).2 = .agg #[.int .u8 d0, .int .u8 d1, .int .u8 d2, .int .u64 (repRoot s.data.toList).2] := ⟨_, _, _, rfl⟩
  rw [hD] at HC
  have HD := hide hD
  have hr := sideAt_range s.data.toList 1
  have hr0 : 0 ≤ (repRoot s.data.toList).2 := hr.1
  generalize (repRoot s.data.toList).2 = n at *
  have h6 : repH s.data.toList ≤ 6 := hb.2
  have hx' : ∀ w, (Instr.index 9 (.string s) (.int .i64 0)).run Tryz.prog w = .ok (.int .u8 (repH s.data.toList : Int)) w := hx
  generalize repH s.data.toList = h at *
  have hd6 : ¬ (6 : Int) < (h : Int) := by omega
  have hl' : ((s.size : Int) != 12) = false := by simp [bne, hl]
  have hwr : IntKind.i64.wrap (h : Int) = (h : Int) := by rw [IntKind.wrap_i64]; omega
  obtain ⟨bb, hbb⟩ : ∃ bb : Bool, leMax n = bb := ⟨_, rfl⟩
  have hle : decide (n ≤ 4611686018427387904) = bb := hbb
  have HBB := hide hbb
  clear hx hl hb hD hr hbb
  go_enter Tryz.func62, Tryz.ntmps62
  go_wp2_with fail
  refine (unhide (HC _)).mono ?_
  rintro e w1 ⟨rfl, hb1⟩
  have z1 : w.heap.size < w1.heap.size := by have := hb1.size; simp at this; omega
  have k0 : w1.cell? ⟨w.heap.size, 0, none⟩ = some (.int .u8 0) := keepB hb1 (by simp) (by simp)
  have k1 : w1.cell? ⟨w.heap.size, 1, none⟩ = some (.int .u8 0) := keepB hb1 (by simp) (by simp)
  have k2 : w1.cell? ⟨w.heap.size, 2, none⟩ = some (.int .u8 0) := keepB hb1 (by simp) (by simp)
  have k3 : w1.cell? ⟨w.heap.size, 3, none⟩ = some (.int .u64 0) := keepB hb1 (by simp) (by simp)
  have f0 : ∀ i, w1.frozen? ⟨w.heap.size, i, none⟩ = false := fun i => ((bcell hb1).2 _ _ (by simp)).trans (by simp)
  have HA := hide (((Below.refl w.heap.size w).alloc (Nat.le_refl _) _).trans (hb1.mono (by simp)))
  clear hb1 HC
  go_wp2_with fail
  have hne : w1.heap.size ≠ w.heap.size := by omega
  generalize hW : (w1.alloc (Obj.cells #[Value.int IntKind.u8 d0, Value.int IntKind.u8 d1, Value.int IntKind.u8 d2, Value.int IntKind.u64 n] 49)) = W
  have hS : Quad W w1.heap.size d0 d1 d2 n ∧ Res4 W w.heap.size := by
    rw [← hW]
    refine ⟨⟨by simp, by simp, by simp, by simp⟩, ?_⟩
    have hA : Below w1.heap.size w1 (w1.alloc (Obj.cells #[Value.int IntKind.u8 d0, Value.int IntKind.u8 d1, Value.int IntKind.u8 d2, Value.int IntKind.u64 n] 49)) := (Below.refl _ _).alloc (Nat.le_refl _) _
    refine Res4.below ?_ z1 hA
    intro i hi
    match i, hi with
    | 0, _ => exact ⟨by rw [k0]; rfl, f0 0⟩
    | 1, _ => exact ⟨by rw [k1]; rfl, f0 1⟩
    | 2, _ => exact ⟨by rw [k2]; rfl, f0 2⟩
    | 3, _ => exact ⟨by rw [k3]; rfl, f0 3⟩
  have HAW : Hid (Below w.heap.size w W) := by rw [← hW]; exact (unhide HA).alloc (by omega) _
  obtain ⟨r0, r1, r2, r3, g0, g1, g2, g3, j0, j1, j2, j3⟩ := hS.2.cells
  have hSd : Quad W.drew w1.heap.size d0 d1 d2 n := hS.1
  have hSW : Quad W w1.heap.size d0 d1 d2 n := hS.1
  clear hW hS k0 k1 k2 k3 f0 HA
  go_region_held3 (fun w' => w'.cell? ⟨w1.heap.size, 0, none⟩ = some (.int .u8 d0) ∧ w'.cell? ⟨w1.heap.size, 1, none⟩ = some (.int .u8 d1) ∧ w'.cell? ⟨w1.heap.size, 2, none⟩ = some (.int .u8 d2) ∧ w'.cell? ⟨w1.heap.size, 3, none⟩ = some (.int .u64 n))
    (first | with_reducible exact hSd | with_reducible exact Quad.storeD hSW hne _ _ _ _)
    (fail)
  go_wp2
  refine bodyPost_ret (v := .tuple #[.int .i64 (h : Int), sideV (repRoot s.data.toList).1 n, .bool (leMax n)]) ?_ rfl ⟨rfl, ?_⟩
  · rw [unhide HD, unhide HBB]
    simp [results, Tryz.results62, go_sem, g0, g1, g2, g3]
  · exact (((((unhide HAW).setCell (Nat.le_refl _) _).setCell (Nat.le_refl _) _).setCell (Nat.le_refl _) _).setCell (Nat.le_refl _) _).drew

end Go.Proofs.YtbjobbkgelipmaaGreat
