/-
  The walks of titheref's texts: Side.text, Leaf.Text.
-/
import Derived.Test.YtbjobbkgelipmaaGreatLong
import Derived.Deep.RegionHeld3
namespace Go.Proofs.YtbjobbkgelipmaaGreat
open Go.RowKit

abbrev Dg := UInt8 × UInt8 × UInt8
def dgB (d : Dg) : List UInt8 := [d.1, d.2.1, d.2.2]
def sideV (d : Dg) (n : Int) : Value := .agg #[.int .u8 (d.1.toNat : Int), .int .u8 (d.2.1.toNat : Int), .int .u8 (d.2.2.toNat : Int), .int .u64 n]
def strV (l : List UInt8) : Value := .string ⟨l.toArray⟩

theorem bcell {W w1 : World} (hb : Below W.heap.size W w1) : (∀ b o, b < W.heap.size → w1.cell? ⟨b, o, none⟩ = W.cell? ⟨b, o, none⟩) ∧ (∀ b o, b < W.heap.size → w1.frozen? ⟨b, o, none⟩ = W.frozen? ⟨b, o, none⟩) :=
  ⟨fun b o h => hb.cell (p := ⟨b, o, none⟩) h, fun b o h => hb.frozen (p := ⟨b, o, none⟩) h⟩

theorem convert3 (b : Nat) (x y z : UInt8) (w : World) (h0 : w.cell? ⟨b, 0, none⟩ = some (.int .u8 (x.toNat : Int))) (h1 : w.cell? ⟨b, 1, none⟩ = some (.int .u8 (y.toNat : Int))) (h2 : w.cell? ⟨b, 2, none⟩ = some (.int .u8 (z.toNat : Int))) :
    (convert 51 9 (.slice (some ⟨b, 0, none⟩) 3 3)).run Tryz.prog w = .ok (.string ⟨#[x, y, z]⟩) w := by
  have h := run_convert_bytes_back (P := Tryz.prog) w 51 9 5 ⟨b, 0, none⟩ 3 [x, y, z] Tryz.underlying51 Tryz.underlying5 Tryz.underlying9 (by
    intro j hj
    match j, hj with
    | 0, _ => rw [addr_add]; exact h0
    | 1, _ => rw [addr_add]; exact h1
    | 2, _ => rw [addr_add]; exact h2)
  simpa using h

theorem str_add {P : Program} (a b : ByteArray) (h : a.size + b.size ≤ 9223372036854775807) (w : World) : (Op.stringOp .add a b).run P w = .ok (.string (a ++ b)) w := run_string_add_sum w a b h

theorem keepB {W w1 : World} {b o : Nat} {v : Value} (hb : Below W.heap.size W w1) (hlt : b < W.heap.size) (h : W.cell? ⟨b, o, none⟩ = some v) : w1.cell? ⟨b, o, none⟩ = some v := ((bcell hb).1 _ _ hlt).trans h

theorem keep4 {w W w4 : World} {B : Nat} {v0 v1 v2 v3 : Value} (hB : w.heap.size ≤ B) (h : W.cell? ⟨B, 0, none⟩ = some v0 ∧ W.cell? ⟨B, 1, none⟩ = some v1 ∧ W.cell? ⟨B, 2, none⟩ = some v2 ∧ W.cell? ⟨B, 3, none⟩ = some v3 ∧ B < W.heap.size ∧ Below w.heap.size w W) (hb : Below W.heap.size W w4) :
    w4.cell? ⟨B, 0, none⟩ = some v0 ∧ w4.cell? ⟨B, 1, none⟩ = some v1 ∧ w4.cell? ⟨B, 2, none⟩ = some v2 ∧ w4.cell? ⟨B, 3, none⟩ = some v3 ∧ B < w4.heap.size ∧ Below w.heap.size w w4 := by
  obtain ⟨h0, h1, h2, h3, h4, h5⟩ := h
  have := hb.size
  exact ⟨keepB hb h4 h0, keepB hb h4 h1, keepB hb h4 h2, keepB hb h4 h3, by omega, h5.trans (hb.mono (by omega))⟩

set_option maxRecDepth 100000 in
set_option maxHeartbeats 400000 in
theorem sidetext_any (d : Dg) (n : Int) (w : World) (h0 : 0 ≤ n) (h1 : n < 18446744073709551616) :
    Calls Tryz.prog 15 #[sideV d n] w fun e w' => e = .returned (strV (dgB d ++ longB n)) ∧ Below w.heap.size w w' := by
  have H1 := hide h1
  clear h1
  unfold sideV
  obtain ⟨x, y, z⟩ := d
  have hcv := convert3 w.heap.size x y z
  obtain ⟨L, hLd⟩ : ∃ L : ByteArray, L = ⟨(longB n).toArray⟩ := ⟨_, rfl⟩
  have HL : ∀ w, Hid (Calls Tryz.prog 38 #[.int .u64 n] w fun e w' => e = .returned (.string L) ∧ Below w.heap.size w w') := fun w => by rw [hLd]; exact long_any n w h0 (unhide H1)
  have hsa := str_add (P := Tryz.prog) ⟨#[x, y, z]⟩ L (by rw [hLd]; simp [ByteArray.size, longB_length])
  have HLd := hide hLd
  clear hLd
  go_enter Tryz.func15, Tryz.ntmps15
  go_wp2_with fail
  go_region_held3 (fun w' => w'.cell? ⟨w.heap.size, 0, none⟩ = some (.int .u8 (x.toNat : Int)) ∧ w'.cell? ⟨w.heap.size, 1, none⟩ = some (.int .u8 (y.toNat : Int)) ∧ w'.cell? ⟨w.heap.size, 2, none⟩ = some (.int .u8 (z.toNat : Int)) ∧ w'.cell? ⟨w.heap.size, 3, none⟩ = some (.int .u64 n) ∧ w.heap.size < w'.heap.size ∧ Below w.heap.size w w')
    (first | assumption | exact ⟨by simp, by simp, by simp, by simp, by simp, ((Below.refl _ _).alloc (Nat.le_refl _) _).drew⟩ | exact keep4 (Nat.le_refl _) (by assumption) hb4)
    (first | (go_at_call 38; refine (unhide (HL _)).mono ?_; rintro e w4 ⟨rfl, hb4⟩))
  go_wp2
  go_ret
  refine ⟨?_, by rename_i hS; exact hS.2.2.2.2.2⟩
  rw [unhide HLd]
  rfl

end Go.Proofs.YtbjobbkgelipmaaGreat
