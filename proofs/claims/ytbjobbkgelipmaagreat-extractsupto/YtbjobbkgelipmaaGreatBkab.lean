/-
  The walk of titheref's Leaf.Text.
-/
import Derived.Test.YtbjobbkgelipmaaGreatBkaa
namespace Go.Proofs.YtbjobbkgelipmaaGreat
open Go.RowKit

def leafV (nm : ByteArray) (bal salt : Int) : Value := .agg #[.string nm, .int .u64 bal, .int .u64 salt]
/-- A leaf's text, behind its first byte. -/
def leafB (nm : List UInt8) (bal salt : Int) : List UInt8 := [UInt8.ofNat nm.length] ++ nm ++ longB bal ++ longB salt

theorem convert1 (x : Int) (h0 : 0 ≤ x) (h1 : x ≤ 255) (b : Nat) (w : World) (h : w.cell? ⟨b, 0, none⟩ = some (.int .u8 x)) :
    (convert 51 9 (.slice (some ⟨b, 0, none⟩) 1 1)).run Tryz.prog w = .ok (.string ⟨#[UInt8.ofNat x.toNat]⟩) w := by
  have e : x = ((UInt8.ofNat x.toNat).toNat : Int) := by
    rw [UInt8.toNat_ofNat_of_lt' (by simp; omega)]; omega
  have hh := run_convert_bytes_back (P := Tryz.prog) w 51 9 5 ⟨b, 0, none⟩ 1 [UInt8.ofNat x.toNat] Tryz.underlying51 Tryz.underlying5 Tryz.underlying9 (by
    intro j hj
    match j, hj with
    | 0, _ => rw [addr_add]; rw [h]; exact congrArg (fun y => some (Value.int .u8 y)) e)
  simpa using hh

theorem keep3 {w W w4 : World} {B : Nat} {v0 v1 v2 : Value} (hB : w.heap.size ≤ B) (h : W.cell? ⟨B, 0, none⟩ = some v0 ∧ W.cell? ⟨B, 1, none⟩ = some v1 ∧ W.cell? ⟨B, 2, none⟩ = some v2 ∧ B < W.heap.size ∧ Below w.heap.size w W) (hb : Below W.heap.size W w4) :
    w4.cell? ⟨B, 0, none⟩ = some v0 ∧ w4.cell? ⟨B, 1, none⟩ = some v1 ∧ w4.cell? ⟨B, 2, none⟩ = some v2 ∧ B < w4.heap.size ∧ Below w.heap.size w w4 := by
  obtain ⟨h0, h1, h2, h4, h5⟩ := h
  have := hb.size
  exact ⟨keepB hb h4 h0, keepB hb h4 h1, keepB hb h4 h2, by omega, h5.trans (hb.mono (by omega))⟩

theorem leaf_end (nm : ByteArray) (bal salt : Int) :
    Ending.returned (.string (⟨#[UInt8.ofNat nm.size]⟩ ++ nm ++ ⟨(longB bal).toArray⟩ ++ ⟨(longB salt).toArray⟩)) = .returned (strV (leafB nm.data.toList bal salt)) := by
  unfold strV leafB
  congr 2

set_option maxRecDepth 100000 in
set_option maxHeartbeats 1000000 in
theorem leaftext_any (nm : ByteArray) (bal salt : Int) (w : World) (hn : nm.size ≤ 8) (h0 : 0 ≤ bal) (h1 : bal < 18446744073709551616) (h2 : 0 ≤ salt) (h3 : salt < 18446744073709551616) :
    Calls Tryz.prog 16 #[leafV nm bal salt] w fun e w' => e = .returned (strV (leafB nm.data.toList bal salt)) ∧ Below w.heap.size w w' := by
  have H1 := hide h1
  have H3 := hide h3
  clear h1 h3
  unfold leafV
  obtain ⟨p1, hp1⟩ : ∃ p1 : ByteArray, p1 = ⟨#[UInt8.ofNat nm.size]⟩ := ⟨_, rfl⟩
  obtain ⟨L1, hL1⟩ : ∃ L : ByteArray, L = ⟨(longB bal).toArray⟩ := ⟨_, rfl⟩
  obtain ⟨L2, hL2⟩ : ∃ L : ByteArray, L = ⟨(longB salt).toArray⟩ := ⟨_, rfl⟩
  have s0 : p1.size = 1 := by rw [hp1]; rfl
  have s1 : L1.size = 8 := by rw [hL1]; simp [ByteArray.size, longB_length]
  have s2 : L2.size = 8 := by rw [hL2]; simp [ByteArray.size, longB_length]
  have hcv : ∀ b w, w.cell? ⟨b, 0, none⟩ = some (.int .u8 (nm.size : Int)) → (convert 51 9 (.slice (some ⟨b, 0, none⟩) 1 1)).run Tryz.prog w = .ok (.string p1) w := by
    intro b w h
    have := convert1 (nm.size : Int) (by omega) (by omega) b w h
    rw [hp1]; simpa using this
  have HA : ∀ w, Hid (Calls Tryz.prog 38 #[.int .u64 bal] w fun e w' => e = .returned (.string L1) ∧ Below w.heap.size w w') := fun w => by rw [hL1]; exact long_any bal w h0 (unhide H1)
  have HB : ∀ w, Hid (Calls Tryz.prog 38 #[.int .u64 salt] w fun e w' => e = .returned (.string L2) ∧ Below w.heap.size w w') := fun w => by rw [hL2]; exact long_any salt w h2 (unhide H3)
  have hsa1 := str_add (P := Tryz.prog) p1 nm (by omega)
  have hsa2 := str_add (P := Tryz.prog) (p1 ++ nm) L1 (by rw [ByteArray.size_append]; omega)
  have hsa3 := str_add (P := Tryz.prog) (p1 ++ nm ++ L1) L2 (by rw [ByteArray.size_append, ByteArray.size_append]; omega)
  have hwr : IntKind.u8.wrap (nm.size : Int) = (nm.size : Int) := by rw [IntKind.wrap_u8]; omega
  have HP := hide (And.intro hp1 (And.intro hL1 hL2))
  clear hp1 hL1 hL2 s0 s1 s2 h0 h2
  go_enter Tryz.func16, Tryz.ntmps16
  go_wp2_with fail
  go_region_held (fun w' => w'.cell? ⟨w.heap.size, 0, none⟩ = some (.string nm) ∧ w'.cell? ⟨w.heap.size, 1, none⟩ = some (.int .u64 bal) ∧ w'.cell? ⟨w.heap.size, 2, none⟩ = some (.int .u64 salt) ∧ w.heap.size < w'.heap.size ∧ Below w.heap.size w w')
    (first | assumption | exact ⟨by simp, by simp, by simp, by simp, ((Below.refl _ _).alloc (Nat.le_refl _) _).drew⟩ | exact keep3 (Nat.le_refl _) (by assumption) hb4 | exact keep3 (Nat.le_refl _) (by assumption) ((Below.refl _ _).alloc (Nat.le_refl _) _))
    (first | (go_at_call_of 38 bal; refine (unhide (HA _)).mono ?_; rintro e w4 ⟨rfl, hb4⟩; have k4 := (bcell hb4).1; have z4 := hb4.size; try simp [Nat.add_one_le_iff] at z4) | (go_at_call_of 38 salt; refine (unhide (HB _)).mono ?_; rintro e w4 ⟨rfl, hb4⟩; have k4 := (bcell hb4).1; have z4 := hb4.size; try simp [Nat.add_one_le_iff] at z4))
  all_goals
    go_wp2
    go_ret
    refine ⟨?_, ?_⟩
    · rw [(unhide HP).1, (unhide HP).2.1, (unhide HP).2.2]
      exact leaf_end nm bal salt
    · go_split_ands
      assumption

end Go.Proofs.YtbjobbkgelipmaaGreat
