/-
  The walk of titheref's Tree.Side.
-/
import Derived.Test.YtbjobbkgelipmaaGreatLeaf
namespace Go.Proofs.YtbjobbkgelipmaaGreat
open Go.RowKit

/-- A leaf: its name, its balance, its salt. -/
structure LeafD where
  nm : ByteArray
  bal : Int
  salt : Int

def LeafD.ok (x : LeafD) : Prop := x.nm.size ≤ 8 ∧ 0 ≤ x.bal ∧ x.bal < 18446744073709551616 ∧ 0 ≤ x.salt ∧ x.salt < 18446744073709551616

/-- A side's text. -/
def sideB (x : Dg × Int) : List UInt8 := dgB x.1 ++ longB x.2

/-- What stands at a place of a level. -/
def sideT (ls : List LeafD) : Nat → Nat → Dg × Int
  | 0, p => match ls[p]? with
    | some x => (dg (0 :: leafB x.nm.data.toList x.bal x.salt), x.bal)
    | none => (dg [2, UInt8.ofNat p], 0)
  | h + 1, p => (dg (1 :: (sideB (sideT ls h (2 * p)) ++ sideB (sideT ls h (2 * p + 1)))), ((sideT ls h (2 * p)).2 + (sideT ls h (2 * p + 1)).2) % 18446744073709551616)

/-- Leaves that lie in memory. -/
structure LeavesAt (w : World) (b off : Nat) (ls : List LeafD) : Prop where
  lt : b < w.heap.size
  cells : ∀ i (h : i < ls.length), w.cell? ⟨b, off + i * 3, none⟩ = some (.string ls[i].nm) ∧ w.cell? ⟨b, off + i * 3 + 1, none⟩ = some (.int .u64 ls[i].bal) ∧ w.cell? ⟨b, off + i * 3 + 2, none⟩ = some (.int .u64 ls[i].salt)
  ok : ∀ x ∈ ls, x.ok

theorem LeavesAt.below {w w' : World} {B b off : Nat} {ls : List LeafD} (h : LeavesAt w b off ls) (hb : Below B w w') (hlt : b < B) : LeavesAt w' b off ls := by
  have e : ∀ o, w'.cell? ⟨b, o, none⟩ = w.cell? ⟨b, o, none⟩ := fun o => hb.cell (p := ⟨b, o, none⟩) hlt
  refine ⟨Nat.lt_of_lt_of_le h.lt hb.size, fun i hi => ?_, h.ok⟩
  obtain ⟨h0, h1, h2⟩ := h.cells i hi
  exact ⟨(e _).trans h0, (e _).trans h1, (e _).trans h2⟩

def treeV (H : Int) (la : Option Addr) (n cap : Nat) : Value := .agg #[.int .i64 H, .slice la n cap]

set_option maxRecDepth 100000 in
set_option maxHeartbeats 400000 in
/-- A pad. -/
theorem side_pad (H : Int) (la : Option Addr) (n cap p : Nat) (w : World) (hn : n ≤ p) (hp : p < 256) :
    Calls Tryz.prog 14 #[treeV H la n cap, .int .i64 0, .int .i64 (p : Int)] w fun e w' => e = .returned (sideV (dg [2, UInt8.ofNat p]) 0) ∧ Below w.heap.size w w' := by
  unfold treeV
  have hwr : (p : Int) % 256 = (p : Int) := by omega
  have hcv : ∀ b w, w.cell? ⟨b, 0, none⟩ = some (.int .u8 2) → w.cell? ⟨b, 1, none⟩ = some (.int .u8 (p : Int)) → (convert 51 9 (.slice (some ⟨b, 0, none⟩) 2 2)).run Tryz.prog w = .ok (.string ⟨#[2, UInt8.ofNat p]⟩) w := by
    intro b w h0 h1
    have e : (p : Int) = ((UInt8.ofNat p).toNat : Int) := by rw [UInt8.toNat_ofNat_of_lt' (by simpa using hp)]
    have hh := run_convert_bytes_back (P := Tryz.prog) w 51 9 5 ⟨b, 0, none⟩ 2 [2, UInt8.ofNat p] Tryz.underlying51 Tryz.underlying5 Tryz.underlying9 (by
      intro j hj
      match j, hj with
      | 0, _ => rw [addr_add]; exact h0
      | 1, _ => rw [addr_add]; rw [h1]; exact congrArg (fun y => some (Value.int .u8 y)) e)
    simpa using hh
  obtain ⟨T, hT⟩ : ∃ T : ByteArray, T = ⟨#[2, UInt8.ofNat p]⟩ := ⟨_, rfl⟩
  rw [← hT] at hcv
  obtain ⟨d0, d1, d2, hD⟩ : ∃ d0 d1 d2 : Int, digV (dg [2, UInt8.ofNat p]) = .agg #[.int .u8 d0, .int .u8 d1, .int .u8 d2] ∧ sideV (dg [2, UInt8.ofNat p]) 0 = .agg #[.int .u8 d0, .int .u8 d1, .int .u8 d2, .int .u64 0] := ⟨_, _, _, rfl, rfl⟩
  have HR : ∀ w, Hid (Calls Tryz.prog 37 #[.string T] w fun e w' => e = .returned (.agg #[.int .u8 d0, .int .u8 d1, .int .u8 d2]) ∧ Below w.heap.size w w') := fun w => by rw [hT, ← hD.1]; exact refsum_any _ w (by unfold maxLen; simp [ByteArray.size])
  have HD := hide hD
  clear hD hT
  go_enter Tryz.func14, Tryz.ntmps14
  go_wp2_with (first | (go_at_call 37; refine (unhide (HR _)).mono ?_; rintro e w4 ⟨rfl, hb4⟩; have k4 := bcell hb4; have z4 := hb4.size; simp [Nat.add_one_le_iff] at z4))
  refine bodyPost_ret (v := sideV (dg [2, UInt8.ofNat p]) 0) ?_ rfl ⟨rfl, ?_⟩
  · rw [(unhide HD).2]
    simp [results, Tryz.results14, go_sem, k4.1]
  · have hA : Below w.heap.size w w4 := ((((Below.refl w.heap.size w).alloc (Nat.le_refl _) _).alloc (by simp) _).alloc (by simp; omega) _).trans (hb4.mono (by simp; omega))
    exact (((hA.setCell (by simp) _).setCell (by simp) _).setCell (by simp) _).setCell (by simp) _

end Go.Proofs.YtbjobbkgelipmaaGreat
