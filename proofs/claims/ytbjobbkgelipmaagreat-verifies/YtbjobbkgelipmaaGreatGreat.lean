/-
  The walk of tithe's greatestSum.
-/
import Derived.Test.YtbjobbkgelipmaaGreatAccP
import Derived.Lib.MinMax
namespace Go.Proofs.YtbjobbkgelipmaaGreat
open Go.RowKit

/-- Sides that lie in memory. -/
def SidesAt (w : World) (b : Nat) (ys : List (Dg × Int)) : Prop := ∀ i (h : i < ys.length),
  w.cell? ⟨b, i * 4, none⟩ = some (.int .u8 ((ys[i]).1.1.toNat : Int)) ∧ w.cell? ⟨b, i * 4 + 1, none⟩ = some (.int .u8 ((ys[i]).1.2.1.toNat : Int)) ∧ w.cell? ⟨b, i * 4 + 2, none⟩ = some (.int .u8 ((ys[i]).1.2.2.toNat : Int)) ∧ w.cell? ⟨b, i * 4 + 3, none⟩ = some (.int .u64 (ys[i]).2)
theorem SidesAt.below {w w' : World} {b B : Nat} {ys : List (Dg × Int)} (h : SidesAt w b ys) (hb : Below B w w') (hlt : b < B) : SidesAt w' b ys := by
  intro i hi
  have e : ∀ o, w'.cell? ⟨b, o, none⟩ = w.cell? ⟨b, o, none⟩ := fun o => hb.cell (p := ⟨b, o, none⟩) hlt
  obtain ⟨h0, h1, h2, h3⟩ := h i hi
  exact ⟨(e _).trans h0, (e _).trans h1, (e _).trans h2, (e _).trans h3⟩

def greatB (bal : Int) (ys : List (Dg × Int)) : Int := ys.foldl (fun g y => max g y.2) bal
theorem greatB_snoc (bal : Int) (ys : List (Dg × Int)) (y : Dg × Int) : greatB bal (ys ++ [y]) = max (greatB bal ys) y.2 := by simp [greatB]
theorem greatB_le : ∀ (ys : List (Dg × Int)) (bal m : Int), greatB bal ys ≤ m ↔ bal ≤ m ∧ ∀ y ∈ ys, y.2 ≤ m
  | [], bal, m => by simp [greatB]
  | y :: ys, bal, m => by
    have h := greatB_le ys (max bal y.2) m
    have e : greatB bal (y :: ys) = greatB (max bal y.2) ys := rfl
    rw [e, h]
    simp only [List.mem_cons, forall_eq_or_imp]
    constructor
    · rintro ⟨a, b⟩; exact ⟨by omega, by omega, b⟩
    · rintro ⟨a, b, c⟩; exact ⟨by omega, c⟩

set_option maxHeartbeats 400000 in
set_option maxRecDepth 100000 in
theorem great_any (pl : Int) (nm : ByteArray) (bal salt : Int) (sb cap : Nat) (ys : List (Dg × Int)) (w : World) (hm : ys.length ≤ 6) (hlt : sb < w.heap.size) (hS : SidesAt w sb ys) :
    Calls Tryz.prog 94 #[proofV pl nm bal salt (some ⟨sb, 0, none⟩) ys.length cap] w fun e w' => e = .returned (.int .u64 (greatB bal ys)) ∧ Below w.heap.size w w' := by
  have HS := hide hS
  clear hS
  unfold proofV
  go_enter Tryz.func94, Tryz.ntmps94
  go_wp2
  go_loopw [3, 12] (fun g i wr => ∃ k : Nat, k ≤ ys.length ∧ i = .int .i64 k ∧ g = .int .u64 (greatB bal (ys.take k)) ∧ w.heap.size < wr.heap.size ∧ Below w.heap.size w wr) (fun _ i _ => ys.length - (intOf i).toNat)
  case atStart => exact ⟨0, Nat.zero_le _, rfl, by simp [greatB], by simp, (Below.refl _ _).alloc (Nat.le_refl _) _⟩
  case round =>
    obtain ⟨k, hk, rfl, rfl, hz, hbel⟩ := hrel
    have Hbel := hide hbel
    clear hbel
    by_cases hk' : k < ys.length
    · obtain ⟨c0, c1, c2, c3⟩ := ((unhide HS).below (unhide Hbel) hlt) k hk'
      have Hsn : Hid (greatB bal (ys.take (k + 1)) = max (greatB bal (ys.take k)) (ys[k]).2) := by
        rw [List.take_succ_eq_append_getElem hk']; exact greatB_snoc _ _ _
      generalize ys[k] = y at *
      obtain ⟨⟨y0, y1, y2⟩, n⟩ := y
      simp only at c0 c1 c2 c3
      generalize (y0.toNat : Int) = e0 at *
      generalize (y1.toNat : Int) = e1 at *
      generalize (y2.toNat : Int) = e2 at *
      generalize greatB bal (ys.take k) = G at *
      go_wp2
      go_roundw
      case rel =>
        refine ⟨k + 1, by omega, by go_num, ?_, by simp; omega, (unhide Hbel).alloc (unhide Hbel).size _⟩
        rw [unhide Hsn]
      case measure => simp [intOf]; omega
    · have hkk : k = ys.length := by omega
      subst hkk
      rw [List.take_length]
      generalize hG : greatB bal ys = G
      have HG := hide hG
      clear hG
      go_wp2
      go_ret
      exact ⟨by rw [unhide HG]; rfl, unhide Hbel⟩

end Go.Proofs.YtbjobbkgelipmaaGreat
