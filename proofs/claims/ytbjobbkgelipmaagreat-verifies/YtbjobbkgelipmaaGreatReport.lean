/-
  titheref's Tree.Side whole, and the walk of Tree.Report.
-/
import Derived.Test.YtbjobbkgelipmaaGreatSideN
namespace Go.Proofs.YtbjobbkgelipmaaGreat
open Go.RowKit

theorem sideT_range (ls : List LeafD) (hok : ∀ x ∈ ls, x.ok) : ∀ lv p, 0 ≤ (sideT ls lv p).2 ∧ (sideT ls lv p).2 < 18446744073709551616
  | 0, p => by
    unfold sideT
    cases h : ls[p]? with
    | none => simp
    | some x =>
      have hx := hok x (List.mem_of_getElem? h)
      exact ⟨hx.2.1, hx.2.2.1⟩
  | lv + 1, p => by
    unfold sideT
    constructor
    · exact Int.emod_nonneg _ (by decide)
    · exact Int.emod_lt_of_pos _ (by decide)

/-- Leaves behind a slice, or none. -/
def LeavesOf (w : World) (la : Option Addr) (ls : List LeafD) : Prop := ls = [] ∨ ∃ b off, la = some ⟨b, off, none⟩ ∧ LeavesAt w b off ls

theorem LeavesOf.below {w w' : World} {la : Option Addr} {ls : List LeafD} (h : LeavesOf w la ls) (hb : Below w.heap.size w w') : LeavesOf w' la ls := by
  rcases h with h | ⟨b, off, h, hl⟩
  · exact Or.inl h
  · exact Or.inr ⟨b, off, h, hl.below hb hl.lt⟩
theorem LeavesOf.ok {w : World} {la : Option Addr} {ls : List LeafD} (h : LeavesOf w la ls) : ∀ x ∈ ls, x.ok := by
  rcases h with rfl | ⟨b, off, h, hl⟩
  · intro x hx; cases hx
  · exact hl.ok

/-- Tree.Side. -/
theorem side_any (H : Int) (la : Option Addr) (cap : Nat) (ls : List LeafD) (hn : ls.length ≤ 1048576) : ∀ (lv p : Nat) (w : World), LeavesOf w la ls → (p + 1) * 2 ^ lv ≤ 256 → lv ≤ 100 →
    Calls Tryz.prog 14 #[treeV H la ls.length cap, .int .i64 (lv : Int), .int .i64 (p : Int)] w fun e w' => e = .returned (sideV (sideT ls lv p).1 (sideT ls lv p).2) ∧ Below w.heap.size w w'
  | 0, p, w, hl, hp, _ => by
    simp only [Nat.pow_zero, Nat.mul_one] at hp
    unfold sideT
    cases h : ls[p]? with
    | none =>
      have hle : ls.length ≤ p := List.getElem?_eq_none_iff.1 h
      exact side_pad H la ls.length cap p w hle (by omega)
    | some x =>
      have hlt : p < ls.length := (List.getElem?_eq_some_iff.1 h).1
      have hx : ls[p] = x := (List.getElem?_eq_some_iff.1 h).2
      rcases hl with rfl | ⟨b, off, rfl, hl⟩
      · simp at hlt
      · obtain ⟨c0, c1, c2⟩ := hl.cells p hlt
        rw [hx] at c0 c1 c2
        obtain ⟨nm, bal, salt⟩ := x
        exact side_leaf H b off ls.length cap p nm bal salt w hlt hn (hl.ok _ (List.mem_of_getElem? h)) hl.lt c0 c1 c2
  | lv + 1, p, w, hl, hp, hv => by
    have e2 : (p + 1) * 2 ^ (lv + 1) = (2 * p + 2) * 2 ^ lv := by rw [Nat.pow_succ, Nat.mul_comm (2 ^ lv) 2, ← Nat.mul_assoc]; congr 1; omega
    have hp1 : (2 * p + 1) * 2 ^ lv ≤ 256 := Nat.le_trans (Nat.mul_le_mul_right _ (by omega)) (e2 ▸ hp)
    have hp2 : (2 * p + 1 + 1) * 2 ^ lv ≤ 256 := e2 ▸ hp
    have h1 : 1 ≤ 2 ^ lv := Nat.one_le_two_pow
    have hps : p ≤ 1000 := by
      have : (2 * p + 1) * 1 ≤ (2 * p + 1) * 2 ^ lv := Nat.mul_le_mul_left _ h1
      omega
    have r1 := sideT_range ls hl.ok lv (2 * p)
    have r2 := sideT_range ls hl.ok lv (2 * p + 1)
    have hc : (((lv + 1 : Nat) : Int)) = (lv : Int) + 1 := by omega
    rw [hc]
    exact side_node H la ls.length cap lv p _ _ _ _ w (by omega) hps r1.1 r1.2 r2.1 r2.2
      (fun w' hb => side_any H la cap ls hn lv (2 * p) w' (hl.below hb) hp1 (by omega))
      (fun w' hb => by
        have := side_any H la cap ls hn lv (2 * p + 1) w' (hl.below hb) hp2 (by omega)
        rw [show (((2 * p + 1 : Nat) : Int)) = 2 * (p : Int) + 1 by omega] at this
        exact this)

/-- A report's bytes. -/
def reportB (ls : List LeafD) (h : Nat) : List UInt8 := UInt8.ofNat h :: sideB (sideT ls h 0)

abbrev RepS (w : World) (A B : Nat) (h : Int) (v : Value) (a0 a1 a2 a3 : Int) (w' : World) : Prop :=
  w'.cell? ⟨A, 0, none⟩ = some (.int .i64 h) ∧ w'.cell? ⟨A, 1, none⟩ = some v ∧ w'.cell? ⟨B, 0, none⟩ = some (.int .u8 a0) ∧ w'.cell? ⟨B, 1, none⟩ = some (.int .u8 a1) ∧ w'.cell? ⟨B, 2, none⟩ = some (.int .u8 a2) ∧ w'.cell? ⟨B, 3, none⟩ = some (.int .u64 a3) ∧
    (A < w'.heap.size ∧ B < w'.heap.size) ∧ Below w.heap.size w w'
theorem RepS.keep {w W w4 : World} {A B : Nat} {h : Int} {v : Value} {a0 a1 a2 a3 : Int} (hS : RepS w A B h v a0 a1 a2 a3 W) (hw : w.heap.size ≤ B) (hb : Below W.heap.size W w4) : RepS w A B h v a0 a1 a2 a3 w4 := by
  obtain ⟨h0, h0', h1, h2, h3, g0, ⟨z0, z1⟩, h6⟩ := hS
  have := hb.size
  exact ⟨keepB hb z0 h0, keepB hb z0 h0', keepB hb z1 h1, keepB hb z1 h2, keepB hb z1 h3, keepB hb z1 g0, ⟨by omega, by omega⟩, h6.trans (hb.mono (by omega))⟩

theorem sideText (d : Dg) (n : Int) (h0 : 0 ≤ n) (h1 : n < 18446744073709551616) : ∃ (l0 l1 l2 : Int) (T : ByteArray), sideV d n = .agg #[.int .u8 l0, .int .u8 l1, .int .u8 l2, .int .u64 n] ∧ T.size = 11 ∧ T.data.toList = sideB (d, n) ∧
    ∀ w, Hid (Calls Tryz.prog 15 #[.agg #[.int .u8 l0, .int .u8 l1, .int .u8 l2, .int .u64 n]] w fun e w' => e = .returned (.string T) ∧ Below w.heap.size w w') :=
  ⟨_, _, _, ⟨(dgB d ++ longB n).toArray⟩, rfl, by simp [ByteArray.size, dgB, longB_length], rfl, fun w => sidetext_any d n w h0 h1⟩

theorem bytes_ext {a : ByteArray} {l : List UInt8} (h : a.data.toList = l) : a = ⟨l.toArray⟩ := by
  apply ByteArray.ext
  rw [← h]

set_option maxRecDepth 100000 in
set_option maxHeartbeats 1000000 in
theorem report_any (h : Nat) (la : Option Addr) (cap : Nat) (ls : List LeafD) (w : World) (hn : ls.length ≤ 1048576) (hh : h ≤ 6) (hl : LeavesOf w la ls) :
    Calls Tryz.prog 10 #[treeV (h : Int) la ls.length cap] w fun e w' => e = .returned (strV (reportB ls h)) ∧ Below w.heap.size w w' := by
  have hp : (0 + 1) * 2 ^ h ≤ 256 := by
    have : 2 ^ h ≤ 2 ^ 6 := Nat.pow_le_pow_right (by omega) hh
    omega
  have HC : ∀ w', Below w.heap.size w w' → Hid (Calls Tryz.prog 14 #[treeV (h : Int) la ls.length cap, .int .i64 (h : Int), .int .i64 0] w' fun e w'' => e = .returned (sideV (sideT ls h 0).1 (sideT ls h 0).2) ∧ Below w'.heap.size w' w'') :=
    fun w' hb => side_any (h : Int) la cap ls hn h 0 w' (hl.below hb) hp (by omega)
  have hr := sideT_range ls hl.ok h 0
  have hE : reportB ls h = UInt8.ofNat h :: sideB ((sideT ls h 0).1, (sideT ls h 0).2) := rfl
  rw [hE]
  generalize sideT ls h 0 = x at *
  obtain ⟨d, n⟩ := x
  simp only at hr HC ⊢
  obtain ⟨l0, l1, l2, T, hd, hT, hTl, HT⟩ := sideText d n hr.1 hr.2
  simp only [hd] at HC
  obtain ⟨p1, hp1⟩ : ∃ p1 : ByteArray, p1 = ⟨#[UInt8.ofNat h]⟩ := ⟨_, rfl⟩
  have hcv : ∀ b w, w.cell? ⟨b, 0, none⟩ = some (.int .u8 (h : Int)) → (convert 51 9 (.slice (some ⟨b, 0, none⟩) 1 1)).run Tryz.prog w = .ok (.string p1) w := by
    intro b w hc
    have := convert1 (h : Int) (by omega) (by omega) b w hc
    rw [hp1]; simpa using this
  have hsa := str_add (P := Tryz.prog) p1 T (by rw [hp1, show (⟨#[UInt8.ofNat h]⟩ : ByteArray).size = 1 from rfl]; omega)
  have hF : p1 ++ T = ⟨(UInt8.ofNat h :: sideB (d, n)).toArray⟩ := bytes_ext (by rw [ByteArray.data_append, hp1]; simp [hTl])
  have hwr : IntKind.u8.wrap (h : Int) = (h : Int) := by rw [IntKind.wrap_u8]; omega
  have HF := hide hF
  unfold treeV at HC ⊢
  clear hF hp1 hTl hT hd hr hp hl hE
  go_enter Tryz.func10, Tryz.ntmps10
  go_wp2_with fail
  refine (unhide (HC _ ((Below.refl _ _).alloc (Nat.le_refl _) _))).mono ?_
  rintro e w1 ⟨rfl, hb1⟩
  have hs1 : w.heap.size < w1.heap.size := by have := hb1.size; simp at this; omega
  have e0 : w1.cell? ⟨w.heap.size, 0, none⟩ = some (.int .i64 (h : Int)) := keepB hb1 (by simp) (by simp)
  have e1 : w1.cell? ⟨w.heap.size, 1, none⟩ = some (.slice la ls.length cap) := keepB hb1 (by simp) (by simp)
  have HA1 := hide (((Below.refl w.heap.size w).alloc (Nat.le_refl _) _).trans (hb1.mono (by simp)))
  clear hb1 HC
  go_wp2_with fail
  generalize hW2 : (w1.alloc (Obj.cells #[Value.int IntKind.u8 l0, Value.int IntKind.u8 l1, Value.int IntKind.u8 l2, Value.int IntKind.u64 n] 49)) = W2
  have hS : RepS w w.heap.size w1.heap.size (h : Int) (.slice la ls.length cap) l0 l1 l2 n W2 := by
    rw [← hW2]
    have hA : Below w1.heap.size w1 (w1.alloc (Obj.cells #[Value.int IntKind.u8 l0, Value.int IntKind.u8 l1, Value.int IntKind.u8 l2, Value.int IntKind.u64 n] 49)) := (Below.refl _ _).alloc (Nat.le_refl _) _
    exact ⟨keepB hA hs1 e0, keepB hA hs1 e1, by simp, by simp, by simp, by simp, ⟨by simp; omega, by simp⟩, (unhide HA1).trans (hA.mono (by omega))⟩
  have hSd : RepS w w.heap.size w1.heap.size (h : Int) (.slice la ls.length cap) l0 l1 l2 n W2.drew := ⟨hS.1, hS.2.1, hS.2.2.1, hS.2.2.2.1, hS.2.2.2.2.1, hS.2.2.2.2.2.1, hS.2.2.2.2.2.2.1, hS.2.2.2.2.2.2.2.drew⟩
  have hsB : w.heap.size ≤ w1.heap.size := by omega
  clear hW2 hS e0 e1 HA1
  go_region_held (fun w' => w'.cell? ⟨w.heap.size, 0, none⟩ = some (.int .i64 (h : Int)) ∧ w'.cell? ⟨w.heap.size, 1, none⟩ = some (.slice la ls.length cap) ∧ w'.cell? ⟨w1.heap.size, 0, none⟩ = some (.int .u8 l0) ∧ w'.cell? ⟨w1.heap.size, 1, none⟩ = some (.int .u8 l1) ∧ w'.cell? ⟨w1.heap.size, 2, none⟩ = some (.int .u8 l2) ∧ w'.cell? ⟨w1.heap.size, 3, none⟩ = some (.int .u64 n) ∧
      (w.heap.size < w'.heap.size ∧ w1.heap.size < w'.heap.size) ∧ Below w.heap.size w w')
    (first | with_reducible exact hS4 | with_reducible exact hSd | with_reducible assumption | with_reducible exact RepS.keep hSd hsB ((Below.refl _ _).alloc (Nat.le_refl _) _) | with_reducible exact RepS.keep hS4 hsB ((Below.refl _ _).alloc (Nat.le_refl _) _))
    (first | (go_at_call 15; refine (unhide (HT _)).mono ?_; rintro e w4 ⟨rfl, hb4⟩; have hS4 := RepS.keep (by with_reducible first | exact hSd | exact RepS.keep hSd hsB ((Below.refl _ _).alloc (Nat.le_refl _) _)) hsB hb4; have k4 := (bcell hb4).1; have z4 := hb4.size; try simp [Nat.add_one_le_iff] at z4))
  all_goals
    go_wp2
    go_ret
    refine ⟨?_, ?_⟩
    · rw [unhide HF]; rfl
    · go_split_ands
      assumption

end Go.Proofs.YtbjobbkgelipmaaGreat
