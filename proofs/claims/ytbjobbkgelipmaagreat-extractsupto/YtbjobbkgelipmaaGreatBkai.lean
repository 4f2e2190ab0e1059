/-
  titheref's Tree.Side whole, and the walk of Tree.Report.
-/
import Derived.Deep.DeepCutAuto
import Derived.BigQuiet
import Derived.Test.YtbjobbkgelipmaaGreatBkac
import Derived.Test.YtbjobbkgelipmaaGreatBkah
import Derived.Test.YtbjobbkgelipmaaGreatBkad
import Derived.Test.YtbjobbkgelipmaaGreatBkag
namespace Go.Proofs.YtbjobbkgelipmaaGreat
open Go.RowKit

theorem sideT_range (ls : List LeafD) (hok : ∀ x ∈ ls, x.ok) : ∀ lv p, 0 ≤ (sideT ls lv p).2 ∧ (sideT ls lv p).2 < 18446744073709551616
  | 0, p => by
    unfold sideT
    cases h : ls[p]? with
    | none => simp
    | some x =>
      have hx := hok x (List.mem_of_getElem? h)
      exact ⟨hx.2.1, hx.2.2.1⟩
  | lv + 1, p => by
    unfold sideT
    constructor
    · exact Int.emod_nonneg _ (by decide)
    · exact Int.emod_lt_of_pos _ (by decide)

/-- Leaves behind a slice, or none. -/
def LeavesOf (w : World) (la : Option Addr) (ls : List LeafD) : Prop := ls = [] ∨ ∃ b off, la = some ⟨b, off, none⟩ ∧ LeavesAt w b off ls

theorem LeavesOf.below {w w' : World} {la : Option Addr} {ls : List LeafD} (h : LeavesOf w la ls) (hb : Below w.heap.size w w') : LeavesOf w' la ls := by
  rcases h with h | ⟨b, off, h, hl⟩
  · exact Or.inl h
  · exact Or.inr ⟨b, off, h, hl.below hb hl.lt⟩
theorem LeavesOf.ok {w : World} {la : Option Addr} {ls : List LeafD} (h : LeavesOf w la ls) : ∀ x ∈ ls, x.ok := by
  rcases h with rfl | ⟨b, off, h, hl⟩
  · intro x hx; cases hx
  · exact hl.ok

/-- Tree.Side. -/
theorem side_any (H : Int) (la : Option Addr) (cap : Nat) (ls : List LeafD) (hn : ls.length ≤ 1048576) : ∀ (lv p : Nat) (w : World), LeavesOf w la ls → (p + 1) * 2 ^ lv ≤ 256 → lv ≤ 100 →
    Calls Tryz.prog 14 #[treeV H la ls.length cap, .int .i64 (lv : Int), .int .i64 (p : Int)] w fun e w' => e = .returned (sideV (sideT ls lv p).1 (sideT ls lv p).2) ∧ Below w.heap.size w w'
  | 0, p, w, hl, hp, _ => by
    simp only [Nat.pow_zero, Nat.mul_one] at hp
    unfold sideT
    cases h : ls[p]? with
    | none =>
      have hle : ls.length ≤ p := List.getElem?_eq_none_iff.1 h
      exact side_pad H la ls.length cap p w hle (by omega)
    | some x =>
      have hlt : p < ls.length := (List.getElem?_eq_some_iff.1 h).1
      have hx : ls[p] = x := (List.getElem?_eq_some_iff.1 h).2
      rcases hl with rfl | ⟨b, off, rfl, hl⟩
      · simp at hlt
      · obtain ⟨c0, c1, c2⟩ := hl.cells p hlt
        rw [hx] at c0 c1 c2
        obtain ⟨nm, bal, salt⟩ := x
        exact side_leaf H b off ls.length cap p nm bal salt w hlt hn (hl.ok _ (List.mem_of_getElem? h)) hl.lt c0 c1 c2
  | lv + 1, p, w, hl, hp, hv => by
    have e2 : (p + 1) * 2 ^ (lv + 1) = (2 * p + 2) * 2 ^ lv := by rw [Nat.pow_succ, Nat.mul_comm (2 ^ lv) 2, ← Nat.mul_assoc]; congr 1; omega
    have hp1 : (2 * p + 1) * 2 ^ lv ≤ 256 := Nat.le_trans (Nat.mul_le_mul_right _ (by omega)) (e2 ▸ hp)
    have hp2 : (2 * p + 1 + 1) * 2 ^ lv ≤ 256 := e2 ▸ hp
    have h1 : 1 ≤ 2 ^ lv := Nat.one_le_two_pow
    have hps : p ≤ 1000 := by
      have : (2 * p + 1) * 1 ≤ (2 * p + 1) * 2 ^ lv := Nat.mul_le_mul_left _ h1
      omega
    have r1 := sideT_range ls hl.ok lv (2 * p)
    have r2 := sideT_range ls hl.ok lv (2 * p + 1)
    have hc : (((lv + 1 : Nat) : Int)) = (lv : Int) + 1 := by omega
    rw [hc]
    exact side_node H la ls.length cap lv p _ _ _ _ w (by omega) hps r1.1 r1.2 r2.1 r2.2
      (fun w' hb => side_any H la cap ls hn lv (2 * p) w' (hl.below hb) hp1 (by omega))
      (fun w' hb => by
        have := side_any H la cap ls hn lv (2 * p + 1) w' (hl.below hb) hp2 (by omega)
        rw [show (((2 * p + 1 : Nat) : Int)) = 2 * (p : Int) + 1 by omega] at this
        exact this)

/-- A report's bytes. -/
def reportB (ls : List LeafD) (h : Nat) : List UInt8 := UInt8.ofNat h :: sideB (sideT ls h 0)

abbrev RepS (w : World) (A B : Nat) (h : Int) (v : Value) (a0 a1 a2 a3 : Int) (w' : World) : Prop :=
  w'.cell? ⟨A, 0, none⟩ = some (.int .i64 h) ∧ w'.cell? ⟨A, 1, none⟩ = some v ∧ w'.cell? ⟨B, 0, none⟩ = some (.int .u8 a0) ∧ w'.cell? ⟨B, 1, none⟩ = some (.int .u8 a1) ∧ w'.cell? ⟨B, 2, none⟩ = some (.int .u8 a2) ∧ w'.cell? ⟨B, 3, none⟩ = some (.int .u64 a3) ∧
    (A < w'.heap.size ∧ B < w'.heap.size) ∧ Below w.heap.size w w'
theorem RepS.keep {w W w4 : World} {A B : Nat} {h : Int} {v : Value} {a0 a1 a2 a3 : Int} (hS : RepS w A B h v a0 a1 a2 a3 W) (hw : w.heap.size ≤ B) (hb : Below W.heap.size W w4) : RepS w A B h v a0 a1 a2 a3 w4 := by
  obtain ⟨h0, h0', h1, h2, h3, g0, ⟨z0, z1⟩, h6⟩ := hS
  have := hb.size
  exact ⟨keepB hb z0 h0, keepB hb z0 h0', keepB hb z1 h1, keepB hb z1 h2, keepB hb z1 h3, keepB hb z1 g0, ⟨by omega, by omega⟩, h6.trans (hb.mono (by omega))⟩

theorem sideText (d : Dg) (n : Int) (h0 : 0 ≤ n) (h1 : n < 18446744073709551616) : ∃ (l0 l1 l2 : Int) (T : ByteArray), sideV d n = .agg #[.int .u8 l0, .int .u8 l1, .int .u8 l2, .int .u64 n] ∧ T.size = 11 ∧ T.data.toList = sideB (d, n) ∧
    ∀ w, Hid (Calls Tryz.prog 15 #[.agg #[.int .u8 l0, .int .u8 l1, .int .u8 l2, .int .u64 n]] w fun e w' => e = .returned (.string T) ∧ Below w.heap.size w w') :=
  ⟨_, _, _, ⟨(dgB d ++ longB n).toArray⟩, rfl, by simp [ByteArray.size, dgB, longB_length], rfl, fun w => sidetext_any d n w h0 h1⟩

theorem bytes_ext {a : ByteArray} {l : List UInt8} (h : a.data.toList = l) : a = ⟨l.toArray⟩ := by
  apply ByteArray.ext
  rw [← h]

set_option maxRecDepth 100000 in
set_option maxHeartbeats 1000000 in
theorem report_any (h : Nat) (la : Option Addr) (cap : Nat) (ls : List LeafD) (w : World) (hn : ls.length ≤ 1048576) (hh : h ≤ 6) (hl : LeavesOf w la ls) :
    Calls Tryz.prog 10 #[treeV (h : Int) la ls.length cap] w fun e w' => e = .returned (strV (reportB ls h)) ∧ Below w.heap.size w w' := by
  have hp : (0 + 1) * 2 ^ h ≤ 256 := by
    have : 2 ^ h ≤ 2 ^ 6 := Nat.pow_le_pow_right (by omega) hh
    omega
  have HC : ∀ w', Below w.heap.size w w' → Hid (Calls Tryz.prog 14 #[treeV (h : Int) la ls.length cap, .int .i64 (h : Int), .int .i64 0] w' fun e w'' => e = .returned (sideV (sideT ls h 0).1 (sideT ls h 0).2) ∧ Below w'.heap.size w' w'') :=
    fun w' hb => side_any (h : Int) la cap ls hn h 0 w' (hl.below hb) hp (by omega)
  have hr := sideT_range ls hl.ok h 0
  have hE : reportB ls h = UInt8.ofNat h :: sideB ((sideT ls h 0).1, (sideT ls h 0).2) := rfl
  rw [hE]
  generalize sideT ls h 0 = x at *
  obtain ⟨d, n⟩ := x
  simp only at hr HC ⊢
  obtain ⟨l0, l1, l2, T, hd, hT, hTl, HT⟩ := sideText d n hr.1 hr.2
  simp only [hd] at HC
  obtain ⟨p1, hp1⟩ : ∃ p1 : ByteArray, p1 = ⟨#[UInt8.ofNat h]⟩ := ⟨_, rfl⟩
  have hcv : ∀ b w, w.cell? ⟨b, 0, none⟩ = some (.int .u8 (h : Int)) → (convert 51 9 (.slice (some ⟨b, 0, none⟩) 1 1)).run Tryz.prog w = .ok (.string p1) w := by
    intro b w hc
    have := convert1 (h : Int) (by omega) (by omega) b w hc
    rw [hp1]; simpa using this
  have hsa := str_add (P := Tryz.prog) p1 T (by rw [hp1, show (⟨#[UInt8.ofNat h]⟩ : ByteArray).size = 1 from rfl]; omega)
  have hF : p1 ++ T = ⟨(UInt8.ofNat h :: sideB (d, n)).toArray⟩ := bytes_ext (by rw [ByteArray.data_append, hp1]; simp [hTl])
  have hwr : IntKind.u8.wrap (h : Int) = (h : Int) := by rw [IntKind.wrap_u8]; omega
  have HF := hide hF
  unfold treeV at HC ⊢
  clear hF hp1 hTl hT hd hr hp hl hE
  go_enter Tryz.func10, Tryz.ntmps10
  go_wp2_with fail
  refine (unhide (HC _ ((Below.refl _ _).alloc (Nat.le_refl _) _))).mono ?_
  rintro e w1 ⟨rfl, hb1⟩
  have hs1 : w.heap.size < w1.heap.size := by have := hb1.size; simp at this; omega
  have e0 : w1.cell? ⟨w.heap.size, 0, none⟩ = some (.int .i64 (h : Int)) := keepB hb1 (by simp) (by simp)
  have e1 : w1.cell? ⟨w.heap.size, 1, none⟩ = some (.slice la ls.length cap) := keepB hb1 (by simp) (by simp)
  have HA1 := hide (((Below.refl w.heap.size w).alloc (Nat.le_refl _) _).trans (hb1.mono (by simp)))
  clear hb1 HC
  go_wp2_with fail
  generalize hW2 : (w1.alloc (Obj.cells #[Value.int IntKind.u8 l0, Value.int IntKind.u8 l1, Value.int IntKind.u8 l2, Value.int IntKind.u64 n] 49)) = W2
  have hS : RepS w w.heap.size w1.heap.size (h : Int) (.slice la ls.length cap) l0 l1 l2 n W2 := by
    rw [← hW2]
    have hA : Below w1.heap.size w1 (w1.alloc (Obj.cells #[Value.int IntKind.u8 l0, Value.int IntKind.u8 l1, Value.int IntKind.u8 l2, Value.int IntKind.u64 n] 49)) := (Below.refl _ _).alloc (Nat.le_refl _) _
    exact ⟨keepB hA hs1 e0, keepB hA hs1 e1, by simp, by simp, by simp, by simp, ⟨by simp; omega, by simp⟩, (unhide HA1).trans (hA.mono (by omega))⟩
  have hSd : RepS w w.heap.size w1.heap.size (h : Int) (.slice la ls.length cap) l0 l1 l2 n W2.drew := ⟨hS.1, hS.2.1, hS.2.2.1, hS.2.2.2.1, hS.2.2.2.2.1, hS.2.2.2.2.2.1, hS.2.2.2.2.2.2.1, hS.2.2.2.2.2.2.2.drew⟩
  have hsB : w.heap.size ≤ w1.heap.size := by omega
  clear hW2 hS e0 e1 HA1
  go_region_held (fun w' => w'.cell? ⟨w.heap.size, 0, none⟩ = some (.int .i64 (h : Int)) ∧ w'.cell? ⟨w.heap.size, 1, none⟩ = some (.slice la ls.length cap) ∧ w'.cell? ⟨w1.heap.size, 0, none⟩ = some (.int .u8 l0) ∧ w'.cell? ⟨w1.heap.size, 1, none⟩ = some (.int .u8 l1) ∧ w'.cell? ⟨w1.heap.size, 2, none⟩ = some (.int .u8 l2) ∧ w'.cell? ⟨w1.heap.size, 3, none⟩ = some (.int .u64 n) ∧
      (w.heap.size < w'.heap.size ∧ w1.heap.size < w'.heap.size) ∧ Below w.heap.size w w')
    (first | with_reducible exact hS4 | with_reducible exact hSd | with_reducible assumption | with_reducible exact RepS.keep hSd hsB ((Below.refl _ _).alloc (Nat.le_refl _) _) | with_reducible exact RepS.keep hS4 hsB ((Below.refl _ _).alloc (Nat.le_refl _) _))
    (first | (go_at_call 15; refine (unhide (HT _)).mono ?_; rintro e w4 ⟨rfl, hb4⟩; have hS4 := RepS.keep (by with_reducible first | exact hSd | exact RepS.keep hSd hsB ((Below.refl _ _).alloc (Nat.le_refl _) _)) hsB hb4; have k4 := (bcell hb4).1; have z4 := hb4.size; try simp [Nat.add_one_le_iff] at z4))
  all_goals
    go_wp2
    go_ret
    refine ⟨?_, ?_⟩
    · rw [unhide HF]; rfl
    · go_split_ands
      assumption

end Go.Proofs.YtbjobbkgelipmaaGreat

/-
  The walk of titheref's Tree.Proof.
-/
namespace Go.Proofs.YtbjobbkgelipmaaGreat
open Go.RowKit

/-- The place beside. -/
def sib (p : Nat) : Nat := if p % 2 = 1 then p - 1 else p + 1
/-- A proof's bytes, up to the k-th level. -/
def proofTo (ls : List LeafD) (h p : Nat) (x : LeafD) : Nat → List UInt8
  | 0 => [UInt8.ofNat h, UInt8.ofNat p] ++ leafB x.nm.data.toList x.bal x.salt
  | k + 1 => proofTo ls h p x k ++ sideB (sideT ls k (sib (p / 2 ^ k)))
theorem sideB_length (x : Dg × Int) : (sideB x).length = 11 := by simp [sideB, dgB, longB_length]
theorem proofTo_length (ls : List LeafD) (h p : Nat) (x : LeafD) : ∀ k, (proofTo ls h p x k).length = x.nm.size + 19 + 11 * k
  | 0 => by simp only [proofTo, List.length_append, leafB_length, List.length_cons, List.length_nil]; simp; omega
  | k + 1 => by rw [proofTo, List.length_append, sideB_length, proofTo_length ls h p x k]; omega

abbrev PrS (w : World) (b o A : Nat) (h : Int) (v : Value) (nm : ByteArray) (bal salt : Int) (w' : World) : Prop :=
  w'.cell? ⟨A, 0, none⟩ = some (.int .i64 h) ∧ w'.cell? ⟨A, 1, none⟩ = some v ∧ w'.cell? ⟨b, o, none⟩ = some (.string nm) ∧ w'.cell? ⟨b, o + 1, none⟩ = some (.int .u64 bal) ∧ w'.cell? ⟨b, o + 2, none⟩ = some (.int .u64 salt) ∧
    (A < w'.heap.size ∧ b < w'.heap.size) ∧ Below w.heap.size w w'
theorem PrS.keep {w W w4 : World} {b o A : Nat} {h : Int} {v : Value} {nm : ByteArray} {bal salt : Int} (hS : PrS w b o A h v nm bal salt W) (hw : w.heap.size ≤ A) (hb : Below W.heap.size W w4) : PrS w b o A h v nm bal salt w4 := by
  obtain ⟨h0, h0', h1, h2, h3, ⟨z0, z1⟩, h6⟩ := hS
  have := hb.size
  exact ⟨keepB hb z0 h0, keepB hb z0 h0', keepB hb z1 h1, keepB hb z1 h2, keepB hb z1 h3, ⟨by omega, by omega⟩, h6.trans (hb.mono (by omega))⟩

set_option maxRecDepth 100000 in
set_option maxHeartbeats 1000000 in
theorem proof_any (h b off cap p : Nat) (ls : List LeafD) (x : LeafD) (w : World) (hn : ls.length ≤ 1048576) (hh : h ≤ 6) (hl : LeavesAt w b off ls) (hx : ls[p]? = some x) (hp : p < 2 ^ h) :
    Calls Tryz.prog 11 #[treeV (h : Int) (some ⟨b, off, none⟩) ls.length cap, .int .i64 (p : Int)] w fun e w' => e = .returned (strV (proofTo ls h p x h)) ∧ Below w.heap.size w w' := by
  have hlt : p < ls.length := (List.getElem?_eq_some_iff.1 hx).1
  have hx' : ls[p] = x := (List.getElem?_eq_some_iff.1 hx).2
  obtain ⟨c0, c1, c2⟩ := hl.cells p hlt
  rw [hx'] at c0 c1 c2
  have hok := hl.ok x (List.mem_of_getElem? hx)
  have hbl := hl.lt
  have h64 : p < 64 := Nat.lt_of_lt_of_le hp (Nat.pow_le_pow_right (by omega) hh : 2 ^ h ≤ 2 ^ 6)
  obtain ⟨T, hT⟩ : ∃ T : ByteArray, T = ⟨(leafB x.nm.data.toList x.bal x.salt).toArray⟩ := ⟨_, rfl⟩
  have sT : T.size ≤ 100 := by
    have h8 : x.nm.size ≤ 8 := hok.1
    rw [hT]
    have e1 : (⟨(leafB x.nm.data.toList x.bal x.salt).toArray⟩ : ByteArray).size = (leafB x.nm.data.toList x.bal x.salt).length := by simp [ByteArray.size]
    rw [e1, leafB_length]
    have e2 : x.nm.data.toList.length = x.nm.size := by simp
    omega
  have HT : ∀ w, Hid (Calls Tryz.prog 16 #[.agg #[.string x.nm, .int .u64 x.bal, .int .u64 x.salt]] w fun e w' => e = .returned (.string T) ∧ Below w.heap.size w w') := fun w => by
    have := leaftext_any x.nm x.bal x.salt w hok.1 hok.2.1 hok.2.2.1 hok.2.2.2.1 hok.2.2.2.2
    rw [hT]; exact this
  obtain ⟨p1, hp1⟩ : ∃ p1 : ByteArray, p1 = ⟨#[UInt8.ofNat h, UInt8.ofNat p]⟩ := ⟨_, rfl⟩
  have hcv : ∀ b w, w.cell? ⟨b, 0, none⟩ = some (.int .u8 (h : Int)) → w.cell? ⟨b, 1, none⟩ = some (.int .u8 (p : Int)) → (convert 51 9 (.slice (some ⟨b, 0, none⟩) 2 2)).run Tryz.prog w = .ok (.string p1) w := by
    intro b w h0 h1
    have e : (p : Int) = ((UInt8.ofNat p).toNat : Int) := by rw [UInt8.toNat_ofNat_of_lt' (show p < 256 by omega)]
    have e' : (h : Int) = ((UInt8.ofNat h).toNat : Int) := by rw [UInt8.toNat_ofNat_of_lt' (show h < 256 by omega)]
    have hh := run_convert_bytes_back (P := Tryz.prog) w 51 9 5 ⟨b, 0, none⟩ 2 [UInt8.ofNat h, UInt8.ofNat p] Tryz.underlying51 Tryz.underlying5 Tryz.underlying9 (by
      intro j hj
      match j, hj with
      | 0, _ => rw [addr_add]; rw [h0]; exact congrArg (fun y => some (Value.int .u8 y)) e'
      | 1, _ => rw [addr_add]; rw [h1]; exact congrArg (fun y => some (Value.int .u8 y)) e)
    rw [hp1]; simpa using hh
  have hsa := str_add (P := Tryz.prog) p1 T (by rw [hp1, show (⟨#[UInt8.ofNat h, UInt8.ofNat p]⟩ : ByteArray).size = 2 from rfl]; omega)
  have hF : p1 ++ T = ⟨(proofTo ls h p x 0).toArray⟩ := bytes_ext (by rw [ByteArray.data_append, hp1, hT]; simp [proofTo])
  have hwr : IntKind.u8.wrap (h : Int) = (h : Int) := by rw [IntKind.wrap_u8]; omega
  have hwr2 : IntKind.u8.wrap (p : Int) = (p : Int) := by rw [IntKind.wrap_u8]; omega
  have HF := hide hF
  have HL := hide hl
  have HO := hide hok
  obtain ⟨nm, bal, salt⟩ := x
  simp only at c0 c1 c2 HT
  unfold treeV
  have HX := hide hx
  have HPp := hide hp
  clear hF hp1 hT sT hl hok hx hx' hp
  go_enter Tryz.func11, Tryz.ntmps11
  go_upto_region 1 with fail
  generalize hW : (w.alloc (Obj.cells #[Value.int IntKind.i64 (h : Int), Value.slice (some ⟨b, off, none⟩) ls.length cap] 31)) = W
  have hS : PrS w b (off + p * 3) w.heap.size (h : Int) (.slice (some ⟨b, off, none⟩) ls.length cap) nm bal salt W := by
    rw [← hW]
    have hA : Below w.heap.size w (w.alloc (Obj.cells #[Value.int IntKind.i64 (h : Int), Value.slice (some ⟨b, off, none⟩) ls.length cap] 31)) := (Below.refl _ _).alloc (Nat.le_refl _) _
    exact ⟨by simp, by simp, keepB hA hbl c0, keepB hA hbl c1, keepB hA hbl c2, ⟨by simp, by simp; omega⟩, hA⟩
  have hSd : PrS w b (off + p * 3) w.heap.size (h : Int) (.slice (some ⟨b, off, none⟩) ls.length cap) nm bal salt W.drew := ⟨hS.1, hS.2.1, hS.2.2.1, hS.2.2.2.1, hS.2.2.2.2.1, hS.2.2.2.2.2.1, hS.2.2.2.2.2.2.drew⟩
  have hsB : w.heap.size ≤ w.heap.size := Nat.le_refl _
  clear hW hS c0 c1 c2
  go_cut [5] (fun s5 wx => s5 = .string (p1 ++ T) ∧ PrS w b (off + p * 3) w.heap.size (h : Int) (.slice (some ⟨b, off, none⟩) ls.length cap) nm bal salt wx)
  case first =>
    go_region_held (fun w' => w'.cell? ⟨w.heap.size, 0, none⟩ = some (.int .i64 (h : Int)) ∧ w'.cell? ⟨w.heap.size, 1, none⟩ = some (.slice (some ⟨b, off, none⟩) ls.length cap) ∧ w'.cell? ⟨b, off + p * 3, none⟩ = some (.string nm) ∧ w'.cell? ⟨b, off + p * 3 + 1, none⟩ = some (.int .u64 bal) ∧ w'.cell? ⟨b, off + p * 3 + 2, none⟩ = some (.int .u64 salt) ∧
        (w.heap.size < w'.heap.size ∧ b < w'.heap.size) ∧ Below w.heap.size w w')
      (first | with_reducible exact hS4 | with_reducible exact hSd | with_reducible assumption | with_reducible exact PrS.keep hSd hsB ((Below.refl _ _).alloc (Nat.le_refl _) _) | with_reducible exact PrS.keep hS4 hsB ((Below.refl _ _).alloc (Nat.le_refl _) _))
      (first | (go_at_call 16; refine (unhide (HT _)).mono ?_; rintro e w4 ⟨rfl, hb4⟩; have hS4 := PrS.keep (by with_reducible first | exact hSd | exact PrS.keep hSd hsB ((Below.refl _ _).alloc (Nat.le_refl _) _)) hsB hb4; have k4 := (bcell hb4).1; have z4 := hb4.size; try simp [Nat.add_one_le_iff] at z4))
    all_goals
      go_wp2_with fail
      go_meet
      refine ⟨rfl, ?_⟩
      with_reducible assumption
  case rest =>
  obtain ⟨rfl, hS⟩ := hcut
  clear hSd hcv hsa HT hwr hwr2
  rw [unhide HF]
  go_wp2_with fail
  have hA := hS.2.2.2.2.2.2
  have q0 := hS.1
  have q1 := hS.2.1
  have q2 := hS.2.2.2.2.2.1.1
  clear hS
  have hsz := fun k => proofTo_length ls h p ⟨nm, bal, salt⟩ k
  generalize hpt : proofTo ls h p ⟨nm, bal, salt⟩ = pt at *
  have hstep : ∀ k, pt (k + 1) = pt k ++ sideB (sideT ls k (sib (p / 2 ^ k))) := by intro k; rw [← hpt]; rfl
  have Hstep := hide hstep
  have Hpt := hide hpt
  have Hsz := hide hsz
  have h8 : nm.size ≤ 8 := (unhide HO).1
  clear hstep hsz hpt HF HO HX
  go_loopw [1, 5, 6] (fun sp ss sl wr => ∃ (k : Nat) (s : ByteArray), k ≤ h ∧ sl = .int .i64 k ∧ sp = .int .i64 ((p / 2 ^ k : Nat) : Int) ∧ ss = .string s ∧ Hid (s.data.toList = pt k) ∧ wr.cell? ⟨w.heap.size, 0, none⟩ = some (.int .i64 (h : Int)) ∧ wr.cell? ⟨w.heap.size, 1, none⟩ = some (.slice (some ⟨b, off, none⟩) ls.length cap) ∧ w.heap.size < wr.heap.size ∧ Hid (Below w.heap.size w wr))
    (fun _ _ sl _ => h - (intOf sl).toNat)
  case atStart => exact ⟨0, _, Nat.zero_le _, rfl, by simp, rfl, rfl, q0, q1, q2, hA⟩
  case round =>
    obtain ⟨k, s, hk, rfl, rfl, rfl, Hs, q0, q1, q2, HA⟩ := hrel
    clear hA
    by_cases hlt : k < h
    · have hss : s.size = nm.size + 19 + 11 * k := by
        have e := unhide Hsz k
        rw [← unhide Hs] at e
        simpa using e
      have hss' : s.size ≤ 200 := by omega
      have hq : p / 2 ^ k ≤ 63 := Nat.le_trans (Nat.div_le_self _ _) (by omega)
      have hqk : p / 2 ^ k * 2 ^ k ≤ 63 := Nat.le_trans (Nat.div_mul_le_self _ _) (by omega)
      have hk32 : 2 ^ k ≤ 32 := (Nat.pow_le_pow_right (by omega) (by omega : k ≤ 5) : 2 ^ k ≤ 2 ^ 5)
      have hdd : p / 2 ^ (k + 1) = p / 2 ^ k / 2 := by rw [Nat.pow_succ, Nat.div_div_eq_div_mul]
      have Hdd := hide hdd
      have Hss := hide hss
      have hst := unhide Hstep k
      generalize hqd : p / 2 ^ k = q at *
      have hsb : (sib q + 1) * 2 ^ k ≤ 256 := by
        have : sib q + 1 ≤ q + 2 := by unfold sib; split <;> omega
        have h2 : (sib q + 1) * 2 ^ k ≤ (q + 2) * 2 ^ k := Nat.mul_le_mul_right _ this
        have h3 : (q + 2) * 2 ^ k = q * 2 ^ k + 2 * 2 ^ k := Nat.add_mul _ _ _
        omega
      have HC : ∀ w', Below w.heap.size w w' → Hid (Calls Tryz.prog 14 #[treeV (h : Int) (some ⟨b, off, none⟩) ls.length cap, .int .i64 (k : Int), .int .i64 ((sib q : Nat) : Int)] w' fun e w'' => e = .returned (sideV (sideT ls k (sib q)).1 (sideT ls k (sib q)).2) ∧ Below w'.heap.size w' w'') :=
        fun w' hb => side_any (h : Int) _ cap ls hn k (sib q) w' (LeavesOf.below (Or.inr ⟨b, off, rfl, unhide HL⟩) hb) hsb (by omega)
      have hr := sideT_range ls (unhide HL).ok k (sib q)
      have hsq : ((sib q : Nat) : Int) = if q % 2 = 1 then (q : Int) - 1 else (q : Int) + 1 := by unfold sib; split <;> omega
      rw [hsq] at HC
      have Hst : Hid (∀ T : ByteArray, T.data.toList = sideB ((sideT ls k (sib q)).1, (sideT ls k (sib q)).2) → (s ++ T).data.toList = pt (k + 1)) := by
        intro T hT
        rw [hst, ByteArray.data_append, Array.toList_append, unhide Hs, hT]
      generalize sideT ls k (sib q) = x at *
      obtain ⟨d, n⟩ := x
      simp only at hr HC Hst
      obtain ⟨l0, l1, l2, T, hd, hT, hTl, HT⟩ := sideText d n hr.1 hr.2
      simp only [hd] at HC
      unfold treeV at HC
      have hsa := str_add (P := Tryz.prog) s T (by omega)
      have HF := hide (unhide Hst T hTl)
      clear hT hTl hd hr hsq hst Hst hsb hdd hss hqd hk32 hqk Hs
      by_cases hodd : q % 2 = 1
      · have hodd' : ((q : Int) % 2 == 1) = true := by simp; omega
        have hq1 : 1 ≤ q := by omega
        simp only [hodd, if_true] at HC
        clear hodd
        go_wp2_with fail
        refine (unhide (HC _ (unhide HA))).mono ?_
        rintro e w1 ⟨rfl, hb1⟩
        have q0' := keepB hb1 q2 q0
        have q1' := keepB hb1 q2 q1
        have q2' : w.heap.size < w1.heap.size := by have := hb1.size; omega
        have HA1 := hide ((unhide HA).trans (hb1.mono (by omega)))
        clear hb1 HC q0 q1 q2 HA
        go_wp2_with fail
        refine (unhide (HT _)).mono ?_
        rintro e w2 ⟨rfl, hb2⟩
        have z2 : w.heap.size < (w1.alloc (Obj.cells #[Value.int IntKind.u8 l0, Value.int IntKind.u8 l1, Value.int IntKind.u8 l2, Value.int IntKind.u64 n] 49)).heap.size := by simp; omega
        have q0'' := keepB hb2 z2 (keepB ((Below.refl w1.heap.size w1).alloc (Nat.le_refl _) _) q2' q0')
        have q1'' := keepB hb2 z2 (keepB ((Below.refl w1.heap.size w1).alloc (Nat.le_refl _) _) q2' q1')
        have q2'' : w.heap.size < w2.heap.size := by have := hb2.size; omega
        have HA2 := hide (((unhide HA1).alloc (by omega) _).trans (hb2.mono (by omega)))
        clear hb2 z2 q0' q1' q2' HA1
        go_wp2
        go_roundw
        case rel => exact ⟨k + 1, s ++ T, by omega, by go_num, by rw [unhide Hdd]; go_num, rfl, HF, q0'', q1'', q2'', HA2⟩
        case measure => simp [intOf]; omega
      · have hodd' : ((q : Int) % 2 == 1) = false := by simp; omega
        simp only [hodd, if_false] at HC
        clear hodd
        go_wp2_with fail
        refine (unhide (HC _ (unhide HA))).mono ?_
        rintro e w1 ⟨rfl, hb1⟩
        have q0' := keepB hb1 q2 q0
        have q1' := keepB hb1 q2 q1
        have q2' : w.heap.size < w1.heap.size := by have := hb1.size; omega
        have HA1 := hide ((unhide HA).trans (hb1.mono (by omega)))
        clear hb1 HC q0 q1 q2 HA
        go_wp2_with fail
        refine (unhide (HT _)).mono ?_
        rintro e w2 ⟨rfl, hb2⟩
        have z2 : w.heap.size < (w1.alloc (Obj.cells #[Value.int IntKind.u8 l0, Value.int IntKind.u8 l1, Value.int IntKind.u8 l2, Value.int IntKind.u64 n] 49)).heap.size := by simp; omega
        have q0'' := keepB hb2 z2 (keepB ((Below.refl w1.heap.size w1).alloc (Nat.le_refl _) _) q2' q0')
        have q1'' := keepB hb2 z2 (keepB ((Below.refl w1.heap.size w1).alloc (Nat.le_refl _) _) q2' q1')
        have q2'' : w.heap.size < w2.heap.size := by have := hb2.size; omega
        have HA2 := hide (((unhide HA1).alloc (by omega) _).trans (hb2.mono (by omega)))
        clear hb2 z2 q0' q1' q2' HA1
        go_wp2
        go_roundw
        case rel => exact ⟨k + 1, s ++ T, by omega, by go_num, by rw [unhide Hdd]; go_num, rfl, HF, q0'', q1'', q2'', HA2⟩
        case measure => simp [intOf]; omega
    · have hkh : k = h := by omega
      subst hkh
      go_wp2
      go_ret
      refine ⟨?_, unhide HA⟩
      rw [bytes_ext (unhide Hs), unhide Hpt]
      rfl

end Go.Proofs.YtbjobbkgelipmaaGreat

/-
  The walks of tithe's tree.report and tree.beside.
-/
namespace Go.Proofs.YtbjobbkgelipmaaGreat
open Go.RowKit

set_option maxHeartbeats 400000 in
set_option maxRecDepth 100000 in
theorem trep_any {w : World} {T b cap V vc h : Nat} {gs : List Nat} {ls : List LeafD} (t : TreeM w T b cap V vc gs ls h) (hh : h ≤ 6) :
    Calls Tryz.prog 55 #[.pointer (some ⟨T, 0, none⟩)] w fun e w' => e = .returned (ownRepV (h : Int) ((sideT ls h 0).1.1.toNat : Int) ((sideT ls h 0).1.2.1.toNat : Int) ((sideT ls h 0).1.2.2.toNat : Int) (sideT ls h 0).2) ∧ Below w.heap.size w w' := by
  have c1 : w.cell? ⟨T, 1, none⟩ = some (.slice (some ⟨V, 0, none⟩) (h + 1) vc) := block_cell t.blk
  have hT := (Array.getElem?_eq_some_iff.1 t.blk).1
  have cv := t.rows h (Nat.le_refl _)
  obtain ⟨sd, hG⟩ := t.sides h (Nat.le_refl _)
  have hV := t.vlt
  rw [Nat.sub_self, Nat.pow_zero] at cv sd
  obtain ⟨s0, s1, s2, s3⟩ := sd 0 (by rw [levelT_len]; omega)
  rw [levelT_get] at s0 s1 s2 s3
  rw [Nat.zero_mul] at s0 s1 s2 s3
  rw [Nat.zero_add] at s1 s2 s3
  unfold ownRepV
  generalize ((sideT ls h 0).1.1.toNat : Int) = d0 at *
  generalize ((sideT ls h 0).1.2.1.toNat : Int) = d1 at *
  generalize ((sideT ls h 0).1.2.2.toNat : Int) = d2 at *
  generalize (sideT ls h 0).2 = n at *
  generalize gs.getD h 0 = G at *
  have i1 : h < h + 1 := by omega
  have hA : Below w.heap.size w (w.alloc (Obj.cells #[Value.int IntKind.i64 0, Value.int IntKind.u8 0, Value.int IntKind.u8 0, Value.int IntKind.u8 0, Value.int IntKind.u64 0] 108)) := (Below.refl _ _).alloc (Nat.le_refl _) _
  have k1 := keepB hA hT c1
  have k2 := keepB hA hV cv
  have k3 := keepB hA hG s0
  have k4 := keepB hA hG s1
  have k5 := keepB hA hG s2
  have k6 := keepB hA hG s3
  have hR := RB.new w #[Value.int IntKind.i64 0, Value.int IntKind.u8 0, Value.int IntKind.u8 0, Value.int IntKind.u8 0, Value.int IntKind.u64 0] 108
  clear t sd c1 cv s0 s1 s2 s3
  go_enter Tryz.func55, Tryz.ntmps55
  go_upto_region 1 with fail
  generalize (w.alloc (Obj.cells #[Value.int IntKind.i64 0, Value.int IntKind.u8 0, Value.int IntKind.u8 0, Value.int IntKind.u8 0, Value.int IntKind.u64 0] 108)) = W at *
  have r0 : W.cell? ⟨w.heap.size, 0, none⟩ = some (.int .i64 0) := hR.cell 0
  have r1 : W.cell? ⟨w.heap.size, 1, none⟩ = some (.int .u8 0) := hR.cell 1
  have r2 : W.cell? ⟨w.heap.size, 2, none⟩ = some (.int .u8 0) := hR.cell 2
  have r3 : W.cell? ⟨w.heap.size, 3, none⟩ = some (.int .u8 0) := hR.cell 3
  have r4 : W.cell? ⟨w.heap.size, 4, none⟩ = some (.int .u64 0) := hR.cell 4
  have rf : ∀ i, W.frozen? ⟨w.heap.size, i, none⟩ = false := hR.free
  have HRB := hide hR
  clear hR hA
  go_wp2
  refine bodyPost_ret (v := .agg #[.int .i64 (h : Int), .int .u8 d0, .int .u8 d1, .int .u8 d2, .int .u64 n]) ?_ rfl ⟨rfl, ?_⟩
  · simp [results, Tryz.results55, go_sem, r0, r1, r2, r3, r4]
  · exact ((((((unhide HRB).setR 0 _).setR 1 _).setR 2 _).setR 3 _).setR 4 _).below

theorem xor_sib (q : Nat) (h : q < 64) : bits .xor .i64 (q : Int) 1 = (sib q : Int) := by
  have : ∀ q : Fin 64, bits .xor .i64 (q.val : Int) 1 = (sib q.val : Int) := by decide +kernel
  exact this ⟨q, h⟩
theorem sib_lt {q n : Nat} (h : q < 2 ^ (n + 1)) : sib q < 2 ^ (n + 1) := by
  rw [Nat.pow_succ] at *
  unfold sib
  split <;> omega
/-- What stands beside the way up. -/
def besideT (ls : List LeafD) (p n : Nat) : List (Dg × Int) := (List.range n).map fun k => sideT ls k (sib (p / 2 ^ k))
theorem besideT_len (ls : List LeafD) (p n : Nat) : (besideT ls p n).length = n := by simp [besideT]
theorem besideT_snoc (ls : List LeafD) (p n : Nat) : besideT ls p (n + 1) = besideT ls p n ++ [sideT ls n (sib (p / 2 ^ n))] := by simp [besideT, List.range_succ]

set_option maxHeartbeats 1000000 in
set_option maxRecDepth 100000 in
theorem tbeside_any {w : World} {T b cap V vc h : Nat} {gs : List Nat} {ls : List LeafD} (t : TreeM w T b cap V vc gs ls h) (p : Nat) (hh : h ≤ 6) (hp : p < 2 ^ h) :
    Calls Tryz.prog 73 #[.pointer (some ⟨T, 0, none⟩), .int .i64 (p : Int)] w fun e w' => e = .returned (.slice (some ⟨w.heap.size, 0, none⟩) h h) ∧ w.heap.size < w'.heap.size ∧ SidesAt w' w.heap.size (besideT ls p h) ∧ Below w.heap.size w w' := by
  obtain ⟨i0, hi, hz0, hz1, hz2⟩ := info_parts Tryz.infoSide
  have c1 : w.cell? ⟨T, 1, none⟩ = some (.slice (some ⟨V, 0, none⟩) (h + 1) vc) := block_cell t.blk
  have hT := (Array.getElem?_eq_some_iff.1 t.blk).1
  have HTr := hide t
  have HP := hide hp
  clear t hp
  go_enter Tryz.func73, Tryz.ntmps73
  go_wp2_with (at_make; refine wpList_make_full _ rfl _ _ 116 rfl w.heap.size 106 i0 _ 4 Tryz.underlying116 hi hz0 hz1 _ _ _ _ h rfl rfl (by omega) (by omega) (by rw [hz2]; omega) (by unfold maxLen; omega) (Nat.le_refl _) ?_)
  intro w1 hown1 hgrow1
  have hB1 : Below w.heap.size w w1 := (Below.refl _ _).grown hgrow1 (Nat.le_refl _) (fun b hb => by cases hb)
  have hR1 := room_new hown1
  have hz1' : w.heap.size < w1.heap.size := (hown1.lt w.heap.size rfl).2
  have HSS := hide (And.intro hB1 hR1)
  clear hB1 hR1 hown1 hgrow1 c1
  go_wp2_with fail
  go_loopw [1, 18, 7] (fun pv i _ wr => ∃ k : Nat, k ≤ h ∧ i = .int .i64 k ∧ pv = .int .i64 ((p / 2 ^ k : Nat) : Int) ∧ Room wr w.heap.size h (besideT ls p k) ∧ w.heap.size < wr.heap.size ∧ Below w.heap.size w wr) (fun _ i _ _ => h - (intOf i).toNat)
  case atStart => exact ⟨0, Nat.zero_le _, rfl, by simp, (unhide HSS).2, hz1', (unhide HSS).1⟩
  case round =>
    obtain ⟨k, hk, rfl, rfl, hR, hz, hbel⟩ := hrel
    have HR := hide (And.intro hR hbel)
    clear hR hbel HSS
    by_cases hk' : k < h
    · obtain ⟨q, hq⟩ : ∃ q, p / 2 ^ k = q := ⟨_, rfl⟩
      have hq2 : q / 2 = p / 2 ^ (k + 1) := by rw [← hq, Nat.div_div_eq_div_mul, Nat.pow_succ]
      have hql : q < 2 ^ (h - k) := by
        rw [← hq, Nat.div_lt_iff_lt_mul (Nat.two_pow_pos _), ← Nat.pow_add, show h - k + k = h by omega]
        exact unhide HP
      have hsl : sib q < 2 ^ (h - k) := by
        rw [show h - k = (h - k - 1) + 1 by omega] at hql ⊢
        exact sib_lt hql
      have h64 : 2 ^ (h - k) ≤ 2 ^ 6 := Nat.pow_le_pow_right (by omega) (by omega)
      have hx := xor_sib q (by omega)
      have hsn := besideT_snoc ls p k
      rw [hq] at hsn
      rw [hq]
      have cT : wr.cell? ⟨T, 1, none⟩ = some (.slice (some ⟨V, 0, none⟩) (h + 1) vc) := ((unhide HR).2.cell (p := ⟨T, 1, none⟩) hT).trans (block_cell (unhide HTr).blk)
      have cV := ((unhide HR).2.cell (p := ⟨V, k, none⟩) (unhide HTr).vlt).trans ((unhide HTr).rows k hk)
      obtain ⟨sd, hG⟩ := (unhide HTr).sides k hk
      obtain ⟨y0, y1, y2, y3⟩ := (sd.below (unhide HR).2 hG) (sib q) (by rw [levelT_len]; exact hsl)
      rw [levelT_get] at y0 y1 y2 y3
      obtain ⟨⟨⟨s0, s1, s2⟩, x⟩, hy⟩ : ∃ y, sideT ls k (sib q) = y := ⟨_, rfl⟩
      rw [hy] at y0 y1 y2 y3 hsn
      have HX := hide hsn
      have HQ2 := hide hq2
      obtain ⟨sq, hsq⟩ : ∃ sq, sib q = sq := ⟨_, rfl⟩
      rw [hsq] at hx y0 y1 y2 y3 hsl
      have hR2 := (unhide HR).1
      have HR3 := hide (And.intro (hR2.set (besideT_len ls p k) hk' s0 s1 s2 x) (unhide HR).2)
      obtain ⟨r0, g0⟩ := Option.isSome_iff_exists.1 (hR2.1 (k * 4) (by omega)).1
      obtain ⟨r1, g1⟩ := Option.isSome_iff_exists.1 (hR2.1 (k * 4 + 1) (by omega)).1
      obtain ⟨r2, g2⟩ := Option.isSome_iff_exists.1 (hR2.1 (k * 4 + 2) (by omega)).1
      obtain ⟨r3, g3⟩ := Option.isSome_iff_exists.1 (hR2.1 (k * 4 + 3) (by omega)).1
      have f0 := (hR2.1 (k * 4) (by omega)).2
      have f1 := (hR2.1 (k * 4 + 1) (by omega)).2
      have f2 := (hR2.1 (k * 4 + 2) (by omega)).2
      have f3 := (hR2.1 (k * 4 + 3) (by omega)).2
      simp only at y0 y1 y2 y3
      generalize (s0.toNat : Int) = t0 at *
      generalize (s1.toNat : Int) = t1 at *
      generalize (s2.toNat : Int) = t2 at *
      generalize gs.getD k 0 = G at *
      generalize 2 ^ (h - k) = N at *
      have j1 : (sq : Int) < (N : Int) := by omega
      have j2 : k < h + 1 := by omega
      have hqb : q ≤ 64 := by omega
      clear hq hq2 hql h64 hsn hy sd hG hsq hR2 HR
      go_wp2
      refine ⟨⟨k + 1, by omega, by go_num, ?_, ?_, by simpa using hz, ((((unhide HR3).2.setCell (by simp) _).setCell (by simp) _).setCell (by simp) _).setCell (by simp) _⟩, by simp [intOf]; omega⟩
      · rw [← unhide HQ2]; go_num
      · rw [unhide HX]
        exact (unhide HR3).1
    · have hkk : k = h := by omega
      subst hkk
      go_wp2
      go_ret
      exact ⟨rfl, hz, (unhide HR).1.2, (unhide HR).2⟩

end Go.Proofs.YtbjobbkgelipmaaGreat

/-
  The walk of tithe's writeProof.
-/
namespace Go.Proofs.YtbjobbkgelipmaaGreat
open Go.RowKit

def sidesB (ys : List (Dg × Int)) : List UInt8 := (ys.map sideB).flatten
theorem sidesB_snoc (ys : List (Dg × Int)) (y : Dg × Int) : sidesB (ys ++ [y]) = sidesB ys ++ sideB y := by simp [sidesB]
theorem sidesB_len (ys : List (Dg × Int)) : (sidesB ys).length = 11 * ys.length := by
  induction ys with
  | nil => rfl
  | cons y ys ih =>
    unfold sidesB at *
    rw [List.map_cons, List.flatten_cons, List.length_append, ih, sideB_len, List.length_cons]
    omega

set_option maxRecDepth 100000 in
set_option maxHeartbeats 1000000 in
theorem wrproof_any (pl : Nat) (nm : ByteArray) (bal salt : Int) (sb cap : Nat) (ys : List (Dg × Int)) (w : World) (hp : pl < 256) (hnm : nm.size ≤ 8) (h0 : 0 ≤ bal) (h1 : bal < 18446744073709551616) (h0' : 0 ≤ salt) (h1' : salt < 18446744073709551616)
    (hm : ys.length ≤ 6) (hlt : sb < w.heap.size) (hS : SidesAt w sb ys) (hys : ∀ y ∈ ys, 0 ≤ y.2 ∧ y.2 < 18446744073709551616) :
    Calls Tryz.prog 59 #[proofV (pl : Int) nm bal salt (some ⟨sb, 0, none⟩) ys.length cap] w fun e w' => (∃ v', e = .returned v' ∧ w'.ownsRow w.heap.size 5 1 v' (nm.size + 19 + 11 * ys.length) (byteVals ([UInt8.ofNat ys.length, UInt8.ofNat pl] ++ leafB nm.data.toList bal salt ++ sidesB ys))) ∧ Below w.heap.size w w' := by
  obtain ⟨i0, hi, hz0, hz1, hz2⟩ := info_parts Tryz.infoByte
  obtain ⟨n, hn⟩ : ∃ n, ys.length = n := ⟨_, rfl⟩
  have HLS := fun w => hide (leafsize_any nm bal salt w hnm)
  have HC1 := fun (v : Value) (ys : List Value) (w' : World) (ho : w'.ownsRow w.heap.size 5 1 v 2 ys) (hb : w.heap.size ≤ w'.heap.size) => hide (appleaf_any w.heap.size 2 v ys nm bal salt w' hnm h0 h1 h0' h1' ho hb (by omega))
  have hw1 : IntKind.u8.wrap (n : Int) = (n : Int) := by rw [IntKind.wrap_u8]; omega
  have hw2 : IntKind.u8.wrap (pl : Int) = (pl : Int) := by rw [IntKind.wrap_u8]; omega
  have HS := hide hS
  have HY := hide hys
  have HN := hide hn
  rw [hn]
  have hm' : n ≤ 6 := by omega
  clear hS hys h0 h1 h0' h1' hm hn
  unfold proofV leafV at *
  go_enter Tryz.func59, Tryz.ntmps59
  go_wp2_with fail
  refine (unhide (HLS _)).mono ?_
  rintro e w1 ⟨rfl, hb1⟩
  have k0 := heap_alloc_new w (Obj.cells #[Value.int IntKind.i64 (pl : Int), Value.string nm, Value.int IntKind.u64 bal, Value.int IntKind.u64 salt, Value.slice (some ⟨sb, 0, none⟩) n cap] 118)
  have m1 := (hb1.block w.heap.size (by simp)).trans k0
  have hB1 : Below w.heap.size w w1 := ((Below.refl _ w).alloc (Nat.le_refl _) _).trans (hb1.mono (by simp))
  have hz1' := hB1.size
  have HB := hide (And.intro hB1 m1)
  clear hb1 k0 hB1 m1 HLS
  go_wp2_with (at_make; refine wpList_make_own _ rfl _ _ 51 rfl w.heap.size 5 i0 (.int .u8 0) 1 Tryz.underlying51 hi hz0 hz1 _ _ _ (2 + (1 + nm.size + 16) + n * 11) rfl rfl (by omega) (by rw [hz2]; omega) (by unfold maxLen; omega) hz1' ?_)
  intro w2 hown2 hgrow2
  have hB2 : Below w.heap.size w w2 := (unhide HB).1.grown hgrow2 hz1' (fun b hb => by cases hb)
  have m2 := (hgrow2.block w.heap.size (Array.getElem?_eq_some_iff.1 (unhide HB).2).1 (fun e => by cases e)).trans (unhide HB).2
  have hz2' := hB2.size
  have HB2 := hide (And.intro hB2 m2)
  have HO := hide hown2
  have c0 : w2.cell? ⟨w.heap.size, 0, none⟩ = some (.int .i64 (pl : Int)) := block_cell m2
  clear hgrow2 hown2 hB2 HB m2
  go_wp2_with (at_builtin; refine wpList_append_own _ rfl (.tmp 18) (.tmp 24) 51 rfl w.heap.size 5 i0 (.int .u8 0) 1 1 Tryz.underlying51 hi hz0 hz1 hz2 rfl (by decide) _ _ _ rfl ((unhide HO).alloc _) ⟨w2.heap.size, 0, none⟩ 2 2 [.int .u8 (n : Int), .int .u8 (pl : Int)] rfl rfl ?c1 ?c2 ?c3 ?c4 ?c5 ?_)
  case c1 =>
    intro j u hu
    match j, hu with
    | 0, hu => simp at hu; subst hu; simp [addr_add]
    | 1, hu => simp at hu; subst hu; simp [addr_add]
  case c2 => intro u hu; simp at hu; rcases hu with rfl | rfl <;> rfl
  case c3 => unfold maxLen; omega
  case c4 => omega
  case c5 => simp; omega
  intro v3 w3 hown3 hgrow3 _
  have hk3 : KeepT w2 w3 := ((KeepT.refl _).alloc _).grown ((unhide HO).alloc _) hgrow3
  have m3 := hk3 _ _ _ _ (unhide HB2).2 (by decide)
  have hB3 : Below w.heap.size w w3 := ((unhide HB2).1.alloc hz2' _).grown hgrow3 (by simp; omega) (fun b hb => ((unhide HO).lt b hb).1)
  have HR := hide (HC1 v3 _ w3 (by simpa using hown3) hB3.size)
  have HB3 := hide (And.intro hB3 m3)
  have c1 : w3.cell? ⟨w.heap.size, 1, none⟩ = some (.string nm) := block_cell m3
  have c2 : w3.cell? ⟨w.heap.size, 2, none⟩ = some (.int .u64 bal) := block_cell m3
  have c3 : w3.cell? ⟨w.heap.size, 3, none⟩ = some (.int .u64 salt) := block_cell m3
  clear hown3 hgrow3 hk3 hB3 m3 HB2 HO HC1 c0
  go_wp2_with fail
  refine (unhide (unhide HR)).mono ?_
  rintro e w5 ⟨⟨v5, rfl, hown5⟩, hb5, hk5⟩
  have m5 := hk5 _ _ _ _ (unhide HB3).2 (by decide)
  have hB5 := (unhide HB3).1.trans hb5
  have HF := hide (And.intro hown5 (And.intro hB5 m5))
  have c4 : w5.cell? ⟨w.heap.size, 4, none⟩ = some (.slice (some ⟨sb, 0, none⟩) n cap) := block_cell m5
  clear hown5 hb5 hk5 m5 hB5 HR HB3 c1 c2 c3
  go_wp2
  obtain ⟨X0, hX0⟩ : ∃ X0, ([Value.int .u8 (n : Int), Value.int .u8 (pl : Int)] ++ [Value.int .u8 (nm.size : Int)] ++ Lib.strCells nm ++ byteVals (longB bal) ++ byteVals (longB salt)) = X0 := ⟨_, rfl⟩
  have HX := hide hX0
  obtain ⟨N0, hN0⟩ : ∃ N0, nm.size + 19 = N0 := ⟨_, rfl⟩
  have HO5 : Hid (w5.ownsRow w.heap.size 5 1 v5 N0 X0) := by
    have := (unhide HF).1
    rw [← hX0, ← hN0, show nm.size + 19 = 2 + 1 + nm.size + 8 + 8 by omega]
    refine hide ?_
    simpa using this
  have HNN := hide hN0
  have hN1 : N0 ≤ 27 := by omega
  clear hX0 hN0
  go_loopw [4, 33] (fun v i wr => ∃ k : Nat, k ≤ n ∧ i = .int .i64 k ∧ wr.ownsRow w.heap.size 5 1 v (N0 + 11 * k) (X0 ++ byteVals (sidesB (ys.take k))) ∧ Below w.heap.size w wr) (fun _ i _ => n - (intOf i).toNat)
  case atStart => exact ⟨0, Nat.zero_le _, rfl, by simpa [sidesB, byteVals] using unhide HO5, (unhide HF).2.1⟩
  case round =>
    obtain ⟨k, hk, rfl, hown, hbel⟩ := hrel
    have HW := hide (And.intro hown hbel)
    have hsz := hbel.size
    clear hown hbel HF HO5 c4
    by_cases hk' : k < n
    · have hky : k < ys.length := by rw [unhide HN]; exact hk'
      obtain ⟨c0, c1, c2, c3⟩ := ((unhide HS).below (unhide HW).2 hlt) k hky
      have hy := unhide HY _ (List.getElem_mem hky)
      have Hsn : Hid (sidesB (ys.take (k + 1)) = sidesB (ys.take k) ++ sideB ys[k]) := by
        rw [List.take_succ_eq_append_getElem hky]; exact sidesB_snoc _ _
      generalize ys[k] = y at *
      have HC := fun (w' : World) (ho : w'.ownsRow w.heap.size 5 1 u4 (N0 + 11 * k) (X0 ++ byteVals (sidesB (ys.take k)))) (hb : w.heap.size ≤ w'.heap.size) => hide (appside_any w.heap.size (N0 + 11 * k) u4 _ y.1 y.2 w' hy.1 hy.2 ho hb (by omega))
      unfold sideV at HC
      generalize (y.1.1.toNat : Int) = e0 at *
      generalize (y.1.2.1.toNat : Int) = e1 at *
      generalize (y.1.2.2.toNat : Int) = e2 at *
      generalize hyx : y.2 = yx at *
      have HA := hide (HC (wr.alloc (Obj.cells #[Value.int IntKind.u8 e0, Value.int IntKind.u8 e1, Value.int IntKind.u8 e2, Value.int IntKind.u64 yx] 106)) ((unhide HW).1.alloc _) (by simp; omega))
      have HYX := hide hyx
      clear HC hy hyx
      go_upto_region 8 with fail
      have m1 := heap_alloc_new wr (Obj.cells #[Value.int IntKind.u8 e0, Value.int IntKind.u8 e1, Value.int IntKind.u8 e2, Value.int IntKind.u64 yx] 106)
      have HB1 := hide ((unhide HW).2.alloc (unhide HW).2.size (Obj.cells #[Value.int IntKind.u8 e0, Value.int IntKind.u8 e1, Value.int IntKind.u8 e2, Value.int IntKind.u64 yx] 106))
      generalize (wr.alloc (Obj.cells #[Value.int IntKind.u8 e0, Value.int IntKind.u8 e1, Value.int IntKind.u8 e2, Value.int IntKind.u64 yx] 106)) = W3 at *
      generalize wr.heap.size = X at *
      have z0 : W3.cell? ⟨X, 0, none⟩ = some (.int .u8 e0) := block_cell m1
      have z1 : W3.cell? ⟨X, 1, none⟩ = some (.int .u8 e1) := block_cell m1
      have z2 : W3.cell? ⟨X, 2, none⟩ = some (.int .u8 e2) := block_cell m1
      have z3 : W3.cell? ⟨X, 3, none⟩ = some (.int .u64 yx) := block_cell m1
      clear m1 c0 c1 c2 c3 HW
      go_wp2_with fail
      refine (unhide (unhide HA)).mono ?_
      rintro e w4 ⟨⟨v4, rfl, hown4⟩, hb4, _⟩
      have HE := hide (And.intro hown4 ((unhide HB1).trans hb4))
      clear hown4 hb4 HA HB1 z0 z1 z2 z3
      go_wp2
      go_roundw
      case rel =>
        refine ⟨k + 1, by omega, by go_num, ?_, (unhide HE).2⟩
        have := (unhide HE).1
        rw [unhide Hsn, show N0 + 11 * (k + 1) = N0 + 11 * k + 11 by omega]
        rw [← unhide HYX] at this
        simpa [byteVals] using this
      case measure => simp [intOf]; omega
    · have hkk : k = n := by omega
      subst hkk
      go_wp2
      go_ret
      refine ⟨⟨_, rfl, ?_⟩, (unhide HW).2⟩
      have ho := (unhide HW).1
      rw [← unhide HN, List.take_length, unhide HN] at ho
      rw [unhide HNN]
      have e : byteVals (UInt8.ofNat k :: UInt8.ofNat pl :: (leafB nm.data.toList bal salt ++ sidesB ys)) = X0 ++ byteVals (sidesB ys) := by
        rw [← unhide HX]
        have hs : nm.data.toList.length = nm.size := by simp
        simp [byteVals, Lib.strCells, leafB, hs]
        omega
      rw [e]
      exact ho

end Go.Proofs.YtbjobbkgelipmaaGreat

/-
  The walk of tithe's Publish, given what slices.Sorted(maps.Keys(m)) gives.
-/
namespace Go.Proofs.YtbjobbkgelipmaaGreat
open Go.RowKit Go.Maps Go.WideMaps

theorem len_run {w : World} {B M : Nat} {h seed tot : Int} {last : Option Addr} {E : List Acct} (hb : BookT w B M h seed last tot E) (ty : TypeId) : (Builtin.len_ #[86] ty #[.map (some M)]).run Tryz.prog w = .ok (.int .i64 (E.length : Int)) w := by
  have h := hb.own.len Tryz.undAcc ty
  rw [h]
  simp [datE, Maps.size]

/-- Is there a place for each account? -/
def fullB (h : Nat) (E : List Acct) : Bool := decide (2 ^ h < E.length)

set_option maxHeartbeats 2000000 in
set_option maxRecDepth 100000 in
theorem publish_full {w : World} {B M h : Nat} {seed tot : Int} {last : Option Addr} {E : List Acct} (hb : BookT w B M (h : Int) seed last tot E) (hh : h ≤ 6) (hE : E.length ≤ 2000000000000) (hf : 2 ^ h < E.length) :
    Calls Tryz.prog 31 #[.pointer (some ⟨B, 0, none⟩)] w fun e w' => e = .returned (.tuple #[.slice none 0 0, .int .i64 7]) ∧ ∃ d, w' = w.drewN d := by
  have hl : ∀ d ty, (Builtin.len_ #[86] ty #[.map (some M)]).run Tryz.prog (w.drewN d) = .ok (.int .i64 (E.length : Int)) (w.drewN d) := fun d ty => len_run (hb.heap (w' := w.drewN d) rfl) ty
  have c0 : w.cell? ⟨B, 0, none⟩ = some (.int .i64 (h : Int)) := block_cell hb.blk
  have c2 : w.cell? ⟨B, 2, none⟩ = some (.map (some M)) := block_cell hb.blk
  generalize E.length = n at *
  have H7 : h = 0 ∨ h = 1 ∨ h = 2 ∨ h = 3 ∨ h = 4 ∨ h = 5 ∨ h = 6 := by omega
  clear hb hh
  rcases H7 with rfl | rfl | rfl | rfl | rfl | rfl | rfl
  all_goals
    simp only [Nat.reducePow] at hf
    go_enter Tryz.func31, Tryz.ntmps31
    go_wp2_with fail
    go_quiet (fail)
    go_wp2
    go_ret2
    exact ⟨rfl, _, rfl⟩

theorem leaves_sum (seed : Int) (E : List Acct) : sumL (leavesE seed E E.length) = sumE E := by
  unfold sumL sumE leavesE
  rw [List.map_map]
  congr 1
  apply List.ext_getElem
  · simp
  · intro i h1 h2
    have hi : i < E.length := by simpa using h2
    simp only [List.getElem_map, List.getElem_range, Function.comp, leafOf]
    rw [List.getD_eq_getElem?_getD, List.getElem?_eq_getElem hi]
    rfl
theorem leaves_pos {w : World} {B M : Nat} {h seed tot : Int} {last : Option Addr} {E : List Acct} (hb : BookT w B M h seed last tot E) : ∀ x ∈ leavesE seed E E.length, 0 ≤ x.bal := by
  intro x hx
  unfold leavesE at hx
  obtain ⟨i, hi, rfl⟩ := List.mem_map.1 hx
  have hi' : i < E.length := by simpa using hi
  unfold leafOf
  rw [List.getD_eq_getElem?_getD, List.getElem?_eq_getElem hi']
  exact hb.pos _ (List.getElem_mem hi')
/-- The record's tree is written. -/
theorem BookT.root {w : World} {B M : Nat} {h seed tot : Int} {last : Option Addr} {E : List Acct} (hb : BookT w B M h seed last tot E) (a : Option Addr) : BookT (w.setCell ⟨B, 4, none⟩ (.pointer a)) B M h seed a tot E := by
  have e : ∀ k, k ≠ B → (w.setCell ⟨B, 4, none⟩ (.pointer a)).heap[k]? = w.heap[k]? := fun k hk => Below.heap_setCell _ _ _ _ hk
  refine ⟨heap_setCell_same _ B 4 _ _ _ hb.blk, ?_, fun c hc => (e _ (hb.ne hc)).trans (hb.acc c hc), hb.apart, hb.pos⟩
  obtain ⟨es, cl, he, r⟩ := hb.own
  exact ⟨es, cl, (e M (fun e => by rw [e, hb.blk] at he; cases he)).trans he, r⟩

set_option maxHeartbeats 4000000 in
set_option maxRecDepth 100000 in
theorem publish_ok (K : SortK) {w : World} {B M h : Nat} {seed : Int} {last : Option Addr} {E : List Acct} (hb : BookM w B M (h : Int) seed last E) (hh : h ≤ 6) (hf : E.length ≤ 2 ^ h) (hnm : ∀ a ∈ E, a.name.length ≤ 8) :
    Calls Tryz.prog 31 #[.pointer (some ⟨B, 0, none⟩)] w fun e w' => (∃ v T b cap V vc gs, e = .returned (.tuple #[v, .int .i64 0]) ∧ w'.ownsRow w.heap.size 5 1 v 12 (byteVals (reportB (leavesE seed E E.length) h)) ∧
      BookM w' B M (h : Int) seed (some ⟨T, 0, none⟩) E ∧ TreeM w' T b cap V vc gs (leavesE seed E E.length) h ∧ w.heap.size ≤ T ∧ w.heap.size ≤ b ∧ w.heap.size ≤ V ∧ ∀ j, j ≤ h → w.heap.size ≤ gs.getD j 0) ∧ Kept [B] w w' := by
  have h64 : 2 ^ h ≤ 2 ^ 6 := Nat.pow_le_pow_right (by omega) hh
  have hn64 : E.length ≤ 64 := by omega
  have hl : ∀ d ty, (Builtin.len_ #[86] ty #[.map (some M)]).run Tryz.prog (w.drewN d) = .ok (.int .i64 (E.length : Int)) (w.drewN d) := fun d ty => len_run (hb.toBookT.heap (w' := w.drewN d) rfl) ty
  have c0 : w.cell? ⟨B, 0, none⟩ = some (.int .i64 (h : Int)) := block_cell hb.blk
  have c2 : w.cell? ⟨B, 2, none⟩ = some (.map (some M)) := block_cell hb.blk
  have hBl := (Array.getElem?_eq_some_iff.1 hb.blk).1
  have HLv := hide (fun (W : World) (hW : BookT W B M (h : Int) seed last (sumE E) E) => leaves_any K hW hn64 hnm (fun a ha => by have h1 := le_sum hb.pos ha; have h2 := hb.sum; unfold maxS at h2; omega))
  have hlsum := leaves_sum seed E
  have hlpos := leaves_pos hb.toBookT
  have hllen := leavesE_len seed E E.length
  have hsm := hb.sum
  generalize hls : leavesE seed E E.length = ls at *
  have hgr := fun (W : World) (g : Nat) (hL : LeavesAt W g 0 ls) => grow_any g ls.length h ls W hh (by omega) hL hlpos (by omega)
  rw [hllen] at hgr
  have HGr := hide hgr
  have HLs := hide (And.intro hlsum (And.intro hlpos hllen))
  have HB := hide hb
  have HF := hide hf
  have HRg := hide (fun (k p : Nat) => side_range ls hlpos (by omega) k p)
  clear hlsum hlpos hllen hsm hb hnm hls K h64 hgr
  go_enter Tryz.func31, Tryz.ntmps31
  go_upto_region 1 with fail
  go_cut [14] (fun s14 wx => s14 = .bool false ∧ ∃ d, wx = w.drewN d)
  case first =>
    have hf := unhide HF
    have H7 : h = 0 ∨ h = 1 ∨ h = 2 ∨ h = 3 ∨ h = 4 ∨ h = 5 ∨ h = 6 := by omega
    clear HLv HGr HLs HB HF hh
    generalize E.length = n at *
    rcases H7 with rfl | rfl | rfl | rfl | rfl | rfl | rfl
    all_goals
      simp only [Nat.reducePow] at hf
      go_quiet (fail)
      go_wp2_with fail
      go_meet
      exact ⟨by rw [decide_eq_false (by omega)], _, rfl⟩
  case rest =>
  obtain ⟨rfl, d, rfl⟩ := hcut
  have hB0 : BookT (w.drewN d) B M (h : Int) seed last (sumE E) E := (unhide HB).toBookT.heap rfl
  have hW0 : Below w.heap.size w (w.drewN d) := below_drewN (Below.refl _ _) _
  have hz0 : w.heap.size ≤ (w.drewN d).heap.size := hW0.size
  have HW0 := hide hW0
  clear hl c2 hW0
  go_upto_region 3 with fail
  generalize (w.drewN d) = W0 at *
  have hSd : W0.drew.cell? ⟨B, 0, none⟩ = some (.int .i64 (h : Int)) := block_cell hB0.blk
  have hB0' : BookT W0.drew B M (h : Int) seed last (sumE E) E := hB0.heap rfl
  clear c0
  go_cut [17] (fun _ wx => ∃ T V vc gs g, Hid (BookT wx B M (h : Int) seed (some ⟨T, 0, none⟩) (sumE E) E ∧ TreeM wx T g E.length V vc gs ls h ∧ (w.heap.size ≤ T ∧ w.heap.size ≤ g ∧ w.heap.size ≤ V ∧ ∀ j, j ≤ h → w.heap.size ≤ gs.getD j 0) ∧ Kept [B] w wx))
  case first =>
    go_region_held3 (fun w' => w'.cell? ⟨B, 0, none⟩ = some (.int .i64 (h : Int)))
      (first
        | with_reducible exact hSd
        | with_reducible exact hS4
        | with_reducible exact hS5
        | with_reducible exact hS6
        | fail)
      (first
        | (go_at_call 53; (with_reducible refine (unhide HLv W0.drew hB0').mono ?_); rintro e w4 ⟨⟨g, rfl, hg, hL4⟩, hb4⟩; have hT4 := hB0'.later hb4; have hS4 : w4.cell? ⟨B, 0, none⟩ = some (.int .i64 (h : Int)) := block_cell hT4.blk)
        | (go_at_call 52; (with_reducible refine (unhide HGr w4 g hL4).mono ?_); rintro e w5 ⟨⟨T, V, vc, gs, rfl, hlo, hTr5⟩, hb5⟩; have hT5 := hT4.later hb5; have hS5 : w5.cell? ⟨B, 0, none⟩ = some (.int .i64 (h : Int)) := block_cell hT5.blk; have u4 : w5.cell? ⟨B, 4, none⟩ = some (.pointer last) := block_cell hT5.blk; have uf : w5.frozen? ⟨B, 4, none⟩ = false := block_free hT5.blk; have hT6 := hT5.root (some ⟨T, 0, none⟩); have hS6 : (w5.setCell ⟨B, 4, none⟩ (.pointer (some ⟨T, 0, none⟩))).cell? ⟨B, 0, none⟩ = some (.int .i64 (h : Int)) := block_cell hT6.blk))
    have hz4 := hb4.size
    have hz5 := hb5.size
    have hsW : W0.drew.heap.size = W0.heap.size := rfl
    have hlo' : w.heap.size ≤ T ∧ w.heap.size ≤ g ∧ w.heap.size ≤ V ∧ ∀ j, j ≤ h → w.heap.size ≤ gs.getD j 0 := ⟨by have := hlo.1; omega, by omega, by have := hlo.2.1; omega, fun j hj => by have := hlo.2.2 j hj; omega⟩
    have hTr6 := hTr5.set (B := B) (by omega) (by omega) (by omega) (fun j hj => by have := hlo'.2.2.2 j hj; omega) 4 (.pointer (some ⟨T, 0, none⟩))
    have hK6 : Kept [B] w (w5.setCell ⟨B, 4, none⟩ (.pointer (some ⟨T, 0, none⟩))) :=
      (((Kept.of_below (unhide HW0)).trans (Kept.of_below (S := [B]) (w' := W0.drew) ((Below.refl _ _).drew))).trans ((Kept.of_below (S := [B]) hb4).trans (Kept.of_below (S := [B]) hb5))).trans (Kept.setCell (by simp) _)
    have HE := hide (And.intro hT6 (And.intro hTr6 (And.intro hlo' hK6)))
    clear hT6 hTr6 hlo' hK6 hT5 hTr5 hlo hT4 hL4 hS4 hS5 hS6 hSd hb4 hb5
    go_wp2_with fail
    go_meet
    exact ⟨T, V, vc, gs, g, HE⟩
  case rest =>
  obtain ⟨T, V, vc, gs, g, HE⟩ := hcut
  have hrt := trep_any (unhide HE).2.1 hh
  have HRt := hide hrt
  have c4 : wc.cell? ⟨B, 4, none⟩ = some (.pointer (some ⟨T, 0, none⟩)) := block_cell (unhide HE).1.blk
  have hrg := unhide HRg h 0
  have HWr := hide (fun w' => wrreport_any h (sideT ls h 0) w' hh hrg.1 (by have := hrg.2; unfold maxS at this; omega))
  have hzc := (unhide HE).2.2.2.size
  clear hrt hrg hB0 hB0' hSd HLv HGr HRg hz0 HW0
  unfold ownRepV at HRt HWr
  generalize ((sideT ls h 0).1.1.toNat : Int) = d0 at *
  generalize ((sideT ls h 0).1.2.1.toNat : Int) = d1 at *
  generalize ((sideT ls h 0).1.2.2.toNat : Int) = d2 at *
  generalize hnn : (sideT ls h 0).2 = nn at *
  have HRB : Hid (UInt8.ofNat h :: sideB (sideT ls h 0) = reportB ls h) := rfl
  generalize UInt8.ofNat h :: sideB (sideT ls h 0) = RBy at *
  clear hnn
  go_wp2_with fail
  refine (unhide HRt).mono ?_
  rintro e w7 ⟨rfl, hb7⟩
  have HW7 := hide (unhide HWr w7)
  have HB7 := hide hb7
  clear HRt HWr hb7 c4
  go_wp2_with fail
  refine (unhide HW7).mono ?_
  rintro e w8 ⟨⟨v8, rfl, hown8⟩, hb8⟩
  have hb78 := (unhide HB7).trans (hb8.mono (unhide HB7).size)
  have hown' := own_lower hown8 (b' := w.heap.size) (by have := (unhide HB7).size; omega)
  rw [unhide HRB] at hown'
  have HF8 := hide (And.intro hown' (And.intro hb78 True.intro))
  clear hown8 hb8 hb78 hown' HW7 HB7
  go_wp2
  go_ret2
  obtain ⟨e1, e2, e3, e4⟩ := unhide HE
  have hb78 := (unhide HF8).2.1
  exact ⟨⟨v8, T, g, E.length, V, vc, gs, rfl, (unhide HF8).1, ⟨e1.later hb78, (unhide HB).sum⟩, e2.later hb78, e3⟩, e4.trans (Kept.of_below hb78)⟩

end Go.Proofs.YtbjobbkgelipmaaGreat

/-
  keep, its state between the steps.
-/
namespace Go.Proofs.YtbjobbkgelipmaaGreat
open Go.RowKit

/-- Where a kept list may lie: among the old ones, in the list that is kept now, or in new memory. -/
def Origin (w0 : World) (hs0 : List HoldD) (vb0 : Value) (x : HoldD) : Prop := x ∈ hs0 ∨ x.v.ownBlock = none ∨ x.v.ownBlock = vb0.ownBlock ∨ ∃ g, x.v.ownBlock = some g ∧ w0.heap.size ≤ g

structure St (w0 wr : World) (B : Nat) (ps hv0 vb0 : Value) (hs0 : List HoldD) (m : Int) (hv vb : Value) (hs : List HoldD) (N : Nat) : Prop where
  inv : Inv wr B ps hv hs
  own : wr.ownsRow (B + 1) 5 1 vb N (markV m N)
  sep : ∀ x ∈ hs, x.v.ownBlock = none ∨ x.v.ownBlock ≠ vb.ownBlock ∨ x.n ≤ N
  frame : Frame w0 wr B vb0 hv0
  oldh : OldOr w0 hv hv0
  oldb : OldOr w0 vb vb0
  orig : ∀ x ∈ hs, Origin w0 hs0 vb0 x
  newp : ∀ x ∈ hs, x ∈ hs0 ∨ w0.heap.size ≤ x.p

theorem OldOr.is {w : World} {u u0 : Value} (h : OldOr w u u0) : ∀ g, u.ownBlock = some g → some g = u0.ownBlock ∨ w.heap.size ≤ g := by
  intro g hg
  rcases h with h | ⟨g', h, hle⟩
  · exact Or.inl (hg.symm.trans h)
  · rw [hg] at h; cases h; exact Or.inr hle

/-- A byte more at the list's end. -/
theorem St.app {w0 wr w1 : World} {B : Nat} {ps hv0 vb0 hv vb : Value} {hs0 hs : List HoldD} {m : Int} {N g cap : Nat} (h : St w0 wr B ps hv0 vb0 hs0 m hv vb hs N)
    (hown : w1.ownsRow (B + 1) 5 1 (.slice (some ⟨g, 0, none⟩) (N + 1) cap) (N + 1) (markV m N ++ [.int .u8 (signI m (N : Int))])) (hold : w1.ownsRow (B + 1) 5 1 vb N (markV m N))
    (hg : (wr.alloc (.cells #[.int .u8 (signI m (N : Int))] 5)).grownBy w1 vb.ownBlock) (hnew : vb.ownBlock = some g ∨ wr.heap.size + 1 ≤ g) :
    St w0 w1 B ps hv0 vb0 hs0 m hv (.slice (some ⟨g, 0, none⟩) (N + 1) cap) hs (N + 1) := by
  have hsz : (wr.alloc (.cells #[.int .u8 (signI m (N : Int))] 5)).heap.size = wr.heap.size + 1 := by simp
  have h1 : ∀ k, k < wr.heap.size → some k ≠ vb.ownBlock → w1.heap[k]? = wr.heap[k]? := fun k hk hne => (hg.block k (by rw [hsz]; omega) hne).trans (Below.heap_alloc _ _ _ hk)
  have tne : ∀ (gg : Nat) (t : TypeId) (cur : Array Value), t ≠ 5 → wr.heap[gg]? = some (.cells cur t (0, 0)) → some gg ≠ vb.ownBlock := fun gg t cur ht hc e => by
    obtain ⟨cur', hc'⟩ := own_type h.own e.symm
    rw [hc] at hc'; simp at hc'; exact ht hc'.2
  have hlt : ∀ {gg : Nat} {o : Obj}, wr.heap[gg]? = some o → gg < wr.heap.size := fun hc => (Array.getElem?_eq_some_iff.1 hc).1
  refine ⟨⟨?_, ?_, ?_⟩, by rw [markV_succ]; exact hown, ?_, ?_, h.oldh, ?_, h.orig, h.newp⟩
  · exact (h1 B (hlt h.inv.cell) (tne _ _ _ (by decide) h.inv.cell)).trans h.inv.cell
  · refine own_same h.inv.own (fun gg hgg => ?_)
    obtain ⟨cur, hc⟩ := own_type h.inv.own hgg
    exact h1 gg (hlt hc) (tne _ _ _ (by decide) hc)
  · intro x hx
    have hk := h.inv.ok x hx
    refine hk.kept (h1 x.p (hlt hk.cell) (tne _ _ _ (by decide) hk.cell)) ?_
    by_cases hs : x.v.ownBlock = vb.ownBlock
    · rcases h.sep x hx with h0 | h0 | h0
      · exact own_same hk.own (fun gg hgg => by rw [h0] at hgg; cases hgg)
      · exact absurd hs h0
      · exact own_sub h.own hold hk.own hs h0
    · exact own_same hk.own (fun gg hgg => h1 gg (own_lt hk.own hgg) (fun e => hs (hgg.trans e)))
  · intro x hx
    rcases h.sep x hx with h0 | h0 | h0
    · exact Or.inl h0
    · rcases hnew with hn | hn
      · right; left; intro e; exact h0 (e.trans hn.symm)
      · right; left
        intro e
        have e2 : x.v.ownBlock = some g := e
        have := own_lt (h.inv.ok x hx).own e2
        omega
    · exact Or.inr (Or.inr (by omega))
  · refine (h.frame.grown (World.grownBy_alloc wr _ none) (fun g hg => by cases hg)).grown hg (fun gg hgg => ?_)
    rcases h.oldb.is gg hgg with e | e
    · exact Or.inr (Or.inl e)
    · exact Or.inr (Or.inr (Or.inr e))
  · rcases hnew with hn | hn
    · rcases h.oldb with e | ⟨g', e, hle⟩
      · exact Or.inl (hn.symm.trans e)
      · rw [hn] at e; cases e
        exact Or.inr ⟨g, rfl, hle⟩
    · exact Or.inr ⟨g, rfl, by have := h.frame.size; omega⟩

/-- The list goes on the record. -/
theorem St.hold {w0 wr w3 : World} {B : Nat} {ps hv0 vb0 hv vb : Value} {hs0 hs : List HoldD} {m : Int} {N g cap : Nat} (h : St w0 wr B ps hv0 vb0 hs0 m hv vb hs N) (hN : N ≤ 140737488355328)
    (hown : w3.ownsRow (B + 1) 71 1 (.slice (some ⟨g, 0, none⟩) (hs.length + 1) cap) (hs.length + 1) ((hs.map fun x => ptrV x.p) ++ [ptrV wr.heap.size]))
    (hg : ((wr.alloc (.cells #[vb, .int .i64 m] 113)).alloc (.cells #[ptrV wr.heap.size] 71)).grownBy w3 hv.ownBlock)
    (hold : hv.ownBlock = some g ∨ wr.heap.size + 1 + 1 ≤ g) :
    St w0 (w3.setCell ⟨B, 1, none⟩ (.slice (some ⟨g, 0, none⟩) (hs.length + 1) cap)) B ps hv0 vb0 hs0 m (.slice (some ⟨g, 0, none⟩) (hs.length + 1) cap) vb (hs ++ [⟨wr.heap.size, vb, N, m⟩]) N := by
  obtain ⟨i1, i2, i3, i4, i5, i6, i7⟩ := hold_step h.inv h.own hN hown hg hold
  refine ⟨i1, i2, ?_, ⟨i4.trans h.frame.os, i5.trans h.frame.tape, i6.trans h.frame.output, by have := h.frame.size; omega, fun k hk hB hb hh => ?_⟩, ?_, h.oldb, ?_, ?_⟩
  · intro x hx
    rcases List.mem_append.1 hx with hx | hx
    · exact h.sep x hx
    · simp at hx; subst hx; exact Or.inr (Or.inr (Nat.le_refl _))
  · refine (i7 k (by have := h.frame.size; omega) hB (fun e => ?_)).trans (h.frame.block k hk hB hb hh)
    rcases h.oldh.is k e.symm with e' | e'
    · exact hh e'
    · omega
  · rcases hold with hn | hn
    · rcases h.oldh with e | ⟨g', e, hle⟩
      · exact Or.inl (hn.symm.trans e)
      · rw [hn] at e; cases e
        exact Or.inr ⟨g, rfl, hle⟩
    · exact Or.inr ⟨g, rfl, by have := h.frame.size; omega⟩
  · intro x hx
    rcases List.mem_append.1 hx with hx | hx
    · exact h.orig x hx
    · simp at hx; subst hx
      rcases h.oldb with e | e
      · exact Or.inr (Or.inr (Or.inl e))
      · exact Or.inr (Or.inr (Or.inr e))
  · intro x hx
    rcases List.mem_append.1 hx with hx | hx
    · exact h.newp x hx
    · simp at hx; subst hx; exact Or.inr h.frame.size

theorem St.as {w0 wr : World} {B : Nat} {ps hv0 vb0 hv vb v' : Value} {hs0 hs : List HoldD} {m : Int} {N : Nat} (h : St w0 wr B ps hv0 vb0 hs0 m hv vb hs N) (e : vb = v') : St w0 wr B ps hv0 vb0 hs0 m hv v' hs N := by
  subst e; exact h

/-- The beginning: the list has been written full. -/
theorem St.start {w0 wr : World} {B : Nat} {ps hv vb : Value} {hs : List HoldD} {m : Int} {N : Nat} {xs : List Value} (hI : Inv w0 B ps hv hs) (h0 : w0.ownsRow (B + 1) 5 1 vb N xs) (hsep : ∀ x ∈ hs, x.v.ownBlock = none ∨ x.v.ownBlock ≠ vb.ownBlock)
    (hown : wr.ownsRow (B + 1) 5 1 vb N (markV m N)) (hg : w0.grownBy wr vb.ownBlock) : St w0 wr B ps hv vb hs m hv vb hs N := by
  have tne : ∀ (gg : Nat) (t : TypeId) (cur : Array Value), t ≠ 5 → w0.heap[gg]? = some (.cells cur t (0, 0)) → some gg ≠ vb.ownBlock := fun gg t cur ht hc e => by
    obtain ⟨cur', hc'⟩ := own_type h0 e.symm
    rw [hc] at hc'; simp at hc'; exact ht hc'.2
  have hlt : ∀ {gg : Nat} {o : Obj}, w0.heap[gg]? = some o → gg < w0.heap.size := fun hc => (Array.getElem?_eq_some_iff.1 hc).1
  refine ⟨⟨(hg.block B (hlt hI.cell) (tne _ _ _ (by decide) hI.cell)).trans hI.cell, ?_, ?_⟩, hown, ?_, ?_, Or.inl rfl, Or.inl rfl, fun x hx => Or.inl hx, fun x hx => Or.inl hx⟩
  · refine own_same hI.own (fun gg hgg => ?_)
    obtain ⟨cur, hc⟩ := own_type hI.own hgg
    exact hg.block gg (hlt hc) (tne _ _ _ (by decide) hc)
  · intro x hx
    have hk := hI.ok x hx
    refine hk.kept (hg.block x.p (hlt hk.cell) (tne _ _ _ (by decide) hk.cell)) (own_same hk.own (fun gg hgg => hg.block gg (own_lt hk.own hgg) (fun e => ?_)))
    rcases hsep x hx with h1 | h1
    · rw [h1] at hgg; cases hgg
    · exact h1 (hgg.trans e)
  · intro x hx
    rcases hsep x hx with h1 | h1
    · exact Or.inl h1
    · exact Or.inr (Or.inl h1)
  · exact (Frame.refl w0 B vb hv).grown hg (fun g hgg => Or.inr (Or.inl hgg.symm))

end Go.Proofs.YtbjobbkgelipmaaGreat
