/-
  A result's room and a new block beside it, wherever it lies.
-/
import Derived.Deep.DeepCutAuto
import Derived.Test.YtbjobbkgelipmaaSbab
import Derived.Test.YtbjobbkgelipmaaSbaa
import Derived.Test.YtbjobbkgelipmaaSbah
import Derived.Test.YtbjobbkgelipmaaSbag
import Derived.Test.YtbjobbkgelipmaaSbae
namespace Go.Proofs.Ytbjobbkgelipmaa
open Go.RowKit

/-- The room of a result, at the first new block. -/
structure RB (w : World) (zs : Array Value) (t : TypeId) (w' : World) : Prop where
  res : w'.heap[w.heap.size]? = some (.cells zs t (0, 0))
  below : Below w.heap.size w w'
theorem RB.lt {w w' : World} {zs : Array Value} {t : TypeId} (h : RB w zs t w') : w.heap.size < w'.heap.size := (Array.getElem?_eq_some_iff.1 h.res).1
theorem RB.later {w W w4 : World} {zs : Array Value} {t : TypeId} (h : RB w zs t W) (hb : Below W.heap.size W w4) : RB w zs t w4 :=
  ⟨(hb.block _ h.lt).trans h.res, h.below.trans (hb.mono (Nat.le_of_lt h.lt))⟩
theorem RB.new (w : World) (zs : Array Value) (t : TypeId) : RB w zs t (w.alloc (.cells zs t)) := ⟨heap_alloc_new w _, (Below.refl _ _).alloc (Nat.le_refl _) _⟩
theorem RB.drew {w w' : World} {zs : Array Value} {t : TypeId} (h : RB w zs t w') : RB w zs t w'.drew := ⟨h.res, h.below.drew⟩
theorem RB.alloc {w w' : World} {zs : Array Value} {t : TypeId} (h : RB w zs t w') (o : Obj) : RB w zs t (w'.alloc o) := h.later ((Below.refl _ _).alloc (Nat.le_refl _) _)
theorem RB.set {w w' : World} {zs : Array Value} {t : TypeId} (h : RB w zs t w') {A : Nat} (hA : w.heap.size < A) (i : Nat) (v : Value) : RB w zs t (w'.setCell ⟨A, i, none⟩ v) :=
  ⟨(Below.heap_setCell _ _ _ _ (by show w.heap.size ≠ A; omega)).trans h.res, h.below.setCell (by show w.heap.size ≤ A; omega) _⟩

/-- Beside it a new block. -/
structure MB (w : World) (zs : Array Value) (t : TypeId) (A : Nat) (cs : Array Value) (u : TypeId) (w' : World) : Prop where
  blk : w'.heap[A]? = some (.cells cs u (0, 0))
  gt : w.heap.size < A
  rb : RB w zs t w'
theorem MB.lt {w w' : World} {zs cs : Array Value} {t u : TypeId} {A : Nat} (h : MB w zs t A cs u w') : A < w'.heap.size := (Array.getElem?_eq_some_iff.1 h.blk).1
theorem MB.new {w w' : World} {zs : Array Value} {t : TypeId} (h : RB w zs t w') (cs : Array Value) (u : TypeId) : MB w zs t w'.heap.size cs u (w'.alloc (.cells cs u)) :=
  ⟨heap_alloc_new w' _, h.lt, h.alloc _⟩
theorem MB.later {w W w4 : World} {zs cs : Array Value} {t u : TypeId} {A : Nat} (h : MB w zs t A cs u W) (hb : Below W.heap.size W w4) : MB w zs t A cs u w4 :=
  ⟨(hb.block _ h.lt).trans h.blk, h.gt, h.rb.later hb⟩
theorem MB.drew {w w' : World} {zs cs : Array Value} {t u : TypeId} {A : Nat} (h : MB w zs t A cs u w') : MB w zs t A cs u w'.drew := ⟨h.blk, h.gt, h.rb.drew⟩
theorem MB.set {w w' : World} {zs cs : Array Value} {t u : TypeId} {A : Nat} (h : MB w zs t A cs u w') (i : Nat) (v : Value) : MB w zs t A (cs.setIfInBounds i v) u (w'.setCell ⟨A, i, none⟩ v) :=
  ⟨heap_setCell_same _ A i _ _ v h.blk, h.gt, h.rb.set h.gt i v⟩
theorem MB.cell {w w' : World} {zs cs : Array Value} {t u : TypeId} {A : Nat} (h : MB w zs t A cs u w') (i : Nat) : w'.cell? ⟨A, i, none⟩ = cs[i]? := block_cell h.blk
theorem MB.free {w w' : World} {zs cs : Array Value} {t u : TypeId} {A : Nat} (h : MB w zs t A cs u w') (i : Nat) : w'.frozen? ⟨A, i, none⟩ = false := block_free h.blk
theorem RB.cell {w w' : World} {zs : Array Value} {t : TypeId} (h : RB w zs t w') (i : Nat) : w'.cell? ⟨w.heap.size, i, none⟩ = zs[i]? := block_cell h.res
theorem RB.free {w w' : World} {zs : Array Value} {t : TypeId} (h : RB w zs t w') (i : Nat) : w'.frozen? ⟨w.heap.size, i, none⟩ = false := block_free h.res
theorem MB.setR {w w' : World} {zs cs : Array Value} {t u : TypeId} {A : Nat} (h : MB w zs t A cs u w') (i : Nat) (v : Value) : MB w (zs.setIfInBounds i v) t A cs u (w'.setCell ⟨w.heap.size, i, none⟩ v) :=
  ⟨(Below.heap_setCell _ _ _ _ (by have := h.gt; show A ≠ w.heap.size; omega)).trans h.blk, h.gt, ⟨heap_setCell_same _ _ i _ _ v h.rb.res, h.rb.below.setCell (by show w.heap.size ≤ w.heap.size; omega) _⟩⟩
theorem RB.setR {w w' : World} {zs : Array Value} {t : TypeId} (h : RB w zs t w') (i : Nat) (v : Value) : RB w (zs.setIfInBounds i v) t (w'.setCell ⟨w.heap.size, i, none⟩ v) :=
  ⟨heap_setCell_same _ _ i _ _ v h.res, h.below.setCell (by show w.heap.size ≤ w.heap.size; omega) _⟩

end Go.Proofs.Ytbjobbkgelipmaa

/-
  titheref's Tree.Side whole, and the walk of Tree.Report.
-/
namespace Go.Proofs.Ytbjobbkgelipmaa
open Go.RowKit

theorem sideT_range (ls : List LeafD) (hok : ∀ x ∈ ls, x.ok) : ∀ lv p, 0 ≤ (sideT ls lv p).2 ∧ (sideT ls lv p).2 < 18446744073709551616
  | 0, p => by
    unfold sideT
    cases h : ls[p]? with
    | none => simp
    | some x =>
      have hx := hok x (List.mem_of_getElem? h)
      exact ⟨hx.2.1, hx.2.2.1⟩
  | lv + 1, p => by
    unfold sideT
    constructor
    · exact Int.emod_nonneg _ (by decide)
    · exact Int.emod_lt_of_pos _ (by decide)

/-- Leaves behind a slice, or none. -/
def LeavesOf (w : World) (la : Option Addr) (ls : List LeafD) : Prop := ls = [] ∨ ∃ b off, la = some ⟨b, off, none⟩ ∧ LeavesAt w b off ls

theorem LeavesOf.below {w w' : World} {la : Option Addr} {ls : List LeafD} (h : LeavesOf w la ls) (hb : Below w.heap.size w w') : LeavesOf w' la ls := by
  rcases h with h | ⟨b, off, h, hl⟩
  · exact Or.inl h
  · exact Or.inr ⟨b, off, h, hl.below hb hl.lt⟩
theorem LeavesOf.ok {w : World} {la : Option Addr} {ls : List LeafD} (h : LeavesOf w la ls) : ∀ x ∈ ls, x.ok := by
  rcases h with rfl | ⟨b, off, h, hl⟩
  · intro x hx; cases hx
  · exact hl.ok

/-- A report's bytes. -/
def reportB (ls : List LeafD) (h : Nat) : List UInt8 := UInt8.ofNat h :: sideB (sideT ls h 0)

abbrev RepS (w : World) (A B : Nat) (h : Int) (v : Value) (a0 a1 a2 a3 : Int) (w' : World) : Prop :=
  w'.cell? ⟨A, 0, none⟩ = some (.int .i64 h) ∧ w'.cell? ⟨A, 1, none⟩ = some v ∧ w'.cell? ⟨B, 0, none⟩ = some (.int .u8 a0) ∧ w'.cell? ⟨B, 1, none⟩ = some (.int .u8 a1) ∧ w'.cell? ⟨B, 2, none⟩ = some (.int .u8 a2) ∧ w'.cell? ⟨B, 3, none⟩ = some (.int .u64 a3) ∧
    (A < w'.heap.size ∧ B < w'.heap.size) ∧ Below w.heap.size w w'
theorem RepS.keep {w W w4 : World} {A B : Nat} {h : Int} {v : Value} {a0 a1 a2 a3 : Int} (hS : RepS w A B h v a0 a1 a2 a3 W) (hw : w.heap.size ≤ B) (hb : Below W.heap.size W w4) : RepS w A B h v a0 a1 a2 a3 w4 := by
  obtain ⟨h0, h0', h1, h2, h3, g0, ⟨z0, z1⟩, h6⟩ := hS
  have := hb.size
  exact ⟨keepB hb z0 h0, keepB hb z0 h0', keepB hb z1 h1, keepB hb z1 h2, keepB hb z1 h3, keepB hb z1 g0, ⟨by omega, by omega⟩, h6.trans (hb.mono (by omega))⟩

theorem bytes_ext {a : ByteArray} {l : List UInt8} (h : a.data.toList = l) : a = ⟨l.toArray⟩ := by
  apply ByteArray.ext
  rw [← h]

end Go.Proofs.Ytbjobbkgelipmaa

/-
  The walk of titheref's Tree.Proof.
-/
namespace Go.Proofs.Ytbjobbkgelipmaa
open Go.RowKit

/-- The place beside. -/
def sib (p : Nat) : Nat := if p % 2 = 1 then p - 1 else p + 1
/-- A proof's bytes, up to the k-th level. -/
def proofTo (ls : List LeafD) (h p : Nat) (x : LeafD) : Nat → List UInt8
  | 0 => [UInt8.ofNat h, UInt8.ofNat p] ++ leafB x.nm.data.toList x.bal x.salt
  | k + 1 => proofTo ls h p x k ++ sideB (sideT ls k (sib (p / 2 ^ k)))
theorem sideB_length (x : Dg × Int) : (sideB x).length = 11 := by simp [sideB, dgB, longB_length]
theorem proofTo_length (ls : List LeafD) (h p : Nat) (x : LeafD) : ∀ k, (proofTo ls h p x k).length = x.nm.size + 19 + 11 * k
  | 0 => by simp only [proofTo, List.length_append, leafB_length, List.length_cons, List.length_nil]; simp; omega
  | k + 1 => by rw [proofTo, List.length_append, sideB_length, proofTo_length ls h p x k]; omega

abbrev PrS (w : World) (b o A : Nat) (h : Int) (v : Value) (nm : ByteArray) (bal salt : Int) (w' : World) : Prop :=
  w'.cell? ⟨A, 0, none⟩ = some (.int .i64 h) ∧ w'.cell? ⟨A, 1, none⟩ = some v ∧ w'.cell? ⟨b, o, none⟩ = some (.string nm) ∧ w'.cell? ⟨b, o + 1, none⟩ = some (.int .u64 bal) ∧ w'.cell? ⟨b, o + 2, none⟩ = some (.int .u64 salt) ∧
    (A < w'.heap.size ∧ b < w'.heap.size) ∧ Below w.heap.size w w'
theorem PrS.keep {w W w4 : World} {b o A : Nat} {h : Int} {v : Value} {nm : ByteArray} {bal salt : Int} (hS : PrS w b o A h v nm bal salt W) (hw : w.heap.size ≤ A) (hb : Below W.heap.size W w4) : PrS w b o A h v nm bal salt w4 := by
  obtain ⟨h0, h0', h1, h2, h3, ⟨z0, z1⟩, h6⟩ := hS
  have := hb.size
  exact ⟨keepB hb z0 h0, keepB hb z0 h0', keepB hb z1 h1, keepB hb z1 h2, keepB hb z1 h3, ⟨by omega, by omega⟩, h6.trans (hb.mono (by omega))⟩

end Go.Proofs.Ytbjobbkgelipmaa

/-
  The walks of tithe's tree.report and tree.beside.
-/
namespace Go.Proofs.Ytbjobbkgelipmaa
open Go.RowKit

set_option maxHeartbeats 400000 in
set_option maxRecDepth 100000 in
theorem trep_any {w : World} {T b cap V vc h : Nat} {gs : List Nat} {ls : List LeafD} (t : TreeM w T b cap V vc gs ls h) (hh : h ≤ 6) :
    Calls Try.prog 33 #[.pointer (some ⟨T, 0, none⟩)] w fun e w' => e = .returned (ownRepV (h : Int) ((sideT ls h 0).1.1.toNat : Int) ((sideT ls h 0).1.2.1.toNat : Int) ((sideT ls h 0).1.2.2.toNat : Int) (sideT ls h 0).2) ∧ Below w.heap.size w w' := by
  have c1 : w.cell? ⟨T, 1, none⟩ = some (.slice (some ⟨V, 0, none⟩) (h + 1) vc) := block_cell t.blk
  have hT := (Array.getElem?_eq_some_iff.1 t.blk).1
  have cv := t.rows h (Nat.le_refl _)
  obtain ⟨sd, hG⟩ := t.sides h (Nat.le_refl _)
  have hV := t.vlt
  rw [Nat.sub_self, Nat.pow_zero] at cv sd
  obtain ⟨s0, s1, s2, s3⟩ := sd 0 (by rw [levelT_len]; omega)
  rw [levelT_get] at s0 s1 s2 s3
  rw [Nat.zero_mul] at s0 s1 s2 s3
  rw [Nat.zero_add] at s1 s2 s3
  unfold ownRepV
  generalize ((sideT ls h 0).1.1.toNat : Int) = d0 at *
  generalize ((sideT ls h 0).1.2.1.toNat : Int) = d1 at *
  generalize ((sideT ls h 0).1.2.2.toNat : Int) = d2 at *
  generalize (sideT ls h 0).2 = n at *
  generalize gs.getD h 0 = G at *
  have i1 : h < h + 1 := by omega
  have hA : Below w.heap.size w (w.alloc (Obj.cells #[Value.int IntKind.i64 0, Value.int IntKind.u8 0, Value.int IntKind.u8 0, Value.int IntKind.u8 0, Value.int IntKind.u64 0] 90)) := (Below.refl _ _).alloc (Nat.le_refl _) _
  have k1 := keepB hA hT c1
  have k2 := keepB hA hV cv
  have k3 := keepB hA hG s0
  have k4 := keepB hA hG s1
  have k5 := keepB hA hG s2
  have k6 := keepB hA hG s3
  have hR := RB.new w #[Value.int IntKind.i64 0, Value.int IntKind.u8 0, Value.int IntKind.u8 0, Value.int IntKind.u8 0, Value.int IntKind.u64 0] 90
  clear t sd c1 cv s0 s1 s2 s3
  go_enter Try.func33, Try.ntmps33
  go_upto_region 1 with fail
  generalize (w.alloc (Obj.cells #[Value.int IntKind.i64 0, Value.int IntKind.u8 0, Value.int IntKind.u8 0, Value.int IntKind.u8 0, Value.int IntKind.u64 0] 90)) = W at *
  have r0 : W.cell? ⟨w.heap.size, 0, none⟩ = some (.int .i64 0) := hR.cell 0
  have r1 : W.cell? ⟨w.heap.size, 1, none⟩ = some (.int .u8 0) := hR.cell 1
  have r2 : W.cell? ⟨w.heap.size, 2, none⟩ = some (.int .u8 0) := hR.cell 2
  have r3 : W.cell? ⟨w.heap.size, 3, none⟩ = some (.int .u8 0) := hR.cell 3
  have r4 : W.cell? ⟨w.heap.size, 4, none⟩ = some (.int .u64 0) := hR.cell 4
  have rf : ∀ i, W.frozen? ⟨w.heap.size, i, none⟩ = false := hR.free
  have HRB := hide hR
  clear hR hA
  go_wp2
  refine bodyPost_ret (v := .agg #[.int .i64 (h : Int), .int .u8 d0, .int .u8 d1, .int .u8 d2, .int .u64 n]) ?_ rfl ⟨rfl, ?_⟩
  · simp [results, Try.results33, go_sem, r0, r1, r2, r3, r4]
  · exact ((((((unhide HRB).setR 0 _).setR 1 _).setR 2 _).setR 3 _).setR 4 _).below

theorem xor_sib (q : Nat) (h : q < 64) : bits .xor .i64 (q : Int) 1 = (sib q : Int) := by
  have : ∀ q : Fin 64, bits .xor .i64 (q.val : Int) 1 = (sib q.val : Int) := by decide +kernel
  exact this ⟨q, h⟩
theorem sib_lt {q n : Nat} (h : q < 2 ^ (n + 1)) : sib q < 2 ^ (n + 1) := by
  rw [Nat.pow_succ] at *
  unfold sib
  split <;> omega
/-- What stands beside the way up. -/
def besideT (ls : List LeafD) (p n : Nat) : List (Dg × Int) := (List.range n).map fun k => sideT ls k (sib (p / 2 ^ k))
theorem besideT_len (ls : List LeafD) (p n : Nat) : (besideT ls p n).length = n := by simp [besideT]
theorem besideT_snoc (ls : List LeafD) (p n : Nat) : besideT ls p (n + 1) = besideT ls p n ++ [sideT ls n (sib (p / 2 ^ n))] := by simp [besideT, List.range_succ]

set_option maxHeartbeats 1000000 in
set_option maxRecDepth 100000 in
theorem tbeside_any {w : World} {T b cap V vc h : Nat} {gs : List Nat} {ls : List LeafD} (t : TreeM w T b cap V vc gs ls h) (p : Nat) (hh : h ≤ 6) (hp : p < 2 ^ h) :
    Calls Try.prog 40 #[.pointer (some ⟨T, 0, none⟩), .int .i64 (p : Int)] w fun e w' => e = .returned (.slice (some ⟨w.heap.size, 0, none⟩) h h) ∧ w.heap.size < w'.heap.size ∧ SidesAt w' w.heap.size (besideT ls p h) ∧ Below w.heap.size w w' := by
  obtain ⟨i0, hi, hz0, hz1, hz2⟩ := info_parts Try.infoSide
  have c1 : w.cell? ⟨T, 1, none⟩ = some (.slice (some ⟨V, 0, none⟩) (h + 1) vc) := block_cell t.blk
  have hT := (Array.getElem?_eq_some_iff.1 t.blk).1
  have HTr := hide t
  have HP := hide hp
  clear t hp
  go_enter Try.func40, Try.ntmps40
  go_wp2_with (at_make; refine wpList_make_full _ rfl _ _ 77 rfl w.heap.size 88 i0 _ 4 Try.underlying77 hi hz0 hz1 _ _ _ _ h rfl rfl (by omega) (by omega) (by rw [hz2]; omega) (by unfold maxLen; omega) (Nat.le_refl _) ?_)
  intro w1 hown1 hgrow1
  have hB1 : Below w.heap.size w w1 := (Below.refl _ _).grown hgrow1 (Nat.le_refl _) (fun b hb => by cases hb)
  have hR1 := room_new hown1
  have hz1' : w.heap.size < w1.heap.size := (hown1.lt w.heap.size rfl).2
  have HSS := hide (And.intro hB1 hR1)
  clear hB1 hR1 hown1 hgrow1 c1
  go_wp2_with fail
  go_loopw [1, 18, 7] (fun pv i _ wr => ∃ k : Nat, k ≤ h ∧ i = .int .i64 k ∧ pv = .int .i64 ((p / 2 ^ k : Nat) : Int) ∧ Room wr w.heap.size h (besideT ls p k) ∧ w.heap.size < wr.heap.size ∧ Below w.heap.size w wr) (fun _ i _ _ => h - (intOf i).toNat)
  case atStart => exact ⟨0, Nat.zero_le _, rfl, by simp, (unhide HSS).2, hz1', (unhide HSS).1⟩
  case round =>
    obtain ⟨k, hk, rfl, rfl, hR, hz, hbel⟩ := hrel
    have HR := hide (And.intro hR hbel)
    clear hR hbel HSS
    by_cases hk' : k < h
    · obtain ⟨q, hq⟩ : ∃ q, p / 2 ^ k = q := ⟨_, rfl⟩
      have hq2 : q / 2 = p / 2 ^ (k + 1) := by rw [← hq, Nat.div_div_eq_div_mul, Nat.pow_succ]
      have hql : q < 2 ^ (h - k) := by
        rw [← hq, Nat.div_lt_iff_lt_mul (Nat.two_pow_pos _), ← Nat.pow_add, show h - k + k = h by omega]
        exact unhide HP
      have hsl : sib q < 2 ^ (h - k) := by
        rw [show h - k = (h - k - 1) + 1 by omega] at hql ⊢
        exact sib_lt hql
      have h64 : 2 ^ (h - k) ≤ 2 ^ 6 := Nat.pow_le_pow_right (by omega) (by omega)
      have hx := xor_sib q (by omega)
      have hsn := besideT_snoc ls p k
      rw [hq] at hsn
      rw [hq]
      have cT : wr.cell? ⟨T, 1, none⟩ = some (.slice (some ⟨V, 0, none⟩) (h + 1) vc) := ((unhide HR).2.cell (p := ⟨T, 1, none⟩) hT).trans (block_cell (unhide HTr).blk)
      have cV := ((unhide HR).2.cell (p := ⟨V, k, none⟩) (unhide HTr).vlt).trans ((unhide HTr).rows k hk)
      obtain ⟨sd, hG⟩ := (unhide HTr).sides k hk
      obtain ⟨y0, y1, y2, y3⟩ := (sd.below (unhide HR).2 hG) (sib q) (by rw [levelT_len]; exact hsl)
      rw [levelT_get] at y0 y1 y2 y3
      obtain ⟨⟨⟨s0, s1, s2⟩, x⟩, hy⟩ : ∃ y, sideT ls k (sib q) = y := ⟨_, rfl⟩
      rw [hy] at y0 y1 y2 y3 hsn
      have HX := hide hsn
      have HQ2 := hide hq2
      obtain ⟨sq, hsq⟩ : ∃ sq, sib q = sq := ⟨_, rfl⟩
      rw [hsq] at hx y0 y1 y2 y3 hsl
      have hR2 := (unhide HR).1
      have HR3 := hide (And.intro (hR2.set (besideT_len ls p k) hk' s0 s1 s2 x) (unhide HR).2)
      obtain ⟨r0, g0⟩ := Option.isSome_iff_exists.1 (hR2.1 (k * 4) (by omega)).1
      obtain ⟨r1, g1⟩ := Option.isSome_iff_exists.1 (hR2.1 (k * 4 + 1) (by omega)).1
      obtain ⟨r2, g2⟩ := Option.isSome_iff_exists.1 (hR2.1 (k * 4 + 2) (by omega)).1
      obtain ⟨r3, g3⟩ := Option.isSome_iff_exists.1 (hR2.1 (k * 4 + 3) (by omega)).1
      have f0 := (hR2.1 (k * 4) (by omega)).2
      have f1 := (hR2.1 (k * 4 + 1) (by omega)).2
      have f2 := (hR2.1 (k * 4 + 2) (by omega)).2
      have f3 := (hR2.1 (k * 4 + 3) (by omega)).2
      simp only at y0 y1 y2 y3
      generalize (s0.toNat : Int) = t0 at *
      generalize (s1.toNat : Int) = t1 at *
      generalize (s2.toNat : Int) = t2 at *
      generalize gs.getD k 0 = G at *
      generalize 2 ^ (h - k) = N at *
      have j1 : (sq : Int) < (N : Int) := by omega
      have j2 : k < h + 1 := by omega
      have hqb : q ≤ 64 := by omega
      clear hq hq2 hql h64 hsn hy sd hG hsq hR2 HR
      go_wp2
      refine ⟨⟨k + 1, by omega, by go_num, ?_, ?_, by simpa using hz, ((((unhide HR3).2.setCell (by simp) _).setCell (by simp) _).setCell (by simp) _).setCell (by simp) _⟩, by simp [intOf]; omega⟩
      · rw [← unhide HQ2]; go_num
      · rw [unhide HX]
        exact (unhide HR3).1
    · have hkk : k = h := by omega
      subst hkk
      go_wp2
      go_ret
      exact ⟨rfl, hz, (unhide HR).1.2, (unhide HR).2⟩

end Go.Proofs.Ytbjobbkgelipmaa

/-
  The walk of tithe's writeProof.
-/
namespace Go.Proofs.Ytbjobbkgelipmaa
open Go.RowKit

def sidesB (ys : List (Dg × Int)) : List UInt8 := (ys.map sideB).flatten
theorem sidesB_snoc (ys : List (Dg × Int)) (y : Dg × Int) : sidesB (ys ++ [y]) = sidesB ys ++ sideB y := by simp [sidesB]
theorem sidesB_len (ys : List (Dg × Int)) : (sidesB ys).length = 11 * ys.length := by
  induction ys with
  | nil => rfl
  | cons y ys ih =>
    unfold sidesB at *
    rw [List.map_cons, List.flatten_cons, List.length_append, ih, sideB_len, List.length_cons]
    omega

set_option maxRecDepth 100000 in
set_option maxHeartbeats 1000000 in
theorem wrproof_any (pl : Nat) (nm : ByteArray) (bal salt : Int) (sb cap : Nat) (ys : List (Dg × Int)) (w : World) (hp : pl < 256) (hnm : nm.size ≤ 8) (h0 : 0 ≤ bal) (h1 : bal < 18446744073709551616) (h0' : 0 ≤ salt) (h1' : salt < 18446744073709551616)
    (hm : ys.length ≤ 6) (hlt : sb < w.heap.size) (hS : SidesAt w sb ys) (hys : ∀ y ∈ ys, 0 ≤ y.2 ∧ y.2 < 18446744073709551616) :
    Calls Try.prog 29 #[proofV (pl : Int) nm bal salt (some ⟨sb, 0, none⟩) ys.length cap] w fun e w' => (∃ v', e = .returned v' ∧ w'.ownsRow w.heap.size 5 1 v' (nm.size + 19 + 11 * ys.length) (byteVals ([UInt8.ofNat ys.length, UInt8.ofNat pl] ++ leafB nm.data.toList bal salt ++ sidesB ys))) ∧ Below w.heap.size w w' := by
  obtain ⟨i0, hi, hz0, hz1, hz2⟩ := info_parts Try.infoByte
  obtain ⟨n, hn⟩ : ∃ n, ys.length = n := ⟨_, rfl⟩
  have HLS := fun w => hide (leafsize_any nm bal salt w hnm)
  have HC1 := fun (v : Value) (ys : List Value) (w' : World) (ho : w'.ownsRow w.heap.size 5 1 v 2 ys) (hb : w.heap.size ≤ w'.heap.size) => hide (appleaf_any w.heap.size 2 v ys nm bal salt w' hnm h0 h1 h0' h1' ho hb (by omega))
  have hw1 : IntKind.u8.wrap (n : Int) = (n : Int) := by rw [IntKind.wrap_u8]; omega
  have hw2 : IntKind.u8.wrap (pl : Int) = (pl : Int) := by rw [IntKind.wrap_u8]; omega
  have HS := hide hS
  have HY := hide hys
  have HN := hide hn
  rw [hn]
  have hm' : n ≤ 6 := by omega
  clear hS hys h0 h1 h0' h1' hm hn
  unfold proofV leafV at *
  go_enter Try.func29, Try.ntmps29
  go_wp2_with fail
  refine (unhide (HLS _)).mono ?_
  rintro e w1 ⟨rfl, hb1⟩
  have k0 := heap_alloc_new w (Obj.cells #[Value.int IntKind.i64 (pl : Int), Value.string nm, Value.int IntKind.u64 bal, Value.int IntKind.u64 salt, Value.slice (some ⟨sb, 0, none⟩) n cap] 79)
  have m1 := (hb1.block w.heap.size (by simp)).trans k0
  have hB1 : Below w.heap.size w w1 := ((Below.refl _ w).alloc (Nat.le_refl _) _).trans (hb1.mono (by simp))
  have hz1' := hB1.size
  have HB := hide (And.intro hB1 m1)
  clear hb1 k0 hB1 m1 HLS
  go_wp2_with (at_make; refine wpList_make_own _ rfl _ _ 43 rfl w.heap.size 5 i0 (.int .u8 0) 1 Try.underlying43 hi hz0 hz1 _ _ _ (2 + (1 + nm.size + 16) + n * 11) rfl rfl (by omega) (by rw [hz2]; omega) (by unfold maxLen; omega) hz1' ?_)
  intro w2 hown2 hgrow2
  have hB2 : Below w.heap.size w w2 := (unhide HB).1.grown hgrow2 hz1' (fun b hb => by cases hb)
  have m2 := (hgrow2.block w.heap.size (Array.getElem?_eq_some_iff.1 (unhide HB).2).1 (fun e => by cases e)).trans (unhide HB).2
  have hz2' := hB2.size
  have HB2 := hide (And.intro hB2 m2)
  have HO := hide hown2
  have c0 : w2.cell? ⟨w.heap.size, 0, none⟩ = some (.int .i64 (pl : Int)) := block_cell m2
  clear hgrow2 hown2 hB2 HB m2
  go_wp2_with (at_builtin; refine wpList_append_own _ rfl (.tmp 18) (.tmp 24) 43 rfl w.heap.size 5 i0 (.int .u8 0) 1 1 Try.underlying43 hi hz0 hz1 hz2 rfl (by decide) _ _ _ rfl ((unhide HO).alloc _) ⟨w2.heap.size, 0, none⟩ 2 2 [.int .u8 (n : Int), .int .u8 (pl : Int)] rfl rfl ?c1 ?c2 ?c3 ?c4 ?c5 ?_)
  case c1 =>
    intro j u hu
    match j, hu with
    | 0, hu => simp at hu; subst hu; simp [addr_add]
    | 1, hu => simp at hu; subst hu; simp [addr_add]
  case c2 => intro u hu; simp at hu; rcases hu with rfl | rfl <;> rfl
  case c3 => unfold maxLen; omega
  case c4 => omega
  case c5 => simp; omega
  intro v3 w3 hown3 hgrow3 _
  have hk3 : KeepT w2 w3 := ((KeepT.refl _).alloc _).grown ((unhide HO).alloc _) hgrow3
  have m3 := hk3 _ _ _ _ (unhide HB2).2 (by decide)
  have hB3 : Below w.heap.size w w3 := ((unhide HB2).1.alloc hz2' _).grown hgrow3 (by simp; omega) (fun b hb => ((unhide HO).lt b hb).1)
  have HR := hide (HC1 v3 _ w3 (by simpa using hown3) hB3.size)
  have HB3 := hide (And.intro hB3 m3)
  have c1 : w3.cell? ⟨w.heap.size, 1, none⟩ = some (.string nm) := block_cell m3
  have c2 : w3.cell? ⟨w.heap.size, 2, none⟩ = some (.int .u64 bal) := block_cell m3
  have c3 : w3.cell? ⟨w.heap.size, 3, none⟩ = some (.int .u64 salt) := block_cell m3
  clear hown3 hgrow3 hk3 hB3 m3 HB2 HO HC1 c0
  go_wp2_with fail
  refine (unhide (unhide HR)).mono ?_
  rintro e w5 ⟨⟨v5, rfl, hown5⟩, hb5, hk5⟩
  have m5 := hk5 _ _ _ _ (unhide HB3).2 (by decide)
  have hB5 := (unhide HB3).1.trans hb5
  have HF := hide (And.intro hown5 (And.intro hB5 m5))
  have c4 : w5.cell? ⟨w.heap.size, 4, none⟩ = some (.slice (some ⟨sb, 0, none⟩) n cap) := block_cell m5
  clear hown5 hb5 hk5 m5 hB5 HR HB3 c1 c2 c3
  go_wp2
  obtain ⟨X0, hX0⟩ : ∃ X0, ([Value.int .u8 (n : Int), Value.int .u8 (pl : Int)] ++ [Value.int .u8 (nm.size : Int)] ++ Lib.strCells nm ++ byteVals (longB bal) ++ byteVals (longB salt)) = X0 := ⟨_, rfl⟩
  have HX := hide hX0
  obtain ⟨N0, hN0⟩ : ∃ N0, nm.size + 19 = N0 := ⟨_, rfl⟩
  have HO5 : Hid (w5.ownsRow w.heap.size 5 1 v5 N0 X0) := by
    have := (unhide HF).1
    rw [← hX0, ← hN0, show nm.size + 19 = 2 + 1 + nm.size + 8 + 8 by omega]
    refine hide ?_
    simpa using this
  have HNN := hide hN0
  have hN1 : N0 ≤ 27 := by omega
  clear hX0 hN0
  go_loopw [4, 33] (fun v i wr => ∃ k : Nat, k ≤ n ∧ i = .int .i64 k ∧ wr.ownsRow w.heap.size 5 1 v (N0 + 11 * k) (X0 ++ byteVals (sidesB (ys.take k))) ∧ Below w.heap.size w wr) (fun _ i _ => n - (intOf i).toNat)
  case atStart => exact ⟨0, Nat.zero_le _, rfl, by simpa [sidesB, byteVals] using unhide HO5, (unhide HF).2.1⟩
  case round =>
    obtain ⟨k, hk, rfl, hown, hbel⟩ := hrel
    have HW := hide (And.intro hown hbel)
    have hsz := hbel.size
    clear hown hbel HF HO5 c4
    by_cases hk' : k < n
    · have hky : k < ys.length := by rw [unhide HN]; exact hk'
      obtain ⟨c0, c1, c2, c3⟩ := ((unhide HS).below (unhide HW).2 hlt) k hky
      have hy := unhide HY _ (List.getElem_mem hky)
      have Hsn : Hid (sidesB (ys.take (k + 1)) = sidesB (ys.take k) ++ sideB ys[k]) := by
        rw [List.take_succ_eq_append_getElem hky]; exact sidesB_snoc _ _
      generalize ys[k] = y at *
      have HC := fun (w' : World) (ho : w'.ownsRow w.heap.size 5 1 u4 (N0 + 11 * k) (X0 ++ byteVals (sidesB (ys.take k)))) (hb : w.heap.size ≤ w'.heap.size) => hide (appside_any w.heap.size (N0 + 11 * k) u4 _ y.1 y.2 w' hy.1 hy.2 ho hb (by omega))
      unfold sideV at HC
      generalize (y.1.1.toNat : Int) = e0 at *
      generalize (y.1.2.1.toNat : Int) = e1 at *
      generalize (y.1.2.2.toNat : Int) = e2 at *
      generalize hyx : y.2 = yx at *
      have HA := hide (HC (wr.alloc (Obj.cells #[Value.int IntKind.u8 e0, Value.int IntKind.u8 e1, Value.int IntKind.u8 e2, Value.int IntKind.u64 yx] 88)) ((unhide HW).1.alloc _) (by simp; omega))
      have HYX := hide hyx
      clear HC hy hyx
      go_upto_region 8 with fail
      have m1 := heap_alloc_new wr (Obj.cells #[Value.int IntKind.u8 e0, Value.int IntKind.u8 e1, Value.int IntKind.u8 e2, Value.int IntKind.u64 yx] 88)
      have HB1 := hide ((unhide HW).2.alloc (unhide HW).2.size (Obj.cells #[Value.int IntKind.u8 e0, Value.int IntKind.u8 e1, Value.int IntKind.u8 e2, Value.int IntKind.u64 yx] 88))
      generalize (wr.alloc (Obj.cells #[Value.int IntKind.u8 e0, Value.int IntKind.u8 e1, Value.int IntKind.u8 e2, Value.int IntKind.u64 yx] 88)) = W3 at *
      generalize wr.heap.size = X at *
      have z0 : W3.cell? ⟨X, 0, none⟩ = some (.int .u8 e0) := block_cell m1
      have z1 : W3.cell? ⟨X, 1, none⟩ = some (.int .u8 e1) := block_cell m1
      have z2 : W3.cell? ⟨X, 2, none⟩ = some (.int .u8 e2) := block_cell m1
      have z3 : W3.cell? ⟨X, 3, none⟩ = some (.int .u64 yx) := block_cell m1
      clear m1 c0 c1 c2 c3 HW
      go_wp2_with fail
      refine (unhide (unhide HA)).mono ?_
      rintro e w4 ⟨⟨v4, rfl, hown4⟩, hb4, _⟩
      have HE := hide (And.intro hown4 ((unhide HB1).trans hb4))
      clear hown4 hb4 HA HB1 z0 z1 z2 z3
      go_wp2
      go_roundw
      case rel =>
        refine ⟨k + 1, by omega, by go_num, ?_, (unhide HE).2⟩
        have := (unhide HE).1
        rw [unhide Hsn, show N0 + 11 * (k + 1) = N0 + 11 * k + 11 by omega]
        rw [← unhide HYX] at this
        simpa [byteVals] using this
      case measure => simp [intOf]; omega
    · have hkk : k = n := by omega
      subst hkk
      go_wp2
      go_ret
      refine ⟨⟨_, rfl, ?_⟩, (unhide HW).2⟩
      have ho := (unhide HW).1
      rw [← unhide HN, List.take_length, unhide HN] at ho
      rw [unhide HNN]
      have e : byteVals (UInt8.ofNat k :: UInt8.ofNat pl :: (leafB nm.data.toList bal salt ++ sidesB ys)) = X0 ++ byteVals (sidesB ys) := by
        rw [← unhide HX]
        have hs : nm.data.toList.length = nm.size := by simp
        simp [byteVals, Lib.strCells, leafB, hs]
        omega
      rw [e]
      exact ho

end Go.Proofs.Ytbjobbkgelipmaa
