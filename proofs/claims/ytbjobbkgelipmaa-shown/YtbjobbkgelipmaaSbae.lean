/-
  A book's names, sorted: plain lists.
-/
import Derived.Sort.KeysCollected
import Derived.Laws.BitsAllLaws
import Derived.Lib.MinMax
import Derived.OwnWalk
import Derived.Test.YtbjobbkgelipmaaSbaa
namespace Go.Proofs.Ytbjobbkgelipmaa
open Go.RowKit Go.Maps Go.Sort

theorem before_lt : ∀ (a b : List UInt8), bytesBefore a b = true → a < b
  | [], [], h => by cases h
  | [], b :: s, _ => List.nil_lt_cons _ _
  | a :: r, [], h => by cases h
  | a :: r, b :: s, h => by
    rw [List.cons_lt_cons_iff]
    simp only [bytesBefore, Bool.or_eq_true, Bool.and_eq_true, decide_eq_true_eq, beq_iff_eq] at h
    rcases h with h | ⟨h1, h2⟩
    · exact .inl h
    · exact .inr ⟨h1, before_lt r s h2⟩
theorem strKeys_datE (E : List Acct) : strKeys (datE E) = E.map Acct.name := by
  unfold datE strKeys
  simp only
  rw [List.map_map]
  rfl
theorem names_rise {w : World} {B M : Nat} {h seed tot : Int} {last : Option Addr} {E : List Acct} (hb : BookT w B M h seed last tot E) : (E.map Acct.name).Pairwise (fun a b => bytesBefore a b = true) := by
  obtain ⟨es, e, hs, _⟩ := hb.own.canon Try.lawS
  unfold datE at e
  cases e
  rw [List.pairwise_map] at hs ⊢
  exact hs.imp fun {a b} hab => hab
theorem sorted_names {w : World} {B M : Nat} {h seed tot : Int} {last : Option Addr} {E : List Acct} (hb : BookT w B M h seed last tot E) {ss : List (List UInt8)} (hp : ss.Perm (strKeys (datE E))) : ss.mergeSort (fun x y => decide (x ≤ y)) = E.map Acct.name := by
  have hle : ∀ a b : List UInt8, bytesBefore a b = true → a ≤ b := fun a b hab => List.le_of_lt (before_lt a b hab)
  refine List.Perm.eq_of_pairwise (le := fun a b => a ≤ b) (fun a b _ _ h1 h2 => List.le_antisymm h1 h2) ?_ ((names_rise hb).imp fun {a b} hab => hle a b hab) ?_
  · have := List.pairwise_mergeSort (le := fun x y : List UInt8 => decide (x ≤ y)) (fun a b c h1 h2 => by
      simp only [decide_eq_true_eq] at *
      exact List.le_trans h1 h2) (fun a b => by
      simp only [Bool.or_eq_true, decide_eq_true_eq]
      exact List.le_total a b) ss
    exact this.imp fun {a b} hab => by simpa using hab
  · rw [← strKeys_datE]
    exact (List.mergeSort_perm _ _).trans hp

end Go.Proofs.Ytbjobbkgelipmaa

/-
  The walk of tithe's saltOf.
-/
namespace Go.Proofs.Ytbjobbkgelipmaa
open Go.RowKit

def mixI (x d m : Int) : Int := IntKind.u64.wrap (bits .xor .u64 x (x / d) * m)
def saltA (seed : Int) (p : Nat) : Int := IntKind.u64.wrap (seed + IntKind.u64.wrap (11400714819323198485 * ((p : Int) + 1)))
def saltC (seed : Int) (p : Nat) : Int := mixI (mixI (saltA seed p) 1073741824 13787848793156543929) 134217728 10723151780598845931
/-- The salt of a place. -/
def saltI (seed : Int) (p : Nat) : Int := bits .xor .u64 (saltC seed p) (saltC seed p / 2147483648)
theorem wrap_range (x : Int) : 0 ≤ IntKind.u64.wrap x ∧ IntKind.u64.wrap x < 18446744073709551616 := by rw [IntKind.wrap_u64]; omega
theorem saltI_range (seed : Int) (p : Nat) : 0 ≤ saltI seed p ∧ saltI seed p < 18446744073709551616 := by
  unfold saltI
  have h := wrap_range (bits .xor .u64 (mixI (saltA seed p) 1073741824 13787848793156543929) (mixI (saltA seed p) 1073741824 13787848793156543929 / 134217728) * 10723151780598845931)
  have hc : saltC seed p = IntKind.u64.wrap (bits .xor .u64 (mixI (saltA seed p) 1073741824 13787848793156543929) (mixI (saltA seed p) 1073741824 13787848793156543929 / 134217728) * 10723151780598845931) := rfl
  rw [← hc] at h
  generalize saltC seed p = c at *
  obtain ⟨m, hm⟩ : ∃ m : Nat, c = (m : Int) := ⟨_, (Int.toNat_of_nonneg h.1).symm⟩
  subst hm
  have e : (m : Int) / 2147483648 = ((m / 2147483648 : Nat) : Int) := by omega
  rw [e, u64_xor_nat _ _ (by omega) (by omega)]
  have : m ^^^ (m / 2147483648) < 2 ^ 64 := Nat.xor_lt_two_pow (by omega) (by omega)
  omega

set_option maxRecDepth 100000 in
set_option maxHeartbeats 400000 in
theorem salt_any (seed : Int) (p : Nat) (w : World) (hp : p < 256) :
    Calls Try.prog 48 #[.int .u64 seed, .int .i64 (p : Int)] w fun e w' => e = .returned (.int .u64 (saltI seed p)) ∧ w' = w := by
  go_enter Try.func48, Try.ntmps48
  go_wp2
  go_ret
  exact ⟨rfl, rfl⟩

end Go.Proofs.Ytbjobbkgelipmaa

/-
  The walks of tithe's readers: readNumber.
-/
namespace Go.Proofs.Ytbjobbkgelipmaa
open Go.RowKit

theorem or_step (l : List UInt8) (k : Nat) (hk : k < 8) (hl : k < l.length) :
    bits .or .u64 (IntKind.u64.wrap (numB (l.take k) * 256)) (IntKind.u64.wrap (l[k].toNat : Int)) = numB (l.take (k + 1)) := by
  rw [List.take_succ_eq_append_getElem hl, numB_snoc]
  have h1 := numB_range_len k (l.take k) (by rw [List.length_take]; omega)
  have h2 : (256 : Int) ^ k ≤ 256 ^ 7 := pow256_le (by omega)
  have h3 : (256 : Int) ^ 7 = 72057594037927936 := by decide
  have h4 := l[k].toNat_lt
  obtain ⟨m, hm⟩ : ∃ m : Nat, numB (l.take k) = (m : Int) := ⟨_, (Int.toNat_of_nonneg h1.1).symm⟩
  rw [hm] at h1 ⊢
  have e1 : IntKind.u64.wrap ((m : Int) * 256) = ((2 ^ 8 * m : Nat) : Int) := by rw [IntKind.wrap_u64]; omega
  have e2 : IntKind.u64.wrap (l[k].toNat : Int) = (l[k].toNat : Int) := by rw [IntKind.wrap_u64]; omega
  rw [e1, e2, u64_or_nat _ _ (by omega) (by omega), ← Nat.two_pow_add_eq_or_of_lt (i := 8) (by omega)]
  omega

set_option maxHeartbeats 400000 in
set_option maxRecDepth 100000 in
theorem rdnum_any (b o len cap : Nat) (l : List UInt8) (w : World) (hl : 8 ≤ l.length) (hc : 8 ≤ cap) (_hlen : 8 ≤ len) (hm : cap ≤ maxLen) (hB : BytesAt w b o l) :
    Calls Try.prog 61 #[.slice (some ⟨b, o, none⟩) len cap] w fun e w' => e = .returned (.int .u64 (numB (l.take 8))) ∧ w' = w := by
  unfold maxLen at hm
  have HB := hide hB
  clear hB
  go_enter Try.func61, Try.ntmps61
  go_wp2
  go_loop [3, 9] (fun n i => ∃ k : Nat, k ≤ 8 ∧ i = .int .i64 k ∧ n = .int .u64 (numB (l.take k))) (fun _ i => 8 - (intOf i).toNat)
  case atStart => exact ⟨0, by omega, rfl, rfl⟩
  case round =>
    obtain ⟨k, hk, rfl, rfl⟩ := hrel
    by_cases hlt : k < 8
    · have hcell := unhide HB k (by omega)
      have hkl : k < l.length := by omega
      generalize hN : numB (l.take k) = N
      have HN := hide hN
      clear hN
      go_wp2
      refine ⟨⟨k + 1, by omega, by go_num, ?_⟩, by simp [intOf]; omega⟩
      rw [← unhide HN]
      exact congrArg _ (or_step l k hlt hkl)
    · have hk8 : k = 8 := by omega
      subst hk8
      go_wp2
      go_ret
      exact ⟨rfl, rfl⟩

end Go.Proofs.Ytbjobbkgelipmaa

/-
  The walk of tithe's readSide.
-/
namespace Go.Proofs.Ytbjobbkgelipmaa
open Go.RowKit

theorem BytesAt.drop {w : World} {b o k : Nat} {l : List UInt8} (h : BytesAt w b o l) : BytesAt w b (o + k) (l.drop k) := by
  intro j hj
  have h1 := h (k + j) (by rw [List.length_drop] at hj; omega)
  rw [Nat.add_assoc, h1, List.getElem_drop]

set_option maxHeartbeats 400000 in
set_option maxRecDepth 100000 in
theorem rdside_any (b o len cap : Nat) (l : List UInt8) (w : World) (hl : 11 ≤ l.length) (hc : len ≤ cap) (hlen : 11 ≤ len) (hm : cap ≤ 9223372036854775807) (hb : b < w.heap.size) (hB : BytesAt w b o l) :
    Calls Try.prog 49 #[.slice (some ⟨b, o, none⟩) len cap] w fun e w' => e = .returned (sideV (sideAt l 0).1 (sideAt l 0).2) ∧ Below w.heap.size w w' := by
  obtain ⟨W, hW⟩ : ∃ W, W = (w.alloc (Obj.cells #[Value.int IntKind.u8 0, Value.int IntKind.u8 0, Value.int IntKind.u8 0, Value.int IntKind.u64 0] 88)).drew := ⟨_, rfl⟩
  obtain ⟨d0, hd0⟩ : ∃ d : Int, ((l.getD 0 0).toNat : Int) = d := ⟨_, rfl⟩
  obtain ⟨d1, hd1⟩ : ∃ d : Int, ((l.getD 1 0).toNat : Int) = d := ⟨_, rfl⟩
  obtain ⟨d2, hd2⟩ : ∃ d : Int, ((l.getD 2 0).toNat : Int) = d := ⟨_, rfl⟩
  have hcell : ∀ k (h : k < 3), w.cell? ⟨b, o + k, none⟩ = some (.int .u8 ((l.getD k 0).toNat : Int)) := fun k h => by
    rw [hB k (by omega), List.getD_eq_getElem?_getD, List.getElem?_eq_getElem (by omega)]; rfl
  have c0 := hcell 0 (by omega)
  have c1 := hcell 1 (by omega)
  have c2 := hcell 2 (by omega)
  rw [hd0, Nat.add_zero] at c0
  rw [hd1] at c1
  rw [hd2] at c2
  obtain ⟨n, hn⟩ : ∃ n : Int, n = numB ((l.drop 3).take 8) := ⟨_, rfl⟩
  have HN : Hid (Calls Try.prog 61 #[.slice (some ⟨b, o + 3, none⟩) (len - 3) (cap - 3)] W fun e w' => e = .returned (.int .u64 n) ∧ w' = W) := by
    rw [hn]
    have hBW : BytesAt W b o l := by rw [hW]; intro j hj; exact ((Below.refl w.heap.size w).alloc (Nat.le_refl _) _).drew.cell (p := ⟨b, o + j, none⟩) hb |>.trans (hB j hj)
    exact rdnum_any b (o + 3) (len - 3) (cap - 3) (l.drop 3) W (by rw [List.length_drop]; omega) (by omega) (by omega) (by unfold maxLen; omega) hBW.drop
  have HD : Hid (sideV (sideAt l 0).1 (sideAt l 0).2 = .agg #[.int .u8 d0, .int .u8 d1, .int .u8 d2, .int .u64 n]) := by
    rw [← hd0, ← hd1, ← hd2, hn]; rfl
  have HL := hide hl
  have lc : cap ≠ 3 := by omega
  subst hW
  clear hn hd0 hd1 hd2 hcell hB hl
  have hne : b ≠ w.heap.size := by omega
  have l0 : 0 < len := by omega
  have l1 : (1 : Int) < (len : Int) := by omega
  have l2 : (2 : Int) < (len : Int) := by omega
  have l3 : 3 ≤ len := by omega
  have l4 : (3 : Int) ≤ (len : Int) := by omega
  go_enter Try.func49, Try.ntmps49
  go_wp2_with fail
  refine region_tail 14 (by kernel_rfl) (by kernel_rfl) ?_
  simp only [List.take_succ_cons, List.take_zero, List.drop_succ_cons, List.drop_zero]
  repeat still_step
  still_call (unhide HN)
  repeat still_step
  refine wpStill_nil ?_
  clear HN
  go_wp2
  refine bodyPost_ret (v := sideV (sideAt l 0).1 (sideAt l 0).2) ?_ rfl ⟨rfl, ?_⟩
  · rw [unhide HD]
    simp [results, Try.results49, go_sem]
  · exact ((Below.refl _ _).alloc (Nat.le_refl _) _).drew

end Go.Proofs.Ytbjobbkgelipmaa

/-
  The walk of tithe's greatestSum.
-/
namespace Go.Proofs.Ytbjobbkgelipmaa
open Go.RowKit

/-- Sides that lie in memory. -/
def SidesAt (w : World) (b : Nat) (ys : List (Dg × Int)) : Prop := ∀ i (h : i < ys.length),
  w.cell? ⟨b, i * 4, none⟩ = some (.int .u8 ((ys[i]).1.1.toNat : Int)) ∧ w.cell? ⟨b, i * 4 + 1, none⟩ = some (.int .u8 ((ys[i]).1.2.1.toNat : Int)) ∧ w.cell? ⟨b, i * 4 + 2, none⟩ = some (.int .u8 ((ys[i]).1.2.2.toNat : Int)) ∧ w.cell? ⟨b, i * 4 + 3, none⟩ = some (.int .u64 (ys[i]).2)
theorem SidesAt.below {w w' : World} {b B : Nat} {ys : List (Dg × Int)} (h : SidesAt w b ys) (hb : Below B w w') (hlt : b < B) : SidesAt w' b ys := by
  intro i hi
  have e : ∀ o, w'.cell? ⟨b, o, none⟩ = w.cell? ⟨b, o, none⟩ := fun o => hb.cell (p := ⟨b, o, none⟩) hlt
  obtain ⟨h0, h1, h2, h3⟩ := h i hi
  exact ⟨(e _).trans h0, (e _).trans h1, (e _).trans h2, (e _).trans h3⟩

def greatB (bal : Int) (ys : List (Dg × Int)) : Int := ys.foldl (fun g y => max g y.2) bal
theorem greatB_snoc (bal : Int) (ys : List (Dg × Int)) (y : Dg × Int) : greatB bal (ys ++ [y]) = max (greatB bal ys) y.2 := by simp [greatB]
theorem greatB_le : ∀ (ys : List (Dg × Int)) (bal m : Int), greatB bal ys ≤ m ↔ bal ≤ m ∧ ∀ y ∈ ys, y.2 ≤ m
  | [], bal, m => by simp [greatB]
  | y :: ys, bal, m => by
    have h := greatB_le ys (max bal y.2) m
    have e : greatB bal (y :: ys) = greatB (max bal y.2) ys := rfl
    rw [e, h]
    simp only [List.mem_cons, forall_eq_or_imp]
    constructor
    · rintro ⟨a, b⟩; exact ⟨by omega, by omega, b⟩
    · rintro ⟨a, b, c⟩; exact ⟨by omega, c⟩

set_option maxHeartbeats 400000 in
set_option maxRecDepth 100000 in
theorem great_any (pl : Int) (nm : ByteArray) (bal salt : Int) (sb cap : Nat) (ys : List (Dg × Int)) (w : World) (hm : ys.length ≤ 6) (hlt : sb < w.heap.size) (hS : SidesAt w sb ys) :
    Calls Try.prog 63 #[proofV pl nm bal salt (some ⟨sb, 0, none⟩) ys.length cap] w fun e w' => e = .returned (.int .u64 (greatB bal ys)) ∧ Below w.heap.size w w' := by
  have HS := hide hS
  clear hS
  unfold proofV
  go_enter Try.func63, Try.ntmps63
  go_wp2
  go_loopw [3, 12] (fun g i wr => ∃ k : Nat, k ≤ ys.length ∧ i = .int .i64 k ∧ g = .int .u64 (greatB bal (ys.take k)) ∧ w.heap.size < wr.heap.size ∧ Below w.heap.size w wr) (fun _ i _ => ys.length - (intOf i).toNat)
  case atStart => exact ⟨0, Nat.zero_le _, rfl, by simp [greatB], by simp, (Below.refl _ _).alloc (Nat.le_refl _) _⟩
  case round =>
    obtain ⟨k, hk, rfl, rfl, hz, hbel⟩ := hrel
    have Hbel := hide hbel
    clear hbel
    by_cases hk' : k < ys.length
    · obtain ⟨c0, c1, c2, c3⟩ := ((unhide HS).below (unhide Hbel) hlt) k hk'
      have Hsn : Hid (greatB bal (ys.take (k + 1)) = max (greatB bal (ys.take k)) (ys[k]).2) := by
        rw [List.take_succ_eq_append_getElem hk']; exact greatB_snoc _ _ _
      generalize ys[k] = y at *
      obtain ⟨⟨y0, y1, y2⟩, n⟩ := y
      simp only at c0 c1 c2 c3
      generalize (y0.toNat : Int) = e0 at *
      generalize (y1.toNat : Int) = e1 at *
      generalize (y2.toNat : Int) = e2 at *
      generalize greatB bal (ys.take k) = G at *
      go_wp2
      go_roundw
      case rel =>
        refine ⟨k + 1, by omega, by go_num, ?_, by simp; omega, (unhide Hbel).alloc (unhide Hbel).size _⟩
        rw [unhide Hsn]
      case measure => simp [intOf]; omega
    · have hkk : k = ys.length := by omega
      subst hkk
      rw [List.take_length]
      generalize hG : greatB bal ys = G
      have HG := hide hG
      clear hG
      go_wp2
      go_ret
      exact ⟨by rw [unhide HG]; rfl, unhide Hbel⟩

end Go.Proofs.Ytbjobbkgelipmaa

/-
  The walk of tithe's readSides.
-/
namespace Go.Proofs.Ytbjobbkgelipmaa
open Go.RowKit

def sidesOf (l : List UInt8) (n : Nat) : List (Dg × Int) := (List.range n).map fun i => sideAt l (11 * i)
theorem sidesOf_len (l : List UInt8) (n : Nat) : (sidesOf l n).length = n := by simp [sidesOf]
theorem sidesOf_get (l : List UInt8) (n i : Nat) (h : i < (sidesOf l n).length) : (sidesOf l n)[i] = sideAt l (11 * i) := by simp [sidesOf]
theorem sideAt_drop (l : List UInt8) (a b : Nat) : sideAt (l.drop a) b = sideAt l (a + b) := by
  unfold sideAt
  simp only [List.getD_eq_getElem?_getD, List.getElem?_drop, List.drop_drop]
  simp only [Nat.add_assoc]

/-- Room for sides; the first ones are there. -/
def Room (W : World) (b n : Nat) (ys : List (Dg × Int)) : Prop := (∀ o, o < n * 4 → (W.cell? ⟨b, o, none⟩).isSome = true ∧ W.frozen? ⟨b, o, none⟩ = false) ∧ SidesAt W b ys
theorem Room.below {w w' : World} {b n : Nat} {ys : List (Dg × Int)} (h : Room w b n ys) (hb : Below w.heap.size w w') (hlt : b < w.heap.size) : Room w' b n ys := by
  refine ⟨fun o ho => ?_, h.2.below hb hlt⟩
  rw [(bcell hb).1 _ _ hlt, (bcell hb).2 _ _ hlt]
  exact h.1 o ho
theorem isSome_set {W : World} {a q : Addr} {v : Value} (h : (W.cell? q).isSome = true) : ((W.setCell a v).cell? q).isSome = true := by
  obtain ⟨v', hv⟩ := Option.isSome_iff_exists.1 h
  obtain ⟨v'', hv'⟩ := cell?_setCell_some (w := W) (p := a) (x := v) (q := q) (v := v') hv
  rw [hv']; rfl
theorem Room.set {W : World} {b n i : Nat} {ys : List (Dg × Int)} (h : Room W b n ys) (hi : ys.length = i) (hn : i < n) (d0 d1 d2 : UInt8) (x : Int) :
    Room ((((W.setCell ⟨b, i * 4, none⟩ (.int .u8 (d0.toNat : Int))).setCell ⟨b, i * 4 + 1, none⟩ (.int .u8 (d1.toNat : Int))).setCell ⟨b, i * 4 + 2, none⟩ (.int .u8 (d2.toNat : Int))).setCell ⟨b, i * 4 + 3, none⟩ (.int .u64 x)) b n (ys ++ [((d0, d1, d2), x)]) := by
  refine ⟨fun o ho => ⟨isSome_set (isSome_set (isSome_set (isSome_set (h.1 o ho).1))), ?_⟩, ?_⟩
  · rw [World.frozen?_setCell, World.frozen?_setCell, World.frozen?_setCell, World.frozen?_setCell]; exact (h.1 o ho).2
  · have ne : ∀ (W : World) (p q : Nat) (v : Value), p ≠ q → (W.setCell ⟨b, p, none⟩ v).cell? ⟨b, q, none⟩ = W.cell? ⟨b, q, none⟩ := fun W p q v hpq => by apply World.cell?_setCell_other; intro e; apply hpq; cases e; rfl
    have sm : ∀ (W : World) (p : Nat) (v : Value), (W.cell? ⟨b, p, none⟩).isSome = true → (W.setCell ⟨b, p, none⟩ v).cell? ⟨b, p, none⟩ = some v := fun W p v hp => World.cell?_setCell_same' W _ v hp
    intro j hj
    rw [List.length_append, List.length_singleton] at hj
    by_cases hji : j < ys.length
    · obtain ⟨h0, h1, h2, h3⟩ := h.2 j hji
      rw [List.getElem_append_left hji]
      rw [ne _ _ _ _ (by omega), ne _ _ _ _ (by omega), ne _ _ _ _ (by omega), ne _ _ _ _ (by omega), ne _ _ _ _ (by omega), ne _ _ _ _ (by omega), ne _ _ _ _ (by omega), ne _ _ _ _ (by omega), ne _ _ _ _ (by omega), ne _ _ _ _ (by omega), ne _ _ _ _ (by omega), ne _ _ _ _ (by omega), ne _ _ _ _ (by omega), ne _ _ _ _ (by omega), ne _ _ _ _ (by omega), ne _ _ _ _ (by omega)]
      exact ⟨h0, h1, h2, h3⟩
    · have hjj : j = ys.length := by omega
      subst hjj
      rw [List.getElem_append_right (Nat.le_refl _)]
      simp only [Nat.sub_self, List.getElem_cons_zero]
      rw [← hi] at *
      refine ⟨?_, ?_, ?_, ?_⟩
      · rw [ne _ _ _ _ (by omega), ne _ _ _ _ (by omega), ne _ _ _ _ (by omega)]
        exact sm _ _ _ (h.1 _ (by omega)).1
      · rw [ne _ _ _ _ (by omega), ne _ _ _ _ (by omega)]
        exact sm _ _ _ (isSome_set (h.1 _ (by omega)).1)
      · rw [ne _ _ _ _ (by omega)]
        exact sm _ _ _ (isSome_set (isSome_set (h.1 _ (by omega)).1))
      · exact sm _ _ _ (isSome_set (isSome_set (isSome_set (h.1 _ (by omega)).1)))

theorem Try.infoSide : (Try.prog.info? 88).map (fun i => (i.zero, i.size, i.bytes)) = some (some (.agg #[.int .u8 0, .int .u8 0, .int .u8 0, .int .u64 0]), 4, 16) := by kernel_rfl

theorem room_new {W : World} {b n : Nat} {xs : List Value} {e : TypeId} {base : Nat} (h : W.ownsRow base e 4 (.slice (some ⟨b, 0, none⟩) n n) n xs) : Room W b n [] := by
  refine ⟨fun o ho => ?_, fun i hi => by cases hi⟩
  rcases h.2 with ⟨h, _⟩ | ⟨g, cap, cur, hv, _, hg, h1, h2, h3, h4⟩
  · cases h
  · simp only [Value.slice.injEq, Option.some.injEq, Addr.mk.injEq] at hv
    obtain ⟨⟨rfl, _⟩, _, rfl⟩ := hv
    rw [block_cell hg]
    refine ⟨?_, block_free hg⟩
    rw [Array.getElem?_eq_getElem (by omega)]
    rfl

set_option maxHeartbeats 400000 in
set_option maxRecDepth 100000 in
theorem rdsides_any (b o len cap n : Nat) (l : List UInt8) (w : World) (hl : l.length = len) (hn : 11 * n ≤ len) (hn6 : n ≤ 6) (hc : len ≤ cap) (hm : cap ≤ 9223372036854775807) (hb : b < w.heap.size) (hB : BytesAt w b o l) :
    Calls Try.prog 62 #[.slice (some ⟨b, o, none⟩) len cap, .int .i64 (n : Int)] w fun e w' => e = .returned (.slice (some ⟨w.heap.size, 0, none⟩) n n) ∧ w.heap.size < w'.heap.size ∧ SidesAt w' w.heap.size (sidesOf l n) ∧ Below w.heap.size w w' := by
  obtain ⟨i0, hi, hz0, hz1, hz2⟩ := info_parts Try.infoSide
  have HB := hide hB
  have HL := hide hl
  clear hB hl
  go_enter Try.func62, Try.ntmps62
  go_wp2_with (at_make; refine wpList_make_full _ rfl _ _ 77 rfl w.heap.size 88 i0 _ 4 Try.underlying77 hi hz0 hz1 _ _ _ _ n rfl rfl rfl rfl (by rw [hz2]; omega) (by unfold maxLen; omega) (Nat.le_refl _) ?_)
  intro w1 hown1 hgrow1
  have hB1 : Below w.heap.size w w1 := (Below.refl _ _).grown hgrow1 (Nat.le_refl _) (fun b hb => by cases hb)
  have hR1 := room_new hown1
  have hz1' : w.heap.size < w1.heap.size := (hown1.lt w.heap.size rfl).2
  have HS := hide (And.intro hB1 hR1)
  clear hB1 hR1 hown1 hgrow1
  go_wp2_with fail
  go_loopw [11, 6] (fun i _ wr => ∃ k : Nat, k ≤ n ∧ i = .int .i64 k ∧ Room wr w.heap.size n (sidesOf l k) ∧ w.heap.size < wr.heap.size ∧ Below w.heap.size w wr) (fun i _ _ => n - (intOf i).toNat)
  case atStart => exact ⟨0, Nat.zero_le _, rfl, (unhide HS).2, hz1', (unhide HS).1⟩
  case round =>
    obtain ⟨k, hk, rfl, hR, hz, hbel⟩ := hrel
    have HR := hide (And.intro hR hbel)
    clear hR hbel HS
    by_cases hk' : k < n
    · have Hsd : Hid (Calls Try.prog 49 #[.slice (some ⟨b, o + k * 11, none⟩) (len - k * 11) (cap - k * 11)] wr fun e w' => e = .returned (sideV (sideAt l (11 * k)).1 (sideAt l (11 * k)).2) ∧ Below wr.heap.size wr w') := by
        have hBr : BytesAt wr b o l := fun j hj => ((unhide HR).2.cell (p := ⟨b, o + j, none⟩) hb).trans (unhide HB j hj)
        have h := rdside_any b (o + k * 11) (len - k * 11) (cap - k * 11) (l.drop (k * 11)) wr (by rw [List.length_drop, unhide HL]; omega) (by omega) (by omega) (by omega) (by omega) hBr.drop
        rw [sideAt_drop, Nat.add_zero, Nat.mul_comm k 11] at h
        rw [Nat.mul_comm k 11]
        exact h
      obtain ⟨⟨⟨s0, s1, s2⟩, x⟩, hx⟩ : ∃ y, sideAt l (11 * k) = y := ⟨_, rfl⟩
      rw [hx] at Hsd
      have HX := hide hx
      clear hx
      go_wp2_with fail
      refine (unhide Hsd).mono ?_
      rintro e w2 ⟨rfl, hb2⟩
      have hR2 := (unhide HR).1.below hb2 hz
      have hB2 := (unhide HR).2.trans (hb2.mono (by omega))
      have hz2' : w.heap.size < w2.heap.size := by have := hb2.size; omega
      have HR3 := hide (And.intro (hR2.set (sidesOf_len l k) hk' s0 s1 s2 x) hB2)
      obtain ⟨r0, g0⟩ := Option.isSome_iff_exists.1 (hR2.1 (k * 4) (by omega)).1
      obtain ⟨r1, g1⟩ := Option.isSome_iff_exists.1 (hR2.1 (k * 4 + 1) (by omega)).1
      obtain ⟨r2, g2⟩ := Option.isSome_iff_exists.1 (hR2.1 (k * 4 + 2) (by omega)).1
      obtain ⟨r3, g3⟩ := Option.isSome_iff_exists.1 (hR2.1 (k * 4 + 3) (by omega)).1
      have f0 := (hR2.1 (k * 4) (by omega)).2
      have f1 := (hR2.1 (k * 4 + 1) (by omega)).2
      have f2 := (hR2.1 (k * 4 + 2) (by omega)).2
      have f3 := (hR2.1 (k * 4 + 3) (by omega)).2
      clear hR2 hB2 hb2 Hsd HR
      unfold sideV
      simp only
      generalize (s0.toNat : Int) = t0 at *
      generalize (s1.toNat : Int) = t1 at *
      generalize (s2.toNat : Int) = t2 at *
      go_wp2
      refine ⟨⟨k + 1, by omega, by go_num, ?_, by simpa using hz2', ((((unhide HR3).2.setCell (by simp) _).setCell (by simp) _).setCell (by simp) _).setCell (by simp) _⟩, by simp [intOf]; omega⟩
      have e : sidesOf l (k + 1) = sidesOf l k ++ [((s0, s1, s2), x)] := by
        rw [← unhide HX]
        simp [sidesOf, List.range_succ]
      rw [e]
      exact (unhide HR3).1
    · have hkk : k = n := by omega
      subst hkk
      go_wp2
      go_ret
      exact ⟨rfl, hz, (unhide HR).1.2, (unhide HR).2⟩

end Go.Proofs.Ytbjobbkgelipmaa
