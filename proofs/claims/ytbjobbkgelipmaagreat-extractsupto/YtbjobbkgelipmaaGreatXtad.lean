/-
  The walk of titheref's Extract.
-/
import Derived.Deep.RegionHeld3
import Derived.Test.YtbjobbkgelipmaaGreatXtac
namespace Go.Proofs.YtbjobbkgelipmaaGreat
open Go.RowKit

theorem Tryz.infoProofR : (Tryz.prog.info? 130).map (fun i => (i.zero, i.size, i.bytes)) = some (some (.agg #[.int .i64 0, .string ⟨#[]⟩, .int .u64 0, .int .u64 0, .slice none 0 0]), 5, 64) := by kernel_rfl

/-- Texts that were handed in, in memory. -/
structure TextsIn (w : World) (la : Option Addr) (Ls : List ByteArray) : Prop where
  at_ : ∀ i (hi : i < Ls.length), ∃ g o, la = some ⟨g, o, none⟩ ∧ g < w.heap.size ∧ w.cell? ⟨g, o + i, none⟩ = some (.string Ls[i])
theorem TextsIn.later {w w' : World} {la : Option Addr} {Ls : List ByteArray} (t : TextsIn w la Ls) (b : Below w.heap.size w w') : TextsIn w' la Ls :=
  ⟨fun i hi => by
    obtain ⟨g, o, h1, h2, h3⟩ := t.at_ i hi
    exact ⟨g, o, h1, Nat.lt_of_lt_of_le h2 b.size, keepB b h2 h3⟩⟩

/-- What titheref's Extract owes. -/
def RxP (R : List UInt8) (Ls : List (List UInt8)) (w : World) (e : Ending) (w' : World) : Prop :=
  (∃ x y er, e = .returned (.tuple #[strV x, strV y, .int .i64 er]) ∧ ExtAns R Ls x y er) ∧ Below w.heap.size w w'

set_option maxHeartbeats 1000000 in
set_option maxRecDepth 100000 in
theorem refext_norep (r : ByteArray) (Ls : List (List UInt8)) (la : Option Addr) (n lc : Nat) (w : World) (hr : r.size ≤ 140737488351232) (hb : ¬ repOk r.data.toList) :
    Calls Tryz.prog 65 #[.string r, .slice la n lc] w (RxP r.data.toList Ls w) := by
  have HE := hide (show ExtAns r.data.toList Ls [] [] 8 from .inl ⟨hb, rfl, rfl, rfl⟩)
  by_cases hh : repHead r.data.toList
  · have hle : leMax (repRoot r.data.toList).2 = false := by
      unfold leMax
      exact decide_eq_false (fun h => hb ⟨hh, h⟩)
    have HC := fun w => hide (report_good r w hh)
    obtain ⟨d0, d1, d2, hD⟩ : ∃ d0 d1 d2 : Int, sideV (repRoot r.data.toList).1 (repRoot r.data.toList).2 = .agg #[.int .u8 d0, .int .u8 d1, .int .u8 d2, .int .u64 (repRoot r.data.toList).2] := ⟨_, _, _, rfl⟩
    rw [hD, hle] at HC
    generalize (repRoot r.data.toList).2 = m at *
    clear hD hle hb hh
    go_enter Tryz.func65, Tryz.ntmps65
    go_wp2_with fail
    refine (unhide (HC _)).mono ?_
    rintro e w1 ⟨rfl, hb1⟩
    have HB := hide hb1
    clear hb1
    go_wp2
    go_ret3
    exact ⟨⟨[], [], 8, rfl, unhide HE⟩, (unhide HB).alloc (unhide HB).size _⟩
  · have HC := fun w => hide (report_bad r w hr hh)
    unfold sideZ at HC
    clear hb hh
    go_enter Tryz.func65, Tryz.ntmps65
    go_wp2_with fail
    refine (unhide (HC _)).mono ?_
    rintro e w1 ⟨rfl, hb1⟩
    have HB := hide hb1
    clear hb1
    go_wp2
    go_ret3
    exact ⟨⟨[], [], 8, rfl, unhide HE⟩, (unhide HB).alloc (unhide HB).size _⟩

/-- Where the levels and places stand that have been looked at. -/
def NoneTo (h : Nat) (L : List (Nat × List (List UInt8))) (lv pl : Nat) : Prop := ∀ a b, a ≤ h → b < 2 ^ (h - a) → (lv < a ∨ (a = lv ∧ b < pl)) → firstTwo (textsAt a b L) = none
theorem NoneTo.before {h lv pl : Nat} {L : List (Nat × List (List UInt8))} (hn : NoneTo h L lv pl) (hp : pl < 2 ^ (h - lv)) : NoneBefore h L (placeNo h lv pl) := fun a b ha hb hlt => by
  refine hn a b ha hb ?_
  rcases Nat.lt_trichotomy a lv with h1 | h1 | h1
  · by_cases hl : lv ≤ h
    · have := placeNo_lv (pl := pl) (pl' := b) hl hp h1
      omega
    · unfold placeNo at hlt
      rw [show h - lv = 0 by omega] at hp hlt
      have : 1 ≤ 2 ^ (h - a) := Nat.one_le_two_pow
      omega
  · subst h1
    unfold placeNo at hlt
    exact .inr ⟨rfl, by omega⟩
  · exact .inl h1
theorem textsAt_nil {h lv pl : Nat} {L : List (Nat × List (List UInt8))} (hlt : ∀ d ∈ L, d.1 < 2 ^ h) (hl : lv ≤ h) (hp : 2 ^ (h - lv) ≤ pl) : textsAt lv pl L = [] := by
  unfold textsAt
  rw [List.map_eq_nil_iff, List.filter_eq_nil_iff]
  intro d hd
  have h1 := hlt d hd
  have e : 2 ^ h = 2 ^ (h - lv) * 2 ^ lv := by rw [← Nat.pow_add]; congr 1; omega
  have h2 : d.1 / 2 ^ lv < 2 ^ (h - lv) := Nat.div_lt_of_lt_mul (by rw [Nat.mul_comm, ← e]; exact h1)
  simp
  omega

theorem nodup_take {l : List (List UInt8)} {a : Nat} (ha : a < l.length) (h : (l.take a).Nodup) (hn : ∀ c, c < a → l.getD c [] ≠ l.getD a []) : (l.take (a + 1)).Nodup := by
  rw [List.take_succ_eq_append_getElem ha, List.nodup_append]
  refine ⟨h, by simp, fun x hx y hy => ?_⟩
  simp at hy
  subst hy
  obtain ⟨c, hc, rfl⟩ := List.mem_iff_getElem.1 hx
  have hc' : c < a := by rw [List.length_take] at hc; omega
  have := hn c hc'
  rw [List.getD_eq_getElem?_getD, List.getD_eq_getElem?_getD, List.getElem?_eq_getElem (by omega), List.getElem?_eq_getElem ha] at this
  rw [List.getElem_take]
  simpa using this
theorem nodup_two {l : List (List UInt8)} {a b : Nat} (ha : a < l.length) (hb : b < a) (e : l.getD b [] = l.getD a []) : ¬ l.Nodup := fun h => by
  rw [List.getD_eq_getElem?_getD, List.getD_eq_getElem?_getD, List.getElem?_eq_getElem (by omega), List.getElem?_eq_getElem ha] at e
  have e' : l[b] = l[a] := by simpa using e
  exact List.pairwise_iff_getElem.1 h b a (by omega) ha hb e'

set_option maxHeartbeats 4000000 in
set_option maxRecDepth 100000 in
theorem refext_ok (r : ByteArray) (Bs : List ByteArray) (la : Option Addr) (lc : Nat) (w : World) (hb : repOk r.data.toList) (ht : TextsIn w la Bs) (hsz : ∀ s ∈ Bs, s.size ≤ 140737488351232) (hn : Bs.length ≤ 1048576) :
    Calls Tryz.prog 65 #[.string r, .slice la Bs.length lc] w (RxP r.data.toList (Bs.map fun s => s.data.toList) w) := by
  obtain ⟨i0, hi, hz0, hz1, hz2⟩ := info_parts Tryz.infoProofR
  have hle : leMax (repRoot r.data.toList).2 = true := by
    unfold leMax
    exact decide_eq_true hb.2
  have hh : repH r.data.toList ≤ 6 := hb.1.2
  have HC := fun w => hide (report_good r w hb.1)
  have HA := hide fun i (hi : i < Bs.length) w' => accepted_any (repH r.data.toList) (repRoot r.data.toList).1 (repRoot r.data.toList).2 Bs[i] w' hh (hsz _ (List.getElem_mem hi))
  obtain ⟨d0, d1, d2, hD⟩ : ∃ d0 d1 d2 : Int, sideV (repRoot r.data.toList).1 (repRoot r.data.toList).2 = .agg #[.int .u8 d0, .int .u8 d1, .int .u8 d2, .int .u64 (repRoot r.data.toList).2] := ⟨_, _, _, rfl⟩
  rw [hD, hle] at HC
  rw [hD] at HA
  -- what the answers mean
  have HX9 := hide fun i (hi : i < Bs.length) (hno : ¬ (accHead (repH r.data.toList) Bs[i].data.toList ∧ (accOk (repH r.data.toList) (repRoot r.data.toList) Bs[i].data.toList).isSome = true)) => show ExtAns r.data.toList (Bs.map fun s => s.data.toList) [] [] 9 from .inr (.inl ⟨hb, ⟨_, List.mem_map.2 ⟨_, List.getElem_mem hi, rfl⟩, fun hv => hno hv.2⟩, rfl, rfl, rfl⟩)
  have HX3 := hide fun (hv : ∀ l ∈ Bs.map fun s => s.data.toList, verOk r.data.toList l) (hd : ¬ ((Bs.map fun s => s.data.toList).map accName).Nodup) => show ExtAns r.data.toList (Bs.map fun s => s.data.toList) [] [] 3 from .inr (.inr (.inl ⟨hb, hv, hd, rfl, rfl, rfl⟩))
  have HX0 := hide fun (hv : ∀ l ∈ Bs.map fun s => s.data.toList, verOk r.data.toList l) (hd : ((Bs.map fun s => s.data.toList).map accName).Nodup) (x y : List UInt8) (hx : ExtR (repH r.data.toList) ((Bs.map fun s => s.data.toList).map (dataOf (repH r.data.toList) (repRoot r.data.toList))) x y) => show ExtAns r.data.toList (Bs.map fun s => s.data.toList) x y 0 from .inr (.inr (.inr ⟨hb, hv, hd, hx, rfl⟩))
  have HVer := hide fun (l : List UInt8) (h1 : accHead (repH r.data.toList) l) (ts : List (List UInt8)) (h2 : accOk (repH r.data.toList) (repRoot r.data.toList) l = some ts) => show verOk r.data.toList l from ⟨hb, h1, by rw [h2]; rfl⟩
  have HT := hide ht
  clear hsz ht hle
  have HRoot := hide (show (repRoot r.data.toList).2 = (repRoot r.data.toList).2 from rfl)
  generalize hroot : repRoot r.data.toList = root at *
  obtain ⟨dd, m⟩ := root
  simp only at HC HA hD
  generalize repH r.data.toList = h at *
  obtain ⟨n, hnn⟩ : ∃ n, Bs.length = n := ⟨_, rfl⟩
  have HNN := hide hnn
  rw [hnn] at hn ⊢
  clear hb hD hroot HRoot hnn
  go_enter Tryz.func65, Tryz.ntmps65
  go_wp2_with fail
  refine (unhide (HC _)).mono ?_
  rintro e w1 ⟨rfl, hb1⟩
  clear HC
  go_wp2_with fail
  generalize hW1 : w1.alloc (Obj.cells #[Value.int IntKind.u8 d0, Value.int IntKind.u8 d1, Value.int IntKind.u8 d2, Value.int IntKind.u64 m] 49) = W1
  have s0 : W1.cell? ⟨w1.heap.size, 0, none⟩ = some (.int .u8 d0) := by rw [← hW1]; simp
  have s1 : W1.cell? ⟨w1.heap.size, 1, none⟩ = some (.int .u8 d1) := by rw [← hW1]; simp
  have s2 : W1.cell? ⟨w1.heap.size, 2, none⟩ = some (.int .u8 d2) := by rw [← hW1]; simp
  have s3 : W1.cell? ⟨w1.heap.size, 3, none⟩ = some (.int .u64 m) := by rw [← hW1]; simp
  have hSl : w1.heap.size < W1.heap.size := by rw [← hW1]; simp
  have hbW : Below w.heap.size w W1 := by rw [← hW1]; exact hb1.alloc hb1.size _
  have HBW := hide hbW
  have HTW := hide ((unhide HT).later hbW)
  clear hW1 hb1 hbW HT
  generalize w1.heap.size = S at *
  go_loopw [10, 11, 12, 13] (fun v i _ _ wr => ∃ k : Nat, k ≤ n ∧ i = .int .i64 k ∧ ∃ rows, Hid (rows.map Prod.fst = (Bs.map fun s => s.data.toList).take k ∧ AllR wr W1.heap.size h (dd, m) v rows) ∧ Hid (Below W1.heap.size W1 wr)) (fun _ i _ _ _ => n - (intOf i).toNat)
  case atStart => exact ⟨0, Nat.zero_le _, rfl, [], hide ⟨rfl, ⟨rfl, .inl ⟨rfl, rfl⟩⟩, fun _ h => by cases h⟩, hide (Below.refl _ _)⟩
  case round =>
    obtain ⟨k, hk, rfl, rows, HR, HBr⟩ := hrel
    have hrl : rows.length = k := by
      have := congrArg List.length (unhide HR).1
      rw [List.length_map, List.length_take, List.length_map, unhide HNN] at this
      omega
    obtain ⟨va, vc, hv⟩ := own_slice (unhide HR).2.own
    rw [hrl] at hv
    subst hv
    by_cases hlt : k < n
    · have hkB : k < Bs.length := by rw [unhide HNN]; exact hlt
      have t0 := keepB (unhide HBr) hSl s0
      have t1 := keepB (unhide HBr) hSl s1
      have t2 := keepB (unhide HBr) hSl s2
      have t3 := keepB (unhide HBr) hSl s3
      obtain ⟨g, o, e, hgl, cg⟩ := (unhide HTW).at_ k hkB
      cases e
      have cg' := keepB (unhide HBr) hgl cg
      have HAk := hide fun w' => unhide HA k hkB w'
      have HX9k := hide (unhide HX9 k hkB)
      have HTk := hide (show (Bs.map fun s => s.data.toList).take (k + 1) = (Bs.map fun s => s.data.toList).take k ++ [Bs[k].data.toList] by
        rw [List.take_succ_eq_append_getElem (by rw [List.length_map]; exact hkB), List.getElem_map])
      generalize Bs[k] = sk at *
      have hzr : W1.heap.size ≤ wr.heap.size := (unhide HBr).size
      have ik : (k : Int) < (n : Int) := by omega
      clear s0 s1 s2 s3 cg
      have hSd : wr.drew.cell? ⟨S, 0, none⟩ = some (.int .u8 d0) ∧ wr.drew.cell? ⟨S, 1, none⟩ = some (.int .u8 d1) ∧ wr.drew.cell? ⟨S, 2, none⟩ = some (.int .u8 d2) ∧ wr.drew.cell? ⟨S, 3, none⟩ = some (.int .u64 m) ∧ wr.drew.cell? ⟨g, o + k, none⟩ = some (.string sk) := ⟨t0, t1, t2, t3, cg'⟩
      have hSw : S < wr.heap.size := by omega
      have hgw : g < wr.heap.size := by omega
      go_wp2_with fail
      have hbA : Below wr.heap.size wr (wr.alloc (Obj.cells #[Value.int IntKind.i64 0, Value.string { data := #[] }, Value.int IntKind.u64 0, Value.int IntKind.u64 0, Value.slice none 0 0] 130)).drew := ((Below.refl _ _).alloc (Nat.le_refl _) _).drew
      have hSa : ((wr.alloc (Obj.cells #[Value.int IntKind.i64 0, Value.string { data := #[] }, Value.int IntKind.u64 0, Value.int IntKind.u64 0, Value.slice none 0 0] 130)).drew).cell? ⟨S, 0, none⟩ = some (.int .u8 d0) ∧ ((wr.alloc (Obj.cells #[Value.int IntKind.i64 0, Value.string { data := #[] }, Value.int IntKind.u64 0, Value.int IntKind.u64 0, Value.slice none 0 0] 130)).drew).cell? ⟨S, 1, none⟩ = some (.int .u8 d1) ∧ ((wr.alloc (Obj.cells #[Value.int IntKind.i64 0, Value.string { data := #[] }, Value.int IntKind.u64 0, Value.int IntKind.u64 0, Value.slice none 0 0] 130)).drew).cell? ⟨S, 2, none⟩ = some (.int .u8 d2) ∧ ((wr.alloc (Obj.cells #[Value.int IntKind.i64 0, Value.string { data := #[] }, Value.int IntKind.u64 0, Value.int IntKind.u64 0, Value.slice none 0 0] 130)).drew).cell? ⟨S, 3, none⟩ = some (.int .u64 m) ∧ ((wr.alloc (Obj.cells #[Value.int IntKind.i64 0, Value.string { data := #[] }, Value.int IntKind.u64 0, Value.int IntKind.u64 0, Value.slice none 0 0] 130)).drew).cell? ⟨g, o + k, none⟩ = some (.string sk) := ⟨keepB hbA hSw t0, keepB hbA hSw t1, keepB hbA hSw t2, keepB hbA hSw t3, keepB hbA hgw cg'⟩
      have hza : (wr.alloc (Obj.cells #[Value.int IntKind.i64 0, Value.string { data := #[] }, Value.int IntKind.u64 0, Value.int IntKind.u64 0, Value.slice none 0 0] 130)).drew.heap.size = wr.heap.size + 1 := World.size_alloc _ _
      have hPa : (wr.alloc (Obj.cells #[Value.int IntKind.i64 0, Value.string { data := #[] }, Value.int IntKind.u64 0, Value.int IntKind.u64 0, Value.slice none 0 0] 130)).drew.heap[wr.heap.size]? = some (.cells #[Value.int IntKind.i64 0, Value.string ⟨#[]⟩, Value.int IntKind.u64 0, Value.int IntKind.u64 0, Value.slice none 0 0] 130 (0, 0)) := heap_alloc_new wr _
      go_region_held3 (fun w' => w'.cell? ⟨S, 0, none⟩ = some (.int .u8 d0) ∧ w'.cell? ⟨S, 1, none⟩ = some (.int .u8 d1) ∧ w'.cell? ⟨S, 2, none⟩ = some (.int .u8 d2) ∧ w'.cell? ⟨S, 3, none⟩ = some (.int .u64 m) ∧ w'.cell? ⟨g, o + k, none⟩ = some (.string sk))
        (first | with_reducible exact hSd | with_reducible exact hS3 | with_reducible exact hSa | apply hS4 | go_keep)
        (first
          | (go_at_call 63; refine (unhide HAk wr.drew).mono ?_; intro e w3 hacc; obtain ⟨apl, anm, abal, asalt, aad, ak, ac, aok, rfl, hb3, HF⟩ := hacc.one; have hS3 : w3.cell? ⟨S, 0, none⟩ = some (.int .u8 d0) ∧ w3.cell? ⟨S, 1, none⟩ = some (.int .u8 d1) ∧ w3.cell? ⟨S, 2, none⟩ = some (.int .u8 d2) ∧ w3.cell? ⟨S, 3, none⟩ = some (.int .u64 m) ∧ w3.cell? ⟨g, o + k, none⟩ = some (.string sk) := ⟨keepB hb3 hSw t0, keepB hb3 hSw t1, keepB hb3 hSw t2, keepB hb3 hSw t3, keepB hb3 hgw cg'⟩; have hS4 : ∀ o1, (w3.alloc o1).cell? ⟨S, 0, none⟩ = some (.int .u8 d0) ∧ (w3.alloc o1).cell? ⟨S, 1, none⟩ = some (.int .u8 d1) ∧ (w3.alloc o1).cell? ⟨S, 2, none⟩ = some (.int .u8 d2) ∧ (w3.alloc o1).cell? ⟨S, 3, none⟩ = some (.int .u64 m) ∧ (w3.alloc o1).cell? ⟨g, o + k, none⟩ = some (.string sk) := (fun o1 => ⟨keepB ((Below.refl _ _).alloc (Nat.le_refl _) o1) (Nat.lt_of_lt_of_le hSw hb3.size) hS3.1, keepB ((Below.refl _ _).alloc (Nat.le_refl _) o1) (Nat.lt_of_lt_of_le hSw hb3.size) hS3.2.1, keepB ((Below.refl _ _).alloc (Nat.le_refl _) o1) (Nat.lt_of_lt_of_le hSw hb3.size) hS3.2.2.1, keepB ((Below.refl _ _).alloc (Nat.le_refl _) o1) (Nat.lt_of_lt_of_le hSw hb3.size) hS3.2.2.2.1, keepB ((Below.refl _ _).alloc (Nat.le_refl _) o1) (Nat.lt_of_lt_of_le hgw hb3.size) hS3.2.2.2.2⟩); have HB3 := hide hb3; clear hb3 hacc)
          | (go_at_call 63; refine (unhide HAk (wr.alloc (Obj.cells #[Value.int IntKind.i64 0, Value.string { data := #[] }, Value.int IntKind.u64 0, Value.int IntKind.u64 0, Value.slice none 0 0] 130)).drew).mono ?_; intro e w3 hacc; obtain ⟨apl, anm, abal, asalt, aad, ak, ac, aok, rfl, hb3, HF⟩ := hacc.one; have hS3 : w3.cell? ⟨S, 0, none⟩ = some (.int .u8 d0) ∧ w3.cell? ⟨S, 1, none⟩ = some (.int .u8 d1) ∧ w3.cell? ⟨S, 2, none⟩ = some (.int .u8 d2) ∧ w3.cell? ⟨S, 3, none⟩ = some (.int .u64 m) ∧ w3.cell? ⟨g, o + k, none⟩ = some (.string sk) := ⟨keepB hb3 (by omega) hSa.1, keepB hb3 (by omega) hSa.2.1, keepB hb3 (by omega) hSa.2.2.1, keepB hb3 (by omega) hSa.2.2.2.1, keepB hb3 (by omega) hSa.2.2.2.2⟩; have hP3 := (hb3.block wr.heap.size (by omega)).trans hPa; have k0 : w3.cell? ⟨wr.heap.size, 0, none⟩ = some (.int .i64 0) := block_cell hP3; have f0 : w3.frozen? ⟨wr.heap.size, 0, none⟩ = false := block_free hP3; have k1 : w3.cell? ⟨wr.heap.size, 1, none⟩ = some (.string ⟨#[]⟩) := block_cell hP3; have f1 : w3.frozen? ⟨wr.heap.size, 1, none⟩ = false := block_free hP3; have k2 : w3.cell? ⟨wr.heap.size, 2, none⟩ = some (.int .u64 0) := block_cell hP3; have f2 : w3.frozen? ⟨wr.heap.size, 2, none⟩ = false := block_free hP3; have k3 : w3.cell? ⟨wr.heap.size, 3, none⟩ = some (.int .u64 0) := block_cell hP3; have f3 : w3.frozen? ⟨wr.heap.size, 3, none⟩ = false := block_free hP3; have k4 : w3.cell? ⟨wr.heap.size, 4, none⟩ = some (.slice none 0 0) := block_cell hP3; have f4 : w3.frozen? ⟨wr.heap.size, 4, none⟩ = false := block_free hP3; have hne1 : wr.heap.size ≠ S := (by omega); have hne2 : wr.heap.size ≠ g := (by omega); have HB3 := hide hb3; clear hb3 hacc))
      all_goals first
        | (have _t := hS4; generalize hW4 : w3.alloc (Obj.cells #[Value.int IntKind.i64 apl, Value.string anm, Value.int IntKind.u64 abal, Value.int IntKind.u64 asalt, Value.slice aad ak ac] 130) = W4; have hb3 : Below wr.heap.size wr w3 := (Below.refl _ _).drew.trans (unhide HB3); have hPb : W4.heap[w3.heap.size]? = some (.cells #[Value.int IntKind.i64 apl, Value.string anm, Value.int IntKind.u64 abal, Value.int IntKind.u64 asalt, Value.slice aad ak ac] 130 (0, 0)) := (by rw [← hW4]; exact heap_alloc_new w3 _); have HB4 : Hid (Below wr.heap.size wr W4) := (by rw [← hW4]; exact hb3.alloc hb3.size _); have HF4 : Hid (AccF h (dd, m) sk.data.toList wr W4 apl anm abal asalt aad ak ac aok) := ((unhide HF).to (Nat.le_refl _) (fun b _ hb => by rw [← hW4]; exact Below.heap_alloc _ _ _ hb)); obtain ⟨P, hP⟩ : ∃ P, P = w3.heap.size := ⟨_, rfl⟩; rw [← hP] at hPb ⊢; clear _t hW4 hb3 hP HF HB3 hS3 hS4 hSd hSa hza hPa hbA)
        | (have _t := k0; generalize hW4 : (((((w3.setCell ⟨wr.heap.size, 0, none⟩ (Value.int IntKind.i64 apl)).setCell ⟨wr.heap.size, 1, none⟩ (Value.string anm)).setCell ⟨wr.heap.size, 2, none⟩ (Value.int IntKind.u64 abal)).setCell ⟨wr.heap.size, 3, none⟩ (Value.int IntKind.u64 asalt)).setCell ⟨wr.heap.size, 4, none⟩ (Value.slice aad ak ac)) = W4; have hb3 : Below wr.heap.size wr w3 := hbA.trans ((unhide HB3).mono (by omega)); have hPb : W4.heap[wr.heap.size]? = some (.cells #[Value.int IntKind.i64 apl, Value.string anm, Value.int IntKind.u64 abal, Value.int IntKind.u64 asalt, Value.slice aad ak ac] 130 (0, 0)) := (by rw [← hW4]; exact heap_setCell_same _ _ 4 _ _ _ (heap_setCell_same _ _ 3 _ _ _ (heap_setCell_same _ _ 2 _ _ _ (heap_setCell_same _ _ 1 _ _ _ (heap_setCell_same _ _ 0 _ _ _ hP3))))); have HB4 : Hid (Below wr.heap.size wr W4) := (by rw [← hW4]; exact ((((hb3.setCell (Nat.le_refl _) _).setCell (Nat.le_refl _) _).setCell (Nat.le_refl _) _).setCell (Nat.le_refl _) _).setCell (Nat.le_refl _) _); have HF4 : Hid (AccF h (dd, m) sk.data.toList wr W4 apl anm abal asalt aad ak ac aok) := ((unhide HF).to (by omega) (fun b hb _ => by rw [← hW4]; have hb' : b ≠ wr.heap.size := (by omega); rw [Below.heap_setCell _ _ _ _ hb', Below.heap_setCell _ _ _ _ hb', Below.heap_setCell _ _ _ _ hb', Below.heap_setCell _ _ _ _ hb', Below.heap_setCell _ _ _ _ hb'])); obtain ⟨P, hP⟩ : ∃ P, P = wr.heap.size := ⟨_, rfl⟩; rw [← hP] at hPb ⊢; clear _t hW4 hb3 hP HF HB3 hS3 hSd hSa hza hPa hbA hP3 k0 k1 k2 k3 k4 f0 f1 f2 f3 f4 hne1 hne2)
      all_goals
        have p0 : W4.cell? ⟨P, 0, none⟩ = some (.int .i64 apl) := block_cell hPb
        have p1 : W4.cell? ⟨P, 1, none⟩ = some (.string anm) := block_cell hPb
        have p2 : W4.cell? ⟨P, 2, none⟩ = some (.int .u64 abal) := block_cell hPb
        have p3 : W4.cell? ⟨P, 3, none⟩ = some (.int .u64 asalt) := block_cell hPb
        have p4 : W4.cell? ⟨P, 4, none⟩ = some (.slice aad ak ac) := block_cell hPb
        have hz4 : wr.heap.size ≤ W4.heap.size := (unhide HB4).size
        have HBw4 : Hid (Below w.heap.size w W4) := hide (((unhide HBW).trans ((unhide HBr).mono (unhide HBW).size)).trans ((unhide HB4).mono (by have := (unhide HBW).size; omega)))
        clear hPb t0 t1 t2 t3 cg' hSw hgw
        cases aok with
        | false =>
          have HX := hide (unhide HX9k (by
            rcases unhide HF4 with ⟨h1, _⟩ | ⟨_, h2⟩
            · cases h1
            · exact h2))
          clear HF4 HB4 HR HBr
          go_wp2
          go_ret3
          exact ⟨⟨[], [], 9, rfl, unhide HX⟩, unhide HBw4⟩
        | true =>
          obtain ⟨hAh, ts, gT, hAo, hAl, rfl, rfl, rfl, rfl, rfl, rfl, hTo⟩ : accHead h sk.data.toList ∧ ∃ ts gT, accOk h (dd, m) sk.data.toList = some ts ∧ ts.length = h + 1 ∧ apl = (bAt sk.data.toList 1 : Int) ∧ anm = ⟨(accName sk.data.toList).toArray⟩ ∧ abal = accBal sk.data.toList ∧ asalt = accSalt sk.data.toList ∧ aad = some ⟨gT, 0, none⟩ ∧ ak = h + 1 ∧ W4.ownsRow wr.heap.size 9 1 (.slice (some ⟨gT, 0, none⟩) (h + 1) ac) (h + 1) (ts.map strV) := by
            rcases unhide HF4 with ⟨_, h2⟩ | ⟨h1, _⟩
            · exact h2
            · cases h1
          have HAcc := hide (And.intro hAh (And.intro hAo (And.intro hAl hTo)))
          have hown4 : W4.ownsRow W1.heap.size 130 5 (.slice va k vc) rows.length (rows.flatMap (rvals h)) := own_same (unhide HR).2.own (fun b hb => (unhide HB4).block b (own_lt (unhide HR).2.own hb))
          have HO4 := hide hown4
          have HRL := hide hrl
          clear hAh hAo hAl hTo HF4 hown4
          generalize hbp : (bAt sk.data.toList 1 : Int) = bp at *
          generalize hbb : accBal sk.data.toList = bb at *
          generalize hbs : accSalt sk.data.toList = bs at *
          generalize hbn : (⟨(accName sk.data.toList).toArray⟩ : ByteArray) = bn at *
          have HV := hide (show ([.int .i64 bp, .string bn, .int .u64 bb, .int .u64 bs, .slice (some ⟨gT, 0, none⟩) (h + 1) ac] : List Value) = rvals h (sk.data.toList, gT, ac) by unfold rvals; rw [← hbp, ← hbb, ← hbs, ← hbn])
          clear hbp hbb hbs hbn hrl
          go_wp2_with (at_builtin; refine wpList_append_lies _ rfl (.tmp 46) (.tmp 48) 162 rfl W1.heap.size 130 i0 _ 5 64 Tryz.underlying162 hi hz0 hz1 hz2 rfl (by decide) _ _ _ rfl ((unhide HO4).alloc _) ⟨W4.heap.size, 0, none⟩ 1 1 [.int .i64 bp, .string bn, .int .u64 bb, .int .u64 bs, .slice (some ⟨gT, 0, none⟩) (h + 1) ac] rfl rfl (World.news_of_block (cs := #[.int .i64 bp, .string bn, .int .u64 bb, .int .u64 bs, .slice (some ⟨gT, 0, none⟩) (h + 1) ac]) (t := 130) (fr := (0, 0)) (heap_alloc_new W4 _)) (by simp [Value.oneCell']) (by decide) (by have := unhide HRL; unfold maxLen; omega) (by have := unhide HRL; omega) (by simp; omega) (W4.heap.size + 1) (by simp) ?_)
          intro gA capA w5 hown5 hgrow5 hat5 hlt5
          rw [unhide HV] at hown5
          have hAll := (unhide HR).2.more hzr (unhide HB4) (unhide HAcc).1 (unhide HAcc).2.1 (unhide HAcc).2.2.1 (unhide HAcc).2.2.2 ((Below.refl _ _).alloc (Nat.le_refl _) _) hgrow5 hown5
          have hB5 : Below W1.heap.size W1 w5 := by
            have h4 : Below W1.heap.size W1 W4 := (unhide HBr).trans ((unhide HB4).mono hzr)
            have h5 := h4.alloc h4.size (Obj.cells #[Value.int IntKind.i64 bp, Value.string bn, Value.int IntKind.u64 bb, Value.int IntKind.u64 bs, Value.slice (some ⟨gT, 0, none⟩) (h + 1) ac] 130)
            refine ⟨hgrow5.os.trans h5.os, hgrow5.tape.trans h5.tape, hgrow5.output.trans h5.output, Nat.le_trans h5.size hgrow5.size, fun b hb => ?_⟩
            refine (hgrow5.block b (Nat.lt_of_lt_of_le hb h5.size) (fun e => ?_)).trans (h5.block b hb)
            have := ((unhide HO4).lt b e.symm).1
            omega
          have hfst : (rows ++ [(sk.data.toList, gT, ac)]).map Prod.fst = (Bs.map fun s => s.data.toList).take (k + 1) := by
            rw [List.map_append, (unhide HR).1, unhide HTk]
            rfl
          have HN1 := hide (And.intro hfst hAll)
          have HN2 := hide hB5
          clear hown5 hgrow5 hat5 hlt5 hAll hB5 hfst HV HO4 HAcc HR HBr HB4 HX9k HAk HTk HBw4
          go_wp2
          go_roundw
          case rel => exact ⟨k + 1, by omega, by go_num, _, HN1, HN2⟩
          case measure => simp [intOf]; omega
    · have hkn : k = n := by omega
      subst hkn
      have hfst : rows.map Prod.fst = Bs.map fun s => s.data.toList := by
        have := (unhide HR).1
        rwa [List.take_of_length_le (by rw [List.length_map, unhide HNN]; exact Nat.le_refl _)] at this
      have hver : ∀ l ∈ Bs.map fun s => s.data.toList, verOk r.data.toList l := fun l hl => by
        rw [← hfst] at hl
        obtain ⟨r', hr', rfl⟩ := List.mem_map.1 hl
        obtain ⟨h1, ts, h2, _⟩ := (unhide HR).2.txt r' hr'
        exact unhide HVer _ h1 ts h2
      have hano := (unhide HR).2.ano hh hfst
      have hDl : ∀ d ∈ (Bs.map fun s => s.data.toList).map (dataOf h (dd, m)), d.1 < 2 ^ h := fun d hd => by
        rw [← hfst, List.map_map] at hd
        obtain ⟨r', hr', rfl⟩ := List.mem_map.1 hd
        exact ((unhide HR).2.txt r' hr').1.2.2.1
      have HX3' := hide (unhide HX3 hver)
      have HX0' := hide (unhide HX0 hver)
      obtain ⟨b0, c0, eb, hc0, hcell⟩ := (unhide HR).2.cell
      rw [hrl] at eb
      cases eb
      have hnm : ∀ i, i < k → ∃ G, va = some ⟨G, 0, none⟩ ∧ wr.cell? ⟨G, i * 5 + 1, none⟩ = some (.string ⟨(((Bs.map fun s => s.data.toList).map accName).getD i []).toArray⟩) := fun i hi' => by
        obtain ⟨G, eG, hG⟩ := hcell i (by omega)
        refine ⟨G, eG, ?_⟩
        rw [hG 1 (by omega)]
        have e1 : ((Bs.map fun s => s.data.toList).map accName).getD i [] = accName (rows[i]'(by omega)).1 := by
          rw [← hfst, List.map_map, List.getD_eq_getElem?_getD, List.getElem?_map, List.getElem?_eq_getElem (by omega)]
          rfl
        rw [e1]
        rfl
      have hnl : ((Bs.map fun s => s.data.toList).map accName).length = k := by rw [List.length_map, List.length_map, unhide HNN]
      have hDlen : ((Bs.map fun s => s.data.toList).map (dataOf h (dd, m))).length ≤ 1048576 := by rw [List.length_map, List.length_map, unhide HNN]; exact hn
      have HBw : Hid (Below w.heap.size w wr) := hide ((unhide HBW).trans ((unhide HBr).mono (unhide HBW).size))
      generalize (Bs.map fun s => s.data.toList).map accName = nms at *
      generalize (Bs.map fun s => s.data.toList).map (dataOf h (dd, m)) = D at *
      have HNM := hide hnm
      have HNL := hide hnl
      have HANO := hide fun (lv pl d : Nat) (h1 : lv ≤ h) (h2 : pl < 256) => another_any (w := wr.drewN d) ⟨hano.sh, hano.ne, hano.lt⟩ lv pl hh h1 h2 hDlen
      have HDl := hide hDl
      clear HX3 HX0 HX9 HVer HR HBr HBW hfst hver hano hDl hcell hnm hnl hDlen hrl hlt s0 s1 s2 s3 HA HTW
      go_wp2_with fail
      go_loopw [14, 15] (fun i _ wr' => ∃ a d : Nat, a ≤ k ∧ i = .int .i64 a ∧ wr' = wr.drewN d ∧ Hid ((nms.take a).Nodup)) (fun i _ _ => k - (intOf i).toNat)
      case atStart => exact ⟨0, 0, Nat.zero_le _, rfl, rfl, hide (by simp)⟩
      case round =>
        obtain ⟨a, d, ha, rfl, rfl, HND⟩ := hrel
        by_cases hak : a < k
        · obtain ⟨G, eG, ca⟩ := unhide HNM a hak
          cases eG
          have ia : (a : Int) < (k : Int) := by omega
          have HNa := hide fun b (hb : b < a) => (show ∃ G', some ⟨G, 0, none⟩ = some (⟨G', 0, none⟩ : Addr) ∧ wr.cell? ⟨G', b * 5 + 1, none⟩ = some (.string ⟨(nms.getD b []).toArray⟩) from unhide HNM b (by omega))
          have HNx := hide fun (hn : ∀ c, c < a → nms.getD c [] ≠ nms.getD a []) => nodup_take (by rw [unhide HNL]; exact hak) (unhide HND) hn
          have HN2 := hide fun b (hb : b < a) (e : nms.getD b [] = nms.getD a []) => unhide HX3' (nodup_two (by rw [unhide HNL]; exact hak) hb e)
          generalize hna : nms.getD a [] = na at *
          clear HND
          go_wp2_with fail
          go_loopw [15] (fun j wr' => ∃ b d : Nat, b ≤ a ∧ j = .int .i64 b ∧ wr' = wr.drewN d ∧ Hid (∀ c, c < b → nms.getD c [] ≠ na)) (fun j _ => a - (intOf j).toNat)
          case atStart => exact ⟨0, d, Nat.zero_le _, rfl, rfl, hide (fun c hc => by omega)⟩
          case round =>
            obtain ⟨b, d', hb, rfl, rfl, HC⟩ := hrel
            by_cases hba : b < a
            · obtain ⟨G', eG', cb⟩ := unhide HNa b hba
              cases eG'
              have ib : (b : Int) < (a : Int) := by omega
              have ibk : (b : Int) < (k : Int) := by omega
              have hN2b := unhide HN2 b hba
              generalize hnb : nms.getD b [] = nb at *
              by_cases he : nb = na
              · subst he
                have HX := hide (hN2b rfl)
                clear hN2b HC HNx HN2 HNa
                go_wp2_with fail
                go_quiet (fail)
                go_wp2
                go_ret3
                exact ⟨⟨[], [], 3, rfl, unhide HX⟩, below_drewN (below_drewN (unhide HBw) _) _⟩
              · have hne : (na == nb) = false := by simpa using fun e => he e.symm
                have HC' := hide (show ∀ c, c < b + 1 → nms.getD c [] ≠ na from fun c hc => by
                  by_cases e : c = b
                  · subst e; rw [hnb]; exact he
                  · exact unhide HC c (by omega))
                clear hN2b HC HN2 he
                go_wp2_with fail
                go_quiet (fail)
                go_wp2
                go_roundw
                case rel => exact ⟨b + 1, d' + nq, by omega, by go_num, rfl, HC'⟩
                case measure => simp [intOf]; omega
            · have hbe : b = a := by omega
              subst hbe
              have HNn := hide (unhide HNx (unhide HC))
              clear HC HNx HN2 HNa
              go_wp2
              go_roundw
              case rel => exact ⟨b + 1, d', by omega, by go_num, rfl, HNn⟩
              case measure => simp [intOf]; omega
        · have hae : a = k := by omega
          subst hae
          have hnd : nms.Nodup := by
            have := unhide HND
            rwa [List.take_of_length_le (by rw [unhide HNL]; exact Nat.le_refl _)] at this
          have HX0'' := hide (unhide HX0' hnd)
          clear HND hnd HX3' HX0' HNM
          go_wp2_with fail
          go_loopw [16, 17, 18, 19] (fun lv _ _ _ wr' => ∃ t d : Nat, t ≤ h + 1 ∧ lv = .int .i64 ((t : Int) - 1) ∧ wr' = wr.drewN d ∧ Hid (∀ a b, a ≤ h → b < 2 ^ (h - a) → t ≤ a → firstTwo (textsAt a b D) = none)) (fun lv _ _ _ _ => (intOf lv + 1).toNat)
          case atStart => exact ⟨h + 1, d, Nat.le_refl _, by simp, rfl, hide (fun a b h1 h2 h3 => by omega)⟩
          case round =>
            obtain ⟨t, d', ht, rfl, rfl, HL⟩ := hrel
            by_cases ht0 : 0 < t
            · obtain ⟨lv, rfl⟩ : ∃ lv, t = lv + 1 := ⟨t - 1, by omega⟩
              have elv : ((lv + 1 : Nat) : Int) - 1 = (lv : Int) := by omega
              rw [elv]
              have il : (0 : Int) ≤ (lv : Int) := by omega
              have HL0 := hide (show NoneTo h D lv 0 from fun a b h1 h2 h3 => unhide HL a b h1 h2 (by omega))
              clear HL elv
              go_wp2_with fail
              go_loopw [17, 18, 19] (fun pl _ _ wr' => ∃ p d : Nat, p ≤ 64 ∧ pl = .int .i64 p ∧ wr' = wr.drewN d ∧ Hid (NoneTo h D lv p)) (fun pl _ _ _ => 64 - (intOf pl).toNat)
              case atStart => exact ⟨0, d', by omega, rfl, rfl, HL0⟩
              case round =>
                obtain ⟨p, d2, hp, rfl, rfl, HNp⟩ := hrel
                by_cases hp64 : p < 64
                · have HAn := hide (unhide HANO lv p d2 (by omega) (by omega))
                  have ip : (p : Int) < 64 := by omega
                  go_wp2_with fail
                  refine (unhide HAn).mono ?_
                  rintro e w2 ⟨⟨x, y, rfl, hm⟩, d3, rfl⟩
                  clear HAn
                  cases hf : firstTwo (textsAt lv p D) with
                  | some q =>
                    rw [hf] at hm
                    obtain ⟨rfl, rfl⟩ := hm
                    have hxy := (firstTwo_some hf).1
                    have hpl : p < 2 ^ (h - lv) := Classical.byContradiction fun hc => by
                      rw [textsAt_nil (unhide HDl) (by omega) (by omega)] at hf
                      cases hf
                    have HX := hide (unhide HX0'' q.1 q.2 (.inl ⟨lv, p, by omega, hpl, hf, (unhide HNp).before hpl⟩))
                    generalize q.1 = x at *
                    generalize q.2 = y at *
                    have hxy2 : (x == y) = false := by simpa using hxy
                    clear hf hxy hpl HNp HL0
                    unfold strV
                    go_wp2
                    go_ret3
                    exact ⟨⟨x, y, 0, rfl, unhide HX⟩, below_drewN (unhide HBw) _⟩
                  | none =>
                    rw [hf] at hm
                    have hm' : x = y := hm
                    subst hm'
                    have HN' := hide (show NoneTo h D lv (p + 1) from fun a b h1 h2 h3 => by
                      by_cases e : a = lv ∧ b = p
                      · rw [e.1, e.2]; exact hf
                      · exact unhide HNp a b h1 h2 (by omega))
                    clear hf hm HNp HL0
                    unfold strV
                    go_wp2
                    go_roundw
                    case rel => exact ⟨p + 1, d2 + d3, by omega, by go_num, by simp, HN'⟩
                    case measure => simp [intOf]; omega
                · have hpe : p = 64 := by omega
                  subst hpe
                  have HL1 := hide (show ∀ a b, a ≤ h → b < 2 ^ (h - a) → lv ≤ a → firstTwo (textsAt a b D) = none from fun a b h1 h2 h3 => unhide HNp a b h1 h2 (by
                    have h64 : 2 ^ (h - a) ≤ 2 ^ 6 := Nat.pow_le_pow_right (by omega) (by omega)
                    omega))
                  clear HNp HL0
                  go_wp2
                  go_roundw
                  case rel => exact ⟨lv, d2, by omega, by go_num, rfl, HL1⟩
                  case measure => simp [intOf]
            · have ht1 : t = 0 := by omega
              subst ht1
              have HX := hide (unhide HX0'' [] [] (.inr ⟨rfl, rfl, fun a b h1 h2 _ => unhide HL a b h1 h2 (Nat.zero_le _)⟩))
              clear HL
              simp only [Int.natCast_zero, Int.zero_sub]
              go_wp2
              go_ret3
              exact ⟨⟨[], [], 0, rfl, unhide HX⟩, below_drewN (unhide HBw) _⟩

theorem refext_any (r : ByteArray) (Bs : List ByteArray) (la : Option Addr) (lc : Nat) (w : World) (hr : r.size ≤ 140737488351232) (ht : TextsIn w la Bs) (hsz : ∀ s ∈ Bs, s.size ≤ 140737488351232) (hn : Bs.length ≤ 1048576) :
    Calls Tryz.prog 65 #[.string r, .slice la Bs.length lc] w (RxP r.data.toList (Bs.map fun s => s.data.toList) w) := by
  by_cases hb : repOk r.data.toList
  · exact refext_ok r Bs la lc w hb ht hsz hn
  · exact refext_norep r _ la _ lc w hr hb

end Go.Proofs.YtbjobbkgelipmaaGreat
