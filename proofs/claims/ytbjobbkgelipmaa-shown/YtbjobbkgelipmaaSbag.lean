/-
  The walk of tithe's readReport: a head that does not fit.
-/
import Derived.Deep.DeepCutAuto
import Derived.Deep.RegionHeld3
import Derived.Test.YtbjobbkgelipmaaSbae
import Derived.Test.YtbjobbkgelipmaaSbaa
import Derived.Test.YtbjobbkgelipmaaSbab
namespace Go.Proofs.Ytbjobbkgelipmaa
open Go.RowKit

def ownRepV (h d0 d1 d2 n : Int) : Value := .agg #[.int .i64 h, .int .u8 d0, .int .u8 d1, .int .u8 d2, .int .u64 n]

set_option maxHeartbeats 400000 in
set_option maxRecDepth 100000 in
theorem rdrep_bad (b len cap : Nat) (l : List UInt8) (w : World) (hl : l.length = len) (hb : b < w.heap.size) (hB : BytesAt w b 0 l) (hbad : ¬ repHead l) :
    Calls Try.prog 34 #[.slice (some ⟨b, 0, none⟩) len cap] w fun e w' => e = .returned (.tuple #[ownRepV 0 0 0 0 0, .bool false]) ∧ Below w.heap.size w w' := by
  have hne : b ≠ w.heap.size := by omega
  by_cases h12 : len = 12
  · subst h12
    have h6 : 6 < (l.getD 0 0).toNat := Nat.lt_of_not_le fun h => hbad ⟨hl, h⟩
    have c0 : w.cell? ⟨b, 0, none⟩ = some (.int .u8 ((l.getD 0 0).toNat : Int)) := by
      have := hB 0 (by omega)
      rw [this, List.getD_eq_getElem?_getD, List.getElem?_eq_getElem (by omega)]; rfl
    generalize hd : ((l.getD 0 0).toNat : Int) = d at c0
    have hd6 : (6 : Int) < d := by omega
    clear h6 hd hB hbad hl
    go_enter Try.func34, Try.ntmps34
    go_wp2
    refine bodyPost_ret (v := .tuple #[ownRepV 0 0 0 0 0, .bool false]) ?_ rfl ⟨rfl, ?_⟩
    · simp [results, Try.results34, go_sem, ownRepV]
    · repeat first
        | exact Below.refl _ _
        | refine Below.setCell ?_ (by simp; try omega) _
        | refine Below.alloc ?_ (by simp; try omega) _
  · have hl' : ((len : Int) != 12) = true := by simp; omega
    clear hB hbad hl
    go_enter Try.func34, Try.ntmps34
    go_wp2
    refine bodyPost_ret (v := .tuple #[ownRepV 0 0 0 0 0, .bool false]) ?_ rfl ⟨rfl, ?_⟩
    · simp [results, Try.results34, go_sem, ownRepV]
    · repeat first
        | exact Below.refl _ _
        | refine Below.setCell ?_ (by simp; try omega) _
        | refine Below.alloc ?_ (by simp; try omega) _

end Go.Proofs.Ytbjobbkgelipmaa

/-
  The walks of tithe's padText, padSide, writeReport.
-/
namespace Go.Proofs.Ytbjobbkgelipmaa
open Go.RowKit

set_option maxRecDepth 100000 in
set_option maxHeartbeats 400000 in
theorem padtext_any (p : Nat) (w : World) (hp : p < 256) :
    Calls Try.prog 73 #[.int .i64 (p : Int)] w fun e w' => (∃ v', e = .returned v' ∧ w'.ownsRow w.heap.size 5 1 v' 2 (byteVals [2, UInt8.ofNat p])) ∧ Below w.heap.size w w' := by
  have hw : IntKind.u8.wrap (p : Int) = (p : Int) := by rw [IntKind.wrap_u8]; omega
  have HO : Hid ((w.alloc (Obj.cells #[Value.int IntKind.u8 2, Value.int IntKind.u8 (p : Int)] 5)).ownsRow w.heap.size 5 1 (.slice (some ⟨w.heap.size, 0, none⟩) 2 2) 2 (byteVals [2, UInt8.ofNat p])) := by
    refine ⟨rfl, .inr ⟨w.heap.size, 2, #[Value.int IntKind.u8 2, Value.int IntKind.u8 (p : Int)], rfl, Nat.le_refl _, heap_alloc_new w _, Nat.le_refl _, by unfold maxLen; omega, rfl, ?_⟩⟩
    simp [byteVals]
    omega
  go_enter Try.func73, Try.ntmps73
  go_wp2
  go_ret
  exact ⟨⟨_, rfl, unhide HO⟩, (Below.refl _ _).alloc (Nat.le_refl _) _⟩

set_option maxRecDepth 100000 in
set_option maxHeartbeats 400000 in
theorem padside_any (p : Nat) (w : World) (hp : p < 256) :
    Calls Try.prog 57 #[.int .i64 (p : Int)] w fun e w' => e = .returned (sideV (dg [2, UInt8.ofNat p]) 0) ∧ Below w.heap.size w w' := by
  have HT := fun w => hide (padtext_any p w hp)
  obtain ⟨T, hT⟩ : ∃ T, [2, UInt8.ofNat p] = T := ⟨_, rfl⟩
  rw [hT] at HT ⊢
  have hlen : T.length = 2 := by rw [← hT]; rfl
  obtain ⟨d0, d1, d2, hD⟩ : ∃ d0 d1 d2 : Int, digV (dg T) = .agg #[.int .u8 d0, .int .u8 d1, .int .u8 d2] ∧ sideV (dg T) 0 = .agg #[.int .u8 d0, .int .u8 d1, .int .u8 d2, .int .u64 0] := ⟨_, _, _, rfl, rfl⟩
  rw [hD.2]
  have HD := hide hD.1
  have HL := hide hlen
  clear hD hT hlen hp
  go_enter Try.func57, Try.ntmps57
  go_wp2_with fail
  have kk := res4_new w (Value.int IntKind.u8 0) (Value.int IntKind.u8 0) (Value.int IntKind.u8 0) (Value.int IntKind.u64 0) 88
  have hA0 : Below w.heap.size w (w.alloc (Obj.cells #[Value.int IntKind.u8 0, Value.int IntKind.u8 0, Value.int IntKind.u8 0, Value.int IntKind.u64 0] 88)) := (Below.refl _ _).alloc (Nat.le_refl _) _
  have z0 : w.heap.size < (w.alloc (Obj.cells #[Value.int IntKind.u8 0, Value.int IntKind.u8 0, Value.int IntKind.u8 0, Value.int IntKind.u64 0] 88)).heap.size := by simp
  generalize (w.alloc (Obj.cells #[Value.int IntKind.u8 0, Value.int IntKind.u8 0, Value.int IntKind.u8 0, Value.int IntKind.u64 0] 88)) = W0 at *
  refine (unhide (HT _)).mono ?_
  rintro e w3 ⟨⟨v3, rfl, hown3⟩, hb3⟩
  have k3 := Res4.below kk z0 hb3
  have z3 := hb3.size
  have HS := hide (sum_own hown3 (unhide HL) (by omega) (by unfold maxLen; omega))
  rw [unhide HD] at HS
  have HA3 := hide (hA0.trans (hb3.mono (by omega)))
  clear hown3 hb3 kk hA0 HT
  go_wp2_with fail
  refine (unhide HS).mono ?_
  rintro e w4 ⟨rfl, hb4⟩
  have k4 := Res4.below k3 (by omega) hb4
  have HA4 := hide ((unhide HA3).trans (hb4.mono (by omega)))
  obtain ⟨q0, q1, q2, q3, g0, g1, g2, g3, j0, j1, j2, j3⟩ := k4.cells
  clear hb4 HA3 k3 k4 HS
  go_wp2
  refine bodyPost_ret (v := .agg #[.int .u8 d0, .int .u8 d1, .int .u8 d2, .int .u64 0]) ?_ rfl ⟨rfl, ?_⟩
  · simp [results, Try.results57, go_sem, g0, g1, g2, g3]
  · refine Below.setCell (Below.setCell (Below.setCell (Below.setCell (unhide HA4) (by simp; try omega) _) (by simp; try omega) _) (by simp; try omega) _) (by simp; try omega) _

set_option maxRecDepth 100000 in
set_option maxHeartbeats 400000 in
theorem wrreport_any (h : Nat) (root : Dg × Int) (w : World) (hh : h ≤ 6) (h0 : 0 ≤ root.2) (h1 : root.2 < 18446744073709551616) :
    Calls Try.prog 32 #[ownRepV (h : Int) (root.1.1.toNat : Int) (root.1.2.1.toNat : Int) (root.1.2.2.toNat : Int) root.2] w fun e w' => (∃ v', e = .returned v' ∧ w'.ownsRow w.heap.size 5 1 v' 12 (byteVals (UInt8.ofNat h :: sideB root))) ∧ Below w.heap.size w w' := by
  obtain ⟨i0, hi, hz0, hz1, hz2⟩ := info_parts Try.infoByte
  have HC1 := fun (v : Value) (ys : List Value) (w' : World) (ho : w'.ownsRow w.heap.size 5 1 v 1 ys) (hb : w.heap.size ≤ w'.heap.size) => hide (appside_any w.heap.size 1 v ys root.1 root.2 w' h0 h1 ho hb (by omega))
  have hw8 : IntKind.u8.wrap (h : Int) = (h : Int) := by rw [IntKind.wrap_u8]; omega
  have HE : Hid (byteVals (UInt8.ofNat h :: sideB root) = ([] ++ [Value.int .u8 (h : Int)]) ++ byteVals (sideB (root.1, root.2))) := by
    have e : ((UInt8.ofNat h).toNat : Int) = (h : Int) := by rw [UInt8.toNat_ofNat_of_lt' (by show h < 256; omega)]
    refine hide ?_; simp only [byteVals, List.map_cons, e]; rfl
  generalize byteVals (UInt8.ofNat h :: sideB root) = ALL at *
  generalize byteVals (sideB (root.1, root.2)) = Y at *
  unfold sideV at HC1
  unfold ownRepV
  generalize (root.1.1.toNat : Int) = a0 at *
  generalize (root.1.2.1.toNat : Int) = a1 at *
  generalize (root.1.2.2.toNat : Int) = a2 at *
  generalize root.2 = x at *
  clear h0 h1
  go_enter Try.func32, Try.ntmps32
  go_wp2_with (at_make; refine wpList_make_own _ rfl _ _ 43 rfl w.heap.size 5 i0 (.int .u8 0) 1 Try.underlying43 hi hz0 hz1 _ _ _ 12 rfl rfl rfl (by rw [hz2]; omega) (by unfold maxLen; omega) (by simp) ?_)
  intro w1 hown1 hgrow1
  have k0 := heap_alloc_new w (Obj.cells #[Value.int IntKind.i64 (h : Int), Value.int IntKind.u8 a0, Value.int IntKind.u8 a1, Value.int IntKind.u8 a2, Value.int IntKind.u64 x] 90)
  have m1 := (hgrow1.block w.heap.size (by simp) (fun e => by cases e)).trans k0
  have hB1 : Below w.heap.size w w1 := ((Below.refl _ _).alloc (Nat.le_refl _) _).grown hgrow1 (by simp) (fun b hb => by cases hb)
  have hz1' := hB1.size
  have HB := hide hB1
  have HO := hide hown1
  have M1 := hide m1
  have c0 : w1.cell? ⟨w.heap.size, 0, none⟩ = some (.int .i64 (h : Int)) := block_cell m1
  clear hgrow1 hown1 hB1 k0 m1
  go_wp2_with (at_builtin; refine wpList_append_own _ rfl (.tmp 5) (.tmp 9) 43 rfl w.heap.size 5 i0 (.int .u8 0) 1 1 Try.underlying43 hi hz0 hz1 hz2 rfl (by decide) _ _ _ rfl ((unhide HO).alloc _) ⟨w1.heap.size, 0, none⟩ 1 1 [.int .u8 (h : Int)] rfl rfl ?c1 ?c2 ?c3 ?c4 ?c5 ?_)
  case c1 =>
    intro j u hu
    match j, hu with
    | 0, hu => simp at hu; subst hu; simp [addr_add]
  case c2 => intro u hu; simp at hu; subst hu; rfl
  case c3 => unfold maxLen; omega
  case c4 => omega
  case c5 => simp; omega
  intro v' w2 hown2 hgrow2 _
  have hk2 : KeepT w1 w2 := ((KeepT.refl _).alloc _).grown ((unhide HO).alloc _) hgrow2
  have m2 := hk2 _ _ _ _ (unhide M1) (by decide)
  have hB2 : Below w.heap.size w w2 := ((unhide HB).alloc hz1' _).grown hgrow2 (by simp; omega) (fun b hb => ((unhide HO).lt b hb).1)
  have HB2 := hide hB2
  have HR := hide (HC1 v' _ w2 (by simpa using hown2) hB2.size)
  have q1 : w2.cell? ⟨w.heap.size, 1, none⟩ = some (.int .u8 a0) := block_cell m2
  have q2 : w2.cell? ⟨w.heap.size, 2, none⟩ = some (.int .u8 a1) := block_cell m2
  have q3 : w2.cell? ⟨w.heap.size, 3, none⟩ = some (.int .u8 a2) := block_cell m2
  have q4 : w2.cell? ⟨w.heap.size, 4, none⟩ = some (.int .u64 x) := block_cell m2
  clear hown2 hgrow2 hk2 m2 hB2 HB HO M1 HC1 c0
  go_wp2_with fail
  refine (unhide (unhide HR)).mono ?_
  rintro e w5 ⟨⟨v5, rfl, hown5⟩, hb5, _⟩
  have HF := hide (And.intro hown5 ((unhide HB2).trans hb5))
  clear hown5 hb5 HR HB2 q1 q2 q3 q4
  go_wp2
  go_ret
  refine ⟨⟨_, rfl, ?_⟩, (unhide HF).2⟩
  rw [unhide HE]
  exact (unhide HF).1

end Go.Proofs.Ytbjobbkgelipmaa

/-
  The walks of tithe's lowestLevel and levelAbove.
-/
namespace Go.Proofs.Ytbjobbkgelipmaa
open Go.RowKit

/-- A level of a tree. -/
def levelT (ls : List LeafD) (k n : Nat) : List (Dg × Int) := (List.range n).map (sideT ls k)
theorem levelT_len (ls : List LeafD) (k n : Nat) : (levelT ls k n).length = n := by simp [levelT]
theorem levelT_get (ls : List LeafD) (k n i : Nat) (h : i < (levelT ls k n).length) : (levelT ls k n)[i] = sideT ls k i := by simp [levelT]
theorem levelT_snoc (ls : List LeafD) (k n : Nat) : levelT ls k (n + 1) = levelT ls k n ++ [sideT ls k n] := by simp [levelT, List.range_succ]

set_option maxHeartbeats 1000000 in
set_option maxRecDepth 100000 in
theorem lowest_any (b n P : Nat) (ls : List LeafD) (w : World) (cap : Nat) (hn : ls.length = n) (hn64 : n ≤ 64) (hP : P ≤ 64) (hL : LeavesAt w b 0 ls) :
    Calls Try.prog 44 #[.slice (some ⟨b, 0, none⟩) n cap, .int .i64 (P : Int)] w fun e w' => e = .returned (.slice (some ⟨w.heap.size, 0, none⟩) P P) ∧ w.heap.size < w'.heap.size ∧ SidesAt w' w.heap.size (levelT ls 0 P) ∧ Below w.heap.size w w' := by
  obtain ⟨i0, hi, hz0, hz1, hz2⟩ := info_parts Try.infoSide
  have HL := hide hL
  have HN := hide hn
  have hb := hL.lt
  clear hL hn
  go_enter Try.func44, Try.ntmps44
  go_wp2_with (at_make; refine wpList_make_full _ rfl _ _ 77 rfl w.heap.size 88 i0 _ 4 Try.underlying77 hi hz0 hz1 _ _ _ _ P rfl rfl rfl rfl (by rw [hz2]; omega) (by unfold maxLen; omega) (Nat.le_refl _) ?_)
  intro w1 hown1 hgrow1
  have hB1 : Below w.heap.size w w1 := (Below.refl _ _).grown hgrow1 (Nat.le_refl _) (fun b hb => by cases hb)
  have hR1 := room_new hown1
  have hz1' : w.heap.size < w1.heap.size := (hown1.lt w.heap.size rfl).2
  have HS := hide (And.intro hB1 hR1)
  clear hB1 hR1 hown1 hgrow1
  go_wp2_with fail
  go_loopw [11, 6] (fun i _ wr => ∃ k : Nat, k ≤ P ∧ i = .int .i64 k ∧ Room wr w.heap.size P (levelT ls 0 k) ∧ w.heap.size < wr.heap.size ∧ Below w.heap.size w wr) (fun i _ _ => P - (intOf i).toNat)
  case atStart => exact ⟨0, Nat.zero_le _, rfl, (unhide HS).2, hz1', (unhide HS).1⟩
  case round =>
    obtain ⟨k, hk, rfl, hR, hz, hbel⟩ := hrel
    have HR := hide (And.intro hR hbel)
    clear hR hbel HS
    by_cases hk' : k < P
    · obtain ⟨⟨⟨s0, s1, s2⟩, x⟩, hx⟩ : ∃ y, sideT ls 0 k = y := ⟨_, rfl⟩
      have HX := hide hx
      by_cases hkn : k < n
      · obtain ⟨c0, c1, c2⟩ := ((unhide HL).below (unhide HR).2 hb).cells k (by rw [unhide HN]; exact hkn)
        have hok := (unhide HL).ok _ (List.getElem_mem (by rw [unhide HN]; exact hkn : k < ls.length))
        have hsd : sideT ls 0 k = (dg (0 :: leafB (ls[k]'(by rw [unhide HN]; exact hkn)).nm.data.toList (ls[k]'(by rw [unhide HN]; exact hkn)).bal (ls[k]'(by rw [unhide HN]; exact hkn)).salt), (ls[k]'(by rw [unhide HN]; exact hkn)).bal) := by
          unfold sideT
          rw [List.getElem?_eq_getElem (by rw [unhide HN]; exact hkn)]
        generalize (ls[k]'(by rw [unhide HN]; exact hkn)) = y at *
        have hC := fun w => leafside_any y.nm y.bal y.salt w hok.1 hok.2.1 hok.2.2.1 hok.2.2.2.1 hok.2.2.2.2
        rw [hx] at hsd
        rw [Nat.zero_add] at c0 c1 c2
        have e1 : dg (0 :: leafB y.nm.data.toList y.bal y.salt) = (s0, s1, s2) := (congrArg Prod.fst hsd).symm
        have e2 : y.bal = x := (congrArg Prod.snd hsd).symm
        rw [e1, e2] at hC
        rw [e2] at c1
        obtain ⟨nm, bal, salt⟩ := y
        simp only at c0 c1 c2 hC
        unfold leafV sideV at hC
        have HC := fun w => hide (hC w)
        clear hok hsd hC hx e1 e2
        simp only at HC
        go_wp2_with fail
        refine (unhide (HC _)).mono ?_
        rintro e w2 ⟨rfl, hb2⟩
        have hR2 := (unhide HR).1.below hb2 hz
        have hB2 := (unhide HR).2.trans (hb2.mono (by omega))
        have hz2' : w.heap.size < w2.heap.size := by have := hb2.size; omega
        have HR3 := hide (And.intro (hR2.set (levelT_len ls 0 k) hk' s0 s1 s2 x) hB2)
        obtain ⟨r0, g0⟩ := Option.isSome_iff_exists.1 (hR2.1 (k * 4) (by omega)).1
        obtain ⟨r1, g1⟩ := Option.isSome_iff_exists.1 (hR2.1 (k * 4 + 1) (by omega)).1
        obtain ⟨r2, g2⟩ := Option.isSome_iff_exists.1 (hR2.1 (k * 4 + 2) (by omega)).1
        obtain ⟨r3, g3⟩ := Option.isSome_iff_exists.1 (hR2.1 (k * 4 + 3) (by omega)).1
        have f0 := (hR2.1 (k * 4) (by omega)).2
        have f1 := (hR2.1 (k * 4 + 1) (by omega)).2
        have f2 := (hR2.1 (k * 4 + 2) (by omega)).2
        have f3 := (hR2.1 (k * 4 + 3) (by omega)).2
        clear hR2 hB2 hb2 HC HR c0 c1 c2
        generalize (s0.toNat : Int) = t0 at *
        generalize (s1.toNat : Int) = t1 at *
        generalize (s2.toNat : Int) = t2 at *
        go_wp2
        refine ⟨⟨k + 1, by omega, by go_num, ?_, by simpa using hz2', ((((unhide HR3).2.setCell (by simp) _).setCell (by simp) _).setCell (by simp) _).setCell (by simp) _⟩, by simp [intOf]; omega⟩
        rw [levelT_snoc, unhide HX]
        exact (unhide HR3).1
      · have hsd : sideT ls 0 k = (dg [2, UInt8.ofNat k], 0) := by
          unfold sideT
          rw [List.getElem?_eq_none (by rw [unhide HN]; omega)]
        have hC := fun w => padside_any k w (by omega)
        rw [hx] at hsd
        have e1 : dg [2, UInt8.ofNat k] = (s0, s1, s2) := (congrArg Prod.fst hsd).symm
        have e2 : (0 : Int) = x := (congrArg Prod.snd hsd).symm
        rw [e1, e2] at hC
        unfold sideV at hC
        have HC := fun w => hide (hC w)
        clear hsd hC hx e1 e2
        simp only at HC
        go_wp2_with fail
        refine (unhide (HC _)).mono ?_
        rintro e w2 ⟨rfl, hb2⟩
        have hR2 := (unhide HR).1.below hb2 hz
        have hB2 := (unhide HR).2.trans (hb2.mono (by omega))
        have hz2' : w.heap.size < w2.heap.size := by have := hb2.size; omega
        have HR3 := hide (And.intro (hR2.set (levelT_len ls 0 k) hk' s0 s1 s2 x) hB2)
        obtain ⟨r0, g0⟩ := Option.isSome_iff_exists.1 (hR2.1 (k * 4) (by omega)).1
        obtain ⟨r1, g1⟩ := Option.isSome_iff_exists.1 (hR2.1 (k * 4 + 1) (by omega)).1
        obtain ⟨r2, g2⟩ := Option.isSome_iff_exists.1 (hR2.1 (k * 4 + 2) (by omega)).1
        obtain ⟨r3, g3⟩ := Option.isSome_iff_exists.1 (hR2.1 (k * 4 + 3) (by omega)).1
        have f0 := (hR2.1 (k * 4) (by omega)).2
        have f1 := (hR2.1 (k * 4 + 1) (by omega)).2
        have f2 := (hR2.1 (k * 4 + 2) (by omega)).2
        have f3 := (hR2.1 (k * 4 + 3) (by omega)).2
        clear hR2 hB2 hb2 HC HR
        generalize (s0.toNat : Int) = t0 at *
        generalize (s1.toNat : Int) = t1 at *
        generalize (s2.toNat : Int) = t2 at *
        go_wp2
        refine ⟨⟨k + 1, by omega, by go_num, ?_, by simpa using hz2', ((((unhide HR3).2.setCell (by simp) _).setCell (by simp) _).setCell (by simp) _).setCell (by simp) _⟩, by simp [intOf]; omega⟩
        rw [levelT_snoc, unhide HX]
        exact (unhide HR3).1
    · have hkk : k = P := by omega
      subst hkk
      go_wp2
      go_ret
      exact ⟨rfl, hz, (unhide HR).1.2, (unhide HR).2⟩

/-- The one above two. -/
def nodeS (y z : Dg × Int) : Dg × Int := (dg (1 :: (sideB y ++ sideB z)), y.2 + z.2)
def aboveT (ys : List (Dg × Int)) (m : Nat) : List (Dg × Int) := (List.range m).map fun i => nodeS (ys.getD (2 * i) ((0, 0, 0), 0)) (ys.getD (2 * i + 1) ((0, 0, 0), 0))
theorem aboveT_len (ys : List (Dg × Int)) (m : Nat) : (aboveT ys m).length = m := by simp [aboveT]
theorem aboveT_snoc (ys : List (Dg × Int)) (m : Nat) : aboveT ys (m + 1) = aboveT ys m ++ [nodeS (ys.getD (2 * m) ((0, 0, 0), 0)) (ys.getD (2 * m + 1) ((0, 0, 0), 0))] := by simp [aboveT, List.range_succ]

/-- Eight cells that are read. -/
abbrev S8 (b o o' : Nat) (e0 e1 e2 x f0 f1 f2 z : Int) (w' : World) : Prop :=
  (w'.cell? ⟨b, o, none⟩ = some (.int .u8 e0) ∧ w'.cell? ⟨b, o + 1, none⟩ = some (.int .u8 e1) ∧ w'.cell? ⟨b, o + 2, none⟩ = some (.int .u8 e2) ∧ w'.cell? ⟨b, o + 3, none⟩ = some (.int .u64 x)) ∧
  (w'.cell? ⟨b, o', none⟩ = some (.int .u8 f0) ∧ w'.cell? ⟨b, o' + 1, none⟩ = some (.int .u8 f1) ∧ w'.cell? ⟨b, o' + 2, none⟩ = some (.int .u8 f2) ∧ w'.cell? ⟨b, o' + 3, none⟩ = some (.int .u64 z))
theorem S8.same {W w4 : World} {b o o' : Nat} {e0 e1 e2 x f0 f1 f2 z : Int} (h : S8 b o o' e0 e1 e2 x f0 f1 f2 z W) (e : ∀ i, w4.cell? ⟨b, i, none⟩ = W.cell? ⟨b, i, none⟩) : S8 b o o' e0 e1 e2 x f0 f1 f2 z w4 := by
  obtain ⟨⟨a0, a1, a2, a3⟩, ⟨b0, b1, b2, b3⟩⟩ := h
  exact ⟨⟨(e _).trans a0, (e _).trans a1, (e _).trans a2, (e _).trans a3⟩, ⟨(e _).trans b0, (e _).trans b1, (e _).trans b2, (e _).trans b3⟩⟩
theorem S8.keep {W w4 : World} {b o o' : Nat} {e0 e1 e2 x f0 f1 f2 z : Int} (h : S8 b o o' e0 e1 e2 x f0 f1 f2 z W) (hb : Below W.heap.size W w4) (hlt : b < W.heap.size) : S8 b o o' e0 e1 e2 x f0 f1 f2 z w4 := h.same fun _ => (bcell hb).1 _ _ hlt
theorem S8.set {W : World} {b G o o' : Nat} {e0 e1 e2 x f0 f1 f2 z : Int} (h : S8 b o o' e0 e1 e2 x f0 f1 f2 z W) (hne : b ≠ G) (i : Nat) (v : Value) : S8 b o o' e0 e1 e2 x f0 f1 f2 z (W.setCell ⟨G, i, none⟩ v) := h.same fun j => World.cell?_of_block (w := W) (Below.heap_setCell W _ _ _ (by simpa using hne))

set_option maxHeartbeats 2000000 in
set_option maxRecDepth 100000 in
theorem above_any (b n m cap : Nat) (ys : List (Dg × Int)) (w : World) (hn : ys.length = n) (hm : n = 2 * m) (hm64 : m ≤ 64) (hb : b < w.heap.size) (hS : SidesAt w b ys) (hys : ∀ y ∈ ys, 0 ≤ y.2 ∧ y.2 ≤ maxS) :
    Calls Try.prog 45 #[.slice (some ⟨b, 0, none⟩) n cap] w fun e w' => e = .returned (.slice (some ⟨w.heap.size, 0, none⟩) m m) ∧ w.heap.size < w'.heap.size ∧ SidesAt w' w.heap.size (aboveT ys m) ∧ Below w.heap.size w w' := by
  obtain ⟨i0, hi, hz0, hz1, hz2⟩ := info_parts Try.infoSide
  have HS := hide hS
  have HN := hide hn
  have HY := hide hys
  have hq : (n : Int).tdiv 2 = (m : Int) := by rw [Int.tdiv_eq_ediv_of_nonneg (by omega)]; omega
  have hbG : b ≠ w.heap.size := by omega
  have HM := hide hm
  clear hS hn hys hm
  go_enter Try.func45, Try.ntmps45
  go_wp2_with (at_make; refine wpList_make_full _ rfl _ _ 77 rfl w.heap.size 88 i0 _ 4 Try.underlying77 hi hz0 hz1 _ _ _ _ m rfl rfl (by omega) (by omega) (by rw [hz2]; omega) (by unfold maxLen; omega) (Nat.le_refl _) ?_)
  intro w1 hown1 hgrow1
  have hB1 : Below w.heap.size w w1 := (Below.refl _ _).grown hgrow1 (Nat.le_refl _) (fun b hb => by cases hb)
  have hR1 := room_new hown1
  have hz1' : w.heap.size < w1.heap.size := (hown1.lt w.heap.size rfl).2
  have HSS := hide (And.intro hB1 hR1)
  clear hB1 hR1 hown1 hgrow1
  go_wp2_with fail
  go_loopw [11, 4] (fun i _ wr => ∃ k : Nat, k ≤ m ∧ i = .int .i64 k ∧ Room wr w.heap.size m (aboveT ys k) ∧ w.heap.size < wr.heap.size ∧ Below w.heap.size w wr) (fun i _ _ => m - (intOf i).toNat)
  case atStart => exact ⟨0, Nat.zero_le _, rfl, (unhide HSS).2, hz1', (unhide HSS).1⟩
  case round =>
    obtain ⟨k, hk, rfl, hR, hz, hbel⟩ := hrel
    have HR := hide (And.intro hR hbel)
    clear hR hbel HSS
    by_cases hk' : k < m
    · have hm := unhide HM
      have h1 : 2 * k < ys.length := by rw [unhide HN]; omega
      have h2 : 2 * k + 1 < ys.length := by rw [unhide HN]; omega
      have cy := ((unhide HS).below (unhide HR).2 hb) (2 * k) h1
      have cz := ((unhide HS).below (unhide HR).2 hb) (2 * k + 1) h2
      have ry := unhide HY _ (List.getElem_mem h1)
      have rz := unhide HY _ (List.getElem_mem h2)
      have gy : ys.getD (2 * k) ((0, 0, 0), 0) = ys[2 * k] := by rw [List.getD_eq_getElem?_getD, List.getElem?_eq_getElem h1]; rfl
      have gz : ys.getD (2 * k + 1) ((0, 0, 0), 0) = ys[2 * k + 1] := by rw [List.getD_eq_getElem?_getD, List.getElem?_eq_getElem h2]; rfl
      have hsn := aboveT_snoc ys k
      rw [gy, gz] at hsn
      generalize ys[2 * k] = y at *
      generalize ys[2 * k + 1] = z at *
      have hC := fun w => nodeside_any y.1 z.1 y.2 z.2 w ry.1 rz.1 (by unfold maxS at ry rz; omega)
      obtain ⟨⟨⟨s0, s1, s2⟩, x⟩, hx⟩ : ∃ q, nodeS y z = q := ⟨_, rfl⟩
      have e1 : dg (1 :: (sideB (y.1, y.2) ++ sideB (z.1, z.2))) = (s0, s1, s2) := congrArg Prod.fst hx
      have e2 : y.2 + z.2 = x := congrArg Prod.snd hx
      rw [e1, e2] at hC
      rw [hx] at hsn
      have HX := hide hsn
      unfold sideV at hC
      simp only at hC
      obtain ⟨c0, c1, c2, c3⟩ := cy
      obtain ⟨d0, d1, d2, d3⟩ := cz
      generalize (y.1.1.toNat : Int) = a0 at *
      generalize (y.1.2.1.toNat : Int) = a1 at *
      generalize (y.1.2.2.toNat : Int) = a2 at *
      generalize (z.1.1.toNat : Int) = b0 at *
      generalize (z.1.2.1.toNat : Int) = b1 at *
      generalize (z.1.2.2.toNat : Int) = b2 at *
      generalize y.2 = yx at *
      generalize z.2 = zx at *
      have HC := fun w => hide (hC w)
      obtain ⟨q, hq1⟩ : ∃ q, 2 * k = q := ⟨_, rfl⟩
      obtain ⟨q', hq2⟩ : ∃ q', 2 * k + 1 = q' := ⟨_, rfl⟩
      rw [hq2] at d0 d1 d2 d3
      rw [hq1] at c0 c1 c2 c3
      have hSd : S8 b (q * 4) (q' * 4) a0 a1 a2 yx b0 b1 b2 zx wr.drew := ⟨⟨c0, c1, c2, c3⟩, ⟨d0, d1, d2, d3⟩⟩
      have i7 : q < n := by omega
      have i8 : q' < n := by omega
      have i1 : (0 : Int) ≤ (q : Int) := by omega
      have i2 : (q : Int) < (n : Int) := by omega
      have i3 : (0 : Int) ≤ (q' : Int) := by omega
      have i4 : (q' : Int) < (n : Int) := by omega
      have i5 : (k : Int) < (m : Int) := by omega
      have i6 : (0 : Int) ≤ (k : Int) := by omega
      have w1' : IntKind.i64.wrap (2 * (k : Int)) = (q : Int) := by rw [IntKind.wrap_i64]; omega
      have w2' : IntKind.i64.wrap ((q : Int) + 1) = (q' : Int) := by rw [IntKind.wrap_i64]; omega
      have hbz : b < wr.heap.size := by omega
      clear hq1 hq2 h1 h2 hm
      clear hC hsn hx e1 e2 ry rz gy gz c0 c1 c2 c3 d0 d1 d2 d3
      go_upto_region 5 with fail
      go_region_held3 (fun w' => (w'.cell? ⟨b, q * 4, none⟩ = some (.int .u8 a0) ∧ w'.cell? ⟨b, q * 4 + 1, none⟩ = some (.int .u8 a1) ∧ w'.cell? ⟨b, q * 4 + 2, none⟩ = some (.int .u8 a2) ∧ w'.cell? ⟨b, q * 4 + 3, none⟩ = some (.int .u64 yx)) ∧
          (w'.cell? ⟨b, q' * 4, none⟩ = some (.int .u8 b0) ∧ w'.cell? ⟨b, q' * 4 + 1, none⟩ = some (.int .u8 b1) ∧ w'.cell? ⟨b, q' * 4 + 2, none⟩ = some (.int .u8 b2) ∧ w'.cell? ⟨b, q' * 4 + 3, none⟩ = some (.int .u64 zx)))
        (first
          | with_reducible exact hSd
          | with_reducible exact hS4
          | with_reducible exact (((S8.set hS4 hbG _ _).set hbG _ _).set hbG _ _).set hbG _ _
          | fail)
        (first
          | (go_at_call 58; (with_reducible refine (unhide (HC _)).mono ?_); rintro e w4 ⟨rfl, hb4⟩; have hS4 := S8.keep hSd hb4 hbz; have hR2 : Room w4 w.heap.size m (aboveT ys k) := (unhide HR).1.below (w' := w4) ⟨hb4.os, hb4.tape, hb4.output, hb4.size, hb4.block⟩ hz; obtain ⟨r0, g0⟩ := Option.isSome_iff_exists.1 (hR2.1 (k * 4) (by omega)).1; obtain ⟨r1, g1⟩ := Option.isSome_iff_exists.1 (hR2.1 (k * 4 + 1) (by omega)).1; obtain ⟨r2, g2⟩ := Option.isSome_iff_exists.1 (hR2.1 (k * 4 + 2) (by omega)).1; obtain ⟨r3, g3⟩ := Option.isSome_iff_exists.1 (hR2.1 (k * 4 + 3) (by omega)).1; have f0 := (hR2.1 (k * 4) (by omega)).2; have f1 := (hR2.1 (k * 4 + 1) (by omega)).2; have f2 := (hR2.1 (k * 4 + 2) (by omega)).2; have f3 := (hR2.1 (k * 4 + 3) (by omega)).2)
          | fail)
      have hz4 : w.heap.size < w4.heap.size := by have := hb4.size; simp at this; omega
      have hB4 : Below w.heap.size w w4 := (unhide HR).2.drew.trans (hb4.mono (by simp; omega))
      have HR3 := hide (And.intro (hR2.set (aboveT_len ys k) hk' s0 s1 s2 x) hB4)
      clear hSd hS4 hR2 hb4 hB4 HC HR
      go_wp2
      refine ⟨⟨k + 1, by omega, by go_num, ?_, by simpa using hz4, ((((unhide HR3).2.setCell (by simp) _).setCell (by simp) _).setCell (by simp) _).setCell (by simp) _⟩, by simp [intOf]; omega⟩
      rw [unhide HX]
      exact (unhide HR3).1
    · have hkk : k = m := by omega
      subst hkk
      go_wp2
      go_ret
      exact ⟨rfl, hz, (unhide HR).1.2, (unhide HR).2⟩

end Go.Proofs.Ytbjobbkgelipmaa

/-
  A tree's sums: plain numbers.
-/
namespace Go.Proofs.Ytbjobbkgelipmaa
open Go.RowKit

def sumTo (ls : List LeafD) (n : Nat) : Int := ((ls.take n).map LeafD.bal).sum
def sumL (ls : List LeafD) : Int := (ls.map LeafD.bal).sum
theorem sumTo_succ (ls : List LeafD) (n : Nat) : sumTo ls (n + 1) = sumTo ls n + ((ls[n]?).map LeafD.bal).getD 0 := by
  unfold sumTo
  by_cases h : n < ls.length
  · rw [List.take_succ_eq_append_getElem h, List.map_append, List.sum_append, List.getElem?_eq_getElem h]
    simp
  · rw [List.take_of_length_le (by omega), List.take_of_length_le (by omega), List.getElem?_eq_none (by omega)]
    simp
theorem sumTo_mono (ls : List LeafD) (hp : ∀ x ∈ ls, 0 ≤ x.bal) (a : Nat) : ∀ d, sumTo ls a ≤ sumTo ls (a + d)
  | 0 => Int.le_refl _
  | d + 1 => by
    have ih := sumTo_mono ls hp a d
    rw [show a + (d + 1) = (a + d) + 1 by omega, sumTo_succ]
    have : 0 ≤ ((ls[a + d]?).map LeafD.bal).getD 0 := by
      cases h : ls[a + d]? with
      | none => simp
      | some x => simpa using hp x (List.mem_of_getElem? h)
    omega
theorem sumTo_all (ls : List LeafD) (n : Nat) (h : ls.length ≤ n) : sumTo ls n = sumL ls := by unfold sumTo sumL; rw [List.take_of_length_le h]
theorem sumTo_le (ls : List LeafD) (hp : ∀ x ∈ ls, 0 ≤ x.bal) (n : Nat) : 0 ≤ sumTo ls n ∧ sumTo ls n ≤ sumL ls := by
  constructor
  · have := sumTo_mono ls hp 0 n
    rw [Nat.zero_add] at this
    have e : sumTo ls 0 = 0 := by simp [sumTo]
    omega
  · have := sumTo_mono ls hp n ls.length
    rw [sumTo_all ls (n + ls.length) (by omega)] at this
    exact this
theorem side_sum (ls : List LeafD) (hp : ∀ x ∈ ls, 0 ≤ x.bal) (hm : sumL ls ≤ maxS) : ∀ k p, (sideT ls k p).2 = sumTo ls ((p + 1) * 2 ^ k) - sumTo ls (p * 2 ^ k)
  | 0, p => by
    unfold sideT
    rw [Nat.pow_zero, Nat.mul_one, Nat.mul_one, sumTo_succ]
    cases h : ls[p]? with
    | none => simp
    | some x => simp; omega
  | k + 1, p => by
    have h1 := side_sum ls hp hm k (2 * p)
    have h2 := side_sum ls hp hm k (2 * p + 1)
    have e1 : 2 * p * 2 ^ k = p * 2 ^ (k + 1) := by rw [Nat.pow_succ, Nat.mul_comm 2 p, Nat.mul_assoc, Nat.mul_comm 2]
    have e2 : (2 * p + 1 + 1) * 2 ^ k = (p + 1) * 2 ^ (k + 1) := by rw [show 2 * p + 1 + 1 = 2 * (p + 1) by omega, Nat.pow_succ, Nat.mul_comm 2 (p + 1), Nat.mul_assoc, Nat.mul_comm 2]
    rw [e1] at h1
    rw [e2] at h2
    have m1 := sumTo_le ls hp (p * 2 ^ (k + 1))
    have m2 := sumTo_le ls hp ((p + 1) * 2 ^ (k + 1))
    have mm := sumTo_mono ls hp (p * 2 ^ (k + 1)) (2 ^ (k + 1))
    rw [show p * 2 ^ (k + 1) + 2 ^ (k + 1) = (p + 1) * 2 ^ (k + 1) by rw [Nat.add_mul, Nat.one_mul]] at mm
    show ((sideT ls k (2 * p)).2 + (sideT ls k (2 * p + 1)).2) % 18446744073709551616 = _
    unfold maxS at hm
    omega
theorem side_range (ls : List LeafD) (hp : ∀ x ∈ ls, 0 ≤ x.bal) (hm : sumL ls ≤ maxS) (k p : Nat) : 0 ≤ (sideT ls k p).2 ∧ (sideT ls k p).2 ≤ maxS := by
  rw [side_sum ls hp hm]
  have m1 := sumTo_le ls hp (p * 2 ^ k)
  have m2 := sumTo_le ls hp ((p + 1) * 2 ^ k)
  have mm := sumTo_mono ls hp (p * 2 ^ k) (2 ^ k)
  rw [show p * 2 ^ k + 2 ^ k = (p + 1) * 2 ^ k by rw [Nat.add_mul, Nat.one_mul]] at mm
  omega
theorem side_up (ls : List LeafD) (hp : ∀ x ∈ ls, 0 ≤ x.bal) (hm : sumL ls ≤ maxS) (k p : Nat) : sideT ls (k + 1) p = nodeS (sideT ls k (2 * p)) (sideT ls k (2 * p + 1)) := by
  have h1 := side_range ls hp hm k (2 * p)
  have h2 := side_range ls hp hm k (2 * p + 1)
  unfold nodeS
  show (_, ((sideT ls k (2 * p)).2 + (sideT ls k (2 * p + 1)).2) % 18446744073709551616) = _
  congr 1
  unfold maxS at h1 h2
  omega
theorem level_up (ls : List LeafD) (hp : ∀ x ∈ ls, 0 ≤ x.bal) (hm : sumL ls ≤ maxS) (k m : Nat) : aboveT (levelT ls k (2 * m)) m = levelT ls (k + 1) m := by
  unfold aboveT
  show _ = (List.range m).map (sideT ls (k + 1))
  apply List.map_congr_left
  intro i hi
  have hi' : i < m := by simpa using hi
  rw [side_up ls hp hm]
  have g : ∀ j, j < 2 * m → (levelT ls k (2 * m)).getD j ((0, 0, 0), 0) = sideT ls k j := fun j hj => by
    rw [List.getD_eq_getElem?_getD, List.getElem?_eq_getElem (by rw [levelT_len]; exact hj), levelT_get]; rfl
  rw [g _ (by omega), g _ (by omega)]

end Go.Proofs.Ytbjobbkgelipmaa
