/-
  The walk of free at a step that looks at a proof (Kind 2), given what both Verifys answer.
-/
import Derived.Test.YtbjobbkgelipmaaGreatKeepW
namespace Go.Proofs.YtbjobbkgelipmaaGreat
open Go.RowKit

theorem Inv.lt {w : World} {B : Nat} {ps hv : Value} {hs : List HoldD} (h : Inv w B ps hv hs) : B < w.heap.size := (Array.getElem?_eq_some_iff.1 h.cell).1
/-- New memory turns nothing of the record. -/
theorem Inv.later {w w' : World} {B : Nat} {ps hv : Value} {hs : List HoldD} (h : Inv w B ps hv hs) (hb : Below w.heap.size w w') : Inv w' B ps hv hs := by
  refine ⟨(hb.block _ h.lt).trans h.cell, own_same h.own (fun g hg => hb.block g (own_lt h.own hg)), fun x hx => ?_⟩
  have hk := h.ok x hx
  exact hk.kept (hb.block _ (Array.getElem?_eq_some_iff.1 hk.cell).1) (own_same hk.own (fun g hg => hb.block g (own_lt hk.own hg)))
theorem row_own {w : World} {b n base : Nat} {t : TypeId} {f : Nat → Value} (h : w.rowIs b t n f) (hb : base ≤ b) (hn : n ≤ maxLen) : w.ownsRow base t 1 (.slice (some ⟨b, 0, none⟩) n n) n ((List.range n).map f) := by
  obtain ⟨c, hc, hs, hf⟩ := h
  refine ⟨by simp, .inr ⟨b, n, c, rfl, hb, hc, Nat.le_refl _, hn, by omega, ?_⟩⟩
  apply List.ext_getElem?
  intro i
  rw [Nat.mul_one, List.getElem?_take]
  by_cases hi : i < n
  · rw [if_pos hi]
    simp only [Array.getElem?_toList, hf i hi]
    simp [hi]
  · rw [if_neg hi]
    simp [hi]
/-- A frame is 'below' the record's block. -/
theorem Frame.below {w w' : World} {B : Nat} {vb hv : Value} (h : Frame w w' B vb hv) (hB : B ≤ w.heap.size) (hb : ∀ g, vb.ownBlock = some g → B ≤ g) (hh : ∀ g, hv.ownBlock = some g → B ≤ g) : Below B w w' :=
  ⟨h.os, h.tape, h.output, h.size, fun k hk => h.block k (by omega) (by omega) (fun e => by have := hb k e.symm; omega) (fun e => by have := hh k e.symm; omega)⟩

abbrev SV (wx : World) (O : Nat) (s t : ByteArray) : Prop := wx.cell? ⟨O, 4, none⟩ = some (.string s) ∧ wx.cell? ⟨O, 5, none⟩ = some (.string t)

set_option maxHeartbeats 1000000 in
set_option maxRecDepth 100000 in
theorem free_ver (n h sd : Int) (s t : ByteArray) (la : Option Addr) (ll lc : Nat) (a : Int) {w : World} {B : Nat} {ps hv : Value} {hs : List HoldD} (hI : Inv w B ps hv hs) (hss : s.size ≤ 140737488351232) (hts : t.size ≤ 140737488351232) (hl : (hs.length + 8) * 8 ≤ 140737488355328)
    (vn : ByteArray) (vb ve : Int)
    (hT : ∀ (w : World) (b1 b2 : Nat), b1 < w.heap.size → b2 < w.heap.size → BytesAt w b1 0 s.data.toList → BytesAt w b2 0 t.data.toList →
      Calls Tryz.prog 42 #[.slice (some ⟨b1, 0, none⟩) s.size (s.size + 8), .slice (some ⟨b2, 0, none⟩) t.size (t.size + 8)] w fun e w' => e = .returned (.tuple #[.string vn, .int .u64 vb, .int .i64 ve]) ∧ Below w.heap.size w w')
    (hR : ∀ (w : World), Calls Tryz.prog 43 #[.string s, .string t] w fun e w' => e = .returned (.tuple #[.string vn, .int .u64 vb, .int .i64 ve]) ∧ Below w.heap.size w w') :
    Calls Tryz.prog 17 #[.pointer (some ⟨B, 0, none⟩), opV 2 n h sd s t la ll lc a] w fun e w' => e = .returned (.bool true) ∧ Below B w w' ∧ ∃ hv' hs', Inv w' B ps hv' hs' ∧ hs'.length = hs.length + 8 := by
  unfold opV
  have HT := hide hT
  have HR := fun w => hide (hR w)
  have HI := hide hI
  have hBl := hI.lt
  clear hT hR hI
  go_enter Tryz.func17, Tryz.ntmps17
  go_wp2_with fail
  generalize hW0 : w.alloc (Obj.cells #[Value.int IntKind.i64 2, Value.int IntKind.i64 n, Value.int IntKind.i64 h, Value.int IntKind.u64 sd, Value.string s, Value.string t, Value.slice la ll lc, Value.int IntKind.u64 a] 38) = W0
  have hz0 : W0.heap.size = w.heap.size + 1 := by rw [← hW0]; simp
  have c4 : W0.cell? ⟨w.heap.size, 4, none⟩ = some (.string s) := by rw [← hW0]; simp
  have c5 : W0.cell? ⟨w.heap.size, 5, none⟩ = some (.string t) := by rw [← hW0]; simp
  have hA0 : Below w.heap.size w W0 := by rw [← hW0]; exact (Below.refl _ _).alloc (Nat.le_refl _) _
  refine (lent_any s W0 hss).mono ?_
  rintro e w1 ⟨rfl, hrow1, hb1⟩
  have d4 := keepB hb1 (by omega) c4
  have d5 := keepB hb1 (by omega) c5
  have hz1 := hrow1.lt
  have hA1 : Below w.heap.size w w1 := hA0.trans (hb1.mono (by omega))
  have Hrow1 := hide hrow1
  have HZ0 := hide hz0
  have HA1 := hide hA1
  clear hW0 c4 c5 hA0 hb1 hrow1 hA1 hz0
  generalize W0.heap.size = A at *
  go_wp2_with fail
  refine (lent_any t w1 hts).mono ?_
  rintro e w2 ⟨rfl, hrow2, hb2⟩
  have hlt0 : w.heap.size < w1.heap.size := by have := unhide HZ0; omega
  have g4 := keepB hb2 hlt0 d4
  have g5 := keepB hb2 hlt0 d5
  have hz2 := hrow2.lt
  have Hr1 := hide ((unhide Hrow1).of_block (hb2.block _ hz1))
  have Hr2 := hide hrow2
  have HA2 := hide ((unhide HA1).trans (hb2.mono (by omega)))
  have HAB := hide hz1
  clear d4 d5 hb2 hrow2 Hrow1 HA1
  generalize w1.heap.size = Bk at *
  have hSd : SV w2.drew w.heap.size s t := ⟨g4, g5⟩
  have hOlt : w.heap.size < w2.heap.size := by omega
  have HT2 := fun w3 (hb : Below w2.heap.size w2 w3) => hide ((unhide HT) w3 A Bk (by have := hb.size; omega) (by have := hb.size; omega) (lentV_bytes s w3 A ((unhide Hr1).of_block (hb.block _ (by omega)))) (lentV_bytes t w3 Bk ((unhide Hr2).of_block (hb.block _ hz2))))
  clear HT
  go_wp2_with fail
  have i1 : (s.size : Int) ≤ (s.size : Int) + 8 := by omega
  have i2 : (t.size : Int) ≤ (t.size : Int) + 8 := by omega
  go_region_held3 (fun w' => w'.cell? ⟨w.heap.size, 4, none⟩ = some (.string s) ∧ w'.cell? ⟨w.heap.size, 5, none⟩ = some (.string t))
    (first | with_reducible exact hS3 | with_reducible exact hSd)
    (first | (go_at_call 42; refine (unhide (HT2 _ (Below.refl _ _).drew)).mono ?_; rintro e w3 ⟨rfl, hb3⟩; have hS3 : SV w3 w.heap.size s t := ⟨keepB hb3 hOlt g4, keepB hb3 hOlt g5⟩; have HB3 : Hid (Below w2.heap.size w2 w3) := (Below.refl _ _).drew.trans hb3; clear hb3))
  have z3 : w.heap.size < w3.heap.size := by have := (unhide HB3).size; omega
  obtain ⟨k4, k5⟩ := hS3
  clear HT2 hSd g4 g5
  go_wp2_with fail
  refine (unhide (HR _)).mono ?_
  rintro e w4 ⟨rfl, hb4⟩
  have m4 := keepB hb4 z3 k4
  have m5 := keepB hb4 z3 k5
  have HB4 := hide ((unhide HB3).trans (hb4.mono (unhide HB3).size))
  have z4 : w.heap.size < w4.heap.size := by have := hb4.size; omega
  clear hb4 HB3 k4 k5 HR
  have Hs1 := hide ((unhide Hr1).of_block ((unhide HB4).block _ (by have := unhide HAB; omega)))
  have Hs2 := hide ((unhide Hr2).of_block ((unhide HB4).block _ hz2))
  go_wp2_with fail
  refine (still_any A s w4 hss (fun j hj => (unhide Hs1).cell hj)).mono ?_
  rintro e w5 ⟨rfl, n5, rfl⟩
  go_wp2_with fail
  refine (still_any Bk t _ hts (fun j hj => by simpa using (unhide Hs2).cell hj)).mono ?_
  rintro e w6 ⟨rfl, n6, rfl⟩
  go_wp2_with fail
  have hBW : Below w.heap.size w (w4.drewN (n5 + n6)) := below_drewN ((unhide HA2).trans ((unhide HB4).mono (by omega))) _
  have hR1 : (w4.drewN (n5 + n6)).rowIs A 5 (s.size + 8) (lentV s.data.toList) := (unhide Hs1).of_block (by simp)
  have hR2 : (w4.drewN (n5 + n6)).rowIs Bk 5 (t.size + 8) (lentV t.data.toList) := (unhide Hs2).of_block (by simp)
  clear HB4 Hs1 Hs2 Hr1 Hr2 HA2 m4 m5 z4
  generalize w4.drewN (n5 + n6) = W5 at *
  have hI5 := (unhide HI).later hBW
  have hAw : w.heap.size < A := by have := unhide HZ0; omega
  have hABk : A < Bk := unhide HAB
  have o1 := row_own (base := B + 1) hR1 (by omega) (by unfold maxLen; omega)
  have o2 := row_own (base := B + 1) hR2 (by omega) (by unfold maxLen; omega)
  have hdata : ∀ x ∈ hs, ∀ g, x.v.ownBlock = some g → g < w.heap.size := fun x hx g hg => own_lt ((unhide HI).ok x hx).own hg
  have hhv : ∀ g, hv.ownBlock = some g → g < w.heap.size ∧ B + 1 ≤ g := fun g hg => ⟨own_lt (unhide HI).own hg, ((unhide HI).own.lt g hg).1⟩
  have HK := hide (And.intro hBW (And.intro hR2 (And.intro o2 (And.intro hdata hhv))))
  refine (keep_any hI5 o1 (fun x hx => ?_) (by omega) (by omega)).mono ?_
  · cases hx' : x.v.ownBlock with
    | none => exact Or.inl rfl
    | some g =>
      right
      intro e
      have e1 : some g = some A := e
      have e2 : g = A := Option.some.inj e1
      have := hdata x hx g hx'
      omega
  rintro e w7 ⟨rfl, hv7, vb7, hs7, hSt, hlen7⟩
  have HSt := hide hSt
  have HLEN := hide hlen7
  clear hI5 o1 o2 hdata hhv hBW hR1 hR2 hSt hlen7
  go_wp2_with fail
  refine (keep_any (unhide HSt).inv (own_same (unhide HK).2.2.1 (fun g hg => ?_)) (fun x hx => ?_) (by omega) (by have := unhide HLEN; omega)).mono ?_
  · have hg1 : some Bk = some g := hg
    have hg2 : Bk = g := Option.some.inj hg1
    subst hg2
    refine (unhide HSt).frame.block Bk (unhide HK).2.1.lt (by omega) (fun e => by have e1 : some A = some Bk := e.symm; have e2 := Option.some.inj e1; omega) (fun e => ?_)
    have := ((unhide HK).2.2.2.2 Bk e.symm).1
    omega
  · rcases (unhide HSt).orig x hx with h0 | h0 | h0 | ⟨g, h0, hle⟩
    · cases hx' : x.v.ownBlock with
      | none => exact Or.inl rfl
      | some g =>
        right
        intro e
        have e1 : some g = some Bk := e
        have e2 : g = Bk := Option.some.inj e1
        have := (unhide HK).2.2.2.1 x h0 g hx'
        omega
    · exact Or.inl h0
    · right
      rw [h0]
      intro e
      have e1 : some A = some Bk := e
      have e2 := Option.some.inj e1
      omega
    · right
      rw [h0]
      intro e
      have e1 : some g = some Bk := e
      have e2 := Option.some.inj e1
      have := (unhide HK).2.1.lt
      omega
  rintro e w8 ⟨rfl, hv8, vb8, hs8, hSt8, hlen8⟩
  have hfin : Below B w w8 := by
    refine (((unhide HK).1.mono (by omega)).trans ((unhide HSt).frame.below (by have := (unhide HK).1.size; omega) (fun g hg => by have e1 : some A = some g := hg; have e2 := Option.some.inj e1; omega) (fun g hg => by have := ((unhide HK).2.2.2.2 g hg).2; omega))).trans (hSt8.frame.below (by have := (unhide HSt).inv.lt; omega) (fun g hg => by have e1 : some Bk = some g := hg; have e2 := Option.some.inj e1; omega) (fun g hg => ?_))
    have := ((unhide HSt).inv.own.lt g hg).1
    omega
  have HF := hide (And.intro hfin (And.intro hSt8.inv hlen8))
  clear hSt8 hlen8 hfin
  go_wp2
  go_ret
  exact ⟨rfl, (unhide HF).1, hv8, hs8, (unhide HF).2.1, by have := (unhide HF).2.2; have := unhide HLEN; omega⟩

end Go.Proofs.YtbjobbkgelipmaaGreat
