/-
  The walk of tithe's readSides.
-/
import Derived.Test.YtbjobbkgelipmaaGreatRdSide
import Derived.Test.YtbjobbkgelipmaaGreatGreat
import Derived.OwnWalk
import Derived.Test.YtbjobbkgelipmaaGreatHolds
import Derived.Test.YtbjobbkgelipmaaGreatSideL
namespace Go.Proofs.YtbjobbkgelipmaaGreat
open Go.RowKit

def sidesOf (l : List UInt8) (n : Nat) : List (Dg × Int) := (List.range n).map fun i => sideAt l (11 * i)
theorem sidesOf_len (l : List UInt8) (n : Nat) : (sidesOf l n).length = n := by simp [sidesOf]
theorem sidesOf_get (l : List UInt8) (n i : Nat) (h : i < (sidesOf l n).length) : (sidesOf l n)[i] = sideAt l (11 * i) := by simp [sidesOf]
theorem sideAt_drop (l : List UInt8) (a b : Nat) : sideAt (l.drop a) b = sideAt l (a + b) := by
  unfold sideAt
  simp only [List.getD_eq_getElem?_getD, List.getElem?_drop, List.drop_drop]
  simp only [Nat.add_assoc]

/-- Room for sides; the first ones are there. -/
def Room (W : World) (b n : Nat) (ys : List (Dg × Int)) : Prop := (∀ o, o < n * 4 → (W.cell? ⟨b, o, none⟩).isSome = true ∧ W.frozen? ⟨b, o, none⟩ = false) ∧ SidesAt W b ys
theorem Room.below {w w' : World} {b n : Nat} {ys : List (Dg × Int)} (h : Room w b n ys) (hb : Below w.heap.size w w') (hlt : b < w.heap.size) : Room w' b n ys := by
  refine ⟨fun o ho => ?_, h.2.below hb hlt⟩
  rw [(bcell hb).1 _ _ hlt, (bcell hb).2 _ _ hlt]
  exact h.1 o ho
theorem isSome_set {W : World} {a q : Addr} {v : Value} (h : (W.cell? q).isSome = true) : ((W.setCell a v).cell? q).isSome = true := by
  obtain ⟨v', hv⟩ := Option.isSome_iff_exists.1 h
  obtain ⟨v'', hv'⟩ := cell?_setCell_some (w := W) (p := a) (x := v) (q := q) (v := v') hv
  rw [hv']; rfl
theorem Room.set {W : World} {b n i : Nat} {ys : List (Dg × Int)} (h : Room W b n ys) (hi : ys.length = i) (hn : i < n) (d0 d1 d2 : UInt8) (x : Int) :
    Room ((((W.setCell ⟨b, i * 4, none⟩ (.int .u8 (d0.toNat : Int))).setCell ⟨b, i * 4 + 1, none⟩ (.int .u8 (d1.toNat : Int))).setCell ⟨b, i * 4 + 2, none⟩ (.int .u8 (d2.toNat : Int))).setCell ⟨b, i * 4 + 3, none⟩ (.int .u64 x)) b n (ys ++ [((d0, d1, d2), x)]) := by
  refine ⟨fun o ho => ⟨isSome_set (isSome_set (isSome_set (isSome_set (h.1 o ho).1))), ?_⟩, ?_⟩
  · rw [World.frozen?_setCell, World.frozen?_setCell, World.frozen?_setCell, World.frozen?_setCell]; exact (h.1 o ho).2
  · have ne : ∀ (W : World) (p q : Nat) (v : Value), p ≠ q → (W.setCell ⟨b, p, none⟩ v).cell? ⟨b, q, none⟩ = W.cell? ⟨b, q, none⟩ := fun W p q v hpq => by apply World.cell?_setCell_other; intro e; apply hpq; cases e; rfl
    have sm : ∀ (W : World) (p : Nat) (v : Value), (W.cell? ⟨b, p, none⟩).isSome = true → (W.setCell ⟨b, p, none⟩ v).cell? ⟨b, p, none⟩ = some v := fun W p v hp => World.cell?_setCell_same' W _ v hp
    intro j hj
    rw [List.length_append, List.length_singleton] at hj
    by_cases hji : j < ys.length
    · obtain ⟨h0, h1, h2, h3⟩ := h.2 j hji
      rw [List.getElem_append_left hji]
      rw [ne _ _ _ _ (by omega), ne _ _ _ _ (by omega), ne _ _ _ _ (by omega), ne _ _ _ _ (by omega), ne _ _ _ _ (by omega), ne _ _ _ _ (by omega), ne _ _ _ _ (by omega), ne _ _ _ _ (by omega), ne _ _ _ _ (by omega), ne _ _ _ _ (by omega), ne _ _ _ _ (by omega), ne _ _ _ _ (by omega), ne _ _ _ _ (by omega), ne _ _ _ _ (by omega), ne _ _ _ _ (by omega), ne _ _ _ _ (by omega)]
      exact ⟨h0, h1, h2, h3⟩
    · have hjj : j = ys.length := by omega
      subst hjj
      rw [List.getElem_append_right (Nat.le_refl _)]
      simp only [Nat.sub_self, List.getElem_cons_zero]
      rw [← hi] at *
      refine ⟨?_, ?_, ?_, ?_⟩
      · rw [ne _ _ _ _ (by omega), ne _ _ _ _ (by omega), ne _ _ _ _ (by omega)]
        exact sm _ _ _ (h.1 _ (by omega)).1
      · rw [ne _ _ _ _ (by omega), ne _ _ _ _ (by omega)]
        exact sm _ _ _ (isSome_set (h.1 _ (by omega)).1)
      · rw [ne _ _ _ _ (by omega)]
        exact sm _ _ _ (isSome_set (isSome_set (h.1 _ (by omega)).1))
      · exact sm _ _ _ (isSome_set (isSome_set (isSome_set (h.1 _ (by omega)).1)))

theorem Tryz.infoSide : (Tryz.prog.info? 106).map (fun i => (i.zero, i.size, i.bytes)) = some (some (.agg #[.int .u8 0, .int .u8 0, .int .u8 0, .int .u64 0]), 4, 16) := by kernel_rfl

theorem room_new {W : World} {b n : Nat} {xs : List Value} {e : TypeId} {base : Nat} (h : W.ownsRow base e 4 (.slice (some ⟨b, 0, none⟩) n n) n xs) : Room W b n [] := by
  refine ⟨fun o ho => ?_, fun i hi => by cases hi⟩
  rcases h.2 with ⟨h, _⟩ | ⟨g, cap, cur, hv, _, hg, h1, h2, h3, h4⟩
  · cases h
  · simp only [Value.slice.injEq, Option.some.injEq, Addr.mk.injEq] at hv
    obtain ⟨⟨rfl, _⟩, _, rfl⟩ := hv
    rw [block_cell hg]
    refine ⟨?_, block_free hg⟩
    rw [Array.getElem?_eq_getElem (by omega)]
    rfl

set_option maxHeartbeats 400000 in
set_option maxRecDepth 100000 in
theorem rdsides_any (b o len cap n : Nat) (l : List UInt8) (w : World) (hl : l.length = len) (hn : 11 * n ≤ len) (hn6 : n ≤ 6) (hc : len ≤ cap) (hm : cap ≤ 9223372036854775807) (hb : b < w.heap.size) (hB : BytesAt w b o l) :
    Calls Tryz.prog 93 #[.slice (some ⟨b, o, none⟩) len cap, .int .i64 (n : Int)] w fun e w' => e = .returned (.slice (some ⟨w.heap.size, 0, none⟩) n n) ∧ w.heap.size < w'.heap.size ∧ SidesAt w' w.heap.size (sidesOf l n) ∧ Below w.heap.size w w' := by
  obtain ⟨i0, hi, hz0, hz1, hz2⟩ := info_parts Tryz.infoSide
  have HB := hide hB
  have HL := hide hl
  clear hB hl
  go_enter Tryz.func93, Tryz.ntmps93
  go_wp2_with (at_make; refine wpList_make_full _ rfl _ _ 116 rfl w.heap.size 106 i0 _ 4 Tryz.underlying116 hi hz0 hz1 _ _ _ _ n rfl rfl rfl rfl (by rw [hz2]; omega) (by unfold maxLen; omega) (Nat.le_refl _) ?_)
  intro w1 hown1 hgrow1
  have hB1 : Below w.heap.size w w1 := (Below.refl _ _).grown hgrow1 (Nat.le_refl _) (fun b hb => by cases hb)
  have hR1 := room_new hown1
  have hz1' : w.heap.size < w1.heap.size := (hown1.lt w.heap.size rfl).2
  have HS := hide (And.intro hB1 hR1)
  clear hB1 hR1 hown1 hgrow1
  go_wp2_with fail
  go_loopw [11, 6] (fun i _ wr => ∃ k : Nat, k ≤ n ∧ i = .int .i64 k ∧ Room wr w.heap.size n (sidesOf l k) ∧ w.heap.size < wr.heap.size ∧ Below w.heap.size w wr) (fun i _ _ => n - (intOf i).toNat)
  case atStart => exact ⟨0, Nat.zero_le _, rfl, (unhide HS).2, hz1', (unhide HS).1⟩
  case round =>
    obtain ⟨k, hk, rfl, hR, hz, hbel⟩ := hrel
    have HR := hide (And.intro hR hbel)
    clear hR hbel HS
    by_cases hk' : k < n
    · have Hsd : Hid (Calls Tryz.prog 76 #[.slice (some ⟨b, o + k * 11, none⟩) (len - k * 11) (cap - k * 11)] wr fun e w' => e = .returned (sideV (sideAt l (11 * k)).1 (sideAt l (11 * k)).2) ∧ Below wr.heap.size wr w') := by
        have hBr : BytesAt wr b o l := fun j hj => ((unhide HR).2.cell (p := ⟨b, o + j, none⟩) hb).trans (unhide HB j hj)
        have h := rdside_any b (o + k * 11) (len - k * 11) (cap - k * 11) (l.drop (k * 11)) wr (by rw [List.length_drop, unhide HL]; omega) (by omega) (by omega) (by omega) (by omega) hBr.drop
        rw [sideAt_drop, Nat.add_zero, Nat.mul_comm k 11] at h
        rw [Nat.mul_comm k 11]
        exact h
      obtain ⟨⟨⟨s0, s1, s2⟩, x⟩, hx⟩ : ∃ y, sideAt l (11 * k) = y := ⟨_, rfl⟩
      rw [hx] at Hsd
      have HX := hide hx
      clear hx
      go_wp2_with fail
      refine (unhide Hsd).mono ?_
      rintro e w2 ⟨rfl, hb2⟩
      have hR2 := (unhide HR).1.below hb2 hz
      have hB2 := (unhide HR).2.trans (hb2.mono (by omega))
      have hz2' : w.heap.size < w2.heap.size := by have := hb2.size; omega
      have HR3 := hide (And.intro (hR2.set (sidesOf_len l k) hk' s0 s1 s2 x) hB2)
      obtain ⟨r0, g0⟩ := Option.isSome_iff_exists.1 (hR2.1 (k * 4) (by omega)).1
      obtain ⟨r1, g1⟩ := Option.isSome_iff_exists.1 (hR2.1 (k * 4 + 1) (by omega)).1
      obtain ⟨r2, g2⟩ := Option.isSome_iff_exists.1 (hR2.1 (k * 4 + 2) (by omega)).1
      obtain ⟨r3, g3⟩ := Option.isSome_iff_exists.1 (hR2.1 (k * 4 + 3) (by omega)).1
      have f0 := (hR2.1 (k * 4) (by omega)).2
      have f1 := (hR2.1 (k * 4 + 1) (by omega)).2
      have f2 := (hR2.1 (k * 4 + 2) (by omega)).2
      have f3 := (hR2.1 (k * 4 + 3) (by omega)).2
      clear hR2 hB2 hb2 Hsd HR
      unfold sideV
      simp only
      generalize (s0.toNat : Int) = t0 at *
      generalize (s1.toNat : Int) = t1 at *
      generalize (s2.toNat : Int) = t2 at *
      go_wp2
      refine ⟨⟨k + 1, by omega, by go_num, ?_, by simpa using hz2', ((((unhide HR3).2.setCell (by simp) _).setCell (by simp) _).setCell (by simp) _).setCell (by simp) _⟩, by simp [intOf]; omega⟩
      have e : sidesOf l (k + 1) = sidesOf l k ++ [((s0, s1, s2), x)] := by
        rw [← unhide HX]
        simp [sidesOf, List.range_succ]
      rw [e]
      exact (unhide HR3).1
    · have hkk : k = n := by omega
      subst hkk
      go_wp2
      go_ret
      exact ⟨rfl, hz, (unhide HR).1.2, (unhide HR).2⟩

end Go.Proofs.YtbjobbkgelipmaaGreat
