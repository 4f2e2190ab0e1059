/-
  keep, walked.
-/
import Derived.Test.YtbjobbkgelipmaaGreatBkai
import Derived.Test.YtbjobbkgelipmaaGreatBkag
import Derived.Test.YtbjobbkgelipmaaGreatBkaa
namespace Go.Proofs.YtbjobbkgelipmaaGreat
open Go.RowKit

theorem Tryz.infoHold : (Tryz.prog.info? 71).map (fun i => (i.zero, i.size, i.bytes)) = some (some (.pointer none), 1, 8) := by kernel_rfl

theorem fill_step (m : Int) (xs : List Value) (k : Nat) (h : k < xs.length) : (markV m k ++ xs.drop k).set k (.int .u8 (signI m (k : Int))) = markV m (k + 1) ++ xs.drop (k + 1) := by
  rw [List.set_append_right _ _ (by rw [markV_length]; exact Nat.le_refl _), markV_length, Nat.sub_self, markV_succ, List.append_assoc]
  congr 1
  rw [List.drop_eq_getElem_cons h]
  rfl

theorem own_shape {w : World} {base : Nat} {e : TypeId} {v : Value} {n : Nat} {xs : List Value} (h : w.ownsRow base e 1 v n xs) : ∃ a cap, v = .slice a n cap ∧ (0 < n → ∃ g, a = some ⟨g, 0, none⟩) := by
  rcases h.2 with ⟨hv, hn⟩ | ⟨g, cap, cur, hv, _⟩
  · exact ⟨none, 0, by rw [hv, hn], fun h0 => by omega⟩
  · exact ⟨_, cap, hv, fun _ => ⟨g, rfl⟩⟩

/-- The record stands while its list is appended to. -/
theorem Inv.recB {w w2 w3 : World} {B : Nat} {ps hv : Value} {hs : List HoldD} (h : Inv w B ps hv hs) (hal : Below w.heap.size w w2) (hg : w2.grownBy w3 hv.ownBlock) : w3.cell? ⟨B, 1, none⟩ = some hv ∧ w3.frozen? ⟨B, 1, none⟩ = false := by
  have hlt : B < w.heap.size := (Array.getElem?_eq_some_iff.1 h.cell).1
  have hne : some B ≠ hv.ownBlock := fun e => by
    obtain ⟨cur, hc⟩ := own_type h.own e.symm
    rw [h.cell] at hc; simp at hc
  have hb : w3.heap[B]? = some (.cells #[ps, hv] 43 (0, 0)) := (hg.block B (Nat.lt_of_lt_of_le hlt hal.size) hne).trans ((hal.block B hlt).trans h.cell)
  exact ⟨by rw [block_cell hb]; rfl, block_free hb⟩

set_option maxHeartbeats 1000000 in
set_option maxRecDepth 100000 in
theorem keep_any {w : World} {B : Nat} {ps hv vb : Value} {hs : List HoldD} {n : Nat} {xs : List Value} (hI : Inv w B ps hv hs) (hb : w.ownsRow (B + 1) 5 1 vb n xs)
    (hsep : ∀ x ∈ hs, x.v.ownBlock = none ∨ x.v.ownBlock ≠ vb.ownBlock) (hn : n + 3 ≤ 140737488355328) (hl : (hs.length + 4) * 8 ≤ 140737488355328) :
    Calls Tryz.prog 33 #[.pointer (some ⟨B, 0, none⟩), vb] w fun e w' => e = .returned (.tuple #[]) ∧ ∃ hv' vb' hs', St w w' B ps hv vb hs ((hs.length : Int) + 1) hv' vb' hs' (n + 3) ∧ hs'.length = hs.length + 4 := by
  obtain ⟨i0, hi, hz0, hz1, hz2⟩ := info_parts Tryz.infoByte
  obtain ⟨j0, hj, hy0, hy1, hy2⟩ := info_parts Tryz.infoHold
  have c1 : w.cell? ⟨B, 1, none⟩ = some hv := by rw [block_cell hI.cell]; rfl
  have hBlt : B < w.heap.size := (Array.getElem?_eq_some_iff.1 hI.cell).1
  obtain ⟨a, cap, hvb, hsg⟩ := own_shape hb
  obtain ⟨ha, hcap, hhv, _⟩ := own_shape hI.own
  have HH := hide (And.intro hhv hvb)
  have HSG := hide hsg
  have hxl : xs.length = n := by rw [hb.1, Nat.mul_one]
  have HI := hide hI
  have HB := hide hb
  have HSEP := hide hsep
  rw [hhv] at c1
  rw [hvb]
  clear hI hb hsep hsg hhv hvb
  go_enter Tryz.func33, Tryz.ntmps33
  go_wp2
  go_loopw [5] (fun i wr => ∃ k : Nat, k ≤ n ∧ i = .int .i64 k ∧ Hid (wr.ownsRow (B + 1) 5 1 vb n (markV ((hs.length : Int) + 1) k ++ xs.drop k)) ∧ Hid (w.grownBy wr vb.ownBlock)) (fun i _ => n - (intOf i).toNat)
  case atStart => exact ⟨0, Nat.zero_le _, rfl, by simpa [markV] using HB, ⟨rfl, rfl, rfl, Nat.le_refl _, fun _ _ _ => rfl⟩⟩
  case round =>
    obtain ⟨k, hk, rfl, Hown, Hg⟩ := hrel
    by_cases hlt : k < n
    · obtain ⟨g, hga⟩ := unhide HSG (by omega)
      subst hga
      have hvb := (unhide HH).2
      have hown := unhide Hown
      rw [hvb] at hown
      have hc : ∃ u, wr.cell? ⟨g, k, none⟩ = some u := by
        rw [hown.cellAt k (by omega)]
        exact ⟨_, List.getElem?_eq_getElem (by rw [hown.1]; omega)⟩
      obtain ⟨u, hc⟩ := hc
      have hf := hown.frozenAt k
      generalize hsg : signI ((hs.length : Int) + 1) (k : Int) = sg
      have HS : ∀ w, Hid (Calls Tryz.prog 57 #[.int .i64 ((hs.length : Int) + 1), .int .i64 (k : Int)] w fun e w' => e = .returned (.int .u8 sg) ∧ w' = w) := fun w => by rw [← hsg]; exact sign_any _ _ w
      have hst := hown.stored k (.int .u8 sg)
      rw [← hsg, fill_step _ xs k (by omega), ← hvb] at hst
      rw [hsg] at hst
      have H1 := hide hst.1
      have H2 : Hid (w.grownBy (wr.setCell ⟨g, k, none⟩ (.int .u8 sg)) vb.ownBlock) := by
        refine grown_trans (unhide Hg) ?_
        rw [hvb]; exact hst.2
      clear hst hown Hown Hg hsg hvb
      go_wp2_with (go_at_call 57; refine (unhide (HS _)).mono ?_; rintro e w' ⟨rfl, rfl⟩)
      go_roundw
      case rel => exact ⟨k + 1, by omega, by go_num, H1, H2⟩
      case measure => simp [intOf]; omega
    · have hkn : k = n := by omega
      subst hkn
      have hown := unhide Hown
      rw [List.drop_of_length_le (by omega), List.append_nil] at hown
      have hS := St.start (unhide HI) (unhide HB) (unhide HSEP) hown (unhide Hg)
      have d1 : wr.cell? ⟨B, 1, none⟩ = some hv := by rw [block_cell hS.inv.cell]; rfl
      rw [(unhide HH).1] at d1
      have HS := hide hS
      have hBw : B < wr.heap.size := Nat.lt_of_lt_of_le hBlt hS.frame.size
      clear hown hS Hown Hg HI HB HSEP HSG c1
      have hownH := (unhide HS).inv.own
      rw [(unhide HH).1] at hownH
      have HOH := hide hownH
      clear hownH
      go_wp2_with (at_builtin; refine wpList_append_both rfl (.tmp 30) (.tmp 35) 41 rfl (B + 1) 71 j0 (.pointer none) 8 Tryz.underlying41 hj hy0 hy1 hy2 rfl _ _ _ rfl (((unhide HOH).alloc _).alloc _) ⟨wr.heap.size + 1, 0, none⟩ 1 1 [ptrV wr.heap.size] rfl rfl ?c1 ?c2 (by decide) ?c3 ?c4 ?c5 ?_)
      case c1 =>
        intro j u hj
        match j, hj with
        | 0, hj => simp at hj; subst hj; simp [Addr.add, ptrV]
      case c2 => intro u hu; simp at hu; subst hu; rfl
      case c3 => unfold maxLen; omega
      case c4 => omega
      case c5 => simp; omega
      intro g1 cap1 w3 hown3 _ hg3 hnew3
      rw [← (unhide HH).1, ← (unhide HH).2] at hg3
      rw [← (unhide HH).1] at hnew3
      have hcl := (unhide HS).inv.recB (((Below.refl wr.heap.size wr).alloc (Nat.le_refl _) _).alloc (by simp) _) hg3
      obtain ⟨d2, d3⟩ := hcl
      have hS2 := hide ((unhide HS).hold (by omega) hown3 hg3 hnew3)
      clear hown3 hg3 hnew3 HS HOH d1
      go_wp2_with fail
      go_loopw [1, 6] (fun vv i wr => ∃ (j : Nat) (a' : Option Addr) (cap' : Nat) (hv' : Value) (hs' : List HoldD), j ≤ 3 ∧ i = .int .i64 j ∧ vv = .slice a' (k + j) cap' ∧ hs'.length = hs.length + 1 + j ∧ Hid (St w wr B ps hv vb hs ((hs.length : Int) + 1) hv' (.slice a' (k + j) cap') hs' (k + j))) (fun _ i _ => 3 - (intOf i).toNat)
      case atStart => exact ⟨0, a, cap, .slice (some ⟨g1, 0, none⟩) (hs.length + 1) cap1, hs ++ [⟨wr.heap.size, vb, k, (hs.length : Int) + 1⟩], by omega, rfl, rfl, by simp, hide ((unhide hS2).as (unhide HH).2)⟩
      case round =>
        obtain ⟨j, a', cap', hv', hs', hj3, rfl, rfl, hlen, HS⟩ := hrel
        have HLEN := hide hlen
        clear hlen
        clear hS2 d2 d3
        by_cases hlt3 : j < 3
        · have ownB := hide (unhide HS).own
          generalize hsg : signI ((hs.length : Int) + 1) ((k + j : Nat) : Int) = sg
          have HSn : ∀ w, Hid (Calls Tryz.prog 57 #[.int .i64 ((hs.length : Int) + 1), .int .i64 ((k : Int) + (j : Int))] w fun e w' => e = .returned (.int .u8 sg) ∧ w' = w) := fun w => by rw [← hsg, Int.natCast_add]; exact sign_any _ _ w
          have hsz : w.heap.size ≤ wr.heap.size := (unhide HS).frame.size
          go_wp2_with fail
          refine (unhide (HSn _)).mono ?_
          rintro e w1 ⟨rfl, rfl⟩
          clear HSn
          go_wp2_with (at_builtin; refine wpList_append_both rfl (.tmp 47) (.tmp 49) 51 rfl (B + 1) 5 i0 (.int .u8 0) 1 Tryz.underlying51 hi hz0 hz1 hz2 rfl _ _ _ rfl ((unhide ownB).alloc _) ⟨w1.heap.size, 0, none⟩ 1 1 [.int .u8 sg] rfl rfl ?c1b ?c2b (by decide) ?c3b ?c4b ?c5b ?_)
          case c1b =>
            intro j u hj
            match j, hj with
            | 0, hj => simp at hj; subst hj; simp [Addr.add]
          case c2b => intro u hu; simp at hu; subst hu; rfl
          case c3b => unfold maxLen; omega
          case c4b => omega
          case c5b => simp; omega
          intro g2 cap2 w2 hown2 hold2 hg2 hnew2
          subst hsg
          have hS3 := (unhide HS).app hown2 hold2 hg2 hnew2
          have HS3 := hide hS3
          have hlen3 : w1.heap.size ≤ w2.heap.size := by have := hg2.size; simp at this; omega
          obtain ⟨hc4, hcp4, hhv4, _⟩ := own_shape hS3.inv.own
          have e1 : w2.cell? ⟨B, 1, none⟩ = some hv' := by rw [block_cell hS3.inv.cell]; rfl
          have hownH := hS3.inv.own
          rw [hhv4] at e1 hownH
          have HOH := hide hownH
          have HH4 := hide hhv4
          clear hown2 hold2 hg2 hnew2 HS hS3 hownH hhv4 ownB
          go_wp2_with (at_builtin; refine wpList_append_both rfl (.tmp 55) (.tmp 60) 41 rfl (B + 1) 71 j0 (.pointer none) 8 Tryz.underlying41 hj hy0 hy1 hy2 rfl _ _ _ rfl (((unhide HOH).alloc _).alloc _) ⟨w2.heap.size + 1, 0, none⟩ 1 1 [ptrV w2.heap.size] rfl rfl ?c1c ?c2c (by decide) ?c3c ?c4c ?c5c ?_)
          case c1c =>
            intro j u hj
            match j, hj with
            | 0, hj => simp at hj; subst hj; simp [Addr.add, ptrV]
          case c2c => intro u hu; simp at hu; subst hu; rfl
          case c3c => have := unhide HLEN; unfold maxLen; omega
          case c4c => have := unhide HLEN; omega
          case c5c => simp; omega
          intro g5 cap5 w5 hown5 _ hg5 hnew5
          rw [← unhide HH4] at hg5 hnew5
          obtain ⟨d5, d6⟩ := (unhide HS3).inv.recB (((Below.refl w2.heap.size w2).alloc (Nat.le_refl _) _).alloc (by simp) _) hg5
          have hS6 := hide ((unhide HS3).hold (by omega) hown5 hg5 hnew5)
          clear hown5 hg5 hnew5 HS3 HOH e1
          go_wp2
          go_roundw
          case rel => exact ⟨j + 1, some ⟨g2, 0, none⟩, cap2, _, _, by omega, by go_num, rfl, by have := unhide HLEN; simp; omega, hS6⟩
          case measure => simp [intOf]; omega
        · have hj : j = 3 := by omega
          subst hj
          go_wp2
          go_end0
          refine ⟨rfl, ?_⟩
          rw [← (unhide HH).2]
          exact ⟨_, _, _, unhide HS, by have := unhide HLEN; omega⟩

end Go.Proofs.YtbjobbkgelipmaaGreat

/-
  The walk of free at a step that looks at a proof (Kind 2), given what both Verifys answer.
-/
namespace Go.Proofs.YtbjobbkgelipmaaGreat
open Go.RowKit

theorem Inv.lt {w : World} {B : Nat} {ps hv : Value} {hs : List HoldD} (h : Inv w B ps hv hs) : B < w.heap.size := (Array.getElem?_eq_some_iff.1 h.cell).1
/-- New memory turns nothing of the record. -/
theorem Inv.later {w w' : World} {B : Nat} {ps hv : Value} {hs : List HoldD} (h : Inv w B ps hv hs) (hb : Below w.heap.size w w') : Inv w' B ps hv hs := by
  refine ⟨(hb.block _ h.lt).trans h.cell, own_same h.own (fun g hg => hb.block g (own_lt h.own hg)), fun x hx => ?_⟩
  have hk := h.ok x hx
  exact hk.kept (hb.block _ (Array.getElem?_eq_some_iff.1 hk.cell).1) (own_same hk.own (fun g hg => hb.block g (own_lt hk.own hg)))
theorem row_own {w : World} {b n base : Nat} {t : TypeId} {f : Nat → Value} (h : w.rowIs b t n f) (hb : base ≤ b) (hn : n ≤ maxLen) : w.ownsRow base t 1 (.slice (some ⟨b, 0, none⟩) n n) n ((List.range n).map f) := by
  obtain ⟨c, hc, hs, hf⟩ := h
  refine ⟨by simp, .inr ⟨b, n, c, rfl, hb, hc, Nat.le_refl _, hn, by omega, ?_⟩⟩
  apply List.ext_getElem?
  intro i
  rw [Nat.mul_one, List.getElem?_take]
  by_cases hi : i < n
  · rw [if_pos hi]
    simp only [Array.getElem?_toList, hf i hi]
    simp [hi]
  · rw [if_neg hi]
    simp [hi]
/-- A frame is 'below' the record's block. -/
theorem Frame.below {w w' : World} {B : Nat} {vb hv : Value} (h : Frame w w' B vb hv) (hB : B ≤ w.heap.size) (hb : ∀ g, vb.ownBlock = some g → B ≤ g) (hh : ∀ g, hv.ownBlock = some g → B ≤ g) : Below B w w' :=
  ⟨h.os, h.tape, h.output, h.size, fun k hk => h.block k (by omega) (by omega) (fun e => by have := hb k e.symm; omega) (fun e => by have := hh k e.symm; omega)⟩

abbrev SV (wx : World) (O : Nat) (s t : ByteArray) : Prop := wx.cell? ⟨O, 4, none⟩ = some (.string s) ∧ wx.cell? ⟨O, 5, none⟩ = some (.string t)

set_option maxHeartbeats 1000000 in
set_option maxRecDepth 100000 in
theorem free_ver (n h sd : Int) (s t : ByteArray) (la : Option Addr) (ll lc : Nat) (a : Int) {w : World} {B : Nat} {ps hv : Value} {hs : List HoldD} (hI : Inv w B ps hv hs) (hss : s.size ≤ 140737488351232) (hts : t.size ≤ 140737488351232) (hl : (hs.length + 8) * 8 ≤ 140737488355328)
    (vn : ByteArray) (vb ve : Int)
    (hT : ∀ (w : World) (b1 b2 : Nat), b1 < w.heap.size → b2 < w.heap.size → BytesAt w b1 0 s.data.toList → BytesAt w b2 0 t.data.toList →
      Calls Tryz.prog 42 #[.slice (some ⟨b1, 0, none⟩) s.size (s.size + 8), .slice (some ⟨b2, 0, none⟩) t.size (t.size + 8)] w fun e w' => e = .returned (.tuple #[.string vn, .int .u64 vb, .int .i64 ve]) ∧ Below w.heap.size w w')
    (hR : ∀ (w : World), Calls Tryz.prog 43 #[.string s, .string t] w fun e w' => e = .returned (.tuple #[.string vn, .int .u64 vb, .int .i64 ve]) ∧ Below w.heap.size w w') :
    Calls Tryz.prog 17 #[.pointer (some ⟨B, 0, none⟩), opV 2 n h sd s t la ll lc a] w fun e w' => e = .returned (.bool true) ∧ Below B w w' ∧ ∃ hv' hs', Inv w' B ps hv' hs' ∧ hs'.length = hs.length + 8 := by
  unfold opV
  have HT := hide hT
  have HR := fun w => hide (hR w)
  have HI := hide hI
  have hBl := hI.lt
  clear hT hR hI
  go_enter Tryz.func17, Tryz.ntmps17
  go_wp2_with fail
  generalize hW0 : w.alloc (Obj.cells #[Value.int IntKind.i64 2, Value.int IntKind.i64 n, Value.int IntKind.i64 h, Value.int IntKind.u64 sd, Value.string s, Value.string t, Value.slice la ll lc, Value.int IntKind.u64 a] 38) = W0
  have hz0 : W0.heap.size = w.heap.size + 1 := by rw [← hW0]; simp
  have c4 : W0.cell? ⟨w.heap.size, 4, none⟩ = some (.string s) := by rw [← hW0]; simp
  have c5 : W0.cell? ⟨w.heap.size, 5, none⟩ = some (.string t) := by rw [← hW0]; simp
  have hA0 : Below w.heap.size w W0 := by rw [← hW0]; exact (Below.refl _ _).alloc (Nat.le_refl _) _
  refine (lent_any s W0 hss).mono ?_
  rintro e w1 ⟨rfl, hrow1, hb1⟩
  have d4 := keepB hb1 (by omega) c4
  have d5 := keepB hb1 (by omega) c5
  have hz1 := hrow1.lt
  have hA1 : Below w.heap.size w w1 := hA0.trans (hb1.mono (by omega))
  have Hrow1 := hide hrow1
  have HZ0 := hide hz0
  have HA1 := hide hA1
  clear hW0 c4 c5 hA0 hb1 hrow1 hA1 hz0
  generalize W0.heap.size = A at *
  go_wp2_with fail
  refine (lent_any t w1 hts).mono ?_
  rintro e w2 ⟨rfl, hrow2, hb2⟩
  have hlt0 : w.heap.size < w1.heap.size := by have := unhide HZ0; omega
  have g4 := keepB hb2 hlt0 d4
  have g5 := keepB hb2 hlt0 d5
  have hz2 := hrow2.lt
  have Hr1 := hide ((unhide Hrow1).of_block (hb2.block _ hz1))
  have Hr2 := hide hrow2
  have HA2 := hide ((unhide HA1).trans (hb2.mono (by omega)))
  have HAB := hide hz1
  clear d4 d5 hb2 hrow2 Hrow1 HA1
  generalize w1.heap.size = Bk at *
  have hSd : SV w2.drew w.heap.size s t := ⟨g4, g5⟩
  have hOlt : w.heap.size < w2.heap.size := by omega
  have HT2 := fun w3 (hb : Below w2.heap.size w2 w3) => hide ((unhide HT) w3 A Bk (by have := hb.size; omega) (by have := hb.size; omega) (lentV_bytes s w3 A ((unhide Hr1).of_block (hb.block _ (by omega)))) (lentV_bytes t w3 Bk ((unhide Hr2).of_block (hb.block _ hz2))))
  clear HT
  go_wp2_with fail
  have i1 : (s.size : Int) ≤ (s.size : Int) + 8 := by omega
  have i2 : (t.size : Int) ≤ (t.size : Int) + 8 := by omega
  go_region_held3 (fun w' => w'.cell? ⟨w.heap.size, 4, none⟩ = some (.string s) ∧ w'.cell? ⟨w.heap.size, 5, none⟩ = some (.string t))
    (first | with_reducible exact hS3 | with_reducible exact hSd)
    (first | (go_at_call 42; refine (unhide (HT2 _ (Below.refl _ _).drew)).mono ?_; rintro e w3 ⟨rfl, hb3⟩; have hS3 : SV w3 w.heap.size s t := ⟨keepB hb3 hOlt g4, keepB hb3 hOlt g5⟩; have HB3 : Hid (Below w2.heap.size w2 w3) := (Below.refl _ _).drew.trans hb3; clear hb3))
  have z3 : w.heap.size < w3.heap.size := by have := (unhide HB3).size; omega
  obtain ⟨k4, k5⟩ := hS3
  clear HT2 hSd g4 g5
  go_wp2_with fail
  refine (unhide (HR _)).mono ?_
  rintro e w4 ⟨rfl, hb4⟩
  have m4 := keepB hb4 z3 k4
  have m5 := keepB hb4 z3 k5
  have HB4 := hide ((unhide HB3).trans (hb4.mono (unhide HB3).size))
  have z4 : w.heap.size < w4.heap.size := by have := hb4.size; omega
  clear hb4 HB3 k4 k5 HR
  have Hs1 := hide ((unhide Hr1).of_block ((unhide HB4).block _ (by have := unhide HAB; omega)))
  have Hs2 := hide ((unhide Hr2).of_block ((unhide HB4).block _ hz2))
  go_wp2_with fail
  refine (still_any A s w4 hss (fun j hj => (unhide Hs1).cell hj)).mono ?_
  rintro e w5 ⟨rfl, n5, rfl⟩
  go_wp2_with fail
  refine (still_any Bk t _ hts (fun j hj => by simpa using (unhide Hs2).cell hj)).mono ?_
  rintro e w6 ⟨rfl, n6, rfl⟩
  go_wp2_with fail
  have hBW : Below w.heap.size w (w4.drewN (n5 + n6)) := below_drewN ((unhide HA2).trans ((unhide HB4).mono (by omega))) _
  have hR1 : (w4.drewN (n5 + n6)).rowIs A 5 (s.size + 8) (lentV s.data.toList) := (unhide Hs1).of_block (by simp)
  have hR2 : (w4.drewN (n5 + n6)).rowIs Bk 5 (t.size + 8) (lentV t.data.toList) := (unhide Hs2).of_block (by simp)
  clear HB4 Hs1 Hs2 Hr1 Hr2 HA2 m4 m5 z4
  generalize w4.drewN (n5 + n6) = W5 at *
  have hI5 := (unhide HI).later hBW
  have hAw : w.heap.size < A := by have := unhide HZ0; omega
  have hABk : A < Bk := unhide HAB
  have o1 := row_own (base := B + 1) hR1 (by omega) (by unfold maxLen; omega)
  have o2 := row_own (base := B + 1) hR2 (by omega) (by unfold maxLen; omega)
  have hdata : ∀ x ∈ hs, ∀ g, x.v.ownBlock = some g → g < w.heap.size := fun x hx g hg => own_lt ((unhide HI).ok x hx).own hg
  have hhv : ∀ g, hv.ownBlock = some g → g < w.heap.size ∧ B + 1 ≤ g := fun g hg => ⟨own_lt (unhide HI).own hg, ((unhide HI).own.lt g hg).1⟩
  have HK := hide (And.intro hBW (And.intro hR2 (And.intro o2 (And.intro hdata hhv))))
  refine (keep_any hI5 o1 (fun x hx => ?_) (by omega) (by omega)).mono ?_
  · cases hx' : x.v.ownBlock with
    | none => exact Or.inl rfl
    | some g =>
      right
      intro e
      have e1 : some g = some A := e
      have e2 : g = A := Option.some.inj e1
      have := hdata x hx g hx'
      omega
  rintro e w7 ⟨rfl, hv7, vb7, hs7, hSt, hlen7⟩
  have HSt := hide hSt
  have HLEN := hide hlen7
  clear hI5 o1 o2 hdata hhv hBW hR1 hR2 hSt hlen7
  go_wp2_with fail
  refine (keep_any (unhide HSt).inv (own_same (unhide HK).2.2.1 (fun g hg => ?_)) (fun x hx => ?_) (by omega) (by have := unhide HLEN; omega)).mono ?_
  · have hg1 : some Bk = some g := hg
    have hg2 : Bk = g := Option.some.inj hg1
    subst hg2
    refine (unhide HSt).frame.block Bk (unhide HK).2.1.lt (by omega) (fun e => by have e1 : some A = some Bk := e.symm; have e2 := Option.some.inj e1; omega) (fun e => ?_)
    have := ((unhide HK).2.2.2.2 Bk e.symm).1
    omega
  · rcases (unhide HSt).orig x hx with h0 | h0 | h0 | ⟨g, h0, hle⟩
    · cases hx' : x.v.ownBlock with
      | none => exact Or.inl rfl
      | some g =>
        right
        intro e
        have e1 : some g = some Bk := e
        have e2 : g = Bk := Option.some.inj e1
        have := (unhide HK).2.2.2.1 x h0 g hx'
        omega
    · exact Or.inl h0
    · right
      rw [h0]
      intro e
      have e1 : some A = some Bk := e
      have e2 := Option.some.inj e1
      omega
    · right
      rw [h0]
      intro e
      have e1 : some g = some Bk := e
      have e2 := Option.some.inj e1
      have := (unhide HK).2.1.lt
      omega
  rintro e w8 ⟨rfl, hv8, vb8, hs8, hSt8, hlen8⟩
  have hfin : Below B w w8 := by
    refine (((unhide HK).1.mono (by omega)).trans ((unhide HSt).frame.below (by have := (unhide HK).1.size; omega) (fun g hg => by have e1 : some A = some g := hg; have e2 := Option.some.inj e1; omega) (fun g hg => by have := ((unhide HK).2.2.2.2 g hg).2; omega))).trans (hSt8.frame.below (by have := (unhide HSt).inv.lt; omega) (fun g hg => by have e1 : some Bk = some g := hg; have e2 := Option.some.inj e1; omega) (fun g hg => ?_))
    have := ((unhide HSt).inv.own.lt g hg).1
    omega
  have HF := hide (And.intro hfin (And.intro hSt8.inv hlen8))
  clear hSt8 hlen8 hfin
  go_wp2
  go_ret
  exact ⟨rfl, (unhide HF).1, hv8, hs8, (unhide HF).2.1, by have := (unhide HF).2.2; have := unhide HLEN; omega⟩

end Go.Proofs.YtbjobbkgelipmaaGreat

/-
  Players in memory: a book and the document's, side by side; whose block each is, by a colour.
-/
namespace Go.Proofs.YtbjobbkgelipmaaGreat
open Go.RowKit Go.Maps

/-- Only blocks of a set, and new ones, are turned. -/
structure KeptS (S : Nat → Prop) (w w' : World) : Prop where
  os : w'.os = w.os
  tape : w'.tape = w.tape
  output : w'.output = w.output
  size : w.heap.size ≤ w'.heap.size
  block : ∀ k, k < w.heap.size → ¬ S k → w'.heap[k]? = w.heap[k]?
theorem KeptS.refl (S : Nat → Prop) (w : World) : KeptS S w w := ⟨rfl, rfl, rfl, Nat.le_refl _, fun _ _ _ => rfl⟩
theorem KeptS.trans {S : Nat → Prop} {a b d : World} (h : KeptS S a b) (k : KeptS S b d) : KeptS S a d :=
  ⟨k.os.trans h.os, k.tape.trans h.tape, k.output.trans h.output, Nat.le_trans h.size k.size, fun j hj hn => (k.block j (Nat.lt_of_lt_of_le hj h.size) hn).trans (h.block j hj hn)⟩
theorem KeptS.of_below {S : Nat → Prop} {w w' : World} (h : Below w.heap.size w w') : KeptS S w w' := ⟨h.os, h.tape, h.output, h.size, fun k hk _ => h.block k hk⟩
theorem KeptS.of_kept {S : Nat → Prop} {l : List Nat} {w w' : World} (h : Kept l w w') (hl : ∀ k ∈ l, S k) : KeptS S w w' :=
  ⟨h.os, h.tape, h.output, h.size, fun k hk hn => h.block k hk (fun hm => hn (hl k hm))⟩
theorem KeptS.below {S : Nat → Prop} {w w' : World} (h : KeptS S w w') {b : Nat} (hb : b ≤ w.heap.size) (hS : ∀ k, S k → b ≤ k) : Below b w w' :=
  ⟨h.os, h.tape, h.output, h.size, fun k hk => h.block k (by omega) (fun e => by have := hS k e; omega)⟩
theorem KeptS.mono {S T : Nat → Prop} {w w' : World} (h : KeptS S w w') (hst : ∀ k, k < w.heap.size → S k → T k) : KeptS T w w' :=
  ⟨h.os, h.tape, h.output, h.size, fun k hk hn => h.block k hk (fun e => hn (hst k hk e))⟩

theorem BookT.alike {w w' : World} {B M : Nat} {hh seed tot : Int} {last : Option Addr} {E : List Acct} (hb : BookT w B M hh seed last tot E) (e : ∀ k ∈ blksE B M E, w'.heap[k]? = w.heap[k]?) : BookT w' B M hh seed last tot E := by
  refine ⟨(e B (by simp [blksE])).trans hb.blk, ?_, fun a ha => (e _ (by unfold blksE; exact List.mem_cons_of_mem _ (List.mem_cons_of_mem _ (List.mem_map.2 ⟨a, ha, rfl⟩)))).trans (hb.acc a ha), hb.apart, hb.pos⟩
  obtain ⟨es, cl, he, r⟩ := hb.own
  exact ⟨es, cl, (e M (by simp [blksE])).trans he, r⟩
theorem BookT.lts {w : World} {B M : Nat} {hh seed tot : Int} {last : Option Addr} {E : List Acct} (hb : BookT w B M hh seed last tot E) : ∀ k ∈ blksE B M E, k < w.heap.size := by
  intro k hk
  unfold blksE at hk
  rcases List.mem_cons.1 hk with rfl | hk
  · exact (Array.getElem?_eq_some_iff.1 hb.blk).1
  · rcases List.mem_cons.1 hk with rfl | hk
    · obtain ⟨es, cl, he, r⟩ := hb.own
      exact (Array.getElem?_eq_some_iff.1 he).1
    · obtain ⟨a, ha, rfl⟩ := List.mem_map.1 hk
      exact (Array.getElem?_eq_some_iff.1 (hb.acc a ha)).1
theorem RefT.lts {N : Nat} {w : World} {Rb : Nat} {h seed : Int} {A : List (List UInt8 × Int)} {lv : Value} {th : Int} {tv : Value} {told : Bool} (r : RefT N w Rb h seed A lv th tv told) : ∀ k ∈ refBs Rb lv, k < w.heap.size := by
  intro k hk
  unfold refBs at hk
  rcases List.mem_cons.1 hk with rfl | hk
  · exact (Array.getElem?_eq_some_iff.1 r.blk).1
  · exact own_lt r.own (by simpa using hk)
theorem RefT.alike {N : Nat} {w w' : World} {Rb : Nat} {h seed : Int} {A : List (List UInt8 × Int)} {lv : Value} {th : Int} {tv : Value} {told : Bool} (r : RefT N w Rb h seed A lv th tv told) (e : ∀ k ∈ refBs Rb lv, w'.heap[k]? = w.heap[k]?) : RefT N w' Rb h seed A lv th tv told :=
  r.same (e Rb (by simp [refBs])) (fun g hg => e g (by unfold refBs; rw [hg]; simp))
theorem LeavesAt.alike {w w' : World} {b off : Nat} {ls : List LeafD} (h : LeavesAt w b off ls) (hb : ls ≠ [] → w'.heap[b]? = w.heap[b]?) (hs : w.heap.size ≤ w'.heap.size) : LeavesAt w' b off ls := by
  refine ⟨Nat.lt_of_lt_of_le h.lt hs, fun i hi => ?_, h.ok⟩
  have ec : ∀ o, w'.cell? ⟨b, o, none⟩ = w.cell? ⟨b, o, none⟩ := fun o => World.cell?_of_block (w := w) (hb (fun e => by rw [e] at hi; simp at hi))
  rw [ec, ec, ec]
  exact h.cells i hi
theorem TreeM.alike {w w' : World} {T b cap V vc h : Nat} {gs : List Nat} {ls : List LeafD} (t : TreeM w T b cap V vc gs ls h) (hT : w'.heap[T]? = w.heap[T]?) (hb : ls ≠ [] → w'.heap[b]? = w.heap[b]?) (hV : w'.heap[V]? = w.heap[V]?) (hg : ∀ j, j ≤ h → w'.heap[gs.getD j 0]? = w.heap[gs.getD j 0]?) (hs : w.heap.size ≤ w'.heap.size) : TreeM w' T b cap V vc gs ls h := by
  refine ⟨hT.trans t.blk, t.leaves.alike hb hs, fun j hj => (World.cell?_of_block (w := w) hV).trans (t.rows j hj), Nat.lt_of_lt_of_le t.vlt hs, fun j hj => ⟨fun i hi => ?_, Nat.lt_of_lt_of_le (t.sides j hj).2 hs⟩⟩
  have ec : ∀ o, w'.cell? ⟨gs.getD j 0, o, none⟩ = w.cell? ⟨gs.getD j 0, o, none⟩ := fun o => World.cell?_of_block (w := w) (hg j hj)
  rw [ec, ec, ec, ec]
  exact (t.sides j hj).1 i hi

/-- Both trees of the last report, in blocks of a set. -/
def Trees (w : World) (G : Nat → Prop) (h : Nat) (last : Option Addr) (th : Int) (tv : Value) (told : Bool) : Prop :=
  (last = none ∧ told = false) ∨
  (told = true ∧ th = (h : Int) ∧ ∃ T b cap V vc gs ls la lc, last = some ⟨T, 0, none⟩ ∧ TreeM w T b cap V vc gs ls h ∧ tv = .slice la ls.length lc ∧ LeavesOf w la ls ∧ ls.length ≤ 2 ^ h ∧ (∀ x ∈ ls, 0 ≤ x.bal) ∧ sumL ls ≤ maxS ∧
    G T ∧ (ls ≠ [] → G b) ∧ G V ∧ (∀ j, j ≤ h → G (gs.getD j 0)) ∧ ∀ ad, la = some ad → G ad.block ∧ ad.block < w.heap.size)
theorem Trees.kept {w w' : World} {G G' : Nat → Prop} {h : Nat} {last : Option Addr} {th : Int} {tv : Value} {told : Bool} (t : Trees w G h last th tv told) (hs : w.heap.size ≤ w'.heap.size) (hG : ∀ g, g < w.heap.size → G g → G' g ∧ w'.heap[g]? = w.heap[g]?) : Trees w' G' h last th tv told := by
  rcases t with t | ⟨t1, t2, T, b, cap, V, vc, gs, ls, la, lc, e1, tm, e2, lo, e3, e4, e5, g1, g2, g3, g4, g5⟩
  · exact .inl t
  · have k1 := hG T (Array.getElem?_eq_some_iff.1 tm.blk).1 g1
    have k2 := fun h0 => hG b tm.leaves.lt (g2 h0)
    have k3 := hG V tm.vlt g3
    have k4 := fun j hj => hG (gs.getD j 0) (tm.sides j hj).2 (g4 j hj)
    have k5 := fun ad hla => hG _ (g5 ad hla).2 (g5 ad hla).1
    refine .inr ⟨t1, t2, T, b, cap, V, vc, gs, ls, la, lc, e1, tm.alike k1.2 (fun h0 => (k2 h0).2) k3.2 (fun j hj => (k4 j hj).2) hs, e2, ?_, e3, e4, e5, k1.1, fun h0 => (k2 h0).1, k3.1, fun j hj => (k4 j hj).1, fun ad hla => ⟨(k5 ad hla).1, Nat.lt_of_lt_of_le (g5 ad hla).2 hs⟩⟩
    rcases lo with lo | ⟨bb, off, lo, lo2⟩
    · exact .inl lo
    · exact .inr ⟨bb, off, lo, lo2.alike (fun _ => (k5 _ lo).2) hs⟩

/-- A player: the block of its record, its two books. -/
structure PlI (w : World) (B : Nat) (c : Nat → Nat) (i n p Bk M Rb h : Nat) (seed : Int) (last : Option Addr) (E : List Acct) (lv : Value) (th : Int) (tv : Value) (told : Bool) : Prop where
  blk : w.heap[p]? = some (.cells #[ptrV Bk, ptrV Rb] 58 (0, 0))
  cp : c p = 3 * i + 3
  book : BookM w Bk M (h : Int) seed last E
  cb : ∀ k ∈ blksE Bk M E, c k = 3 * i + 1
  ref : RefT (B + 1) w Rb (h : Int) seed (refA E) lv th tv told
  cr : ∀ k ∈ refBs Rb lv, c k = 3 * i + 2
  hh : h ≤ 6
  len : E.length ≤ n
  nm : ∀ a ∈ E, a.name.length ≤ 8
  tree : Trees w (fun g => c g = 3 * i + 3) h last th tv told

/-- A player stands where its blocks stand and keep their colours. -/
theorem PlI.kept {w w' : World} {B : Nat} {c c' : Nat → Nat} {i n n' p Bk M Rb h : Nat} {seed : Int} {last : Option Addr} {E : List Acct} {lv : Value} {th : Int} {tv : Value} {told : Bool} (x : PlI w B c i n p Bk M Rb h seed last E lv th tv told) (hs : w.heap.size ≤ w'.heap.size) (hc : ∀ g, g < w.heap.size → c' g = c g) (hn : n ≤ n')
    (hk : ∀ g, g < w.heap.size → (c g = 3 * i + 1 ∨ c g = 3 * i + 2 ∨ c g = 3 * i + 3) → w'.heap[g]? = w.heap[g]?) : PlI w' B c' i n' p Bk M Rb h seed last E lv th tv told := by
  have hp := (Array.getElem?_eq_some_iff.1 x.blk).1
  exact ⟨(hk p hp (.inr (.inr x.cp))).trans x.blk, (hc p hp).trans x.cp, ⟨x.book.toBookT.alike fun k hm => hk k (x.book.toBookT.lts k hm) (.inl (x.cb k hm)), x.book.sum⟩, fun k hm => (hc k (x.book.toBookT.lts k hm)).trans (x.cb k hm),
    x.ref.alike fun k hm => hk k (x.ref.lts k hm) (.inr (.inl (x.cr k hm))), fun k hm => (hc k (x.ref.lts k hm)).trans (x.cr k hm), x.hh, Nat.le_trans x.len hn, x.nm,
    x.tree.kept hs fun g hg hG => ⟨(hc g hg).trans hG, hk g hg (.inr (.inr hG))⟩⟩

def PlOk (w : World) (B : Nat) (c : Nat → Nat) (i n p : Nat) : Prop := ∃ Bk M Rb h seed last E lv th tv told, PlI w B c i n p Bk M Rb h seed last E lv th tv told
theorem PlOk.kept {w w' : World} {B : Nat} {c c' : Nat → Nat} {i n n' p : Nat} (x : PlOk w B c i n p) (hs : w.heap.size ≤ w'.heap.size) (hc : ∀ g, g < w.heap.size → c' g = c g) (hn : n ≤ n')
    (hk : ∀ g, g < w.heap.size → (c g = 3 * i + 1 ∨ c g = 3 * i + 2 ∨ c g = 3 * i + 3) → w'.heap[g]? = w.heap[g]?) : PlOk w' B c' i n' p := by
  obtain ⟨Bk, M, Rb, h, seed, last, E, lv, th, tv, told, x⟩ := x
  exact ⟨_, _, _, _, _, _, _, _, _, _, _, x.kept hs hc hn hk⟩

/-- All that a script has made: its record and lists (colour 0), its players. -/
structure Joint (w : World) (B n : Nat) (c : Nat → Nat) (ps hv : Value) (hs : List HoldD) (pl : List Nat) : Prop where
  inv : Inv w B ps hv hs
  cB : c B = 0
  chv : ∀ g, hv.ownBlock = some g → c g = 0
  chs : ∀ x ∈ hs, c x.p = 0 ∧ ∀ g, x.v.ownBlock = some g → c g = 0
  cps : ∀ g, ps.ownBlock = some g → c g = 0
  above : ∀ g, c g ≠ 0 → B < g
  own : w.ownsRow (B + 1) 52 1 ps pl.length (pl.map ptrV)
  pls : ∀ i (hi : i < pl.length), PlOk w B c i n pl[i]
  four : pl.length ≤ 4

theorem Inv.alike {w w' : World} {B : Nat} {ps hv : Value} {hs : List HoldD} {c : Nat → Nat} (h : Inv w B ps hv hs) (cB : c B = 0) (chv : ∀ g, hv.ownBlock = some g → c g = 0) (chs : ∀ x ∈ hs, c x.p = 0 ∧ ∀ g, x.v.ownBlock = some g → c g = 0) (hk : ∀ g, g < w.heap.size → c g = 0 → w'.heap[g]? = w.heap[g]?) : Inv w' B ps hv hs := by
  refine ⟨(hk B h.lt cB).trans h.cell, own_same h.own (fun g hg => hk g (own_lt h.own hg) (chv g hg)), fun x hx => ?_⟩
  have hx' := h.ok x hx
  exact hx'.kept (hk _ (Array.getElem?_eq_some_iff.1 hx'.cell).1 (chs x hx).1) (own_same hx'.own fun g hg => hk g (own_lt hx'.own hg) ((chs x hx).2 g hg))

/-- The blocks that a player may turn. -/
def Mine (c : Nat → Nat) (i H : Nat) (g : Nat) : Prop := g < H ∧ (c g = 3 * i + 1 ∨ c g = 3 * i + 2)

/-- One player goes on, all else stands. -/
theorem Joint.turn {w w' : World} {B n n' : Nat} {c c' : Nat → Nat} {ps hv : Value} {hs : List HoldD} {pl : List Nat} (J : Joint w B n c ps hv hs pl) {i : Nat} (hi : i < pl.length) (hk : KeptS (Mine c i w.heap.size) w w') (hc : ∀ g, g < w.heap.size → c' g = c g) (hn : n ≤ n') (hp : PlOk w' B c' i n' pl[i]) : Joint w' B n' c' ps hv hs pl := by
  have hk0 : ∀ g, g < w.heap.size → c g = 0 → w'.heap[g]? = w.heap[g]? := fun g hg e => hk.block g hg (fun hm => by rcases hm.2 with h | h <;> omega)
  refine ⟨J.inv.alike J.cB J.chv J.chs hk0, (hc _ J.inv.lt).trans J.cB, fun g hg => (hc g (own_lt J.inv.own hg)).trans (J.chv g hg), fun x hx => ⟨(hc _ (Array.getElem?_eq_some_iff.1 (J.inv.ok x hx).cell).1).trans (J.chs x hx).1, fun g hg => (hc g (own_lt (J.inv.ok x hx).own hg)).trans ((J.chs x hx).2 g hg)⟩, fun g hg => (hc g (own_lt J.own hg)).trans (J.cps g hg), fun g hg => ?_, own_same J.own (fun g hg => hk0 g (own_lt J.own hg) (J.cps g hg)), fun j hj => ?_, J.four⟩
  · by_cases hlt : g < w.heap.size
    · exact J.above g (by rw [← hc g hlt]; exact hg)
    · have := J.inv.lt; omega
  · by_cases e : j = i
    · subst e; exact hp
    · refine (J.pls j hj).kept hk.size hc hn (fun g hg hcg => hk.block g hg (fun hm => ?_))
      rcases hm.2 with h | h <;> rcases hcg with h' | h' | h' <;> omega

/-- New memory turns nothing. -/
theorem Joint.later {w w' : World} {B n n' : Nat} {c : Nat → Nat} {ps hv : Value} {hs : List HoldD} {pl : List Nat} (J : Joint w B n c ps hv hs pl) (hb : Below w.heap.size w w') (hn : n ≤ n') : Joint w' B n' c ps hv hs pl :=
  ⟨J.inv.later hb, J.cB, J.chv, J.chs, J.cps, J.above, own_same J.own (fun g hg => hb.block g (own_lt J.own hg)), fun i hi => (J.pls i hi).kept hb.size (fun _ _ => rfl) hn (fun g hg _ => hb.block g hg), J.four⟩

/-- A list is kept. -/
theorem Joint.keep {w w' : World} {B n : Nat} {c : Nat → Nat} {ps hv vb hv' vb' : Value} {hs hs' : List HoldD} {pl : List Nat} {m : Int} {N : Nat} {xs : List Value} {nb : Nat} (J : Joint w B n c ps hv hs pl) (hb : w.ownsRow (B + 1) 5 1 vb nb xs) (hcb : ∀ g, vb.ownBlock = some g → c g = 0) (st : St w w' B ps hv vb hs m hv' vb' hs' N) :
    Joint w' B n (fun g => if g < w.heap.size then c g else 0) ps hv' hs' pl := by
  have c0 : ∀ g, g < w.heap.size → (if g < w.heap.size then c g else 0) = c g := fun g hg => if_pos hg
  have cz : ∀ g, (w.heap.size ≤ g ∨ c g = 0) → (if g < w.heap.size then c g else 0) = 0 := fun g h => by
    split
    · rcases h with h | h
      · omega
      · exact h
    · rfl
  have hk : ∀ g, g < w.heap.size → c g ≠ 0 → w'.heap[g]? = w.heap[g]? := fun g hg e => st.frame.block g hg (fun h => e (by rw [h]; exact J.cB)) (fun h => e (hcb g h.symm)) (fun h => e (J.chv g h.symm))
  refine ⟨st.inv, cz _ (.inr J.cB), fun g hg => cz g ?_, fun x hx => ⟨cz _ ?_, fun g hg => cz g ?_⟩, fun g hg => cz g (.inr (J.cps g hg)), fun g hg => ?_, own_same J.own (fun g hg => ?_), fun i hi => (J.pls i hi).kept st.frame.size c0 (Nat.le_refl _) (fun g hg hcg => hk g hg (by omega)), J.four⟩
  · rcases st.oldh.is g hg with h | h
    · exact .inr (J.chv g h.symm)
    · exact .inl h
  · rcases st.newp x hx with h | h
    · exact .inr (J.chs x h).1
    · exact .inl h
  · rcases st.orig x hx with h | h | h | ⟨g', h, hle⟩
    · exact .inr ((J.chs x h).2 g hg)
    · rw [h] at hg; cases hg
    · exact .inr (hcb g (h.symm.trans hg))
    · rw [h] at hg; cases hg; exact .inl hle
  · by_cases hlt : g < w.heap.size
    · exact J.above g (by simpa [hlt] using hg)
    · simp [hlt] at hg
  · have hlt := own_lt J.own hg
    obtain ⟨cur, ht⟩ := own_type J.own hg
    refine st.frame.block g hlt (fun e => ?_) (fun e => ?_) (fun e => ?_)
    · rw [e, J.inv.cell] at ht; simp at ht
    · obtain ⟨cur', ht'⟩ := own_type hb e.symm
      rw [ht] at ht'; simp at ht'
    · obtain ⟨cur', ht'⟩ := own_type J.inv.own e.symm
      rw [ht] at ht'; simp at ht'

end Go.Proofs.YtbjobbkgelipmaaGreat

/-
  A player's two books answer alike: Open, Close, Pay, Draw, Move, Balance.
-/
namespace Go.Proofs.YtbjobbkgelipmaaGreat
open Go.RowKit Go.Maps

theorem Kept.same_at {l : List Nat} {w w' : World} (k : Kept l w w') {g : Nat} (hg : g < w.heap.size) (hn : g ∉ l) : w'.heap[g]? = w.heap[g]? := k.block g hg hn

section
variable {w : World} {B : Nat} {c : Nat → Nat} {i n p Bk M Rb h : Nat} {seed : Int} {last : Option Addr} {E : List Acct} {lv : Value} {th : Int} {tv : Value} {told : Bool}

theorem PlI.mineB (x : PlI w B c i n p Bk M Rb h seed last E lv th tv told) : ∀ k ∈ blksE Bk M E, Mine c i w.heap.size k := fun k hk => ⟨x.book.toBookT.lts k hk, .inl (x.cb k hk)⟩
theorem PlI.mineR (x : PlI w B c i n p Bk M Rb h seed last E lv th tv told) : ∀ k ∈ refBs Rb lv, Mine c i w.heap.size k := fun k hk => ⟨x.ref.lts k hk, .inr (x.cr k hk)⟩
theorem PlI.later (x : PlI w B c i n p Bk M Rb h seed last E lv th tv told) {w0 : World} (b0 : Below w.heap.size w w0) : PlI w0 B c i n p Bk M Rb h seed last E lv th tv told :=
  x.kept b0.size (fun _ _ => rfl) (Nat.le_refl _) (fun g hg _ => b0.block g hg)

/-- The document's book stands while the other goes on. -/
theorem PlI.refAt (x : PlI w B c i n p Bk M Rb h seed last E lv th tv told) {w0 w1 w1' : World} (b0 : Below w.heap.size w w0) (k1 : Kept (blksE Bk M E) w0 w1) (b1 : Below w1.heap.size w1 w1') : RefT (B + 1) w1' Rb (h : Int) seed (refA E) lv th tv told := by
  refine x.ref.alike fun k hk => ?_
  have hl := x.ref.lts k hk
  have hl0 : k < w0.heap.size := Nat.lt_of_lt_of_le hl b0.size
  refine (b1.block k (Nat.lt_of_lt_of_le hl0 k1.size)).trans ((k1.block k hl0 (fun hm => ?_)).trans (b0.block k hl))
  have e1 := x.cb k hm
  have e2 := x.cr k hk
  omega

/-- Both have gone on. -/
theorem PlI.both (x : PlI w B c i n p Bk M Rb h seed last E lv th tv told) {w0 w1 w1' w2 : World} {E' : List Acct} {lv' : Value} {n' : Nat} (b0 : Below w.heap.size w w0) (k1 : Kept (blksE Bk M E) w0 w1) (hb1 : BookM w1 Bk M (h : Int) seed last E') (hE' : ∀ k ∈ blksE Bk M E', k ∈ blksE Bk M E ∨ w0.heap.size ≤ k)
    (b1 : Below w1.heap.size w1 w1') (k2 : Kept (refBs Rb lv) w1' w2) (hr : RefT (B + 1) w2 Rb (h : Int) seed (refA E') lv' th tv told) (hlv : ∀ g, lv'.ownBlock = some g → some g = lv.ownBlock ∨ w1'.heap.size ≤ g) (hlen : E'.length ≤ n') (hnm : ∀ a ∈ E', a.name.length ≤ 8) :
    ∃ c' : Nat → Nat, (∀ g, g < w.heap.size → c' g = c g) ∧ PlOk w2 B c' i n' p := by
  have z0 := b0.size
  have z1 := k1.size
  have z1' := b1.size
  have z2 := k2.size
  have far : ∀ g, g < w.heap.size → c g = 3 * i + 3 → w2.heap[g]? = w.heap[g]? := fun g hg e => by
    refine (k2.block g (by omega) (fun hm => ?_)).trans ((b1.block g (by omega)).trans ((k1.block g (by omega) (fun hm => ?_)).trans (b0.block g hg)))
    · have := x.cr g hm; omega
    · have := x.cb g hm; omega
  have c1 : ∀ g, g < w.heap.size → (if g < w.heap.size then c g else if g < w1.heap.size then 3 * i + 1 else 3 * i + 2) = c g := fun g hg => if_pos hg
  refine ⟨fun g => if g < w.heap.size then c g else if g < w1.heap.size then 3 * i + 1 else 3 * i + 2, c1, Bk, M, Rb, h, seed, last, E', lv', th, tv, told, ?_, ?_, ⟨?_, hb1.sum⟩, ?_, hr, ?_, x.hh, hlen, hnm, ?_⟩
  · exact (far p (Array.getElem?_eq_some_iff.1 x.blk).1 x.cp).trans x.blk
  · exact (c1 p (Array.getElem?_eq_some_iff.1 x.blk).1).trans x.cp
  · refine hb1.toBookT.alike fun k hk => ?_
    have hl := hb1.toBookT.lts k hk
    refine (k2.block k (by omega) (fun hm => ?_)).trans (b1.block k hl)
    have e2 := x.cr k hm
    have hl2 := x.ref.lts k hm
    rcases hE' k hk with hk' | hk'
    · have e1 := x.cb k hk'
      omega
    · omega
  · intro k hk
    have hl := hb1.toBookT.lts k hk
    rcases hE' k hk with hk' | hk'
    · exact (c1 k (x.book.toBookT.lts k hk')).trans (x.cb k hk')
    · show (if k < w.heap.size then c k else if k < w1.heap.size then 3 * i + 1 else 3 * i + 2) = 3 * i + 1
      rw [if_neg (by omega), if_pos hl]
  · intro k hk
    unfold refBs at hk
    rcases List.mem_cons.1 hk with rfl | hk
    · exact (c1 _ (Array.getElem?_eq_some_iff.1 x.ref.blk).1).trans (x.cr _ (by simp [refBs]))
    · have hk' : lv'.ownBlock = some k := by simpa using hk
      rcases hlv k hk' with e | e
      · have hm : k ∈ refBs Rb lv := by unfold refBs; rw [← e]; simp
        exact (c1 k (x.ref.lts k hm)).trans (x.cr k hm)
      · show (if k < w.heap.size then c k else if k < w1.heap.size then 3 * i + 1 else 3 * i + 2) = 3 * i + 2
        rw [if_neg (by omega), if_neg (by omega)]
  · exact x.tree.kept (by omega) fun g hg hG => ⟨(c1 g hg).trans hG, far g hg hG⟩

/-- What two calls owe: they answer alike, and the player stands. -/
def Pair (w : World) (B : Nat) (c : Nat → Nat) (i n p : Nat) (f g : FuncId) (fa ga : Array Value) (v : Value) : Prop :=
  ∀ w0, Below w.heap.size w w0 → Calls Tryz.prog f fa w0 fun e w1 => e = .returned v ∧ KeptS (Mine c i w.heap.size) w0 w1 ∧ ∀ w1', Below w1.heap.size w1 w1' →
    Calls Tryz.prog g ga w1' fun e w2 => e = .returned v ∧ KeptS (Mine c i w.heap.size) w1' w2 ∧ ∃ c' : Nat → Nat, (∀ g, g < w.heap.size → c' g = c g) ∧ PlOk w2 B c' i (n + 1) p

theorem set_blks (Bk M : Nat) (E : List Acct) (s : List UInt8) (x : Int) : blksE Bk M (setE E s x) = blksE Bk M E := by
  unfold blksE setE
  rw [List.map_map]
  congr 2
  apply List.map_congr_left
  intro a _
  simp only [Function.comp]
  split <;> rfl
theorem set_nm {E : List Acct} {s : List UInt8} {x : Int} (h : ∀ a ∈ E, a.name.length ≤ 8) : ∀ a ∈ setE E s x, a.name.length ≤ 8 := fun a ha => by
  obtain ⟨b, hb, e, _⟩ := mem_set ha
  rw [e]; exact h b hb
theorem pay_same (Bk M : Nat) (E : List Acct) (s : List UInt8) (n : Int) : blksE Bk M (payE E s n).2 = blksE Bk M E ∧ (payE E s n).2.length = E.length ∧ ((∀ a ∈ E, a.name.length ≤ 8) → ∀ a ∈ (payE E s n).2, a.name.length ≤ 8) := by
  unfold payE
  split
  · exact ⟨rfl, rfl, id⟩
  · split
    · exact ⟨set_blks _ _ _ _ _, len_set _ _ _, set_nm⟩
    · exact ⟨rfl, rfl, id⟩
theorem draw_same (Bk M : Nat) (E : List Acct) (s : List UInt8) (n : Int) : blksE Bk M (drawE E s n).2 = blksE Bk M E ∧ (drawE E s n).2.length = E.length ∧ ((∀ a ∈ E, a.name.length ≤ 8) → ∀ a ∈ (drawE E s n).2, a.name.length ≤ 8) := by
  unfold drawE
  split
  · exact ⟨rfl, rfl, id⟩
  · split
    · exact ⟨set_blks _ _ _ _ _, len_set _ _ _, set_nm⟩
    · exact ⟨rfl, rfl, id⟩
theorem move_same (Bk M : Nat) (E : List Acct) (s t : List UInt8) (n : Int) : blksE Bk M (moveE E s t n).2 = blksE Bk M E ∧ (moveE E s t n).2.length = E.length ∧ ((∀ a ∈ E, a.name.length ≤ 8) → ∀ a ∈ (moveE E s t n).2, a.name.length ≤ 8) := by
  unfold moveE
  split
  · split
    · exact ⟨(set_blks _ _ _ _ _).trans (set_blks _ _ _ _ _), (len_set _ _ _).trans (len_set _ _ _), fun h => set_nm (set_nm h)⟩
    · exact ⟨rfl, rfl, id⟩
  · exact ⟨rfl, rfl, id⟩
theorem close_sub (Bk M : Nat) (E : List Acct) (s : List UInt8) : (∀ k ∈ blksE Bk M (closeE E s).2, k ∈ blksE Bk M E) ∧ (closeE E s).2.length ≤ E.length ∧ ((∀ a ∈ E, a.name.length ≤ 8) → ∀ a ∈ (closeE E s).2, a.name.length ≤ 8) := by
  have hr : ∀ a ∈ remE E s, a ∈ E := fun a ha => (List.mem_filter.1 ha).1
  unfold closeE
  split
  · exact ⟨fun _ h => h, Nat.le_refl _, id⟩
  · split
    · refine ⟨fun k hk => ?_, List.length_filter_le _ _, fun h a ha => h a (hr a ha)⟩
      unfold blksE at *
      rcases List.mem_cons.1 hk with rfl | hk
      · simp
      · rcases List.mem_cons.1 hk with rfl | hk
        · simp
        · obtain ⟨a, ha, rfl⟩ := List.mem_map.1 hk
          exact List.mem_cons_of_mem _ (List.mem_cons_of_mem _ (List.mem_map.2 ⟨a, hr a ha, rfl⟩))
    · exact ⟨fun _ h => h, Nat.le_refl _, id⟩

theorem one_sub (Rb : Nat) (lv : Value) : ∀ k ∈ [Rb], k ∈ refBs Rb lv := fun k hk => by
  simp at hk; subst hk; simp [refBs]

theorem pair_pay (x : PlI w B c i n p Bk M Rb h seed last E lv th tv told) (hn : n ≤ 2000000000000) (s : ByteArray) (a : Int) (hs : s.size ≤ maxLen) (h0 : 0 ≤ a) (h1 : a < 18446744073709551616) :
    Pair w B c i n p 23 24 #[ptrV Bk, .string s, .int .u64 a] #[ptrV Rb, .string s, .int .u64 a] (.int .i64 (payE E s.data.toList a).1) := by
  intro w0 b0
  have hl := x.len
  obtain ⟨e1, e2, e3⟩ := pay_same Bk M E s.data.toList a
  refine (pay_any (x.later b0).book s a hs h0 h1).mono ?_
  rintro e w1 ⟨rfl, hb1, k1⟩
  refine ⟨rfl, KeptS.of_kept k1 x.mineB, fun w1' b1 => ?_⟩
  refine (refpay_any (x.refAt b0 k1 b1) s a (by omega) x.book.toBookT.names x.book.pos x.book.sum h0 h1).mono ?_
  rintro e w2 ⟨rfl, hr, k2⟩
  exact ⟨rfl, KeptS.of_kept k2 x.mineR, x.both b0 k1 hb1 (fun k hk => .inl (by rw [← e1]; exact hk)) b1 k2 hr (fun g hg => .inl hg.symm) (by omega) (e3 x.nm)⟩
theorem pair_draw (x : PlI w B c i n p Bk M Rb h seed last E lv th tv told) (hn : n ≤ 2000000000000) (s : ByteArray) (a : Int) (hs : s.size ≤ maxLen) (h0 : 0 ≤ a) (h1 : a < 18446744073709551616) :
    Pair w B c i n p 25 26 #[ptrV Bk, .string s, .int .u64 a] #[ptrV Rb, .string s, .int .u64 a] (.int .i64 (drawE E s.data.toList a).1) := by
  intro w0 b0
  have hl := x.len
  obtain ⟨e1, e2, e3⟩ := draw_same Bk M E s.data.toList a
  refine (draw_any (x.later b0).book s a hs h0 h1).mono ?_
  rintro e w1 ⟨rfl, hb1, k1⟩
  refine ⟨rfl, KeptS.of_kept k1 x.mineB, fun w1' b1 => ?_⟩
  refine (refdraw_any (x.refAt b0 k1 b1) s a (by omega) x.book.toBookT.names x.book.pos x.book.sum h0 h1).mono ?_
  rintro e w2 ⟨rfl, hr, k2⟩
  exact ⟨rfl, KeptS.of_kept k2 x.mineR, x.both b0 k1 hb1 (fun k hk => .inl (by rw [← e1]; exact hk)) b1 k2 hr (fun g hg => .inl hg.symm) (by omega) (e3 x.nm)⟩
theorem pair_move (x : PlI w B c i n p Bk M Rb h seed last E lv th tv told) (hn : n ≤ 2000000000000) (s t : ByteArray) (a : Int) (hs : s.size ≤ maxLen) (ht : t.size ≤ maxLen) (h0 : 0 ≤ a) (h1 : a < 18446744073709551616) :
    Pair w B c i n p 27 28 #[ptrV Bk, .string s, .string t, .int .u64 a] #[ptrV Rb, .string s, .string t, .int .u64 a] (.int .i64 (moveE E s.data.toList t.data.toList a).1) := by
  intro w0 b0
  have hl := x.len
  obtain ⟨e1, e2, e3⟩ := move_same Bk M E s.data.toList t.data.toList a
  refine (move_any (x.later b0).book s t a hs ht h0 h1).mono ?_
  rintro e w1 ⟨rfl, hb1, k1⟩
  refine ⟨rfl, KeptS.of_kept k1 x.mineB, fun w1' b1 => ?_⟩
  refine (refmove_any (x.refAt b0 k1 b1) s t a (by omega) x.book.toBookT.names x.book.pos x.book.sum h0 h1).mono ?_
  rintro e w2 ⟨rfl, hr, k2⟩
  exact ⟨rfl, KeptS.of_kept k2 x.mineR, x.both b0 k1 hb1 (fun k hk => .inl (by rw [← e1]; exact hk)) b1 k2 hr (fun g hg => .inl hg.symm) (by omega) (e3 x.nm)⟩
theorem pair_close (x : PlI w B c i n p Bk M Rb h seed last E lv th tv told) (hn : n ≤ 2000000000000) (hB : B < w.heap.size) (s : ByteArray) (hs : s.size ≤ maxLen) :
    Pair w B c i n p 21 22 #[ptrV Bk, .string s] #[ptrV Rb, .string s] (.int .i64 (closeE E s.data.toList).1) := by
  intro w0 b0
  have hl := x.len
  obtain ⟨e1, e2, e3⟩ := close_sub Bk M E s.data.toList
  refine (close_any (x.later b0).book s hs).mono ?_
  rintro e w1 ⟨rfl, hb1, k1⟩
  refine ⟨rfl, KeptS.of_kept k1 x.mineB, fun w1' b1 => ?_⟩
  have z0 := b0.size
  have z1 := k1.size
  have z1' := b1.size
  refine (refclose_any (x.refAt b0 k1 b1) s (by omega) (by omega) x.book.toBookT.names x.book.pos).mono ?_
  rintro e w2 ⟨rfl, ⟨lv', hr, hlv⟩, k2⟩
  have k2' := k2.mono (one_sub Rb lv)
  refine ⟨rfl, KeptS.of_kept k2' x.mineR, x.both b0 k1 hb1 (fun k hk => .inl (e1 k hk)) b1 k2' hr (fun g hg => ?_) (by omega) (e3 x.nm)⟩
  rcases hlv with rfl | hlv
  · exact .inl hg.symm
  · exact .inr (hlv g hg)
theorem pair_open (x : PlI w B c i n p Bk M Rb h seed last E lv th tv told) (hn : n < 2000000000000) (hB : B < w.heap.size) (s : ByteArray) (hs : s.size ≤ maxLen) :
    Pair w B c i n p 19 20 #[ptrV Bk, .string s] #[ptrV Rb, .string s] (.int .i64 (openE E s.data.toList)) := by
  intro w0 b0
  have hl := x.len
  have z0 := b0.size
  by_cases ho : openE E s.data.toList = 0
  · rw [ho]
    refine (open_yes (x.later b0).book s ho (by unfold maxLen; omega)).mono ?_
    rintro e w1 ⟨rfl, ⟨A, hA, hb1⟩, k1⟩
    refine ⟨rfl, KeptS.of_kept k1 x.mineB, fun w1' b1 => ?_⟩
    have z1 := k1.size
    have z1' := b1.size
    refine (refopen_yes (x.refAt b0 k1 b1) s A (by omega) (by omega) ho).mono ?_
    rintro e w2 ⟨rfl, ⟨lv', hr, hlv⟩, k2⟩
    have k2' := k2.mono (one_sub Rb lv)
    have hpm := ins_perm ⟨s.data.toList, A, 0⟩ E
    have hmem : ∀ a ∈ insE ⟨s.data.toList, A, 0⟩ E, a = ⟨s.data.toList, A, 0⟩ ∨ a ∈ E := fun a ha => List.mem_cons.1 (hpm.mem_iff.1 ha)
    refine ⟨rfl, KeptS.of_kept k2' x.mineR, x.both b0 k1 hb1 (fun k hk => ?_) b1 k2' hr (fun g hg => .inr (hlv g hg)) ?_ (fun a ha => ?_)⟩
    · unfold blksE at *
      rcases List.mem_cons.1 hk with rfl | hk
      · exact .inl (by simp)
      · rcases List.mem_cons.1 hk with rfl | hk
        · exact .inl (by simp)
        · obtain ⟨a, ha, rfl⟩ := List.mem_map.1 hk
          rcases hmem a ha with rfl | ha
          · exact .inr hA
          · exact .inl (List.mem_cons_of_mem _ (List.mem_cons_of_mem _ (List.mem_map.2 ⟨a, ha, rfl⟩)))
    · rw [hpm.length_eq]
      simp only [List.length_cons]
      omega
    · rcases hmem a ha with rfl | ha
      · unfold openE at ho
        split at ho
        · rename_i h18; exact h18.2
        · cases ho
      · exact x.nm a ha
  · refine (open_no (x.later b0).book s hs ho).mono ?_
    rintro e w1 ⟨rfl, rfl⟩
    refine ⟨rfl, KeptS.refl _ _, fun w1' b1 => ?_⟩
    have b01 := b0.trans (b1.mono b0.size)
    refine (refopen_no (x.later b01).ref s (by omega) ho).mono ?_
    rintro e w2 ⟨rfl, rfl⟩
    exact ⟨rfl, KeptS.refl _ _, c, fun _ _ => rfl, _, _, _, _, _, _, _, _, _, _, _, x.kept b01.size (fun _ _ => rfl) (by omega) (fun g hg _ => b01.block g hg)⟩
theorem pair_bal (x : PlI w B c i n p Bk M Rb h seed last E lv th tv told) (hn : n ≤ 2000000000000) (s : ByteArray) (hs : s.size ≤ maxLen) :
    Pair w B c i n p 29 30 #[ptrV Bk, .string s] #[ptrV Rb, .string s] (.tuple #[.int .u64 ((balE E s.data.toList).getD 0), .int .i64 (if (balE E s.data.toList).isSome then 0 else 4)]) := by
  intro w0 b0
  have hl := x.len
  refine (balance_any (x.later b0).book s hs).mono ?_
  rintro e w1 ⟨rfl, rfl⟩
  refine ⟨rfl, KeptS.refl _ _, fun w1' b1 => ?_⟩
  have b01 := b0.trans (b1.mono b0.size)
  refine (refbal_any (x.later b01).ref s (by omega)).mono ?_
  rintro e w2 ⟨rfl, rfl⟩
  exact ⟨rfl, KeptS.refl _ _, c, fun _ _ => rfl, _, _, _, _, _, _, _, _, _, _, _, x.kept b01.size (fun _ _ => rfl) (by omega) (fun g hg _ => b01.block g hg)⟩
end

end Go.Proofs.YtbjobbkgelipmaaGreat

/-
  The walk of tithelaw's pick.
-/
namespace Go.Proofs.YtbjobbkgelipmaaGreat
open Go.RowKit

/-- What pick answers. -/
def pickL (c n : Int) : Int := (if c < 0 then -(c + 1) else c) % n
theorem pickL_range (c n : Int) (hn : 0 < n) : 0 ≤ pickL c n ∧ pickL c n < n := ⟨Int.emod_nonneg _ (by omega), Int.emod_lt_of_pos _ hn⟩
set_option maxHeartbeats 400000 in
theorem pickL_any (c n : Int) (w : World) (hc : -9223372036854775808 ≤ c) (hc2 : c < 9223372036854775808) (hn : 0 < n) (hn2 : n < 9223372036854775808) :
    Calls Tryz.prog 18 #[.int .i64 c, .int .i64 n] w fun e w' => e = .returned (.int .i64 (pickL c n)) ∧ w' = w := by
  have hr := pickL_range c n hn
  unfold pickL at *
  have n0 : ¬ n = 0 := by omega
  by_cases h : c < 0
  · rw [if_pos h] at *
    have e1 : IntKind.i64.wrap (c + 1) = c + 1 := by rw [IntKind.wrap_i64]; omega
    have e2 : IntKind.i64.wrap (-(c + 1)) = -(c + 1) := by rw [IntKind.wrap_i64]; omega
    have e3 : (-(c + 1)).tmod n = (-(c + 1)) % n := Int.tmod_eq_emod_of_nonneg (by omega)
    have e4 : IntKind.i64.wrap ((-(c + 1)) % n) = (-(c + 1)) % n := by
      generalize (-(c + 1)) % n = z at *
      rw [IntKind.wrap_i64]; omega
    go_enter Tryz.func18, Tryz.ntmps18
    go_wp2
    go_ret
    exact ⟨rfl, rfl⟩
  · rw [if_neg h] at *
    have e3 : c.tmod n = c % n := Int.tmod_eq_emod_of_nonneg (by omega)
    have e4 : IntKind.i64.wrap (c % n) = c % n := by
      generalize c % n = z at *
      rw [IntKind.wrap_i64]; omega
    go_enter Tryz.func18, Tryz.ntmps18
    go_wp2
    go_ret
    exact ⟨rfl, rfl⟩

end Go.Proofs.YtbjobbkgelipmaaGreat
