/-
  keep, walked.
-/
import Derived.Test.YtbjobbkgelipmaaGreatKeepSt
namespace Go.Proofs.YtbjobbkgelipmaaGreat
open Go.RowKit

theorem Tryz.infoHold : (Tryz.prog.info? 71).map (fun i => (i.zero, i.size, i.bytes)) = some (some (.pointer none), 1, 8) := by kernel_rfl

theorem fill_step (m : Int) (xs : List Value) (k : Nat) (h : k < xs.length) : (markV m k ++ xs.drop k).set k (.int .u8 (signI m (k : Int))) = markV m (k + 1) ++ xs.drop (k + 1) := by
  rw [List.set_append_right _ _ (by rw [markV_length]; exact Nat.le_refl _), markV_length, Nat.sub_self, markV_succ, List.append_assoc]
  congr 1
  rw [List.drop_eq_getElem_cons h]
  rfl

theorem own_shape {w : World} {base : Nat} {e : TypeId} {v : Value} {n : Nat} {xs : List Value} (h : w.ownsRow base e 1 v n xs) : ∃ a cap, v = .slice a n cap ∧ (0 < n → ∃ g, a = some ⟨g, 0, none⟩) := by
  rcases h.2 with ⟨hv, hn⟩ | ⟨g, cap, cur, hv, _⟩
  · exact ⟨none, 0, by rw [hv, hn], fun h0 => by omega⟩
  · exact ⟨_, cap, hv, fun _ => ⟨g, rfl⟩⟩

/-- The record stands while its list is appended to. -/
theorem Inv.recB {w w2 w3 : World} {B : Nat} {ps hv : Value} {hs : List HoldD} (h : Inv w B ps hv hs) (hal : Below w.heap.size w w2) (hg : w2.grownBy w3 hv.ownBlock) : w3.cell? ⟨B, 1, none⟩ = some hv ∧ w3.frozen? ⟨B, 1, none⟩ = false := by
  have hlt : B < w.heap.size := (Array.getElem?_eq_some_iff.1 h.cell).1
  have hne : some B ≠ hv.ownBlock := fun e => by
    obtain ⟨cur, hc⟩ := own_type h.own e.symm
    rw [h.cell] at hc; simp at hc
  have hb : w3.heap[B]? = some (.cells #[ps, hv] 43 (0, 0)) := (hg.block B (Nat.lt_of_lt_of_le hlt hal.size) hne).trans ((hal.block B hlt).trans h.cell)
  exact ⟨by rw [block_cell hb]; rfl, block_free hb⟩

set_option maxHeartbeats 1000000 in
set_option maxRecDepth 100000 in
theorem keep_any {w : World} {B : Nat} {ps hv vb : Value} {hs : List HoldD} {n : Nat} {xs : List Value} (hI : Inv w B ps hv hs) (hb : w.ownsRow (B + 1) 5 1 vb n xs)
    (hsep : ∀ x ∈ hs, x.v.ownBlock = none ∨ x.v.ownBlock ≠ vb.ownBlock) (hn : n + 3 ≤ 140737488355328) (hl : (hs.length + 4) * 8 ≤ 140737488355328) :
    Calls Tryz.prog 33 #[.pointer (some ⟨B, 0, none⟩), vb] w fun e w' => e = .returned (.tuple #[]) ∧ ∃ hv' vb' hs', St w w' B ps hv vb hs ((hs.length : Int) + 1) hv' vb' hs' (n + 3) ∧ hs'.length = hs.length + 4 := by
  obtain ⟨i0, hi, hz0, hz1, hz2⟩ := info_parts Tryz.infoByte
  obtain ⟨j0, hj, hy0, hy1, hy2⟩ := info_parts Tryz.infoHold
  have c1 : w.cell? ⟨B, 1, none⟩ = some hv := by rw [block_cell hI.cell]; rfl
  have hBlt : B < w.heap.size := (Array.getElem?_eq_some_iff.1 hI.cell).1
  obtain ⟨a, cap, hvb, hsg⟩ := own_shape hb
  obtain ⟨ha, hcap, hhv, _⟩ := own_shape hI.own
  have HH := hide (And.intro hhv hvb)
  have HSG := hide hsg
  have hxl : xs.length = n := by rw [hb.1, Nat.mul_one]
  have HI := hide hI
  have HB := hide hb
  have HSEP := hide hsep
  rw [hhv] at c1
  rw [hvb]
  clear hI hb hsep hsg hhv hvb
  go_enter Tryz.func33, Tryz.ntmps33
  go_wp2
  go_loopw [5] (fun i wr => ∃ k : Nat, k ≤ n ∧ i = .int .i64 k ∧ Hid (wr.ownsRow (B + 1) 5 1 vb n (markV ((hs.length : Int) + 1) k ++ xs.drop k)) ∧ Hid (w.grownBy wr vb.ownBlock)) (fun i _ => n - (intOf i).toNat)
  case atStart => exact ⟨0, Nat.zero_le _, rfl, by simpa [markV] using HB, ⟨rfl, rfl, rfl, Nat.le_refl _, fun _ _ _ => rfl⟩⟩
  case round =>
    obtain ⟨k, hk, rfl, Hown, Hg⟩ := hrel
    by_cases hlt : k < n
    · obtain ⟨g, hga⟩ := unhide HSG (by omega)
      subst hga
      have hvb := (unhide HH).2
      have hown := unhide Hown
      rw [hvb] at hown
      have hc : ∃ u, wr.cell? ⟨g, k, none⟩ = some u := by
        rw [hown.cellAt k (by omega)]
        exact ⟨_, List.getElem?_eq_getElem (by rw [hown.1]; omega)⟩
      obtain ⟨u, hc⟩ := hc
      have hf := hown.frozenAt k
      generalize hsg : signI ((hs.length : Int) + 1) (k : Int) = sg
      have HS : ∀ w, Hid (Calls Tryz.prog 57 #[.int .i64 ((hs.length : Int) + 1), .int .i64 (k : Int)] w fun e w' => e = .returned (.int .u8 sg) ∧ w' = w) := fun w => by rw [← hsg]; exact sign_any _ _ w
      have hst := hown.stored k (.int .u8 sg)
      rw [← hsg, fill_step _ xs k (by omega), ← hvb] at hst
      rw [hsg] at hst
      have H1 := hide hst.1
      have H2 : Hid (w.grownBy (wr.setCell ⟨g, k, none⟩ (.int .u8 sg)) vb.ownBlock) := by
        refine grown_trans (unhide Hg) ?_
        rw [hvb]; exact hst.2
      clear hst hown Hown Hg hsg hvb
      go_wp2_with (go_at_call 57; refine (unhide (HS _)).mono ?_; rintro e w' ⟨rfl, rfl⟩)
      go_roundw
      case rel => exact ⟨k + 1, by omega, by go_num, H1, H2⟩
      case measure => simp [intOf]; omega
    · have hkn : k = n := by omega
      subst hkn
      have hown := unhide Hown
      rw [List.drop_of_length_le (by omega), List.append_nil] at hown
      have hS := St.start (unhide HI) (unhide HB) (unhide HSEP) hown (unhide Hg)
      have d1 : wr.cell? ⟨B, 1, none⟩ = some hv := by rw [block_cell hS.inv.cell]; rfl
      rw [(unhide HH).1] at d1
      have HS := hide hS
      have hBw : B < wr.heap.size := Nat.lt_of_lt_of_le hBlt hS.frame.size
      clear hown hS Hown Hg HI HB HSEP HSG c1
      have hownH := (unhide HS).inv.own
      rw [(unhide HH).1] at hownH
      have HOH := hide hownH
      clear hownH
      go_wp2_with (at_builtin; refine wpList_append_both rfl (.tmp 30) (.tmp 35) 41 rfl (B + 1) 71 j0 (.pointer none) 8 Tryz.underlying41 hj hy0 hy1 hy2 rfl _ _ _ rfl (((unhide HOH).alloc _).alloc _) ⟨wr.heap.size + 1, 0, none⟩ 1 1 [ptrV wr.heap.size] rfl rfl ?c1 ?c2 (by decide) ?c3 ?c4 ?c5 ?_)
      case c1 =>
        intro j u hj
        match j, hj with
        | 0, hj => simp at hj; subst hj; simp [Addr.add, ptrV]
      case c2 => intro u hu; simp at hu; subst hu; rfl
      case c3 => unfold maxLen; omega
      case c4 => omega
      case c5 => simp; omega
      intro g1 cap1 w3 hown3 _ hg3 hnew3
      rw [← (unhide HH).1, ← (unhide HH).2] at hg3
      rw [← (unhide HH).1] at hnew3
      have hcl := (unhide HS).inv.recB (((Below.refl wr.heap.size wr).alloc (Nat.le_refl _) _).alloc (by simp) _) hg3
      obtain ⟨d2, d3⟩ := hcl
      have hS2 := hide ((unhide HS).hold (by omega) hown3 hg3 hnew3)
      clear hown3 hg3 hnew3 HS HOH d1
      go_wp2_with fail
      go_loopw [1, 6] (fun vv i wr => ∃ (j : Nat) (a' : Option Addr) (cap' : Nat) (hv' : Value) (hs' : List HoldD), j ≤ 3 ∧ i = .int .i64 j ∧ vv = .slice a' (k + j) cap' ∧ hs'.length = hs.length + 1 + j ∧ Hid (St w wr B ps hv vb hs ((hs.length : Int) + 1) hv' (.slice a' (k + j) cap') hs' (k + j))) (fun _ i _ => 3 - (intOf i).toNat)
      case atStart => exact ⟨0, a, cap, .slice (some ⟨g1, 0, none⟩) (hs.length + 1) cap1, hs ++ [⟨wr.heap.size, vb, k, (hs.length : Int) + 1⟩], by omega, rfl, rfl, by simp, hide ((unhide hS2).as (unhide HH).2)⟩
      case round =>
        obtain ⟨j, a', cap', hv', hs', hj3, rfl, rfl, hlen, HS⟩ := hrel
        have HLEN := hide hlen
        clear hlen
        clear hS2 d2 d3
        by_cases hlt3 : j < 3
        · have ownB := hide (unhide HS).own
          generalize hsg : signI ((hs.length : Int) + 1) ((k + j : Nat) : Int) = sg
          have HSn : ∀ w, Hid (Calls Tryz.prog 57 #[.int .i64 ((hs.length : Int) + 1), .int .i64 ((k : Int) + (j : Int))] w fun e w' => e = .returned (.int .u8 sg) ∧ w' = w) := fun w => by rw [← hsg, Int.natCast_add]; exact sign_any _ _ w
          have hsz : w.heap.size ≤ wr.heap.size := (unhide HS).frame.size
          go_wp2_with fail
          refine (unhide (HSn _)).mono ?_
          rintro e w1 ⟨rfl, rfl⟩
          clear HSn
          go_wp2_with (at_builtin; refine wpList_append_both rfl (.tmp 47) (.tmp 49) 51 rfl (B + 1) 5 i0 (.int .u8 0) 1 Tryz.underlying51 hi hz0 hz1 hz2 rfl _ _ _ rfl ((unhide ownB).alloc _) ⟨w1.heap.size, 0, none⟩ 1 1 [.int .u8 sg] rfl rfl ?c1b ?c2b (by decide) ?c3b ?c4b ?c5b ?_)
          case c1b =>
            intro j u hj
            match j, hj with
            | 0, hj => simp at hj; subst hj; simp [Addr.add]
          case c2b => intro u hu; simp at hu; subst hu; rfl
          case c3b => unfold maxLen; omega
          case c4b => omega
          case c5b => simp; omega
          intro g2 cap2 w2 hown2 hold2 hg2 hnew2
          subst hsg
          have hS3 := (unhide HS).app hown2 hold2 hg2 hnew2
          have HS3 := hide hS3
          have hlen3 : w1.heap.size ≤ w2.heap.size := by have := hg2.size; simp at this; omega
          obtain ⟨hc4, hcp4, hhv4, _⟩ := own_shape hS3.inv.own
          have e1 : w2.cell? ⟨B, 1, none⟩ = some hv' := by rw [block_cell hS3.inv.cell]; rfl
          have hownH := hS3.inv.own
          rw [hhv4] at e1 hownH
          have HOH := hide hownH
          have HH4 := hide hhv4
          clear hown2 hold2 hg2 hnew2 HS hS3 hownH hhv4 ownB
          go_wp2_with (at_builtin; refine wpList_append_both rfl (.tmp 55) (.tmp 60) 41 rfl (B + 1) 71 j0 (.pointer none) 8 Tryz.underlying41 hj hy0 hy1 hy2 rfl _ _ _ rfl (((unhide HOH).alloc _).alloc _) ⟨w2.heap.size + 1, 0, none⟩ 1 1 [ptrV w2.heap.size] rfl rfl ?c1c ?c2c (by decide) ?c3c ?c4c ?c5c ?_)
          case c1c =>
            intro j u hj
            match j, hj with
            | 0, hj => simp at hj; subst hj; simp [Addr.add, ptrV]
          case c2c => intro u hu; simp at hu; subst hu; rfl
          case c3c => have := unhide HLEN; unfold maxLen; omega
          case c4c => have := unhide HLEN; omega
          case c5c => simp; omega
          intro g5 cap5 w5 hown5 _ hg5 hnew5
          rw [← unhide HH4] at hg5 hnew5
          obtain ⟨d5, d6⟩ := (unhide HS3).inv.recB (((Below.refl w2.heap.size w2).alloc (Nat.le_refl _) _).alloc (by simp) _) hg5
          have hS6 := hide ((unhide HS3).hold (by omega) hown5 hg5 hnew5)
          clear hown5 hg5 hnew5 HS3 HOH e1
          go_wp2
          go_roundw
          case rel => exact ⟨j + 1, some ⟨g2, 0, none⟩, cap2, _, _, by omega, by go_num, rfl, by have := unhide HLEN; simp; omega, hS6⟩
          case measure => simp [intOf]; omega
        · have hj : j = 3 := by omega
          subst hj
          go_wp2
          go_end0
          refine ⟨rfl, ?_⟩
          rw [← (unhide HH).2]
          exact ⟨_, _, _, unhide HS, by have := unhide HLEN; omega⟩

end Go.Proofs.YtbjobbkgelipmaaGreat
