/-
  The walk of tithekeep's Turned.
-/
import Derived.Test.YtbjobbkgelipmaaTuaa
import Derived.Test.YtbjobbkgelipmaaSoac
namespace Go.Proofs.Ytbjobbkgelipmaa
open Go.RowKit

theorem bits_u8 (a b : Int) : ∃ c : UInt8, bits .xor .u8 a b = (c.toNat : Int) := by
  have h : 0 ≤ bits .xor .u8 a b ∧ bits .xor .u8 a b < 256 := by
    show 0 ≤ IntKind.u8.wrap _ ∧ IntKind.u8.wrap _ < 256
    rw [IntKind.wrap_u8]
    omega
  refine ⟨UInt8.ofNat (bits .xor .u8 a b).toNat, ?_⟩
  have : (UInt8.ofNat (bits .xor .u8 a b).toNat).toNat = (bits .xor .u8 a b).toNat := by simp; omega
  rw [this, Int.toNat_of_nonneg h.1]

set_option maxHeartbeats 8000000 in
set_option maxRecDepth 100000 in
theorem turned_any (K : SortK) (seed which at_ by_ : Int) (a0 : Option Addr) (len cap : Nat) (xs : List MoveD) (w : World) (hw1 : -9223372036854775808 ≤ which) (hw2 : which < 9223372036854775808) (ha1 : -9223372036854775808 ≤ at_) (ha2 : at_ < 9223372036854775808) (hy1 : -9223372036854775808 ≤ by_) (hy2 : by_ < 9223372036854775808)
    (hlen : xs.length = len) (hlen2 : len < 9223372036854775807) (hM : 0 < len → ∃ b off, a0 = some ⟨b, off, none⟩ ∧ MovesAt w b off xs) :
    Calls Try.prog 6 #[.int .u64 seed, .slice a0 len cap, .int .i64 which, .int .i64 at_, .int .i64 by_] w fun e w' => e = .returned (.bool true) ∧ Below w.heap.size w w' := by
  have HK := hide (known_any K w)
  have HKS := hide K
  have HM := hide hM
  have HL := hide hlen
  have HNW := fun w => hide (name_any which w hw1 hw2)
  have hr := pick_range which 6 (by omega)
  generalize pickI which 6 = p0 at *
  obtain ⟨q, rfl⟩ : ∃ p : Nat, p0 = (p : Int) := ⟨p0.toNat, by omega⟩
  have hq6 : q < 6 := by omega
  simp only [Int.toNat_natCast] at HNW
  have hns := nmB_small q hq6
  clear K hM hlen hr
  obtain ⟨nq, hnq⟩ : ∃ nq, nmB q = nq := ⟨_, rfl⟩
  rw [hnq] at HNW hns
  go_enter Try.func6, Try.ntmps6
  go_wp2_with fail
  refine (unhide HK).mono ?_
  rintro e w1 ⟨rfl, hb1⟩
  have HN := hide (new_good 3 seed w1 (by omega) (by omega))
  unfold cfgV at HN
  have HB1 := hide hb1
  clear HK hb1
  go_wp2_with fail
  refine (unhide HN).mono ?_
  rintro e w2 ⟨rfl, hB2, hb2⟩
  have hI2 : BkI w w2 (w1.heap.size + 2) (w1.heap.size + 1) 3 seed none [] := ⟨hB2, fun k hk => by have := (unhide HB1).size; simp [blksE] at hk; omega, fun a ha => (by cases ha), (unhide HB1).trans (hb2.mono (unhide HB1).size)⟩
  generalize w1.heap.size + 2 = B at *
  generalize w1.heap.size + 1 = M at *
  have HO := hide (kopen_any hI2 0 (by omega))
  rw [show nmB 0 = ⟨#[97]⟩ from rfl] at HO
  have HI2 := hide hI2
  clear HN hB2 hb2 HB1 hI2
  go_wp2_with fail
  refine (unhide HO).mono ?_
  rintro e w3 ⟨rfl, E3, hI3, _, _⟩
  have HP := hide (kpay_any hI3 0 (by omega) 1 (by omega) (by omega))
  rw [show nmB 0 = ⟨#[97]⟩ from rfl] at HP
  clear HO HI2 hI3
  go_wp2_with fail
  refine (unhide HP).mono ?_
  rintro e w4 ⟨rfl, E4, hI4, _, _⟩
  have HD := hide (does_any hI4 a0 len cap xs (unhide HL) hlen2 (unhide HM))
  clear HP hI4 HM HL
  go_wp2_with fail
  refine (unhide HD).mono ?_
  rintro e w5 ⟨rfl, ⟨E, hI5⟩, _⟩
  have hls := lsok_of (h := 3) hI5 (by omega) (by omega)
  have hlE := ofSix_len hI5.book.names hI5.six
  have HU := hide (publish_ok (h := 3) (unhide HKS) hI5.book (by omega) (by have : (2 : Nat) ^ 3 = 8 := rfl; omega) (fun a ha => by
    obtain ⟨j, hj, hn⟩ := hI5.six a ha
    rw [hn]
    have := (nmB_small j hj).1
    simpa using this))
  have hlow : w.heap.size ≤ B := hI5.low B (by simp [blksE])
  have HB5 := hide hI5.below
  have HLS := hide hls
  clear HD hI5 hls hlE HKS
  generalize leavesE seed E E.length = ls at *
  go_wp2_with fail
  refine (unhide HU).mono ?_
  rintro e w6 ⟨⟨vr, T, tb, tc, V, vc, gs, rfl, hown6, hB6, hT6, _⟩, hk6⟩
  have HB6 := hide ((unhide HB5).trans (hk6.below (unhide HB5).size (fun k hk => by simp at hk; omega)))
  have hlr : (reportB ls 3).length = 12 := by unfold reportB; rw [List.length_cons, sideB_length]
  obtain ⟨g1, c1, rfl, hg1w, hg1, hc1, hc1', hY1⟩ := own_bytes hown6 (by omega)
  have HY1 := hide (And.intro hY1 hg1)
  have HPR := hide (fun (W : World) (hb : Below w6.heap.size w6 W) => kproof_any (hB6.toBookT.later hb) (hT6.later hb) nq (unhide HLS))
  clear HU hown6 hB6 hT6 hk6 HB5 hY1
  go_wp2_with fail
  refine (unhide (HNW _)).mono ?_
  rintro e w7 ⟨rfl, hb7⟩
  have HPR7 := hide (unhide HPR w7 hb7)
  have HB7 := hide ((unhide HB6).trans (hb7.mono (unhide HB6).size))
  have HY7 := hide (And.intro ((unhide HY1).1.below hb7 (unhide HY1).2) (Nat.lt_of_lt_of_le (unhide HY1).2 hb7.size))
  clear HPR hb7 HB6 HY1
  go_wp2_with fail
  refine (unhide HPR7).mono ?_
  rintro e w8 ⟨hb8, hcs⟩
  have HB8 := hide ((unhide HB7).trans (hb8.mono (unhide HB7).size))
  rcases hcs with ⟨_, rfl⟩ | ⟨x, P, vp, hxm, hxn, rfl, hPl, hown8, hver⟩
  · clear HPR7 hb8 HB7 HY7
    go_wp2
    go_ret
    exact ⟨rfl, unhide HB8⟩
  · obtain ⟨n, hnn⟩ : ∃ n, nq.size + 19 + 11 * 3 = n := ⟨_, rfl⟩
    rw [hnn] at hPl hown8
    have hn0 : 20 ≤ n := by omega
    have hn1 : n ≤ 60 := by omega
    obtain ⟨g2, c2, rfl, hg2w, hg2, hc2, hc2', hY2⟩ := own_bytes hown8 (by omega)
    have hY8 : BytesAt w8 g1 0 (reportB ls 3) := (unhide HY7).1.below hb8 (unhide HY7).2
    have hg18 : g1 < w8.heap.size := Nat.lt_of_lt_of_le (unhide HY7).2 hb8.size
    have HXX := hide (And.intro hxm (And.intro hxn hver))
    have HY8 := hide (And.intro hY8 (And.intro hg18 (And.intro hY2 hg2)))
    obtain ⟨i0, hi, hz0, hz1, hz2⟩ := info_parts Try.infoByte
    have hz8 := (unhide HB8).size
    clear HPR7 hb8 HB7 HY7 hown8 hxm hxn hver hY8
    go_wp2_with (at_builtin; refine wpList_append_own _ rfl (.tmp 71) (.tmp 72) 43 rfl w8.heap.size 5 i0 (.int .u8 0) 1 1 Try.underlying43 hi hz0 hz1 hz2 rfl (by decide) _ 0 [] rfl ⟨rfl, .inl ⟨rfl, rfl⟩⟩ ⟨g2, 0, none⟩ n c2 (byteVals P) rfl ?c0 ?c1 ?c2 ?c3 ?c4 ?c5 ?_)
    case c0 => simp [byteVals, hPl]
    case c1 =>
      intro j u hu
      simp only [byteVals, List.getElem?_map] at hu
      cases hj : P[j]? with
      | none => rw [hj] at hu; cases hu
      | some c =>
        rw [hj] at hu
        obtain ⟨hjl, rfl⟩ := List.getElem?_eq_some_iff.1 hj
        have := hY2 j hjl
        rw [addr_add, this]
        exact hu
    case c2 =>
      intro u hu
      simp only [byteVals, List.mem_map] at hu
      obtain ⟨c, _, rfl⟩ := hu
      rfl
    case c3 => unfold maxLen; omega
    case c4 => omega
    case c5 => exact Nat.le_refl _
    intro vq w9 hown9 hgrow9 _
    have hb9 : Below w8.heap.size w8 w9 := (Below.refl _ _).grown hgrow9 (Nat.le_refl _) (fun b hb => by cases hb)
    obtain ⟨g3, c3, cur, rfl, hg3w, hgb3, h31, h32, h33, h34⟩ : ∃ g cap cur, vq = .slice (some ⟨g, 0, none⟩) n cap ∧ w8.heap.size ≤ g ∧ w9.heap[g]? = some (.cells cur 5 (0, 0)) ∧ n ≤ cap ∧ cap ≤ maxLen ∧ cur.size = cap * 1 ∧ cur.toList.take (n * 1) = byteVals P := by
      rcases hown9.2 with ⟨_, h⟩ | h
      · omega
      · exact h
    have HPI := fun w => hide (pick_any at_ (n : Int) w ha1 ha2 (by omega) (by omega))
    have HPB := fun w => hide (pick_any by_ 255 w hy1 hy2 (by omega) (by omega))
    have hri := pick_range at_ (n : Int) (by omega)
    have hrb := pick_range by_ 255 (by omega)
    generalize pickI at_ (n : Int) = pi at *
    generalize pickI by_ 255 = pb at *
    obtain ⟨i, rfl⟩ : ∃ p : Nat, pi = (p : Int) := ⟨pi.toNat, by omega⟩
    have hin : i < n := by omega
    have hiP : i < P.length := by omega
    have hci : w9.cell? ⟨g3, i, none⟩ = some (.int .u8 (P[i].toNat : Int)) := by
      rw [block_cell hgb3]
      have e1 : (cur.toList.take (n * 1))[i]? = cur[i]? := by rw [List.getElem?_take, if_pos (by omega)]; simp
      rw [← e1, h34]
      simp [byteVals, List.getElem?_eq_getElem hiP]
    have hfi : w9.frozen? ⟨g3, i, none⟩ = false := block_free hgb3
    have HG3 := hide (And.intro hgb3 (And.intro h31 (And.intro h32 (And.intro h33 h34))))
    have HB9 := hide ((unhide HB8).trans (hb9.mono hz8))
    have HY9 := hide (And.intro ((unhide HY8).1.below hb9 (unhide HY8).2.1) (And.intro ((unhide HY8).2.2.1.below hb9 (unhide HY8).2.2.2) (And.intro (Nat.lt_of_lt_of_le (unhide HY8).2.1 hb9.size) (And.intro (Nat.lt_of_lt_of_le (unhide HY8).2.2.2 hb9.size) (And.intro (unhide HY8).2.1 (unhide HY8).2.2.2)))))
    have in1 : (i : Int) < (n : Int) := by omega
    have nn0 : ((n : Int) == 0) = false := by simp; omega
    clear hown9 hgrow9 hb9 HY8 HB8 hgb3 h31 h32 h33 h34 hY2 hi hz0 hz1 hz2
    go_upto_region 19 with (go_at_call 9; refine (unhide (HPI _)).mono ?_; rintro e w10 ⟨rfl, rfl⟩)
    go_cut [] (fun wx => ∃ c : UInt8, wx = (w10.setCell ⟨g3, i, none⟩ (.int .u8 (c.toNat : Int))).drew)
    case first =>
      obtain ⟨bi, hbi⟩ : ∃ b : Int, (P[i].toNat : Int) = b := ⟨_, rfl⟩
      rw [hbi] at hci
      clear hbi
      go_region_with (go_at_call 9; refine (unhide (HPB _)).mono ?_; rintro e w11 ⟨rfl, rfl⟩)
      all_goals
        go_wp2_with fail
        go_meet
        obtain ⟨c, hc⟩ := bits_u8 bi (IntKind.u8.wrap (IntKind.i64.wrap (1 + pb)))
        exact ⟨c, by rw [← hc]⟩
    case rest =>
      obtain ⟨c, hwc⟩ := hcut
      obtain ⟨q1, q2, q3, q4, q5, q6⟩ := unhide HY9
      obtain ⟨s1, s2, s3, s4, s5⟩ := unhide HG3
      have hbl : ∀ g, g ≠ g3 → wc.heap[g]? = w10.heap[g]? := fun g hg => by rw [hwc]; exact Below.heap_setCell w10 _ _ _ hg
      have hsz : wc.heap.size = w10.heap.size := by rw [hwc]; simp
      have hBw : Below w.heap.size w wc := by rw [hwc]; exact ((unhide HB9).setCell (by show w.heap.size ≤ g3; omega) _).drew
      have hR11 : BytesAt wc g1 0 (reportB ls 3) := fun j hj => (World.cell?_of_block (w := w10) (hbl g1 (by omega))).trans (q1 j hj)
      have hP11 : BytesAt wc g2 0 P := fun j hj => (World.cell?_of_block (w := w10) (hbl g2 (by omega))).trans (q2 j hj)
      have hQl : (P.set i c).length = n := by rw [List.length_set]; exact hPl
      have hQ11 : BytesAt wc g3 0 (P.set i c) := fun j hj => by
        rw [Nat.zero_add, hwc]
        show (w10.setCell ⟨g3, i, none⟩ (.int .u8 (c.toNat : Int))).cell? ⟨g3, j, none⟩ = _
        rw [block_cell (heap_setCell_same w10 g3 i _ _ _ s1)]
        have hjP : j < P.length := by simpa using hj
        by_cases e : i = j
        · subst e
          rw [Array.getElem?_setIfInBounds_self_of_lt (by omega)]
          simp
        · rw [Array.getElem?_setIfInBounds_ne e, List.getElem_set_ne e]
          have e1 : (cur.toList.take (n * 1))[j]? = cur[j]? := by rw [List.getElem?_take, if_pos (by omega)]; simp
          rw [← e1, s5]
          simp [byteVals, List.getElem?_eq_getElem hjP]
      obtain ⟨Qs, hQs⟩ : ∃ Qs, P.set i c = Qs := ⟨_, rfl⟩
      have hrep3 : repH (reportB ls 3) = 3 := rfl
      obtain ⟨hxm, hxn, hver⟩ := unhide HXX
      have hxb : x.bal ≤ maxS ∧ 0 ≤ x.bal := by
        have h1 := sumL_ge (fun y hy => ((unhide HLS).ok y hy).1.2.1) hxm
        have h2 := (unhide HLS).sum
        have h3 := ((unhide HLS).ok x hxm).1.2.1
        exact ⟨by omega, h3⟩
      have hvP : verOk (reportB ls 3) P := verOk_iff.2 (by rw [hver])
      have htw : ∀ (x y : List UInt8) (er : Int), verOk (reportB ls 3) Qs → ExtAns (reportB ls 3) [P, Qs] x y er → er ≠ 3 → er = 0 ∧ x ≠ y ∧ dg x = dg y ∧ x ≠ [] ∧ y ≠ [] := fun x y er hq hE h3 => by
        rw [← hQs] at hq hE
        exact turned_two hvP hq hE h3
      rw [hQs] at hQl hQ11
      have hg1c : g1 < wc.heap.size := by omega
      have hg2c : g2 < wc.heap.size := by omega
      have hg3c : g3 < wc.heap.size := by rw [hsz]; exact (Array.getElem?_eq_some_iff.1 s1).1
      have hc3' : c3 ≤ 9223372036854775807 := by unfold maxLen at s3; exact s3
      have hnqe : (⟨nq.data.toList.toArray⟩ : ByteArray) = nq := by simp
      have hxn2 : verV nq.data.toList x.bal 0 = .tuple #[.string nq, .int .u64 x.bal, .int .i64 0] := by unfold verV strV; rw [hnqe]
      obtain ⟨R, hR⟩ : ∃ R, reportB ls 3 = R := ⟨_, rfl⟩
      rw [hR] at hlr hR11 hrep3 hver hvP htw
      have hV1 := ownver_caps R P g1 g2 c1 c2 wc (by omega) hc1' (by omega) (fun h => by omega) hc2' hg1c hg2c hR11 hP11
      rw [hver, hlr, hPl] at hV1
      simp only at hV1
      rw [hxn2] at hV1
      have hV2 := fun W (hb : Below wc.heap.size wc W) => ownver_caps R Qs g1 g3 c1 c3 W (by omega) hc1' (by omega) (fun h => by omega) hc3' (Nat.lt_of_lt_of_le hg1c hb.size) (Nat.lt_of_lt_of_le hg3c hb.size) (hR11.below hb hg1c) (hQ11.below hb hg3c)
      rw [hlr, hQl] at hV2
      have hEx := fun W (hb : Below wc.heap.size wc W) (X : Nat) (hX : W.heap[X]? = some (.cells #[.slice (some ⟨g2, 0, none⟩) n c2, .slice (some ⟨g3, 0, none⟩) n c3] 43 (0, 0))) =>
        extract_any R [P, Qs] (.slice (some ⟨g1, 0, none⟩) R.length c1) (some ⟨X, 0, none⟩) 2 (fun i => if i = 0 then (some ⟨g2, 0, none⟩, n, c2) else (some ⟨g3, 0, none⟩, n, c3)) W (by simp)
          (rdrep_all R g1 c1 W (by omega) hc1' (Nat.lt_of_lt_of_le hg1c hb.size) (hR11.below hb hg1c))
          (fun hok _ => ⟨X, 0, rfl, (Array.getElem?_eq_some_iff.1 hX).1, fun i hi => by
            match i, hi with
            | 0, _ => rw [block_cell hX]; rfl
            | 1, _ => rw [block_cell hX]; rfl, fun i hi W' hb' => by
            have hbb := hb.trans (hb'.mono hb.size)
            match i, hi with
            | 0, _ =>
              have := rdpr_all g2 c2 (repH R) P W' (by omega) (fun h => by omega) hc2' hok.1.2 (Nat.lt_of_lt_of_le hg2c hbb.size) (hP11.below hbb hg2c)
              rw [hPl] at this
              exact this
            | 1, _ =>
              have := rdpr_all g3 c3 (repH R) Qs W' (by omega) (fun h => by omega) hc3' hok.1.2 (Nat.lt_of_lt_of_le hg3c hbb.size) (hQ11.below hbb hg3c)
              rw [hQl] at this
              exact this⟩)
      rw [hlr] at hEx
      have HV1 := hide hV1
      have HV2 := hide hV2
      have HEX := hide hEx
      have HBW := hide hBw
      have HTW := hide htw
      have HVP := hide hvP
      unfold verV at HV2
      clear hwc q1 q2 s1 s2 s3 s4 s5 hbl HG3 HY9 HXX HPB HPI hci hfi HB9 HLS hQs hV1 hV2 hEx hBw htw hvP hR11 hP11 hQ11 hR hver hxn2 hxm hxn
      go_wp2_with fail
      refine (unhide HV1).mono ?_
      rintro e w12 ⟨rfl, hb12⟩
      have HV3 := hide (unhide HV2 w12 hb12)
      clear HV1 HV2
      obtain ⟨⟨qnm, qbal, qer⟩, hqa⟩ : ∃ q, verAns R Qs = q := ⟨_, rfl⟩
      rw [hqa] at HV3
      simp only at HV3
      unfold strV at HV3
      go_wp2_with fail
      refine (unhide HV3).mono ?_
      rintro e w13 ⟨rfl, hb13⟩
      have hb1 : Below wc.heap.size wc w13 := hb12.trans (hb13.mono hb12.size)
      have hb14 : Below wc.heap.size wc (w13.alloc (Obj.cells #[Value.slice (some ⟨g2, 0, none⟩) n c2, Value.slice (some ⟨g3, 0, none⟩) n c3] 43)) := hb1.alloc hb1.size _
      have HE2 := hide (unhide HEX _ hb14 w13.heap.size (heap_alloc_new w13 _))
      have HB14 := hide ((unhide HBW).trans (hb14.mono (unhide HBW).size))
      clear hb1 hb12 hb13 hb14 HV3 HEX HBW
      go_wp2_with fail
      refine (unhide HE2).mono ?_
      rintro e w15 ⟨⟨v, u, tx, ty, er, rfl, hE, hT⟩, hb15⟩
      have HB15 := hide ((unhide HB14).trans (hb15.mono (unhide HB14).size))
      have hbx : ¬ (4611686018427387904 : Int) < x.bal := by have := hxb.1; unfold maxS at this; omega
      have HHT := hide (And.intro hE hT)
      clear HE2 HB14 hb15 hE hT
      generalize w13.heap.size = N13 at *
      go_wp2_with fail
      refine (unhide (HNW _)).mono ?_
      rintro e w16 ⟨rfl, hb16⟩
      have HB16 := hide ((unhide HB15).trans (hb16.mono (unhide HB15).size))
      obtain ⟨hE, hT⟩ := unhide HHT
      by_cases hqe : qer = 0
      · have hvQ : verOk R Qs := verOk_iff.2 (by rw [hqa]; exact hqe)
        subst hqe
        by_cases h3 : er = 3
        · subst h3
          clear hE hT HHT hb16 HTW HB15
          go_wp2
          go_ret
          exact ⟨rfl, unhide HB16⟩
        · obtain ⟨rfl, hne, hdg, hx0, hy0⟩ := unhide HTW _ _ _ hvQ hE h3
          have hTT : ∃ N, TextIs N w16 v tx ∧ TextIs N w16 u ty := by
            rcases hT with ⟨h, _⟩ | ⟨h1, h2, _⟩
            · exact absurd h hx0
            · exact ⟨_, h1.later hb16, h2.later hb16⟩
          obtain ⟨N, t1, t2⟩ := hTT
          have lx : tx.length ≤ maxLen := by obtain ⟨_, _, _, _, _, _, _, h5, h6, _⟩ := t1; omega
          have ly : ty.length ≤ maxLen := by obtain ⟨_, _, _, _, _, _, _, h5, h6, _⟩ := t2; omega
          have px : 0 < tx.length := List.length_pos_iff.2 hx0
          have py : 0 < ty.length := List.length_pos_iff.2 hy0
          have hS1 := sum_own t1.owns rfl px lx
          have hS2 := fun w6 (hb : Below w16.heap.size w16 w6) => sum_own (t2.later hb).owns rfl py ly
          obtain ⟨gv, cv, rfl, _, _, _, _, hcv⟩ := t1.block
          obtain ⟨gu, cu, rfl, _, _, _, _, hcu⟩ := t2.block
          have z1 := run_convert_bytes_back (P := Try.prog) w16 43 9 5 ⟨gv, 0, none⟩ cv tx Try.underlying43 Try.underlying5 Try.underlying9 hcv
          have z2 := run_convert_bytes_back (P := Try.prog) w16 43 9 5 ⟨gu, 0, none⟩ cu ty Try.underlying43 Try.underlying5 Try.underlying9 hcu
          obtain ⟨d0, d1, d2, hd⟩ : ∃ d0 d1 d2 : Int, digV (dg tx) = .agg #[.int .u8 d0, .int .u8 d1, .int .u8 d2] := ⟨_, _, _, rfl⟩
          rw [← hdg] at hS2
          rw [hd] at hS1 hS2
          have hq := fun w => eql_digest w d0 d1 d2 d0 d1 d2
          have ix : (0 : Int) < (tx.length : Int) := by omega
          have nx : (tx == ty) = false := by simp [hne]
          have nx2 : (tx != ty) = true := by simp [hne]
          have HS1 := hide hS1
          have HS2 := hide hS2
          clear hS1 hS2 t1 t2 hcv hcu hd hT hdg lx ly px py hE HHT hb16 HTW HB15 h3
          go_wp2_with fail
          refine (unhide HS1).mono ?_
          rintro e w17 ⟨rfl, hb17⟩
          have HS3 := hide (unhide HS2 w17 hb17)
          have HB17 := hide ((unhide HB16).trans (hb17.mono (unhide HB16).size))
          clear HS1 HS2 hb17 z1 z2 HB16
          go_wp2_with fail
          refine (unhide HS3).mono ?_
          rintro e w18 ⟨rfl, hb18⟩
          have HB18 := hide ((unhide HB17).trans (hb18.mono (unhide HB17).size))
          clear HS3 hb18 HB17
          go_wp2
          go_ret
          exact ⟨by simp, unhide HB18⟩
      · have hnQ : ¬ verOk R Qs := fun h => hqe (by have := verOk_iff.1 h; rw [hqa] at this; exact this)
        have hq9 : qer = 9 := by
          have := verAns_no (unhide HVP).1 hnQ
          rw [hqa] at this
          exact congrArg (fun t => t.2.2) this
        have her9 : er = 9 := by
          rcases hE with ⟨h1, _⟩ | ⟨_, _, _, _, h⟩ | ⟨_, h2, _⟩ | ⟨_, h2, _⟩
          · exact absurd (unhide HVP).1 h1
          · exact h
          · exact absurd (h2 Qs (by simp)) hnQ
          · exact absurd (h2 Qs (by simp)) hnQ
        subst hq9
        subst her9
        clear hE hT HHT hb16 HTW HB15 hqe
        go_wp2
        go_ret
        exact ⟨rfl, unhide HB16⟩

end Go.Proofs.Ytbjobbkgelipmaa
