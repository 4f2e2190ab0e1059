/-
  The walk of tithekeep's Sound.
-/
import Derived.Deep.CutBlock
import Derived.Deep.CutRange
import Derived.Deep.DeepCutAuto
import Derived.Test.YtbjobbkgelipmaaSoac
namespace Go.Proofs.Ytbjobbkgelipmaa
open Go.RowKit

/-- A slice of strings of its own. -/
theorem own_strs {W : World} {N n : Nat} {v : Value} {ns : List (List UInt8)} (h : W.ownsRow N 9 1 v n (ns.map strV)) : ns.length = n ∧ ∃ a c, v = .slice a n c ∧ ∀ j (hj : j < ns.length), ∃ g, a = some ⟨g, 0, none⟩ ∧ W.cell? ⟨g, j, none⟩ = some (strV ns[j]) := by
  have hl : ns.length = n := by have := h.1; simp at this; omega
  refine ⟨hl, ?_⟩
  rcases h.2 with ⟨rfl, h0⟩ | ⟨g, cap, cur, rfl, _, hg, _, _, hs, hx⟩
  · subst h0
    exact ⟨none, 0, rfl, fun j hj => by omega⟩
  · refine ⟨_, cap, rfl, fun j hj => ⟨g, rfl, ?_⟩⟩
    rw [block_cell hg]
    have e1 : (cur.toList.take (n * 1))[j]? = cur[j]? := by rw [List.getElem?_take, if_pos (by omega)]; simp
    rw [← e1, hx, List.getElem?_map, List.getElem?_eq_getElem hj]
    rfl

theorem own_later {W W' : World} {N n k : Nat} {e : TypeId} {v : Value} {xs : List Value} (h : W.ownsRow N e k v n xs) (hb : Below W.heap.size W W') : W'.ownsRow N e k v n xs := by
  refine ⟨h.1, ?_⟩
  rcases h.2 with h0 | ⟨g, cap, cur, e1, e2, e3, e4⟩
  · exact .inl h0
  · exact .inr ⟨g, cap, cur, e1, e2, (hb.block _ (Array.getElem?_eq_some_iff.1 e3).1).trans e3, e4⟩

/-- What the first loop has gathered. -/
structure SG (w : World) (R : List UInt8) (L : List (List UInt8)) (nv tv mv bv : Value) (W : World) : Prop where
  below : Below w.heap.size w W
  names : W.ownsRow w.heap.size 9 1 nv (accL R L).length (((accL R L).map accName).map strV)
  tot : tv = .int .u64 (IntKind.u64.wrap (totE R L))
  most : mv = .int .i64 (mostE R L)
  twice : bv = .bool (decide ¬ ((accL R L).map accName).Nodup)

set_option maxHeartbeats 8000000 in
set_option maxRecDepth 100000 in
theorem sound_any (R : List UInt8) (Ls : List (List UInt8)) (a1 a2 : Option Addr) (c1 c2 : Nat) (vs : Nat → Option Addr × Nat × Nat) (w : World) (hR12 : R.length < 9223372036854775807) (hn : Ls.length < 9223372036854775807) (hc2 : Ls.length ≤ c2)
    (hK : Calls Try.prog 7 #[] w fun e w' => e = .returned (.bool true) ∧ Below w.heap.size w w')
    (hR : ∀ w', Below w.heap.size w w' → Calls Try.prog 34 #[.slice a1 R.length c1] w' fun e w'' => RepSay R e ∧ Below w'.heap.size w' w'')
    (hB : 0 < R.length → ∃ b o, a1 = some ⟨b, o, none⟩ ∧ b < w.heap.size ∧ BytesAt w b o R)
    (hA : 0 < Ls.length → ∃ b off, a2 = some ⟨b, off, none⟩ ∧ b < w.heap.size ∧ (∀ i, i < Ls.length → w.cell? ⟨b, off + i, none⟩ = some (.slice (vs i).1 (vs i).2.1 (vs i).2.2)) ∧ ∀ h : Nat, h ≤ 6 → ∀ i (hi : i < Ls.length), ∀ w', Below w.heap.size w w' → Calls Try.prog 50 #[.slice (vs i).1 (vs i).2.1 (vs i).2.2, .int .i64 (h : Int)] w' (PrfSay h Ls[i] w')) :
    Calls Try.prog 5 #[.slice a1 R.length c1, .slice a2 Ls.length c2] w fun e w' => e = .returned (.bool true) ∧ Below w.heap.size w w' := by
  obtain ⟨i0, hi, hz0, hz1, hz2⟩ := info_parts Try.infoString
  have HK := hide hK
  have HR := hide hR
  have HB := hide hB
  have HA := hide hA
  clear hK hR hB hA
  obtain ⟨n, hnn⟩ : ∃ n, Ls.length = n := ⟨_, rfl⟩
  obtain ⟨rn, hrn⟩ : ∃ n, R.length = n := ⟨_, rfl⟩
  rw [hnn] at hn hc2 ⊢
  rw [hrn] at hR12 ⊢
  go_enter Try.func5, Try.ntmps5
  go_wp2_with fail
  refine (unhide HK).mono ?_
  rintro e w1 ⟨rfl, hb1⟩
  have HS : Hid (SG w R (Ls.take 0) (.slice none 0 0) (.int .u64 0) (.int .i64 0) (.bool false) w1) := ⟨hb1, ⟨rfl, .inl ⟨rfl, rfl⟩⟩, rfl, rfl, rfl⟩
  clear hb1 HK
  go_wp2_with fail
  go_loopw [10, 6, 7, 8, 9, 11, 12, 13, 14] (fun i nv tv mv bv _ _ _ _ wr => ∃ m : Nat, m ≤ n ∧ m ≤ 50 ∧ i = .int .i64 m ∧ SG w R (Ls.take m) nv tv mv bv wr) (fun i _ _ _ _ _ _ _ _ _ => 50 - (intOf i).toNat)
  case atStart => exact ⟨0, Nat.zero_le _, Nat.zero_le _, rfl, unhide HS⟩
  case round =>
    obtain ⟨m, hm, hm50, rfl, hSG⟩ := hrel
    clear HS
    by_cases hm' : m < n ∧ m < 50
    · obtain ⟨h1, h2⟩ := hm'
      have i1 : (m : Int) < (n : Int) := by omega
      have i2 : (m : Int) < 50 := by omega
      have hml : m < Ls.length := by rw [hnn]; exact h1
      have hsn : Ls.take (m + 1) = Ls.take m ++ [Ls[m]] := by rw [List.take_add_one, List.getElem?_eq_getElem hml]; rfl
      obtain ⟨b, off, rfl, hbl, hcell, hread⟩ := unhide HA (by omega)
      have hc := (hSG.below.cell (p := ⟨b, off + m, none⟩) hbl).trans (hcell m hml)
      have hV := ownver_of R Ls[m] (.slice a1 R.length c1) (.slice (vs m).1 (vs m).2.1 (vs m).2.2) wr (unhide HR wr hSG.below) (fun hok w' hb => hread (repH R) hok.1.2 m hml w' (hSG.below.trans (hb.mono hSG.below.size)))
      obtain ⟨⟨va, vn, vc⟩, hvs⟩ : ∃ q, vs m = q := ⟨_, rfl⟩
      rw [hvs] at hc hV
      rw [hrn] at hV
      simp only at hc hV
      have HV := hide hV
      have HSG := hide hSG
      have HSN := hide hsn
      obtain ⟨⟨anm, abal, aer⟩, hans⟩ : ∃ q, verAns R Ls[m] = q := ⟨_, rfl⟩
      have HAN := hide hans
      rw [hans] at HV
      simp only at HV
      unfold verV strV at HV
      clear hV hSG hsn hcell hread hans hvs
      go_wp2_with fail
      refine (unhide HV).mono ?_
      rintro e w2 ⟨rfl, hb2⟩
      have HB2 := hide ((unhide HSG).below.trans (hb2.mono (unhide HSG).below.size))
      clear hc HV
      by_cases he : aer = 0
      · have hsd := ver_said (R := R) (S := Ls[m]) (by rw [unhide HAN]; exact he)
        rw [unhide HAN] at hsd
        obtain ⟨hsd1, hl1, hl8, hb0, hbm⟩ := hsd
        simp only [Prod.mk.injEq] at hsd1
        obtain ⟨rfl, rfl, rfl⟩ := hsd1
        clear he
        obtain ⟨nm, hnm⟩ : ∃ nm, accName Ls[m] = nm := ⟨_, rfl⟩
        obtain ⟨bal, hbl⟩ : ∃ x, accBal Ls[m] = x := ⟨_, rfl⟩
        obtain ⟨ns, hns⟩ : ∃ ns, (accL R (Ls.take m)).map accName = ns := ⟨_, rfl⟩
        have hnl : (accL R (Ls.take m)).length = ns.length := by rw [← hns, List.length_map]
        have hbz := (unhide HSG).twice
        have htv := (unhide HSG).tot
        subst htv
        have hown := (unhide HSG).names
        rw [hns] at hbz hown
        rw [hnl] at hown
        have hown2 := own_later hown hb2
        obtain ⟨_, na, nc, hnv, hcs⟩ := own_strs hown2
        subst hnv
        subst hbz
        have HOW := hide hown2
        have HCS := hide hcs
        have HNM := hide (And.intro hnm (And.intro hbl (And.intro hns hnl)))
        rw [hnm] at hl1 hl8 ⊢
        rw [hbl] at hb0 hbm ⊢
        have hn1 : nm ≠ [] := fun e => by rw [e] at hl1; simp at hl1
        have hn2 : (nm == []) = false := by simp [hn1]
        have hn3 : ¬ (8 : Int) < (nm.length : Int) := by omega
        have hn4 : ¬ (4611686018427387904 : Int) < bal := by unfold maxS at hbm; omega
        have hk50 : ns.length ≤ m := by
          rw [← hnl]
          exact Nat.le_trans (List.length_filter_le _ _) (by rw [List.length_take]; omega)
        clear hcs hown hown2 hnm hbl hns hnl hb2
        obtain ⟨tw, htw⟩ : ∃ b, decide (¬ ns.Nodup) = b := ⟨_, rfl⟩
        rw [htw]
        have HTW := hide htw
        clear htw
        go_wp2_with fail
        go_loopw [14, 9] (fun k b wx => ∃ j : Nat, j ≤ ns.length ∧ k = .int .i64 j ∧ b = .bool (tw || decide (nm ∈ ns.take j)) ∧ wx = w2) (fun k _ _ => ns.length - (intOf k).toNat)
        case atStart => exact ⟨0, Nat.zero_le _, rfl, by simp, rfl⟩
        case round =>
          obtain ⟨j, hj, rfl, rfl, rfl⟩ := hrel
          by_cases hj' : j < ns.length
          · have ij : (j : Int) < (ns.length : Int) := by omega
            obtain ⟨g, rfl, hcj⟩ := unhide HCS j hj'
            have hsj : ns.take (j + 1) = ns.take j ++ [ns[j]] := by rw [List.take_add_one, List.getElem?_eq_getElem hj']; rfl
            have hst : (tw || decide (nm ∈ ns.take (j + 1))) = ((tw || decide (nm ∈ ns.take j)) || decide (ns[j] = nm)) := by
              rw [Bool.or_assoc, ← Bool.decide_or, hsj]
              congr 1
              refine decide_eq_decide.2 ?_
              rw [List.mem_append, List.mem_singleton]
              constructor
              · rintro (h | h)
                · exact .inl h
                · exact .inr h.symm
              · rintro (h | h)
                · exact .inl h
                · exact .inr h.symm
            have HST := hide hst
            unfold strV at hcj
            generalize ns[j] = nj at *
            generalize (tw || decide (nm ∈ ns.take j)) = tb at *
            clear hst hsj
            cases tb with
            | true =>
              go_wp2
              go_roundw
              case rel => exact ⟨j + 1, by omega, by go_num, by rw [unhide HST]; rfl, trivial⟩
              case measure => simp [intOf]; omega
            | false =>
              have hq : (nj == nm) = decide (nj = nm) := by by_cases e : nj = nm <;> simp [e]
              go_wp2
              go_roundw
              case rel => exact ⟨j + 1, by omega, by go_num, by rw [unhide HST]; simp, trivial⟩
              case measure => simp [intOf]; omega
          · have hjj : j = ns.length := by omega
            subst hjj
            have hfin : (tw || decide (nm ∈ ns.take ns.length)) = decide (¬ (ns ++ [nm]).Nodup) := by rw [List.take_length, twice_snoc, unhide HTW]
            rw [hfin]
            have HFN : Hid (∀ v' w4, w4.ownsRow w.heap.size 9 1 v' (ns.length + 1) (ns.map strV ++ [.string ⟨nm.toArray⟩]) → Below w.heap.size w w4 → SG w R (Ls.take (m + 1)) v' (.int .u64 (IntKind.u64.wrap (IntKind.u64.wrap (totE R (Ls.take m)) + bal))) u8 (.bool (decide (¬ (ns ++ [nm]).Nodup))) w4) := fun v' w4 ho hb => by
              obtain ⟨q1, q2, q3, q4⟩ := unhide HNM
              have h0 : (verAns R Ls[m]).2.2 = 0 := by rw [unhide HAN]
              have ea : accL R (Ls.take (m + 1)) = accL R (Ls.take m) ++ [Ls[m]] := by rw [unhide HSN, accL_snoc, if_pos h0]
              have em : (accL R (Ls.take (m + 1))).map accName = ns ++ [nm] := by rw [ea, List.map_append, q3, ← q1]; rfl
              refine ⟨hb, ?_, ?_, ?_, ?_⟩
              · rw [em, ea, List.length_append, q4, List.map_append]
                exact ho
              · rw [unhide HSN, totE_snoc, if_pos h0, q2, IntKind.wrap_u64, IntKind.wrap_u64, IntKind.wrap_u64]
                congr 1
                omega
              · rw [unhide HSN, mostE_snoc, h0, (unhide HSG).most]
                congr 1
                split
                · rename_i e; exact e
                · rfl
              · rw [em]
            clear hfin HSN HAN HSG HNM HCS
            have hbz := (unhide HB2).size
            go_wp2_with (at_builtin; refine wpList_append_own _ rfl (.tmp 80) (.tmp 82) 55 rfl w.heap.size 9 i0 _ 1 16 Try.underlying55 hi hz0 hz1 hz2 rfl (by decide) _ _ _ rfl ((unhide HOW).alloc _) ⟨wr.heap.size, 0, none⟩ 1 1 [.string ⟨nm.toArray⟩] rfl rfl (cell_one_new _ _ _) ?c2 ?c3 ?c4 ?c5 ?_)
            case c2 => intro u hu; simp at hu; subst hu; rfl
            case c3 => unfold maxLen; omega
            case c4 => omega
            case c5 => simp; omega
            intro v' w4 hown4 hgrow4 _
            have hb4 : Below w.heap.size w w4 := ((unhide HB2).alloc hbz _).grown hgrow4 (by simp; omega) (fun b hb => ((unhide HOW).lt b hb).1)
            have HF := hide (unhide HFN v' w4 hown4 hb4)
            clear hb4 hown4 hgrow4 HFN HOW HB2
            go_wp2
            go_roundw
            case rel => exact ⟨m + 1, by omega, by omega, by go_num, by have := unhide HF; rwa [decide_not] at this⟩
            case measure => simp [intOf]; omega
      · have hrf := ver_refused (R := R) (S := Ls[m]) (by rw [unhide HAN]; exact he)
        rw [unhide HAN] at hrf
        obtain ⟨h1', h2'⟩ := hrf
        simp only at h1' h2'
        subst h1'
        subst h2'
        have hmv := (unhide HSG).most
        subst hmv
        have HFN : Hid (SG w R (Ls.take (m + 1)) u6 u7 (.int .i64 (if mostE R (Ls.take m) = 0 then aer else mostE R (Ls.take m))) u9 w2) := by
          have h0 : (verAns R Ls[m]).2.2 = aer := by rw [unhide HAN]
          have ea : accL R (Ls.take (m + 1)) = accL R (Ls.take m) := by rw [unhide HSN, accL_snoc, h0, if_neg he]
          have hS := unhide HSG
          refine ⟨unhide HB2, by rw [ea]; exact own_later hS.names hb2, ?_, ?_, ?_⟩
          · rw [unhide HSN, totE_snoc, h0, if_neg he]; exact hS.tot
          · rw [unhide HSN, mostE_snoc, h0]
          · rw [ea]; exact hS.twice
        have hne : (aer != 0) = true := by simp [he]
        generalize mostE R (Ls.take m) = ms at *
        clear HSG HB2 HAN HSN hb2
        by_cases h0 : ms = 0
        · subst h0
          rw [if_pos rfl] at HFN
          go_wp2
          go_roundw
          case rel => exact ⟨m + 1, by omega, by omega, by go_num, unhide HFN⟩
          case measure => simp [intOf]; omega
        · rw [if_neg h0] at HFN
          go_wp2
          go_roundw
          case rel => exact ⟨m + 1, by omega, by omega, by go_num, unhide HFN⟩
          case measure => simp [intOf]; omega
    · have hlm : (Ls.take m).length = m := by rw [List.length_take, hnn]; omega
      have hA' : repOk R → 0 < (Ls.take m).length → ∃ b off, a2 = some ⟨b, off, none⟩ ∧ PrfArgs wr (repH R) (Ls.take m) b off vs := fun hok h0 => by
        obtain ⟨b, off, e, hbl, hcell, hread⟩ := unhide HA (by omega)
        refine ⟨b, off, e, Nat.lt_of_lt_of_le hbl hSG.below.size, fun i hi => (hSG.below.cell (p := ⟨b, off + i, none⟩) hbl).trans (hcell i (by omega)), fun i hi w' hb => ?_⟩
        have := hread (repH R) hok.1.2 i (by omega) w' (hSG.below.trans (hb.mono hSG.below.size))
        rwa [List.getElem_take]
      have hEx := extract_any R (Ls.take m) (.slice a1 R.length c1) a2 c2 vs wr (by omega) (unhide HR wr hSG.below) hA'
      rw [hlm, hrn] at hEx
      obtain ⟨L, hL⟩ : ∃ L, Ls.take m = L := ⟨_, rfl⟩
      rw [hL] at hEx hSG hlm
      obtain ⟨hbw, hnmv, rfl, rfl, rfl⟩ := hSG
      have HEX := hide hEx
      have HBW := hide hbw
      have ha2 : 50 < n → ∃ b off, a2 = some ⟨b, off, none⟩ := fun h => by
        obtain ⟨b, off, e, _⟩ := unhide HA (by omega)
        exact ⟨b, off, e⟩
      clear hA' hEx hbw hnmv hL HR HA
      have HLM := hide hlm
      have HHB := hide hm'
      clear hlm hm' hi hz0 hz1 hz2
      rcases (by have := unhide HHB; omega : (¬ m < n ∧ n ≤ 50) ∨ (m < n ∧ m = 50)) with ⟨hB1, hB2⟩ | ⟨hB1, hB2⟩
      · have i1 : ¬ (m : Int) < (n : Int) := by omega
        have i2 : ¬ (50 : Int) < (n : Int) := by omega
        have e5 : m = n := by omega
        subst e5
        clear hB1 hB2
        go_upto_region 27 with fail
        clear i1 i2 ha2 hc2 hm hnn
        obtain ⟨ms, hms⟩ : ∃ q, mostE R L = q := ⟨_, rfl⟩
        obtain ⟨tw, htw⟩ : ∃ q, decide (¬ ((accL R L).map accName).Nodup) = q := ⟨_, rfl⟩
        obtain ⟨tt, htt⟩ : ∃ q, totE R L = q := ⟨_, rfl⟩
        rw [hms, htw, htt]
        have HMS := hide (And.intro hms (And.intro htw htt))
        clear hms htw htt
        go_wp2_with fail
        refine (unhide HEX).mono ?_
        rintro e w5 ⟨⟨v, u, x, y, er, rfl, hE, hT⟩, hb5⟩
        have HB5 := hide ((unhide HBW).trans (hb5.mono (unhide HBW).size))
        have hmst := ext_most hE
        rw [(unhide HMS).1] at hmst
        have hm0L : m = 0 → L = [] := fun h => List.eq_nil_of_length_eq_zero (by rw [unhide HLM]; exact h)
        have hL0m : L = [] → m = 0 := fun h => by rw [← unhide HLM, h]; rfl
        clear hE hb5 HEX
        have hnil : x = [] → y = [] → v = .slice none 0 0 ∧ u = .slice none 0 0 := fun h1 h2 => by
          rcases hT with ⟨_, _, h3, h4⟩ | ⟨h3, _⟩
          · exact ⟨h3, h4⟩
          · exact absurd h1 h3.1
        rcases hmst with ⟨hL0, rfl, rfl, rfl⟩ | ⟨he0, rfl, rfl, hnn', her⟩ | ⟨rfl, hm0, hnd, hok, hxy⟩
        · obtain ⟨rfl, rfl⟩ := hnil rfl rfl
          have hm0 := hL0m hL0
          subst hm0
          clear hm0L hL0m hT
          go_wp2
          go_ret
          exact ⟨rfl, unhide HB5⟩
        · obtain ⟨rfl, rfl⟩ := hnil rfl rfl
          have he1 : (er == 0) = false := by simp [he0]
          have he2 : (er != 0) = true := by simp [he0]
          clear hT hnil
          by_cases h28 : m = 0
          · have he8 : er ≠ 8 := fun h => hnn' ⟨hm0L h28, h⟩
            have he9 : (er == 8) = false := by simp [he8]
            subst h28
            clear hm0L hL0m hnn'
            by_cases h30 : ms = 0 ∧ ¬ ((accL R L).map accName).Nodup
            · rw [if_pos h30] at her
              obtain ⟨rfl, hnd⟩ := h30
              have htt : tw = true := by rw [← (unhide HMS).2.1]; exact decide_eq_true hnd
              subst htt
              subst her
              go_wp2
              go_ret
              exact ⟨rfl, unhide HB5⟩
            · rw [if_neg h30] at her
              subst her
              go_wp2
              go_ret
              exact ⟨rfl, unhide HB5⟩
          · have hm9 : ((m : Int) == 0) = false := by simp [h28]
            clear hm0L hL0m hnn'
            by_cases h30 : ms = 0 ∧ ¬ ((accL R L).map accName).Nodup
            · rw [if_pos h30] at her
              obtain ⟨rfl, hnd⟩ := h30
              have htt : tw = true := by rw [← (unhide HMS).2.1]; exact decide_eq_true hnd
              subst htt
              subst her
              go_wp2
              go_ret
              exact ⟨rfl, unhide HB5⟩
            · rw [if_neg h30] at her
              subst her
              go_wp2
              go_ret
              exact ⟨rfl, unhide HB5⟩
        · have htf : tw = false := by rw [← (unhide HMS).2.1]; exact decide_eq_false (fun h => h hnd)
          subst htf
          subst hm0
          clear hm0L hL0m hnd
          rcases hxy with ⟨hne, hdg, hx0, hy0⟩ | ⟨rfl, rfl, htl, ht0⟩
          · have hTT : TextIs wr.heap.size w5 v x ∧ TextIs wr.heap.size w5 u y := by
              rcases hT with ⟨h, _⟩ | ⟨h1, h2, _⟩
              · exact absurd h hx0
              · exact ⟨h1, h2⟩
            obtain ⟨t1, t2⟩ := hTT
            have lx : x.length ≤ maxLen := by obtain ⟨_, _, _, _, _, _, _, h5, h6, _⟩ := t1; omega
            have ly : y.length ≤ maxLen := by obtain ⟨_, _, _, _, _, _, _, h5, h6, _⟩ := t2; omega
            have px : 0 < x.length := List.length_pos_iff.2 hx0
            have py : 0 < y.length := List.length_pos_iff.2 hy0
            have hS1 := sum_own t1.owns rfl px lx
            have hS2 := fun w6 (hb : Below w5.heap.size w5 w6) => sum_own (t2.later hb).owns rfl py ly
            obtain ⟨gv, cv, rfl, _, _, _, _, hcv⟩ := t1.block
            obtain ⟨gu, cu, rfl, _, _, _, _, hcu⟩ := t2.block
            have q1 := run_convert_bytes_back (P := Try.prog) w5 43 9 5 ⟨gv, 0, none⟩ cv x Try.underlying43 Try.underlying5 Try.underlying9 hcv
            have q2 := run_convert_bytes_back (P := Try.prog) w5 43 9 5 ⟨gu, 0, none⟩ cu y Try.underlying43 Try.underlying5 Try.underlying9 hcu
            obtain ⟨d0, d1, d2, hd⟩ : ∃ d0 d1 d2 : Int, digV (dg x) = .agg #[.int .u8 d0, .int .u8 d1, .int .u8 d2] := ⟨_, _, _, rfl⟩
            rw [← hdg] at hS2
            rw [hd] at hS1 hS2
            have hq := fun w => eql_digest w d0 d1 d2 d0 d1 d2
            have ix : (0 : Int) < (x.length : Int) := by omega
            have nx : (x == y) = false := by simp [hne]
            have nx2 : (x != y) = true := by simp [hne]
            have HS1 := hide hS1
            have HS2 := hide hS2
            clear hS1 hS2 t1 t2 hcv hcu hd hT hnil hdg hok lx ly px py
            by_cases h28 : m = 0
            · subst h28
              go_wp2_with fail
              refine (unhide HS1).mono ?_
              rintro e w6 ⟨rfl, hb6⟩
              have HS3 := hide (unhide HS2 w6 hb6)
              have HB6 := hide ((unhide HB5).trans (hb6.mono (unhide HB5).size))
              clear HS1 HS2 hb6 q1 q2
              go_wp2_with fail
              refine (unhide HS3).mono ?_
              rintro e w7 ⟨rfl, hb7⟩
              have HB7 := hide ((unhide HB6).trans (hb7.mono (unhide HB6).size))
              clear HS3 hb7
              go_wp2
              go_ret
              exact ⟨by simp, unhide HB7⟩
            · have hm9 : ((m : Int) == 0) = false := by simp [h28]
              go_wp2_with fail
              refine (unhide HS1).mono ?_
              rintro e w6 ⟨rfl, hb6⟩
              have HS3 := hide (unhide HS2 w6 hb6)
              have HB6 := hide ((unhide HB5).trans (hb6.mono (unhide HB5).size))
              clear HS1 HS2 hb6 q1 q2
              go_wp2_with fail
              refine (unhide HS3).mono ?_
              rintro e w7 ⟨rfl, hb7⟩
              have HB7 := hide ((unhide HB6).trans (hb7.mono (unhide HB6).size))
              clear HS3 hb7
              go_wp2
              go_ret
              exact ⟨by simp, unhide HB7⟩
          · obtain ⟨rfl, rfl⟩ := hnil rfl rfl
            have h12 : rn = 12 := by rw [← hrn]; exact hok.1.1
            have hl12 : R.length = 12 := hok.1.1
            obtain ⟨b1, o1, rfl, hbl1, hBy⟩ := unhide HB (by omega)
            have hcl : ∀ j (hj : j < R.length), w5.cell? ⟨b1, o1 + j, none⟩ = some (.int .u8 (R[j].toNat : Int)) := fun j hj => ((unhide HB5).cell (p := ⟨b1, o1 + j, none⟩) hbl1).trans (hBy j hj)
            have HCL := hide hcl
            rw [(unhide HMS).2.2] at htl ht0
            have HTL := hide (And.intro htl ht0)
            subst h12
            clear hT hnil hcl hBy htl ht0 HB HMS
            by_cases h28 : m = 0
            · subst h28
              go_wp2_with fail
              go_loopw [19, 18] (fun i q wx => ∃ j : Nat, 4 ≤ j ∧ j ≤ 12 ∧ i = .int .i64 j ∧ q = .int .u64 (numB ((R.drop 4).take (j - 4))) ∧ wx = w5) (fun i _ _ => 12 - (intOf i).toNat)
              case atStart => exact ⟨4, by omega, by omega, rfl, rfl, rfl⟩
              case round =>
                obtain ⟨j, hj4, hj12, rfl, rfl, rfl⟩ := hrel
                by_cases hj : j < 12
                · have hjl : j < R.length := by omega
                  have hcj := unhide HCL j hjl
                  have ij : (j : Int) < 12 := by omega
                  have hd : (R.drop 4)[j - 4]'(by rw [List.length_drop]; omega) = R[j] := by
                    rw [List.getElem_drop]
                    congr 1
                    omega
                  have hor := or_step (R.drop 4) (j - 4) (by omega) (by rw [List.length_drop]; omega)
                  rw [hd, show j - 4 + 1 = j + 1 - 4 by omega] at hor
                  have HOR := hide hor
                  generalize numB ((R.drop 4).take (j - 4)) = N4 at *
                  generalize (R[j].toNat : Int) = bj at *
                  clear hd hor
                  go_wp2
                  go_roundw
                  case rel => exact ⟨j + 1, by omega, by omega, by go_num, by rw [← unhide HOR], trivial⟩
                  case measure => simp [intOf]; omega
                · have hjj : j = 12 := by omega
                  subst hjj
                  have hle : IntKind.u64.wrap tt ≤ numB ((R.drop 4).take 8) := by
                    rw [IntKind.wrap_u64]
                    have h1 := unhide HTL
                    have h2 := (sideAt_range R 1).2
                    have h3 : (repRoot R).2 = numB ((R.drop 4).take 8) := rfl
                    have h4 : (sideAt R 1).2 = numB ((R.drop 4).take 8) := rfl
                    omega
                  have HB9 := hide (unhide HB5)
                  clear HCL HTL
                  go_wp2
                  go_ret
                  exact ⟨by simp, unhide HB9⟩
            · have hm9 : ((m : Int) == 0) = false := by simp [h28]
              go_wp2_with fail
              go_loopw [19, 18] (fun i q wx => ∃ j : Nat, 4 ≤ j ∧ j ≤ 12 ∧ i = .int .i64 j ∧ q = .int .u64 (numB ((R.drop 4).take (j - 4))) ∧ wx = w5) (fun i _ _ => 12 - (intOf i).toNat)
              case atStart => exact ⟨4, by omega, by omega, rfl, rfl, rfl⟩
              case round =>
                obtain ⟨j, hj4, hj12, rfl, rfl, rfl⟩ := hrel
                by_cases hj : j < 12
                · have hjl : j < R.length := by omega
                  have hcj := unhide HCL j hjl
                  have ij : (j : Int) < 12 := by omega
                  have hd : (R.drop 4)[j - 4]'(by rw [List.length_drop]; omega) = R[j] := by
                    rw [List.getElem_drop]
                    congr 1
                    omega
                  have hor := or_step (R.drop 4) (j - 4) (by omega) (by rw [List.length_drop]; omega)
                  rw [hd, show j - 4 + 1 = j + 1 - 4 by omega] at hor
                  have HOR := hide hor
                  generalize numB ((R.drop 4).take (j - 4)) = N4 at *
                  generalize (R[j].toNat : Int) = bj at *
                  clear hd hor
                  go_wp2
                  go_roundw
                  case rel => exact ⟨j + 1, by omega, by omega, by go_num, by rw [← unhide HOR], trivial⟩
                  case measure => simp [intOf]; omega
                · have hjj : j = 12 := by omega
                  subst hjj
                  have hle : IntKind.u64.wrap tt ≤ numB ((R.drop 4).take 8) := by
                    rw [IntKind.wrap_u64]
                    have h1 := unhide HTL
                    have h2 := (sideAt_range R 1).2
                    have h3 : (repRoot R).2 = numB ((R.drop 4).take 8) := rfl
                    have h4 : (sideAt R 1).2 = numB ((R.drop 4).take 8) := rfl
                    omega
                  have HB9 := hide (unhide HB5)
                  clear HCL HTL
                  go_wp2
                  go_ret
                  exact ⟨by simp, unhide HB9⟩
      · obtain ⟨b, off, rfl⟩ := ha2 (by omega)
        have i1 : (m : Int) < (n : Int) := by omega
        have i2 : ¬ (m : Int) < 50 := by omega
        have i3 : (50 : Int) < (n : Int) := by omega
        have i4 : (50 : Int) ≤ (c2 : Int) := by omega
        have i5 : c2 ≠ 0 := by omega
        go_upto_region 27 with fail
        rw [show (50 : Nat) = m from hB2.symm]
        clear i1 i2 i3 i4 i5 ha2 hc2 hm hnn hB1 hB2
        obtain ⟨ms, hms⟩ : ∃ q, mostE R L = q := ⟨_, rfl⟩
        obtain ⟨tw, htw⟩ : ∃ q, decide (¬ ((accL R L).map accName).Nodup) = q := ⟨_, rfl⟩
        obtain ⟨tt, htt⟩ : ∃ q, totE R L = q := ⟨_, rfl⟩
        rw [hms, htw, htt]
        have HMS := hide (And.intro hms (And.intro htw htt))
        clear hms htw htt
        go_wp2_with fail
        refine (unhide HEX).mono ?_
        rintro e w5 ⟨⟨v, u, x, y, er, rfl, hE, hT⟩, hb5⟩
        have HB5 := hide ((unhide HBW).trans (hb5.mono (unhide HBW).size))
        have hmst := ext_most hE
        rw [(unhide HMS).1] at hmst
        have hm0L : m = 0 → L = [] := fun h => List.eq_nil_of_length_eq_zero (by rw [unhide HLM]; exact h)
        have hL0m : L = [] → m = 0 := fun h => by rw [← unhide HLM, h]; rfl
        clear hE hb5 HEX
        have hnil : x = [] → y = [] → v = .slice none 0 0 ∧ u = .slice none 0 0 := fun h1 h2 => by
          rcases hT with ⟨_, _, h3, h4⟩ | ⟨h3, _⟩
          · exact ⟨h3, h4⟩
          · exact absurd h1 h3.1
        rcases hmst with ⟨hL0, rfl, rfl, rfl⟩ | ⟨he0, rfl, rfl, hnn', her⟩ | ⟨rfl, hm0, hnd, hok, hxy⟩
        · obtain ⟨rfl, rfl⟩ := hnil rfl rfl
          have hm0 := hL0m hL0
          subst hm0
          clear hm0L hL0m hT
          go_wp2
          go_ret
          exact ⟨rfl, unhide HB5⟩
        · obtain ⟨rfl, rfl⟩ := hnil rfl rfl
          have he1 : (er == 0) = false := by simp [he0]
          have he2 : (er != 0) = true := by simp [he0]
          clear hT hnil
          by_cases h28 : m = 0
          · have he8 : er ≠ 8 := fun h => hnn' ⟨hm0L h28, h⟩
            have he9 : (er == 8) = false := by simp [he8]
            subst h28
            clear hm0L hL0m hnn'
            by_cases h30 : ms = 0 ∧ ¬ ((accL R L).map accName).Nodup
            · rw [if_pos h30] at her
              obtain ⟨rfl, hnd⟩ := h30
              have htt : tw = true := by rw [← (unhide HMS).2.1]; exact decide_eq_true hnd
              subst htt
              subst her
              go_wp2
              go_ret
              exact ⟨rfl, unhide HB5⟩
            · rw [if_neg h30] at her
              subst her
              go_wp2
              go_ret
              exact ⟨rfl, unhide HB5⟩
          · have hm9 : ((m : Int) == 0) = false := by simp [h28]
            clear hm0L hL0m hnn'
            by_cases h30 : ms = 0 ∧ ¬ ((accL R L).map accName).Nodup
            · rw [if_pos h30] at her
              obtain ⟨rfl, hnd⟩ := h30
              have htt : tw = true := by rw [← (unhide HMS).2.1]; exact decide_eq_true hnd
              subst htt
              subst her
              go_wp2
              go_ret
              exact ⟨rfl, unhide HB5⟩
            · rw [if_neg h30] at her
              subst her
              go_wp2
              go_ret
              exact ⟨rfl, unhide HB5⟩
        · have htf : tw = false := by rw [← (unhide HMS).2.1]; exact decide_eq_false (fun h => h hnd)
          subst htf
          subst hm0
          clear hm0L hL0m hnd
          rcases hxy with ⟨hne, hdg, hx0, hy0⟩ | ⟨rfl, rfl, htl, ht0⟩
          · have hTT : TextIs wr.heap.size w5 v x ∧ TextIs wr.heap.size w5 u y := by
              rcases hT with ⟨h, _⟩ | ⟨h1, h2, _⟩
              · exact absurd h hx0
              · exact ⟨h1, h2⟩
            obtain ⟨t1, t2⟩ := hTT
            have lx : x.length ≤ maxLen := by obtain ⟨_, _, _, _, _, _, _, h5, h6, _⟩ := t1; omega
            have ly : y.length ≤ maxLen := by obtain ⟨_, _, _, _, _, _, _, h5, h6, _⟩ := t2; omega
            have px : 0 < x.length := List.length_pos_iff.2 hx0
            have py : 0 < y.length := List.length_pos_iff.2 hy0
            have hS1 := sum_own t1.owns rfl px lx
            have hS2 := fun w6 (hb : Below w5.heap.size w5 w6) => sum_own (t2.later hb).owns rfl py ly
            obtain ⟨gv, cv, rfl, _, _, _, _, hcv⟩ := t1.block
            obtain ⟨gu, cu, rfl, _, _, _, _, hcu⟩ := t2.block
            have q1 := run_convert_bytes_back (P := Try.prog) w5 43 9 5 ⟨gv, 0, none⟩ cv x Try.underlying43 Try.underlying5 Try.underlying9 hcv
            have q2 := run_convert_bytes_back (P := Try.prog) w5 43 9 5 ⟨gu, 0, none⟩ cu y Try.underlying43 Try.underlying5 Try.underlying9 hcu
            obtain ⟨d0, d1, d2, hd⟩ : ∃ d0 d1 d2 : Int, digV (dg x) = .agg #[.int .u8 d0, .int .u8 d1, .int .u8 d2] := ⟨_, _, _, rfl⟩
            rw [← hdg] at hS2
            rw [hd] at hS1 hS2
            have hq := fun w => eql_digest w d0 d1 d2 d0 d1 d2
            have ix : (0 : Int) < (x.length : Int) := by omega
            have nx : (x == y) = false := by simp [hne]
            have nx2 : (x != y) = true := by simp [hne]
            have HS1 := hide hS1
            have HS2 := hide hS2
            clear hS1 hS2 t1 t2 hcv hcu hd hT hnil hdg hok lx ly px py
            by_cases h28 : m = 0
            · subst h28
              go_wp2_with fail
              refine (unhide HS1).mono ?_
              rintro e w6 ⟨rfl, hb6⟩
              have HS3 := hide (unhide HS2 w6 hb6)
              have HB6 := hide ((unhide HB5).trans (hb6.mono (unhide HB5).size))
              clear HS1 HS2 hb6 q1 q2
              go_wp2_with fail
              refine (unhide HS3).mono ?_
              rintro e w7 ⟨rfl, hb7⟩
              have HB7 := hide ((unhide HB6).trans (hb7.mono (unhide HB6).size))
              clear HS3 hb7
              go_wp2
              go_ret
              exact ⟨by simp, unhide HB7⟩
            · have hm9 : ((m : Int) == 0) = false := by simp [h28]
              go_wp2_with fail
              refine (unhide HS1).mono ?_
              rintro e w6 ⟨rfl, hb6⟩
              have HS3 := hide (unhide HS2 w6 hb6)
              have HB6 := hide ((unhide HB5).trans (hb6.mono (unhide HB5).size))
              clear HS1 HS2 hb6 q1 q2
              go_wp2_with fail
              refine (unhide HS3).mono ?_
              rintro e w7 ⟨rfl, hb7⟩
              have HB7 := hide ((unhide HB6).trans (hb7.mono (unhide HB6).size))
              clear HS3 hb7
              go_wp2
              go_ret
              exact ⟨by simp, unhide HB7⟩
          · obtain ⟨rfl, rfl⟩ := hnil rfl rfl
            have h12 : rn = 12 := by rw [← hrn]; exact hok.1.1
            have hl12 : R.length = 12 := hok.1.1
            obtain ⟨b1, o1, rfl, hbl1, hBy⟩ := unhide HB (by omega)
            have hcl : ∀ j (hj : j < R.length), w5.cell? ⟨b1, o1 + j, none⟩ = some (.int .u8 (R[j].toNat : Int)) := fun j hj => ((unhide HB5).cell (p := ⟨b1, o1 + j, none⟩) hbl1).trans (hBy j hj)
            have HCL := hide hcl
            rw [(unhide HMS).2.2] at htl ht0
            have HTL := hide (And.intro htl ht0)
            subst h12
            clear hT hnil hcl hBy htl ht0 HB HMS
            by_cases h28 : m = 0
            · subst h28
              go_wp2_with fail
              go_loopw [19, 18] (fun i q wx => ∃ j : Nat, 4 ≤ j ∧ j ≤ 12 ∧ i = .int .i64 j ∧ q = .int .u64 (numB ((R.drop 4).take (j - 4))) ∧ wx = w5) (fun i _ _ => 12 - (intOf i).toNat)
              case atStart => exact ⟨4, by omega, by omega, rfl, rfl, rfl⟩
              case round =>
                obtain ⟨j, hj4, hj12, rfl, rfl, rfl⟩ := hrel
                by_cases hj : j < 12
                · have hjl : j < R.length := by omega
                  have hcj := unhide HCL j hjl
                  have ij : (j : Int) < 12 := by omega
                  have hd : (R.drop 4)[j - 4]'(by rw [List.length_drop]; omega) = R[j] := by
                    rw [List.getElem_drop]
                    congr 1
                    omega
                  have hor := or_step (R.drop 4) (j - 4) (by omega) (by rw [List.length_drop]; omega)
                  rw [hd, show j - 4 + 1 = j + 1 - 4 by omega] at hor
                  have HOR := hide hor
                  generalize numB ((R.drop 4).take (j - 4)) = N4 at *
                  generalize (R[j].toNat : Int) = bj at *
                  clear hd hor
                  go_wp2
                  go_roundw
                  case rel => exact ⟨j + 1, by omega, by omega, by go_num, by rw [← unhide HOR], trivial⟩
                  case measure => simp [intOf]; omega
                · have hjj : j = 12 := by omega
                  subst hjj
                  have hle : IntKind.u64.wrap tt ≤ numB ((R.drop 4).take 8) := by
                    rw [IntKind.wrap_u64]
                    have h1 := unhide HTL
                    have h2 := (sideAt_range R 1).2
                    have h3 : (repRoot R).2 = numB ((R.drop 4).take 8) := rfl
                    have h4 : (sideAt R 1).2 = numB ((R.drop 4).take 8) := rfl
                    omega
                  have HB9 := hide (unhide HB5)
                  clear HCL HTL
                  go_wp2
                  go_ret
                  exact ⟨by simp, unhide HB9⟩
            · have hm9 : ((m : Int) == 0) = false := by simp [h28]
              go_wp2_with fail
              go_loopw [19, 18] (fun i q wx => ∃ j : Nat, 4 ≤ j ∧ j ≤ 12 ∧ i = .int .i64 j ∧ q = .int .u64 (numB ((R.drop 4).take (j - 4))) ∧ wx = w5) (fun i _ _ => 12 - (intOf i).toNat)
              case atStart => exact ⟨4, by omega, by omega, rfl, rfl, rfl⟩
              case round =>
                obtain ⟨j, hj4, hj12, rfl, rfl, rfl⟩ := hrel
                by_cases hj : j < 12
                · have hjl : j < R.length := by omega
                  have hcj := unhide HCL j hjl
                  have ij : (j : Int) < 12 := by omega
                  have hd : (R.drop 4)[j - 4]'(by rw [List.length_drop]; omega) = R[j] := by
                    rw [List.getElem_drop]
                    congr 1
                    omega
                  have hor := or_step (R.drop 4) (j - 4) (by omega) (by rw [List.length_drop]; omega)
                  rw [hd, show j - 4 + 1 = j + 1 - 4 by omega] at hor
                  have HOR := hide hor
                  generalize numB ((R.drop 4).take (j - 4)) = N4 at *
                  generalize (R[j].toNat : Int) = bj at *
                  clear hd hor
                  go_wp2
                  go_roundw
                  case rel => exact ⟨j + 1, by omega, by omega, by go_num, by rw [← unhide HOR], trivial⟩
                  case measure => simp [intOf]; omega
                · have hjj : j = 12 := by omega
                  subst hjj
                  have hle : IntKind.u64.wrap tt ≤ numB ((R.drop 4).take 8) := by
                    rw [IntKind.wrap_u64]
                    have h1 := unhide HTL
                    have h2 := (sideAt_range R 1).2
                    have h3 : (repRoot R).2 = numB ((R.drop 4).take 8) := rfl
                    have h4 : (sideAt R 1).2 = numB ((R.drop 4).take 8) := rfl
                    omega
                  have HB9 := hide (unhide HB5)
                  clear HCL HTL
                  go_wp2
                  go_ret
                  exact ⟨by simp, unhide HB9⟩

end Go.Proofs.Ytbjobbkgelipmaa
