/-
  The walk of tithekeep's known.
-/
import Derived.Test.YtbjobbkgelipmaaIter
import Derived.Test.YtbjobbkgelipmaaSbaj
import Derived.Test.YtbjobbkgelipmaaSban
import Derived.Test.YtbjobbkgelipmaaSoaa
import Derived.Test.YtbjobbkgelipmaaSbab
import Derived.Test.YtbjobbkgelipmaaSbaf
import Derived.Test.YtbjobbkgelipmaaSoad
import Derived.Test.YtbjobbkgelipmaaSoae
import Derived.Test.YtbjobbkgelipmaaSoaf
import Derived.Test.YtbjobbkgelipmaaSoag
namespace Go.Proofs.Ytbjobbkgelipmaa
open Go.RowKit

theorem own_bytes {base n : Nat} {v : Value} {l : List UInt8} {w : World} (hown : w.ownsRow base 5 1 v n (byteVals l)) (h0 : 0 < n) :
    ∃ g cap, v = .slice (some ⟨g, 0, none⟩) n cap ∧ base ≤ g ∧ g < w.heap.size ∧ n ≤ cap ∧ cap ≤ 9223372036854775807 ∧ BytesAt w g 0 l := by
  rcases hown.2 with ⟨_, h⟩ | ⟨g, cap, cur, rfl, hg, hb, h1, h2, _, hx⟩
  · omega
  · refine ⟨g, cap, rfl, hg, (Array.getElem?_eq_some_iff.1 hb).1, h1, h2, ?_⟩
    intro j hj
    have h1 : (byteVals l)[j]? = some (.int .u8 (l[j].toNat : Int)) := by simp [byteVals, List.getElem?_eq_getElem hj]
    rw [← hx, List.getElem?_take] at h1
    split at h1
    · rw [Nat.zero_add]
      simp only [World.cell?, hb]
      simpa using h1
    · cases h1
theorem BytesAt.take {w : World} {b o k : Nat} {l : List UInt8} (h : BytesAt w b o l) : BytesAt w b o (l.take k) := by
  intro j hj
  rw [List.length_take] at hj
  rw [List.getElem_take]
  exact h j (by omega)

/-- What is cut short is refused. -/
theorem ver_short {R P : List UInt8} (h : (verAns R P).2.2 = 0) (k : Nat) (hk : k < P.length) (_hh : P.length ≤ 19 + 8 + 11 * 6) (h2 : k < 20 + 11 * repH R) : verAns R (P.take k) = ([], 0, 9) := by
  have hok : repOk R := Classical.byContradiction fun hn => by rw [verAns_norep hn] at h; cases h
  refine verAns_no hok fun hv => ?_
  have h3 := hv.2.1.2.2.2.2.2
  have h4 := hv.2.1.2.2.2.1
  rw [List.length_take] at h3
  omega

def kLeaf : LeafD := ⟨⟨#[107]⟩, 3, saltI 1 0⟩
theorem kAns : verAns (reportB [kLeaf] 2) (proofTo [kLeaf] 2 0 kLeaf 2) = ([107], 3, 0) := by
  rw [proofTo_beside]
  have hs := saltI_range 1 0
  have hx : LeafD.ok kLeaf := ⟨by decide, by decide, by decide, hs.1, hs.2⟩
  exact honest [kLeaf] 2 0 kLeaf (by omega) (by decide) (by decide) hx rfl (fun y hy => by simp at hy; rw [hy]; decide) (by unfold maxS sumL; simp [kLeaf])
theorem kRepH : repH (reportB [kLeaf] 2) = 2 := rfl
theorem kHalf : verAns (reportB [kLeaf] 2) ((proofTo [kLeaf] 2 0 kLeaf 2).take 21) = ([], 0, 9) := by
  have hl : (proofTo [kLeaf] 2 0 kLeaf 2).length = 42 := by rw [proofTo_length]; rfl
  exact ver_short (by rw [kAns]) 21 (by omega) (by omega) (by rw [kRepH]; omega)

set_option maxHeartbeats 1000000 in
set_option maxRecDepth 100000 in
theorem known_any (K : SortK) (w : World) :
    Calls Try.prog 7 #[] w fun e w' => e = .returned (.bool true) ∧ Below w.heap.size w w' := by
  have HK := hide K
  have HN := hide (new_good 2 1 w (by omega) (by omega))
  unfold cfgV at HN
  clear K
  obtain ⟨N, hN⟩ : ∃ N, w.heap.size = N := ⟨_, rfl⟩
  rw [hN] at HN ⊢
  go_enter Try.func7, Try.ntmps7
  go_wp2_with fail
  refine (unhide HN).mono ?_
  rintro e w1 ⟨rfl, hB1, hb1⟩
  have hz1 := hb1.size
  rw [hN] at hz1
  have HO := hide (open_yes hB1 ⟨#[107]⟩ rfl (by unfold maxLen; decide))
  have HB1 := hide hb1
  clear HN hB1 hb1
  go_wp2_with fail
  refine (unhide HO).mono ?_
  rintro e w2 ⟨rfl, ⟨A, hA, hB2⟩, hk2⟩
  have hb2 : Below N w w2 := (unhide HB1).trans (hk2.below hz1 (fun k hk => by simp [blksE] at hk; omega))
  have hz2 := hk2.size
  have HB2 := hide hb2
  have hpe : payE (insE ⟨(⟨#[107]⟩ : ByteArray).data.toList, A, 0⟩ []) (⟨#[107]⟩ : ByteArray).data.toList 3 = (0, [⟨[107], A, 3⟩]) := by simp [payE, insE, lookE, sumE, setE, maxS]
  have HP := hide (pay_any hB2 ⟨#[107]⟩ 3 (by unfold maxLen; decide) (by omega) (by omega))
  rw [hpe] at HP
  clear HO hB2 hk2 hb2 HB1 hpe
  go_wp2_with fail
  refine (unhide HP).mono ?_
  rintro e w3 ⟨rfl, hB3, hk3⟩
  have hz3 := hk3.size
  have hb3 : Below N w w3 := (unhide HB2).trans (hk3.below (by omega) (fun k hk => by simp [blksE, insE] at hk; omega))
  have HB3 := hide hb3
  have HU := hide (publish_ok (h := 2) (unhide HK) hB3 (by omega) (by simp) (fun a ha => by simp at ha; rw [ha]; simp))
  have hlv : leavesE 1 [⟨[107], A, 3⟩] ([⟨[107], A, 3⟩] : List Acct).length = [kLeaf] := rfl
  rw [hlv] at HU
  clear HP hB3 hk3 hb3 HB2 hlv
  go_wp2_with fail
  refine (unhide HU).mono ?_
  rintro e w4 ⟨⟨v, T, b, cap, V, vc, gs, rfl, hown4, hB4, hT4, _⟩, hk4⟩
  have hz4 := hk4.size
  have hb4 : Below N w w4 := (unhide HB3).trans (hk4.below (by omega) (fun k hk => by simp at hk; omega))
  have HB4 := hide hb4
  have HR := hide (bproof_yes hB4.toBookT hT4 ⟨#[107]⟩ (by omega) (by decide) (fun y hy => by simp at hy; rw [hy]; decide) (by unfold maxS sumL; simp [kLeaf]) 0 (by decide) rfl (fun j hj => by omega))
  have hg0 : ([kLeaf] : List LeafD)[0] = kLeaf := rfl
  rw [hg0] at HR
  obtain ⟨g1, c1, rfl, _, hg1, hc1, hc1', hY1⟩ := own_bytes hown4 (by omega)
  have HY1 := hide hY1
  clear HU hown4 hB4 hT4 hk4 hb4 HB3 hg0 hY1
  go_wp2_with fail
  refine (unhide HR).mono ?_
  rintro e w5 ⟨⟨v, rfl, hown5⟩, hb5⟩
  have hsz : (⟨#[107]⟩ : ByteArray).size = 1 := rfl
  rw [hsz] at hown5
  have hb5' : Below N w w5 := (unhide HB4).trans (hb5.mono (by omega))
  have hz5 := hb5.size
  have HB5 := hide hb5'
  obtain ⟨g2, c2, rfl, _, hg2, hc2, hc2', hY2⟩ := own_bytes hown5 (by omega)
  have hY1 := (unhide HY1).below hb5 hg1
  have hl : (proofTo [kLeaf] 2 0 kLeaf 2).length = 42 := by rw [proofTo_length]; rfl
  have hlr : (reportB [kLeaf] 2).length = 12 := by unfold reportB; rw [List.length_cons, sideB_length]
  have ans := kAns
  have half := kHalf
  have hrh := kRepH
  generalize proofTo [kLeaf] 2 0 kLeaf 2 = P at *
  generalize reportB [kLeaf] 2 = R at *
  have hV1 := ownver_caps R P g1 g2 c1 c2 w5 (by omega) hc1' (by omega) (fun h => by omega) hc2' (by omega) hg2 hY1 hY2
  have hlt : (P.take 21).length = 21 := by rw [List.length_take]; omega
  have hV2 := fun (w6 : World) (hw6 : Below w5.heap.size w5 w6) => ownver_caps R (P.take 21) g1 g2 c1 c2 w6 (by omega) hc1' (by omega) (fun h => by omega) hc2' (by have := hw6.size; omega) (by have := hw6.size; omega) (hY1.below hw6 (by omega)) (hY2.below hw6 (by omega)).take
  rw [ans, hl, hlr] at hV1
  rw [half, hlt, hlr] at hV2
  unfold verV strV at hV1 hV2
  have HV1 := hide hV1
  have HV2 := hide hV2
  clear hV1 hV2 ans half hrh hl hlr hlt hY1 hY2 HY1 HR hown5 hb5 hb5' hsz HB4 hg1 hg2 hN HK
  have hzN : N ≤ w5.heap.size := by omega
  clear hz1 hz2 hz3 hz4 hz5
  have c42 : 42 ≤ c2 := by omega
  go_wp2_with fail
  refine (unhide HV1).mono ?_
  rintro e w6 ⟨rfl, hb6⟩
  have HV3 := hide (unhide HV2 _ hb6)
  have HB6 := hide ((unhide HB5).trans (hb6.mono hzN))
  have hz6 := hb6.size
  clear HV1 HV2 hb6 HB5
  go_wp2_with fail
  refine (unhide HV3).mono ?_
  rintro e w7 ⟨rfl, hb7⟩
  have HB7 := hide ((unhide HB6).trans (hb7.mono (by omega)))
  clear HV3 HB6 hb7
  go_wp2
  go_ret
  exact ⟨rfl, unhide HB7⟩

end Go.Proofs.Ytbjobbkgelipmaa

/-
  What slices.Sorted(maps.Keys(m)) gives, by the library's contracts.
-/
namespace Go.Proofs.Ytbjobbkgelipmaa
open Go.RowKit Go.Maps Go.Sort Go.Shelf

theorem Try.sortsL (m : Nat) : AnyZ.SortsIn Try.prog Try.sortedL_ren Fence.wide m :=
  ⟨fun blk off cap ss W hH hblk hsz => callsIn_wide.2 (AnyM.slices_Sort_string Try.sortL blk off cap ss W hH hblk hsz),
   fun p cap W => callsIn_wide.2 (AnyM.slices_Sort_string_none Try.sortL p cap W)⟩

set_option maxHeartbeats 1000000 in
theorem sortk : SortK := ⟨
  fun mb W => (callsIn_wide (n := 5)).1 (AnyZ.keys_in Try.keysL Fence.wide 5 trivial rfl mb W),
  fun b nn D0 w hown hsz => (callsIn_wide (n := 5)).1 (by
    have hbl := hown.lt
    have hseq : SeqGives Fence.wide 2 Try.prog 60 #[.pointer (some ⟨w.heap.size, 0, none⟩)] encStr (fun ss => ss.Perm (strKeys D0)) (Maps.size D0) (w.alloc (.cells #[.map (some b)] 61)) :=
      AnyZ.keys_gives (ρ := Try.keysL_ren) { Try.keysL with } Fence.wide _ trivial rfl (by omega) w.heap.size b nn D0 _ (by simp) (by simp) (by
        obtain ⟨es, clock, hb, Ft, hs, hD⟩ := hown
        exact ⟨es, clock, (Below.heap_alloc _ _ b hbl).trans hb, Ft, hs, hD⟩)
    exact AnyZ.sorted_in Try.sortedL Fence.wide 5 trivial trivial trivial trivial rfl (by omega) (Try.sortsL _) (enters_of Try.func52 (by kernel_rfl) rfl) 60 #[.pointer (some ⟨w.heap.size, 0, none⟩)] trivial (enters_of Try.func60 (by kernel_rfl) rfl) _ _ (by unfold maxLen; omega) (by omega) _ hseq)⟩

#print axioms sortk

end Go.Proofs.Ytbjobbkgelipmaa

/-
  Sound: the law lifted, and the statement.
-/
namespace Go.Proofs.Ytbjobbkgelipmaa
open Go.ChangeShapes Go.WideShapes Go.ChangeAt Go.RowKit

theorem SliceIs.below {W W' : World} {a : Option Addr} {len cap : Nat} {l : List UInt8} (s : SliceIs W a len cap l) (hb : Below W.heap.size W W') : SliceIs W' a len cap l := by
  obtain ⟨h1, h2, h3, h4⟩ := s
  refine ⟨h1, h2, h3, fun h0 => ?_⟩
  obtain ⟨b, o, e, hlt, hB⟩ := h4 h0
  exact ⟨b, o, e, Nat.lt_of_lt_of_le hlt hb.size, fun j hj => (hb.cell (p := ⟨b, o + j, none⟩) hlt).trans (hB j hj)⟩

theorem prf_of {W : World} {a : Option Addr} {len cap : Nat} {l : List UInt8} (s : SliceIs W a len cap l) {h : Nat} (hh : h ≤ 6) :
    Calls Try.prog 50 #[.slice a len cap, .int .i64 (h : Int)] W (PrfSay h l W) := by
  obtain ⟨h1, h2, h3, h4⟩ := s
  by_cases hs : len < 3
  · exact (rdpro_short a len cap h W hs).mono fun e w' ⟨he, hb'⟩ => ⟨hb', .inl ⟨fun hp => by have := hp.1.1; omega, 0, ⟨#[]⟩, 0, 0, none, 0, 0, he⟩⟩
  · obtain ⟨b, o, rfl, hb, hB⟩ := h4 (by omega)
    by_cases h0 : bAt l 0 = h
    · have key : Calls Try.prog 50 #[.slice (some ⟨b, o, none⟩) len cap, .int .i64 (h : Int)] W (RdPost h l W) := by
        by_cases hz : h = 0 → len < cap
        · exact rdpro_good b o len cap h l W h1 (by omega) h2 hz h3 hh hb hB h0
        · have hz0 : h = 0 := Classical.byContradiction fun hn => hz fun h => absurd h hn
          have hlc : cap = len := by
            by_cases e : len < cap
            · exact absurd (fun _ => e) hz
            · omega
          subst hlc
          exact rdpro_full b o cap h l W h1 (by omega) hz0 h3 hh hb hB h0
      refine key.mono fun e w' ⟨hb', p1, p2⟩ => ⟨hb', ?_⟩
      by_cases ha : accHead h l
      · obtain ⟨g, he, hg, hs⟩ := p2 ha
        by_cases hk : prfOk h l
        · rw [decide_eq_true ((prfOk_great ha).2 hk)] at he
          exact .inr ⟨hk, g, he, hg, hs⟩
        · rw [decide_eq_false (fun h => hk ((prfOk_great ha).1 h))] at he
          exact .inl ⟨hk, _, _, _, _, _, _, _, he⟩
      · exact .inl ⟨fun hp => ha hp.1, 0, ⟨#[]⟩, 0, 0, none, 0, 0, p1 ha⟩
    · have c0 : W.cell? ⟨b, o, none⟩ = some (.int .u8 (bAt l 0 : Int)) := by
        have := hB 0 (by omega)
        rw [Nat.add_zero] at this
        rw [this]; unfold bAt; rw [List.getD_eq_getElem?_getD, List.getElem?_eq_getElem (by omega)]; rfl
      exact (rdpro_height b o len cap h (bAt l 0) W (by omega) hb c0 (by have := UInt8.toNat_lt (l.getD 0 0); unfold bAt; omega) h0).mono fun e w' ⟨he, hb'⟩ => ⟨hb', .inl ⟨fun hp => h0 hp.1.2.1, 0, ⟨#[]⟩, 0, 0, none, 0, 0, he⟩⟩

theorem rep_of {W : World} {a : Option Addr} {cap : Nat} {R : List UInt8} (s : SliceIs W a R.length cap R) :
    Calls Try.prog 34 #[.slice a R.length cap] W fun e w'' => RepSay R e ∧ Below W.heap.size W w'' := by
  obtain ⟨_, h2, h3, h4⟩ := s
  by_cases hh : repHead R
  · obtain ⟨b, o, rfl, hb, hB⟩ := h4 (by have := hh.1; omega)
    have hRR := rdrepo_good b o cap R W hb hB hh (by have := hh.1; omega) (by omega)
    rw [← hh.1] at hRR
    by_cases hle : (repRoot R).2 ≤ maxS
    · rw [show leMax (repRoot R).2 = true from decide_eq_true hle] at hRR
      exact hRR.mono fun e w' ⟨he, hb⟩ => ⟨.inl ⟨⟨hh, hle⟩, he⟩, hb⟩
    · rw [show leMax (repRoot R).2 = false from decide_eq_false hle] at hRR
      exact hRR.mono fun e w' ⟨he, hb⟩ => ⟨.inr ⟨fun h => hle h.2, _, _, _, _, _, he⟩, hb⟩
  · exact (rdrepo_bad a R.length cap R W rfl h4 hh).mono fun e w' ⟨he, hb⟩ => ⟨.inr ⟨fun h => hh h.1, _, _, _, _, _, he⟩, hb⟩

set_option maxRecDepth 100000 in
theorem sound_lifted (os : Os) (started : os.Started) (H : Type) (enc : TypeId × Value → H) :
    ReturnsInHanded {} Try.checked os 5 .any (Rows.soundSpec.pre6 enc Try.prog Try.f5 Rows.soundRow.domain false) (Rows.soundSpec.post enc Try.prog Try.f5 false true false false) := by
  refine returnsInHanded_of_change_sized (C := Try.checked) Try.kown started (by kernel_rfl) Try.func5
    (ChangeSpec.witness6 (enc := enc) (C := Try.checked) false ⟨#[], #[.slice none 0 0, .slice none 0 0], []⟩ 8 (by kernel_rfl) (by kernel_rfl) (by kernel_rfl) (by kernel_rfl)) ?_
  intro W base args ds gs before hval0 hW _ hsz0 _
  have hsz : (DataW.weightsEach Try.prog (Try.f5.params.toList ++ Rows.soundSpec.plain.varTypes Try.prog) (ds ++ gs)).all (· ≤ reachBytes) = true := hsz0
  clear hsz0
  have hval : ∀ (j : Nat) t v, Try.f5.params[j]? = some t → args[j]? = some v → Value.okWide Try.prog W .any base t v := hval0
  have hW' := hW
  obtain ⟨p, q, hA0, hV, rfl, _, _⟩ := hW
  have hA : DataW.TrodAll enc Try.prog W 0 (fun _ => true) true Try.f5.params.toList args.toList ds p := hA0
  rw [Try.params5] at hA hval hsz
  obtain ⟨v0, v1, d0, d1, p0, p1, rfl, rfl, rfl, h0, h1⟩ := trodAll_two hA
  obtain ⟨rfl, rfl⟩ := trodVars_none hV
  obtain ⟨a1, len1, cap1, rfl⟩ := okWide_slice Try.underlying43 (hval 0 43 v0 rfl rfl)
  obtain ⟨a2, len2, cap2, rfl⟩ := okWide_slice Try.underlying49 (hval 1 49 v1 rfl rfl)
  have h0k := h0
  have h1k := h1
  obtain ⟨f0, hf0⟩ := h0
  obtain ⟨f1, hf1⟩ := h1
  clear hA0 hval0
  simp only [List.append_nil] at hW'
  have hlt : ∀ x ∈ p0 ++ p1, x.block < W.heap.size := fun x hx => by simpa using hW'.lt x hx
  have hargs0 : ∀ (W' : World), Below W.heap.size W W' → DataW.Trod enc Try.prog W' 0 (fun b => decide (b < W.heap.size)) true 43 (.slice a1 len1 cap1) d0 p0 :=
    fun W' hn => Below.trod Try.klaidOut (by kernel_rfl) (of_decide_eq_true (by kernel_rfl)) h0k hn (fun x hx => hlt x (List.mem_append_left _ hx))
  have hargs1 : ∀ (W' : World), Below W.heap.size W W' → DataW.Trod enc Try.prog W' 0 (fun b => decide (b < W.heap.size)) true 49 (.slice a2 len2 cap2) d1 p1 :=
    fun W' hn => Below.trod Try.klaidOut (by kernel_rfl) (of_decide_eq_true (by kernel_rfl)) h1k hn (fun x hx => hlt x (List.mem_append_right _ hx))
  obtain ⟨a, len, cap, R, e1, hS, hRl⟩ := bytes_open (by simpa [Value.cells] using hf0) (fun m hm => by
    have := List.all_eq_true.1 hsz m (DataW.weights_mem_each (j := 0) (t := 43) rfl rfl m hm)
    simpa using this)
  cases e1
  obtain ⟨vs, Ls, hl1, hl2, hl3, hl4⟩ := lists_open (by simpa [Value.cells] using hf1) (fun m hm => by
    have := List.all_eq_true.1 hsz m (DataW.weights_mem_each (j := 1) (t := 49) rfl rfl m hm)
    simpa using this)
  obtain ⟨rfl, hS2, hS3, hS4⟩ := hS
  subst hl1
  have hSI : SliceIs W a1 R.length cap1 R := ⟨rfl, hS2, hS3, hS4⟩
  refine (sound_any R Ls a1 a2 cap1 cap2 vs W (by omega) hl3 hl2 (known_any sortk W) (fun w' hb => rep_of (hSI.below hb)) hS4 (fun h0 => ?_)).mono fun e W' ⟨he, hnx⟩ => ?_
  · obtain ⟨b, off, e, hb, hc⟩ := hl4 h0
    exact ⟨b, off, e, hb, fun i hi => (hc i hi).1, fun h hh i hi w' hbw => prf_of ((hc i hi).2.below hbw) hh⟩
  · subst he
    refine ⟨_, rfl, _, _, _, [], p0 ++ p1, [], hW', ?_, ?_, rfl, hnx.frame _, fun h => by cases h⟩
    · exact trodAll_mk1 (shut_bool Try.underlying4 true)
    · exact trodAll_mk2 (hargs0 _ hnx) (hargs1 _ hnx)

theorem sound_holds : Rows.SoundSaid :=
  OpenClaim.holds_of_wide 5 Try.f5 rfl rfl rfl rfl rfl rfl rfl ⟨rfl, rfl, rfl, rfl, rfl⟩ rfl rfl rfl rfl rfl (by kernel_rfl) Try.func5 (by kernel_rfl)
    (of_decide_eq_true (by kernel_rfl)) (by unfold Func.isWrapper; first | (rw [if_pos (by decide +kernel)]; kernel_rfl) | (rw [if_neg (by decide +kernel)]; exact ⟨rfl, rfl⟩))
    (fun os started H enc _ => sound_lifted os started H enc)

#print axioms sound_holds

end Go.Proofs.Ytbjobbkgelipmaa
