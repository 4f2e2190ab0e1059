/-
  The walk of tithe's leaves (a book's), given what slices.Sorted(maps.Keys(m)) gives.
-/
import Derived.Deep.DeepCutAuto
import Derived.Deep.RegionHeld3
import Derived.Test.YtbjobbkgelipmaaSbae
import Derived.Test.YtbjobbkgelipmaaSbab
import Derived.Test.YtbjobbkgelipmaaSbaa
namespace Go.Proofs.Ytbjobbkgelipmaa
open Go.RowKit Go.Maps Go.Sort Go.WideMaps

def leafOf (seed : Int) (E : List Acct) (i : Nat) : LeafD := ⟨⟨((E.getD i ⟨[], 0, 0⟩).name).toArray⟩, (E.getD i ⟨[], 0, 0⟩).bal, saltI seed i⟩
/-- The leaves of a book. -/
def leavesE (seed : Int) (E : List Acct) (n : Nat) : List LeafD := (List.range n).map (leafOf seed E)
theorem leavesE_len (seed : Int) (E : List Acct) (n : Nat) : (leavesE seed E n).length = n := by simp [leavesE]
theorem leavesE_snoc (seed : Int) (E : List Acct) (n : Nat) : leavesE seed E (n + 1) = leavesE seed E n ++ [leafOf seed E n] := by simp [leavesE, List.range_succ]

def LeafC (W : World) (b : Nat) (ls : List LeafD) : Prop := ∀ i (h : i < ls.length), W.cell? ⟨b, i * 3, none⟩ = some (.string ls[i].nm) ∧ W.cell? ⟨b, i * 3 + 1, none⟩ = some (.int .u64 ls[i].bal) ∧ W.cell? ⟨b, i * 3 + 2, none⟩ = some (.int .u64 ls[i].salt)
/-- Room for leaves; the first ones are there. -/
def RoomL (W : World) (b n : Nat) (ls : List LeafD) : Prop := (∀ o, o < n * 3 → (W.cell? ⟨b, o, none⟩).isSome = true ∧ W.frozen? ⟨b, o, none⟩ = false) ∧ LeafC W b ls
theorem RoomL.below {w w' : World} {b n : Nat} {ls : List LeafD} (h : RoomL w b n ls) (hb : Below w.heap.size w w') (hlt : b < w.heap.size) : RoomL w' b n ls := by
  refine ⟨fun o ho => ?_, fun i hi => ?_⟩
  · rw [(bcell hb).1 _ _ hlt, (bcell hb).2 _ _ hlt]
    exact h.1 o ho
  · obtain ⟨h0, h1, h2⟩ := h.2 i hi
    exact ⟨keepB hb hlt h0, keepB hb hlt h1, keepB hb hlt h2⟩
theorem RoomL.set {W : World} {b n i : Nat} {ls : List LeafD} (h : RoomL W b n ls) (hi : ls.length = i) (hn : i < n) (x : LeafD) :
    RoomL (((W.setCell ⟨b, i * 3, none⟩ (.string x.nm)).setCell ⟨b, i * 3 + 1, none⟩ (.int .u64 x.bal)).setCell ⟨b, i * 3 + 2, none⟩ (.int .u64 x.salt)) b n (ls ++ [x]) := by
  refine ⟨fun o ho => ⟨isSome_set (isSome_set (isSome_set (h.1 o ho).1)), ?_⟩, ?_⟩
  · rw [World.frozen?_setCell, World.frozen?_setCell, World.frozen?_setCell]; exact (h.1 o ho).2
  · have ne : ∀ (W : World) (p q : Nat) (v : Value), p ≠ q → (W.setCell ⟨b, p, none⟩ v).cell? ⟨b, q, none⟩ = W.cell? ⟨b, q, none⟩ := fun W p q v hpq => by apply World.cell?_setCell_other; intro e; apply hpq; cases e; rfl
    have sm : ∀ (W : World) (p : Nat) (v : Value), (W.cell? ⟨b, p, none⟩).isSome = true → (W.setCell ⟨b, p, none⟩ v).cell? ⟨b, p, none⟩ = some v := fun W p v hp => World.cell?_setCell_same' W _ v hp
    intro j hj
    rw [List.length_append, List.length_singleton] at hj
    by_cases hji : j < ls.length
    · obtain ⟨h0, h1, h2⟩ := h.2 j hji
      rw [List.getElem_append_left hji]
      rw [ne _ _ _ _ (by omega), ne _ _ _ _ (by omega), ne _ _ _ _ (by omega), ne _ _ _ _ (by omega), ne _ _ _ _ (by omega), ne _ _ _ _ (by omega), ne _ _ _ _ (by omega), ne _ _ _ _ (by omega), ne _ _ _ _ (by omega)]
      exact ⟨h0, h1, h2⟩
    · have hjj : j = ls.length := by omega
      subst hjj
      rw [List.getElem_append_right (Nat.le_refl _)]
      simp only [Nat.sub_self, List.getElem_cons_zero]
      rw [← hi] at *
      refine ⟨?_, ?_, ?_⟩
      · rw [ne _ _ _ _ (by omega), ne _ _ _ _ (by omega)]
        exact sm _ _ _ (h.1 _ (by omega)).1
      · rw [ne _ _ _ _ (by omega)]
        exact sm _ _ _ (isSome_set (h.1 _ (by omega)).1)
      · exact sm _ _ _ (isSome_set (isSome_set (h.1 _ (by omega)).1))
theorem Try.infoLeaf : (Try.prog.info? 76).map (fun i => (i.zero, i.size, i.bytes)) = some (some (.agg #[.string ⟨#[]⟩, .int .u64 0, .int .u64 0]), 3, 32) := by kernel_rfl
theorem roomL_new {W : World} {b n : Nat} {xs : List Value} {e : TypeId} {base : Nat} (h : W.ownsRow base e 3 (.slice (some ⟨b, 0, none⟩) n n) n xs) : RoomL W b n [] := by
  refine ⟨fun o ho => ?_, fun i hi => by cases hi⟩
  rcases h.2 with ⟨h, _⟩ | ⟨g, cap, cur, hv, _, hg, h1, h2, h3, h4⟩
  · cases h
  · simp only [Value.slice.injEq, Option.some.injEq, Addr.mk.injEq] at hv
    obtain ⟨⟨rfl, _⟩, _, rfl⟩ := hv
    rw [block_cell hg]
    refine ⟨?_, block_free hg⟩
    rw [Array.getElem?_eq_getElem (by omega)]
    rfl

/-- What slices.Sorted(maps.Keys(m)) owes. -/
structure SortK : Prop where
  keys : ∀ (mb : Option Nat) (W : World), Calls Try.prog 47 #[.map mb] W fun e w' => e = .returned (.func (.func 60) #[] #[.pointer (some ⟨W.heap.size, 0, none⟩)]) ∧ w' = W.alloc (.cells #[.map mb] 61)
  sorted : ∀ (b nn : Nat) (D0 : DataW Nat) (w : World), w.ownsMap Try.prog 9 ptrElem b nn D0 → Maps.size D0 ≤ 1048576 →
    Calls Try.prog 46 #[.func (.func 60) #[] #[.pointer (some ⟨w.heap.size, 0, none⟩)]] (w.alloc (.cells #[.map (some b)] 61)) fun e w' => ∃ (v : Value) (ss : List (List UInt8)), e = .returned v ∧ ss.Perm (strKeys D0) ∧
      w'.ownsRow (w.alloc (.cells #[.map (some b)] 61)).heap.size 9 1 v ss.length ((ss.mergeSort (fun x y => decide (x ≤ y))).map encStr) ∧ (v = .slice none 0 0 ↔ ss = []) ∧ Below (w.alloc (.cells #[.map (some b)] 61)).heap.size (w.alloc (.cells #[.map (some b)] 61)) w'

/-- The two calls as one. -/
theorem SortK.names (K : SortK) {w : World} {B M : Nat} {h seed tot : Int} {last : Option Addr} {E : List Acct} (hb : BookT w B M h seed last tot E) (hE : E.length ≤ 1048576) :
    Calls Try.prog 46 #[.func (.func 60) #[] #[.pointer (some ⟨w.heap.size, 0, none⟩)]] (w.alloc (.cells #[.map (some M)] 61)) fun e w' => (∃ v, e = .returned v ∧ ((E = [] ∧ v = .slice none 0 0) ∨ ∃ g cap, w.heap.size < g ∧ v = .slice (some ⟨g, 0, none⟩) E.length cap ∧ g < w'.heap.size ∧ ∀ i (hi : i < E.length), w'.cell? ⟨g, i, none⟩ = some (.string ⟨(E[i].name).toArray⟩))) ∧ Below w.heap.size w w' := by
  have hsz : Maps.size (datE E) = E.length := by simp [datE, Maps.size]
  refine (K.sorted M E.length (datE E) w hb.own (by rw [hsz]; exact hE)).mono fun e w' ⟨v, ss, he, hp, hrow, hnil, hbel⟩ => ⟨⟨v, he, ?_⟩, ((Below.refl _ w).alloc (Nat.le_refl _) _).trans (hbel.mono (by simp))⟩
  have hs := sorted_names hb hp
  have hl : ss.length = E.length := by have := hp.length_eq; rw [strKeys_datE, List.length_map] at this; exact this
  rw [hs, hl] at hrow
  rcases hrow.2 with ⟨h1, h2⟩ | ⟨g, cap, cur, hv, hg, hgb, r1, r2, r3, r4⟩
  · exact .inl ⟨List.eq_nil_of_length_eq_zero h2, h1⟩
  · refine .inr ⟨g, cap, by rw [World.size_alloc] at hg; omega, hv, (Array.getElem?_eq_some_iff.1 hgb).1, fun i hi => ?_⟩
    rw [block_cell hgb]
    have e : (cur.toList.take (E.length * 1))[i]? = ((E.map Acct.name).map encStr)[i]? := by rw [r4]
    rw [List.getElem?_take_of_lt (by omega), Array.getElem?_toList] at e
    rw [e, List.getElem?_map, List.getElem?_map, List.getElem?_eq_getElem hi]
    rfl

/-- What the region of a leaf leans on. -/
abbrev LvS (B A M : Nat) (s : ByteArray) (seed x : Int) (w' : World) : Prop :=
  w'.cell? ⟨B, 2, none⟩ = some (.map (some M)) ∧ w'.cell? ⟨B, 1, none⟩ = some (.int .u64 seed) ∧ w'.cell? ⟨A, 0, none⟩ = some (.int .u64 x) ∧ (Instr.lookup 61 (.map (some M)) (.string s) false).run Try.prog w' = .ok (.pointer (some ⟨A, 0, none⟩)) w'

set_option maxHeartbeats 2000000 in
set_option maxRecDepth 100000 in
theorem leaves_any (K : SortK) {w : World} {B M : Nat} {h seed tot : Int} {last : Option Addr} {E : List Acct} (hb : BookT w B M h seed last tot E) (hE : E.length ≤ 64) (hnm : ∀ a ∈ E, a.name.length ≤ 8) (hx : ∀ a ∈ E, a.bal < 18446744073709551616) :
    Calls Try.prog 31 #[.pointer (some ⟨B, 0, none⟩)] w fun e w' => (∃ g, e = .returned (.slice (some ⟨g, 0, none⟩) E.length E.length) ∧ w.heap.size ≤ g ∧ LeavesAt w' g 0 (leavesE seed E E.length)) ∧ Below w.heap.size w w' := by
  obtain ⟨i0, hi, hz0, hz1, hz2⟩ := info_parts Try.infoLeaf
  have c2 : w.cell? ⟨B, 2, none⟩ = some (.map (some M)) := block_cell hb.blk
  have HK := fun (mb : Option Nat) (W : World) => hide (K.keys mb W)
  have HS := hide (K.names hb (by omega))
  have HB := hide hb
  have HNM := hide hnm
  have HX := hide hx
  obtain ⟨n, hn⟩ : ∃ n, E.length = n := ⟨_, rfl⟩
  rw [hn] at hE ⊢
  have HN := hide hn
  clear hb hnm hx hn K
  go_enter Try.func31, Try.ntmps31
  go_wp2_with fail
  refine (unhide (HK _ _)).mono ?_
  rintro e w0 ⟨rfl, rfl⟩
  clear HK c2
  go_wp2_with fail
  refine (unhide HS).mono ?_
  rintro e w1 ⟨⟨v, rfl, hv⟩, hb1⟩
  have hz1' := hb1.size
  have HB1 := hide hb1
  clear HS hb1
  obtain ⟨va, vc, hva, hvn⟩ : ∃ (va : Option Addr) (vc : Nat), v = .slice va n vc ∧ Hid (0 < n → ∃ g, va = some ⟨g, 0, none⟩ ∧ g < w1.heap.size ∧ ∀ i (hi : i < E.length), w1.cell? ⟨g, i, none⟩ = some (.string ⟨(E[i].name).toArray⟩)) := by
    rcases hv with ⟨he, hv⟩ | ⟨g, cap, _, hv, hg, hcell⟩
    · have : n = 0 := by rw [← unhide HN, he]; rfl
      exact ⟨none, 0, by rw [hv, this], hide fun h0 => by omega⟩
    · exact ⟨some ⟨g, 0, none⟩, cap, by rw [hv, unhide HN], hide fun _ => ⟨g, rfl, hg, hcell⟩⟩
  subst hva
  clear hv
  go_wp2_with (at_make; refine wpList_make_full _ rfl _ _ 84 rfl w.heap.size 76 i0 _ 3 Try.underlying84 hi hz0 hz1 _ _ _ _ n rfl rfl rfl rfl (by rw [hz2]; omega) (by unfold maxLen; omega) (by omega) ?_)
  intro w2 hown2 hgrow2
  have hB2 : Below w1.heap.size w1 w2 := (Below.refl _ _).grown hgrow2 (Nat.le_refl _) (fun b hb => by cases hb)
  have hR2 := roomL_new hown2
  have hz2' : w1.heap.size < w2.heap.size := (hown2.lt w1.heap.size rfl).2
  have HS2 := hide (And.intro hB2 hR2)
  clear hB2 hR2 hown2 hgrow2
  generalize hG : w1.heap.size = G at *
  go_wp2_with fail
  go_loopw [18, 5, 6] (fun i _ _ wr => ∃ k : Nat, k ≤ n ∧ i = .int .i64 k ∧ RoomL wr G n (leavesE seed E k) ∧ G < wr.heap.size ∧ Below G w1 wr) (fun i _ _ _ => n - (intOf i).toNat)
  case atStart => exact ⟨0, Nat.zero_le _, rfl, (unhide HS2).2, hz2', (unhide HS2).1⟩
  case round =>
    obtain ⟨k, hk, rfl, hR, hz, hbel⟩ := hrel
    have HR := hide (And.intro hR hbel)
    clear hR hbel HS2
    by_cases hk' : k < n
    · obtain ⟨g, hga, hgl, hcell⟩ := unhide hvn (by omega)
      subst hga
      have hkE : k < E.length := by rw [unhide HN]; exact hk'
      have hmem := List.getElem_mem hkE
      have cn := ((unhide HR).2.cell (p := ⟨g, k, none⟩) (by show g < G; omega)).trans (hcell k hkE)
      have hBr : ∀ W, Below G w1 W → BookT W B M h seed last tot E := fun W hW => (unhide HB).later ((unhide HB1).trans (hW.mono (by omega)))
      have hlf : leafOf seed E k = ⟨⟨(E[k].name).toArray⟩, E[k].bal, saltI seed k⟩ := by
        unfold leafOf
        rw [List.getD_eq_getElem?_getD, List.getElem?_eq_getElem hkE]; rfl
      have hlk : lookE E E[k].name = some E[k] := by
        cases hc : lookE E E[k].name with
        | none => exact absurd rfl (lookE_none hc _ hmem)
        | some c =>
          have := lookE_name hc
          rw [pw_inj (unhide HB).names this.1 hmem this.2]
      have hnl := unhide HNM _ hmem
      generalize E[k] = a at *
      obtain ⟨nm, hnm⟩ : ∃ nm : ByteArray, ⟨(a.name).toArray⟩ = nm := ⟨_, rfl⟩
      have hnd : nm.data.toList = a.name := by rw [← hnm]
      rw [hnm] at cn hlf
      have hLS : ∀ W, Below G w1 W → LvS B a.blk M nm seed a.bal W := fun W hW => by
        have hT := hBr W hW
        have hl := hT.look nm (by rw [← hnm]; show a.name.toArray.size ≤ maxLen; rw [List.size_toArray]; unfold maxLen; omega)
        rw [hnd, hlk] at hl
        exact ⟨block_cell hT.blk, block_cell hT.blk, block_cell (hT.acc a hmem), hl⟩
      have HLS := hide hLS
      have HSa := fun w => hide (salt_any seed k w (by omega))
      have HLF := hide (leavesE_snoc seed E k)
      rw [hlf] at HLF
      have hR2 := (unhide HR).1
      have HRS := hide (hR2.set (leavesE_len seed E k) hk' ⟨nm, a.bal, saltI seed k⟩)
      obtain ⟨r0, g0⟩ := Option.isSome_iff_exists.1 (hR2.1 (k * 3) (by omega)).1
      obtain ⟨r1, g1⟩ := Option.isSome_iff_exists.1 (hR2.1 (k * 3 + 1) (by omega)).1
      obtain ⟨r2, g2⟩ := Option.isSome_iff_exists.1 (hR2.1 (k * 3 + 2) (by omega)).1
      have f0 := (hR2.1 (k * 3) (by omega)).2
      have f1 := (hR2.1 (k * 3 + 1) (by omega)).2
      have f2 := (hR2.1 (k * 3 + 2) (by omega)).2
      have hSd := hLS wr.drew (unhide HR).2.drew
      have hS2 : ∀ v0 v1 v2 : Value, LvS B a.blk M nm seed a.bal (((wr.setCell ⟨G, k * 3, none⟩ v0).setCell ⟨G, k * 3 + 1, none⟩ v1).setCell ⟨G, k * 3 + 2, none⟩ v2).drew := fun v0 v1 v2 => hLS _ ((((unhide HR).2.setCell (by show G ≤ G; omega) v0).setCell (by show G ≤ G; omega) v1).setCell (by show G ≤ G; omega) v2).drew
      have HB3 := hide (unhide HR).2
      generalize saltI seed k = st at *
      generalize a.blk = A at *
      generalize a.bal = x at *
      have i5 : (k : Int) < (n : Int) := by omega
      have i6 : (0 : Int) ≤ (k : Int) := by omega
      clear hLS hBr hlf hlk hnl hnm hnd hmem hcell hgl hR2 HR
      go_upto_region 6 with fail
      go_region_held (fun w' => w'.cell? ⟨B, 2, none⟩ = some (.map (some M)) ∧ w'.cell? ⟨B, 1, none⟩ = some (.int .u64 seed) ∧ w'.cell? ⟨A, 0, none⟩ = some (.int .u64 x) ∧ (Instr.lookup 61 (.map (some M)) (.string nm) false).run Try.prog w' = .ok (.pointer (some ⟨A, 0, none⟩)) w')
        (first
          | with_reducible exact hSd
          | with_reducible exact hS2 _ _ _
          | fail)
        (first
          | (go_at_call 48; (with_reducible refine (unhide (HSa _)).mono ?_); rintro e w4 ⟨rfl, rfl⟩)
          | fail)
      all_goals
        clear hSd hS2
        go_wp2
        refine ⟨⟨k + 1, by omega, by go_num, ?_, by simpa using hz, ((((unhide HB3).setCell (by simp) _).setCell (by simp) _).setCell (by simp) _).drew⟩, by simp [intOf]; omega⟩
        rw [unhide HLF]
        exact unhide HRS
    · have hkk : k = n := by omega
      subst hkk
      go_wp2
      go_ret
      refine ⟨⟨G, rfl, hz1', ⟨hz, fun i hi => ?_, fun x hx => ?_⟩⟩, (unhide HB1).trans ((unhide HR).2.mono hz1')⟩
      · rw [Nat.zero_add]
        exact (unhide HR).1.2 i hi
      · unfold leavesE at hx
        obtain ⟨i, hi, rfl⟩ := List.mem_map.1 hx
        have hi' : i < E.length := by rw [unhide HN]; simpa using hi
        have hm := List.getElem_mem hi'
        have hs := saltI_range seed i
        have e : leafOf seed E i = ⟨⟨(E[i].name).toArray⟩, E[i].bal, saltI seed i⟩ := by
          unfold leafOf
          rw [List.getD_eq_getElem?_getD, List.getElem?_eq_getElem hi']; rfl
        rw [e]
        refine ⟨?_, (unhide HB).pos _ hm, unhide HX _ hm, hs.1, hs.2⟩
        show (E[i].name).toArray.size ≤ 8
        rw [List.size_toArray]
        exact unhide HNM _ hm

end Go.Proofs.Ytbjobbkgelipmaa
