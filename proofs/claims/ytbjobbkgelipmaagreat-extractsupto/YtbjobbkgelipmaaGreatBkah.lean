/-
  The walk of tithe's leaves (a book's), given what slices.Sorted(maps.Keys(m)) gives.
-/
import Derived.Deep.DeepCutAuto
import Derived.Deep.RegionHeld3
import Derived.OwnWalk
import Derived.Test.YtbjobbkgelipmaaGreatBkag
import Derived.Test.YtbjobbkgelipmaaGreatBkae
import Derived.Test.YtbjobbkgelipmaaGreatBkac
import Derived.Test.YtbjobbkgelipmaaGreatBkad
import Derived.Test.YtbjobbkgelipmaaGreatBkaa
namespace Go.Proofs.YtbjobbkgelipmaaGreat
open Go.RowKit Go.Maps Go.Sort Go.WideMaps

def leafOf (seed : Int) (E : List Acct) (i : Nat) : LeafD := ⟨⟨((E.getD i ⟨[], 0, 0⟩).name).toArray⟩, (E.getD i ⟨[], 0, 0⟩).bal, saltI seed i⟩
/-- The leaves of a book. -/
def leavesE (seed : Int) (E : List Acct) (n : Nat) : List LeafD := (List.range n).map (leafOf seed E)
theorem leavesE_len (seed : Int) (E : List Acct) (n : Nat) : (leavesE seed E n).length = n := by simp [leavesE]
theorem leavesE_snoc (seed : Int) (E : List Acct) (n : Nat) : leavesE seed E (n + 1) = leavesE seed E n ++ [leafOf seed E n] := by simp [leavesE, List.range_succ]

def LeafC (W : World) (b : Nat) (ls : List LeafD) : Prop := ∀ i (h : i < ls.length), W.cell? ⟨b, i * 3, none⟩ = some (.string ls[i].nm) ∧ W.cell? ⟨b, i * 3 + 1, none⟩ = some (.int .u64 ls[i].bal) ∧ W.cell? ⟨b, i * 3 + 2, none⟩ = some (.int .u64 ls[i].salt)
/-- Room for leaves; the first ones are there. -/
def RoomL (W : World) (b n : Nat) (ls : List LeafD) : Prop := (∀ o, o < n * 3 → (W.cell? ⟨b, o, none⟩).isSome = true ∧ W.frozen? ⟨b, o, none⟩ = false) ∧ LeafC W b ls
theorem RoomL.below {w w' : World} {b n : Nat} {ls : List LeafD} (h : RoomL w b n ls) (hb : Below w.heap.size w w') (hlt : b < w.heap.size) : RoomL w' b n ls := by
  refine ⟨fun o ho => ?_, fun i hi => ?_⟩
  · rw [(bcell hb).1 _ _ hlt, (bcell hb).2 _ _ hlt]
    exact h.1 o ho
  · obtain ⟨h0, h1, h2⟩ := h.2 i hi
    exact ⟨keepB hb hlt h0, keepB hb hlt h1, keepB hb hlt h2⟩
theorem RoomL.set {W : World} {b n i : Nat} {ls : List LeafD} (h : RoomL W b n ls) (hi : ls.length = i) (hn : i < n) (x : LeafD) :
    RoomL (((W.setCell ⟨b, i * 3, none⟩ (.string x.nm)).setCell ⟨b, i * 3 + 1, none⟩ (.int .u64 x.bal)).setCell ⟨b, i * 3 + 2, none⟩ (.int .u64 x.salt)) b n (ls ++ [x]) := by
  refine ⟨fun o ho => ⟨isSome_set (isSome_set (isSome_set (h.1 o ho).1)), ?_⟩, ?_⟩
  · rw [World.frozen?_setCell, World.frozen?_setCell, World.frozen?_setCell]; exact (h.1 o ho).2
  · have ne : ∀ (W : World) (p q : Nat) (v : Value), p ≠ q → (W.setCell ⟨b, p, none⟩ v).cell? ⟨b, q, none⟩ = W.cell? ⟨b, q, none⟩ := fun W p q v hpq => by apply World.cell?_setCell_other; intro e; apply hpq; cases e; rfl
    have sm : ∀ (W : World) (p : Nat) (v : Value), (W.cell? ⟨b, p, none⟩).isSome = true → (W.setCell ⟨b, p, none⟩ v).cell? ⟨b, p, none⟩ = some v := fun W p v hp => World.cell?_setCell_same' W _ v hp
    intro j hj
    rw [List.length_append, List.length_singleton] at hj
    by_cases hji : j < ls.length
    · obtain ⟨h0, h1, h2⟩ := h.2 j hji
      rw [List.getElem_append_left hji]
      rw [ne _ _ _ _ (by omega), ne _ _ _ _ (by omega), ne _ _ _ _ (by omega), ne _ _ _ _ (by omega), ne _ _ _ _ (by omega), ne _ _ _ _ (by omega), ne _ _ _ _ (by omega), ne _ _ _ _ (by omega), ne _ _ _ _ (by omega)]
      exact ⟨h0, h1, h2⟩
    · have hjj : j = ls.length := by omega
      subst hjj
      rw [List.getElem_append_right (Nat.le_refl _)]
      simp only [Nat.sub_self, List.getElem_cons_zero]
      rw [← hi] at *
      refine ⟨?_, ?_, ?_⟩
      · rw [ne _ _ _ _ (by omega), ne _ _ _ _ (by omega)]
        exact sm _ _ _ (h.1 _ (by omega)).1
      · rw [ne _ _ _ _ (by omega)]
        exact sm _ _ _ (isSome_set (h.1 _ (by omega)).1)
      · exact sm _ _ _ (isSome_set (isSome_set (h.1 _ (by omega)).1))
theorem Tryz.infoLeaf : (Tryz.prog.info? 115).map (fun i => (i.zero, i.size, i.bytes)) = some (some (.agg #[.string ⟨#[]⟩, .int .u64 0, .int .u64 0]), 3, 32) := by kernel_rfl
theorem roomL_new {W : World} {b n : Nat} {xs : List Value} {e : TypeId} {base : Nat} (h : W.ownsRow base e 3 (.slice (some ⟨b, 0, none⟩) n n) n xs) : RoomL W b n [] := by
  refine ⟨fun o ho => ?_, fun i hi => by cases hi⟩
  rcases h.2 with ⟨h, _⟩ | ⟨g, cap, cur, hv, _, hg, h1, h2, h3, h4⟩
  · cases h
  · simp only [Value.slice.injEq, Option.some.injEq, Addr.mk.injEq] at hv
    obtain ⟨⟨rfl, _⟩, _, rfl⟩ := hv
    rw [block_cell hg]
    refine ⟨?_, block_free hg⟩
    rw [Array.getElem?_eq_getElem (by omega)]
    rfl

/-- What slices.Sorted(maps.Keys(m)) owes. -/
structure SortK : Prop where
  keys : ∀ (mb : Option Nat) (W : World), Calls Tryz.prog 70 #[.map mb] W fun e w' => e = .returned (.func (.func 90) #[] #[.pointer (some ⟨W.heap.size, 0, none⟩)]) ∧ w' = W.alloc (.cells #[.map mb] 86)
  sorted : ∀ (b nn : Nat) (D0 : DataW Nat) (w : World), w.ownsMap Tryz.prog 9 ptrElem b nn D0 → Maps.size D0 ≤ 1048576 →
    Calls Tryz.prog 69 #[.func (.func 90) #[] #[.pointer (some ⟨w.heap.size, 0, none⟩)]] (w.alloc (.cells #[.map (some b)] 86)) fun e w' => ∃ (v : Value) (ss : List (List UInt8)), e = .returned v ∧ ss.Perm (strKeys D0) ∧
      w'.ownsRow (w.alloc (.cells #[.map (some b)] 86)).heap.size 9 1 v ss.length ((ss.mergeSort (fun x y => decide (x ≤ y))).map encStr) ∧ (v = .slice none 0 0 ↔ ss = []) ∧ Below (w.alloc (.cells #[.map (some b)] 86)).heap.size (w.alloc (.cells #[.map (some b)] 86)) w'

/-- The two calls as one. -/
theorem SortK.names (K : SortK) {w : World} {B M : Nat} {h seed tot : Int} {last : Option Addr} {E : List Acct} (hb : BookT w B M h seed last tot E) (hE : E.length ≤ 1048576) :
    Calls Tryz.prog 69 #[.func (.func 90) #[] #[.pointer (some ⟨w.heap.size, 0, none⟩)]] (w.alloc (.cells #[.map (some M)] 86)) fun e w' => (∃ v, e = .returned v ∧ ((E = [] ∧ v = .slice none 0 0) ∨ ∃ g cap, w.heap.size < g ∧ v = .slice (some ⟨g, 0, none⟩) E.length cap ∧ g < w'.heap.size ∧ ∀ i (hi : i < E.length), w'.cell? ⟨g, i, none⟩ = some (.string ⟨(E[i].name).toArray⟩))) ∧ Below w.heap.size w w' := by
  have hsz : Maps.size (datE E) = E.length := by simp [datE, Maps.size]
  refine (K.sorted M E.length (datE E) w hb.own (by rw [hsz]; exact hE)).mono fun e w' ⟨v, ss, he, hp, hrow, hnil, hbel⟩ => ⟨⟨v, he, ?_⟩, ((Below.refl _ w).alloc (Nat.le_refl _) _).trans (hbel.mono (by simp))⟩
  have hs := sorted_names hb hp
  have hl : ss.length = E.length := by have := hp.length_eq; rw [strKeys_datE, List.length_map] at this; exact this
  rw [hs, hl] at hrow
  rcases hrow.2 with ⟨h1, h2⟩ | ⟨g, cap, cur, hv, hg, hgb, r1, r2, r3, r4⟩
  · exact .inl ⟨List.eq_nil_of_length_eq_zero h2, h1⟩
  · refine .inr ⟨g, cap, by rw [World.size_alloc] at hg; omega, hv, (Array.getElem?_eq_some_iff.1 hgb).1, fun i hi => ?_⟩
    rw [block_cell hgb]
    have e : (cur.toList.take (E.length * 1))[i]? = ((E.map Acct.name).map encStr)[i]? := by rw [r4]
    rw [List.getElem?_take_of_lt (by omega), Array.getElem?_toList] at e
    rw [e, List.getElem?_map, List.getElem?_map, List.getElem?_eq_getElem hi]
    rfl

/-- What the region of a leaf leans on. -/
abbrev LvS (B A M : Nat) (s : ByteArray) (seed x : Int) (w' : World) : Prop :=
  w'.cell? ⟨B, 2, none⟩ = some (.map (some M)) ∧ w'.cell? ⟨B, 1, none⟩ = some (.int .u64 seed) ∧ w'.cell? ⟨A, 0, none⟩ = some (.int .u64 x) ∧ (Instr.lookup 86 (.map (some M)) (.string s) false).run Tryz.prog w' = .ok (.pointer (some ⟨A, 0, none⟩)) w'

set_option maxHeartbeats 2000000 in
set_option maxRecDepth 100000 in
theorem leaves_any (K : SortK) {w : World} {B M : Nat} {h seed tot : Int} {last : Option Addr} {E : List Acct} (hb : BookT w B M h seed last tot E) (hE : E.length ≤ 64) (hnm : ∀ a ∈ E, a.name.length ≤ 8) (hx : ∀ a ∈ E, a.bal < 18446744073709551616) :
    Calls Tryz.prog 53 #[.pointer (some ⟨B, 0, none⟩)] w fun e w' => (∃ g, e = .returned (.slice (some ⟨g, 0, none⟩) E.length E.length) ∧ w.heap.size ≤ g ∧ LeavesAt w' g 0 (leavesE seed E E.length)) ∧ Below w.heap.size w w' := by
  obtain ⟨i0, hi, hz0, hz1, hz2⟩ := info_parts Tryz.infoLeaf
  have c2 : w.cell? ⟨B, 2, none⟩ = some (.map (some M)) := block_cell hb.blk
  have HK := fun (mb : Option Nat) (W : World) => hide (K.keys mb W)
  have HS := hide (K.names hb (by omega))
  have HB := hide hb
  have HNM := hide hnm
  have HX := hide hx
  obtain ⟨n, hn⟩ : ∃ n, E.length = n := ⟨_, rfl⟩
  rw [hn] at hE ⊢
  have HN := hide hn
  clear hb hnm hx hn K
  go_enter Tryz.func53, Tryz.ntmps53
  go_wp2_with fail
  refine (unhide (HK _ _)).mono ?_
  rintro e w0 ⟨rfl, rfl⟩
  clear HK c2
  go_wp2_with fail
  refine (unhide HS).mono ?_
  rintro e w1 ⟨⟨v, rfl, hv⟩, hb1⟩
  have hz1' := hb1.size
  have HB1 := hide hb1
  clear HS hb1
  obtain ⟨va, vc, hva, hvn⟩ : ∃ (va : Option Addr) (vc : Nat), v = .slice va n vc ∧ Hid (0 < n → ∃ g, va = some ⟨g, 0, none⟩ ∧ g < w1.heap.size ∧ ∀ i (hi : i < E.length), w1.cell? ⟨g, i, none⟩ = some (.string ⟨(E[i].name).toArray⟩)) := by
    rcases hv with ⟨he, hv⟩ | ⟨g, cap, _, hv, hg, hcell⟩
    · have : n = 0 := by rw [← unhide HN, he]; rfl
      exact ⟨none, 0, by rw [hv, this], hide fun h0 => by omega⟩
    · exact ⟨some ⟨g, 0, none⟩, cap, by rw [hv, unhide HN], hide fun _ => ⟨g, rfl, hg, hcell⟩⟩
  subst hva
  clear hv
  go_wp2_with (at_make; refine wpList_make_full _ rfl _ _ 102 rfl w.heap.size 115 i0 _ 3 Tryz.underlying102 hi hz0 hz1 _ _ _ _ n rfl rfl rfl rfl (by rw [hz2]; omega) (by unfold maxLen; omega) (by omega) ?_)
  intro w2 hown2 hgrow2
  have hB2 : Below w1.heap.size w1 w2 := (Below.refl _ _).grown hgrow2 (Nat.le_refl _) (fun b hb => by cases hb)
  have hR2 := roomL_new hown2
  have hz2' : w1.heap.size < w2.heap.size := (hown2.lt w1.heap.size rfl).2
  have HS2 := hide (And.intro hB2 hR2)
  clear hB2 hR2 hown2 hgrow2
  generalize hG : w1.heap.size = G at *
  go_wp2_with fail
  go_loopw [18, 5, 6] (fun i _ _ wr => ∃ k : Nat, k ≤ n ∧ i = .int .i64 k ∧ RoomL wr G n (leavesE seed E k) ∧ G < wr.heap.size ∧ Below G w1 wr) (fun i _ _ _ => n - (intOf i).toNat)
  case atStart => exact ⟨0, Nat.zero_le _, rfl, (unhide HS2).2, hz2', (unhide HS2).1⟩
  case round =>
    obtain ⟨k, hk, rfl, hR, hz, hbel⟩ := hrel
    have HR := hide (And.intro hR hbel)
    clear hR hbel HS2
    by_cases hk' : k < n
    · obtain ⟨g, hga, hgl, hcell⟩ := unhide hvn (by omega)
      subst hga
      have hkE : k < E.length := by rw [unhide HN]; exact hk'
      have hmem := List.getElem_mem hkE
      have cn := ((unhide HR).2.cell (p := ⟨g, k, none⟩) (by show g < G; omega)).trans (hcell k hkE)
      have hBr : ∀ W, Below G w1 W → BookT W B M h seed last tot E := fun W hW => (unhide HB).later ((unhide HB1).trans (hW.mono (by omega)))
      have hlf : leafOf seed E k = ⟨⟨(E[k].name).toArray⟩, E[k].bal, saltI seed k⟩ := by
        unfold leafOf
        rw [List.getD_eq_getElem?_getD, List.getElem?_eq_getElem hkE]; rfl
      have hlk : lookE E E[k].name = some E[k] := by
        cases hc : lookE E E[k].name with
        | none => exact absurd rfl (lookE_none hc _ hmem)
        | some c =>
          have := lookE_name hc
          rw [pw_inj (unhide HB).names this.1 hmem this.2]
      have hnl := unhide HNM _ hmem
      generalize E[k] = a at *
      obtain ⟨nm, hnm⟩ : ∃ nm : ByteArray, ⟨(a.name).toArray⟩ = nm := ⟨_, rfl⟩
      have hnd : nm.data.toList = a.name := by rw [← hnm]
      rw [hnm] at cn hlf
      have hLS : ∀ W, Below G w1 W → LvS B a.blk M nm seed a.bal W := fun W hW => by
        have hT := hBr W hW
        have hl := hT.look nm (by rw [← hnm]; show a.name.toArray.size ≤ maxLen; rw [List.size_toArray]; unfold maxLen; omega)
        rw [hnd, hlk] at hl
        exact ⟨block_cell hT.blk, block_cell hT.blk, block_cell (hT.acc a hmem), hl⟩
      have HLS := hide hLS
      have HSa := fun w => hide (salt_any seed k w (by omega))
      have HLF := hide (leavesE_snoc seed E k)
      rw [hlf] at HLF
      have hR2 := (unhide HR).1
      have HRS := hide (hR2.set (leavesE_len seed E k) hk' ⟨nm, a.bal, saltI seed k⟩)
      obtain ⟨r0, g0⟩ := Option.isSome_iff_exists.1 (hR2.1 (k * 3) (by omega)).1
      obtain ⟨r1, g1⟩ := Option.isSome_iff_exists.1 (hR2.1 (k * 3 + 1) (by omega)).1
      obtain ⟨r2, g2⟩ := Option.isSome_iff_exists.1 (hR2.1 (k * 3 + 2) (by omega)).1
      have f0 := (hR2.1 (k * 3) (by omega)).2
      have f1 := (hR2.1 (k * 3 + 1) (by omega)).2
      have f2 := (hR2.1 (k * 3 + 2) (by omega)).2
      have hSd := hLS wr.drew (unhide HR).2.drew
      have hS2 : ∀ v0 v1 v2 : Value, LvS B a.blk M nm seed a.bal (((wr.setCell ⟨G, k * 3, none⟩ v0).setCell ⟨G, k * 3 + 1, none⟩ v1).setCell ⟨G, k * 3 + 2, none⟩ v2).drew := fun v0 v1 v2 => hLS _ ((((unhide HR).2.setCell (by show G ≤ G; omega) v0).setCell (by show G ≤ G; omega) v1).setCell (by show G ≤ G; omega) v2).drew
      have HB3 := hide (unhide HR).2
      generalize saltI seed k = st at *
      generalize a.blk = A at *
      generalize a.bal = x at *
      have i5 : (k : Int) < (n : Int) := by omega
      have i6 : (0 : Int) ≤ (k : Int) := by omega
      clear hLS hBr hlf hlk hnl hnm hnd hmem hcell hgl hR2 HR
      go_upto_region 6 with fail
      go_region_held (fun w' => w'.cell? ⟨B, 2, none⟩ = some (.map (some M)) ∧ w'.cell? ⟨B, 1, none⟩ = some (.int .u64 seed) ∧ w'.cell? ⟨A, 0, none⟩ = some (.int .u64 x) ∧ (Instr.lookup 86 (.map (some M)) (.string nm) false).run Tryz.prog w' = .ok (.pointer (some ⟨A, 0, none⟩)) w')
        (first
          | with_reducible exact hSd
          | with_reducible exact hS2 _ _ _
          | fail)
        (first
          | (go_at_call 71; (with_reducible refine (unhide (HSa _)).mono ?_); rintro e w4 ⟨rfl, rfl⟩)
          | fail)
      all_goals
        clear hSd hS2
        go_wp2
        refine ⟨⟨k + 1, by omega, by go_num, ?_, by simpa using hz, ((((unhide HB3).setCell (by simp) _).setCell (by simp) _).setCell (by simp) _).drew⟩, by simp [intOf]; omega⟩
        rw [unhide HLF]
        exact unhide HRS
    · have hkk : k = n := by omega
      subst hkk
      go_wp2
      go_ret
      refine ⟨⟨G, rfl, hz1', ⟨hz, fun i hi => ?_, fun x hx => ?_⟩⟩, (unhide HB1).trans ((unhide HR).2.mono hz1')⟩
      · rw [Nat.zero_add]
        exact (unhide HR).1.2 i hi
      · unfold leavesE at hx
        obtain ⟨i, hi, rfl⟩ := List.mem_map.1 hx
        have hi' : i < E.length := by rw [unhide HN]; simpa using hi
        have hm := List.getElem_mem hi'
        have hs := saltI_range seed i
        have e : leafOf seed E i = ⟨⟨(E[i].name).toArray⟩, E[i].bal, saltI seed i⟩ := by
          unfold leafOf
          rw [List.getD_eq_getElem?_getD, List.getElem?_eq_getElem hi']; rfl
        rw [e]
        refine ⟨?_, (unhide HB).pos _ hm, unhide HX _ hm, hs.1, hs.2⟩
        show (E[i].name).toArray.size ≤ 8
        rw [List.size_toArray]
        exact unhide HNM _ hm

end Go.Proofs.YtbjobbkgelipmaaGreat

/-
  The walk of tithe's readReport: a head that does not fit.
-/
namespace Go.Proofs.YtbjobbkgelipmaaGreat
open Go.RowKit

def ownRepV (h d0 d1 d2 n : Int) : Value := .agg #[.int .i64 h, .int .u8 d0, .int .u8 d1, .int .u8 d2, .int .u64 n]

set_option maxHeartbeats 400000 in
set_option maxRecDepth 100000 in
theorem rdrep_bad (b len cap : Nat) (l : List UInt8) (w : World) (hl : l.length = len) (hb : b < w.heap.size) (hB : BytesAt w b 0 l) (hbad : ¬ repHead l) :
    Calls Tryz.prog 60 #[.slice (some ⟨b, 0, none⟩) len cap] w fun e w' => e = .returned (.tuple #[ownRepV 0 0 0 0 0, .bool false]) ∧ Below w.heap.size w w' := by
  have hne : b ≠ w.heap.size := by omega
  by_cases h12 : len = 12
  · subst h12
    have h6 : 6 < (l.getD 0 0).toNat := Nat.lt_of_not_le fun h => hbad ⟨hl, h⟩
    have c0 : w.cell? ⟨b, 0, none⟩ = some (.int .u8 ((l.getD 0 0).toNat : Int)) := by
      have := hB 0 (by omega)
      rw [this, List.getD_eq_getElem?_getD, List.getElem?_eq_getElem (by omega)]; rfl
    generalize hd : ((l.getD 0 0).toNat : Int) = d at c0
    have hd6 : (6 : Int) < d := by omega
    clear h6 hd hB hbad hl
    go_enter Tryz.func60, Tryz.ntmps60
    go_wp2
    refine bodyPost_ret (v := .tuple #[ownRepV 0 0 0 0 0, .bool false]) ?_ rfl ⟨rfl, ?_⟩
    · simp [results, Tryz.results60, go_sem, ownRepV]
    · repeat first
        | exact Below.refl _ _
        | refine Below.setCell ?_ (by simp; try omega) _
        | refine Below.alloc ?_ (by simp; try omega) _
  · have hl' : ((len : Int) != 12) = true := by simp; omega
    clear hB hbad hl
    go_enter Tryz.func60, Tryz.ntmps60
    go_wp2
    refine bodyPost_ret (v := .tuple #[ownRepV 0 0 0 0 0, .bool false]) ?_ rfl ⟨rfl, ?_⟩
    · simp [results, Tryz.results60, go_sem, ownRepV]
    · repeat first
        | exact Below.refl _ _
        | refine Below.setCell ?_ (by simp; try omega) _
        | refine Below.alloc ?_ (by simp; try omega) _

end Go.Proofs.YtbjobbkgelipmaaGreat

/-
  The walks of tithe's padText, padSide, writeReport.
-/
namespace Go.Proofs.YtbjobbkgelipmaaGreat
open Go.RowKit

set_option maxRecDepth 100000 in
set_option maxHeartbeats 400000 in
theorem padtext_any (p : Nat) (w : World) (hp : p < 256) :
    Calls Tryz.prog 100 #[.int .i64 (p : Int)] w fun e w' => (∃ v', e = .returned v' ∧ w'.ownsRow w.heap.size 5 1 v' 2 (byteVals [2, UInt8.ofNat p])) ∧ Below w.heap.size w w' := by
  have hw : IntKind.u8.wrap (p : Int) = (p : Int) := by rw [IntKind.wrap_u8]; omega
  have HO : Hid ((w.alloc (Obj.cells #[Value.int IntKind.u8 2, Value.int IntKind.u8 (p : Int)] 5)).ownsRow w.heap.size 5 1 (.slice (some ⟨w.heap.size, 0, none⟩) 2 2) 2 (byteVals [2, UInt8.ofNat p])) := by
    refine ⟨rfl, .inr ⟨w.heap.size, 2, #[Value.int IntKind.u8 2, Value.int IntKind.u8 (p : Int)], rfl, Nat.le_refl _, heap_alloc_new w _, Nat.le_refl _, by unfold maxLen; omega, rfl, ?_⟩⟩
    simp [byteVals]
    omega
  go_enter Tryz.func100, Tryz.ntmps100
  go_wp2
  go_ret
  exact ⟨⟨_, rfl, unhide HO⟩, (Below.refl _ _).alloc (Nat.le_refl _) _⟩

set_option maxRecDepth 100000 in
set_option maxHeartbeats 400000 in
theorem padside_any (p : Nat) (w : World) (hp : p < 256) :
    Calls Tryz.prog 86 #[.int .i64 (p : Int)] w fun e w' => e = .returned (sideV (dg [2, UInt8.ofNat p]) 0) ∧ Below w.heap.size w w' := by
  have HT := fun w => hide (padtext_any p w hp)
  obtain ⟨T, hT⟩ : ∃ T, [2, UInt8.ofNat p] = T := ⟨_, rfl⟩
  rw [hT] at HT ⊢
  have hlen : T.length = 2 := by rw [← hT]; rfl
  obtain ⟨d0, d1, d2, hD⟩ : ∃ d0 d1 d2 : Int, digV (dg T) = .agg #[.int .u8 d0, .int .u8 d1, .int .u8 d2] ∧ sideV (dg T) 0 = .agg #[.int .u8 d0, .int .u8 d1, .int .u8 d2, .int .u64 0] := ⟨_, _, _, rfl, rfl⟩
  rw [hD.2]
  have HD := hide hD.1
  have HL := hide hlen
  clear hD hT hlen hp
  go_enter Tryz.func86, Tryz.ntmps86
  go_wp2_with fail
  have kk := res4_new w (Value.int IntKind.u8 0) (Value.int IntKind.u8 0) (Value.int IntKind.u8 0) (Value.int IntKind.u64 0) 106
  have hA0 : Below w.heap.size w (w.alloc (Obj.cells #[Value.int IntKind.u8 0, Value.int IntKind.u8 0, Value.int IntKind.u8 0, Value.int IntKind.u64 0] 106)) := (Below.refl _ _).alloc (Nat.le_refl _) _
  have z0 : w.heap.size < (w.alloc (Obj.cells #[Value.int IntKind.u8 0, Value.int IntKind.u8 0, Value.int IntKind.u8 0, Value.int IntKind.u64 0] 106)).heap.size := by simp
  generalize (w.alloc (Obj.cells #[Value.int IntKind.u8 0, Value.int IntKind.u8 0, Value.int IntKind.u8 0, Value.int IntKind.u64 0] 106)) = W0 at *
  refine (unhide (HT _)).mono ?_
  rintro e w3 ⟨⟨v3, rfl, hown3⟩, hb3⟩
  have k3 := Res4.below kk z0 hb3
  have z3 := hb3.size
  have HS := hide (sum_own hown3 (unhide HL) (by omega) (by unfold maxLen; omega))
  rw [unhide HD] at HS
  have HA3 := hide (hA0.trans (hb3.mono (by omega)))
  clear hown3 hb3 kk hA0 HT
  go_wp2_with fail
  refine (unhide HS).mono ?_
  rintro e w4 ⟨rfl, hb4⟩
  have k4 := Res4.below k3 (by omega) hb4
  have HA4 := hide ((unhide HA3).trans (hb4.mono (by omega)))
  obtain ⟨q0, q1, q2, q3, g0, g1, g2, g3, j0, j1, j2, j3⟩ := k4.cells
  clear hb4 HA3 k3 k4 HS
  go_wp2
  refine bodyPost_ret (v := .agg #[.int .u8 d0, .int .u8 d1, .int .u8 d2, .int .u64 0]) ?_ rfl ⟨rfl, ?_⟩
  · simp [results, Tryz.results86, go_sem, g0, g1, g2, g3]
  · refine Below.setCell (Below.setCell (Below.setCell (Below.setCell (unhide HA4) (by simp; try omega) _) (by simp; try omega) _) (by simp; try omega) _) (by simp; try omega) _

set_option maxRecDepth 100000 in
set_option maxHeartbeats 400000 in
theorem wrreport_any (h : Nat) (root : Dg × Int) (w : World) (hh : h ≤ 6) (h0 : 0 ≤ root.2) (h1 : root.2 < 18446744073709551616) :
    Calls Tryz.prog 54 #[ownRepV (h : Int) (root.1.1.toNat : Int) (root.1.2.1.toNat : Int) (root.1.2.2.toNat : Int) root.2] w fun e w' => (∃ v', e = .returned v' ∧ w'.ownsRow w.heap.size 5 1 v' 12 (byteVals (UInt8.ofNat h :: sideB root))) ∧ Below w.heap.size w w' := by
  obtain ⟨i0, hi, hz0, hz1, hz2⟩ := info_parts Tryz.infoByte
  have HC1 := fun (v : Value) (ys : List Value) (w' : World) (ho : w'.ownsRow w.heap.size 5 1 v 1 ys) (hb : w.heap.size ≤ w'.heap.size) => hide (appside_any w.heap.size 1 v ys root.1 root.2 w' h0 h1 ho hb (by omega))
  have hw8 : IntKind.u8.wrap (h : Int) = (h : Int) := by rw [IntKind.wrap_u8]; omega
  have HE : Hid (byteVals (UInt8.ofNat h :: sideB root) = ([] ++ [Value.int .u8 (h : Int)]) ++ byteVals (sideB (root.1, root.2))) := by
    have e : ((UInt8.ofNat h).toNat : Int) = (h : Int) := by rw [UInt8.toNat_ofNat_of_lt' (by show h < 256; omega)]
    refine hide ?_; simp only [byteVals, List.map_cons, e]; rfl
  generalize byteVals (UInt8.ofNat h :: sideB root) = ALL at *
  generalize byteVals (sideB (root.1, root.2)) = Y at *
  unfold sideV at HC1
  unfold ownRepV
  generalize (root.1.1.toNat : Int) = a0 at *
  generalize (root.1.2.1.toNat : Int) = a1 at *
  generalize (root.1.2.2.toNat : Int) = a2 at *
  generalize root.2 = x at *
  clear h0 h1
  go_enter Tryz.func54, Tryz.ntmps54
  go_wp2_with (at_make; refine wpList_make_own _ rfl _ _ 51 rfl w.heap.size 5 i0 (.int .u8 0) 1 Tryz.underlying51 hi hz0 hz1 _ _ _ 12 rfl rfl rfl (by rw [hz2]; omega) (by unfold maxLen; omega) (by simp) ?_)
  intro w1 hown1 hgrow1
  have k0 := heap_alloc_new w (Obj.cells #[Value.int IntKind.i64 (h : Int), Value.int IntKind.u8 a0, Value.int IntKind.u8 a1, Value.int IntKind.u8 a2, Value.int IntKind.u64 x] 108)
  have m1 := (hgrow1.block w.heap.size (by simp) (fun e => by cases e)).trans k0
  have hB1 : Below w.heap.size w w1 := ((Below.refl _ _).alloc (Nat.le_refl _) _).grown hgrow1 (by simp) (fun b hb => by cases hb)
  have hz1' := hB1.size
  have HB := hide hB1
  have HO := hide hown1
  have M1 := hide m1
  have c0 : w1.cell? ⟨w.heap.size, 0, none⟩ = some (.int .i64 (h : Int)) := block_cell m1
  clear hgrow1 hown1 hB1 k0 m1
  go_wp2_with (at_builtin; refine wpList_append_own _ rfl (.tmp 5) (.tmp 9) 51 rfl w.heap.size 5 i0 (.int .u8 0) 1 1 Tryz.underlying51 hi hz0 hz1 hz2 rfl (by decide) _ _ _ rfl ((unhide HO).alloc _) ⟨w1.heap.size, 0, none⟩ 1 1 [.int .u8 (h : Int)] rfl rfl ?c1 ?c2 ?c3 ?c4 ?c5 ?_)
  case c1 =>
    intro j u hu
    match j, hu with
    | 0, hu => simp at hu; subst hu; simp [addr_add]
  case c2 => intro u hu; simp at hu; subst hu; rfl
  case c3 => unfold maxLen; omega
  case c4 => omega
  case c5 => simp; omega
  intro v' w2 hown2 hgrow2 _
  have hk2 : KeepT w1 w2 := ((KeepT.refl _).alloc _).grown ((unhide HO).alloc _) hgrow2
  have m2 := hk2 _ _ _ _ (unhide M1) (by decide)
  have hB2 : Below w.heap.size w w2 := ((unhide HB).alloc hz1' _).grown hgrow2 (by simp; omega) (fun b hb => ((unhide HO).lt b hb).1)
  have HB2 := hide hB2
  have HR := hide (HC1 v' _ w2 (by simpa using hown2) hB2.size)
  have q1 : w2.cell? ⟨w.heap.size, 1, none⟩ = some (.int .u8 a0) := block_cell m2
  have q2 : w2.cell? ⟨w.heap.size, 2, none⟩ = some (.int .u8 a1) := block_cell m2
  have q3 : w2.cell? ⟨w.heap.size, 3, none⟩ = some (.int .u8 a2) := block_cell m2
  have q4 : w2.cell? ⟨w.heap.size, 4, none⟩ = some (.int .u64 x) := block_cell m2
  clear hown2 hgrow2 hk2 m2 hB2 HB HO M1 HC1 c0
  go_wp2_with fail
  refine (unhide (unhide HR)).mono ?_
  rintro e w5 ⟨⟨v5, rfl, hown5⟩, hb5, _⟩
  have HF := hide (And.intro hown5 ((unhide HB2).trans hb5))
  clear hown5 hb5 HR HB2 q1 q2 q3 q4
  go_wp2
  go_ret
  refine ⟨⟨_, rfl, ?_⟩, (unhide HF).2⟩
  rw [unhide HE]
  exact (unhide HF).1

end Go.Proofs.YtbjobbkgelipmaaGreat

/-
  The walks of tithe's lowestLevel and levelAbove.
-/
namespace Go.Proofs.YtbjobbkgelipmaaGreat
open Go.RowKit

/-- A level of a tree. -/
def levelT (ls : List LeafD) (k n : Nat) : List (Dg × Int) := (List.range n).map (sideT ls k)
theorem levelT_len (ls : List LeafD) (k n : Nat) : (levelT ls k n).length = n := by simp [levelT]
theorem levelT_get (ls : List LeafD) (k n i : Nat) (h : i < (levelT ls k n).length) : (levelT ls k n)[i] = sideT ls k i := by simp [levelT]
theorem levelT_snoc (ls : List LeafD) (k n : Nat) : levelT ls k (n + 1) = levelT ls k n ++ [sideT ls k n] := by simp [levelT, List.range_succ]

set_option maxHeartbeats 1000000 in
set_option maxRecDepth 100000 in
theorem lowest_any (b n P : Nat) (ls : List LeafD) (w : World) (cap : Nat) (hn : ls.length = n) (hn64 : n ≤ 64) (hP : P ≤ 64) (hL : LeavesAt w b 0 ls) :
    Calls Tryz.prog 67 #[.slice (some ⟨b, 0, none⟩) n cap, .int .i64 (P : Int)] w fun e w' => e = .returned (.slice (some ⟨w.heap.size, 0, none⟩) P P) ∧ w.heap.size < w'.heap.size ∧ SidesAt w' w.heap.size (levelT ls 0 P) ∧ Below w.heap.size w w' := by
  obtain ⟨i0, hi, hz0, hz1, hz2⟩ := info_parts Tryz.infoSide
  have HL := hide hL
  have HN := hide hn
  have hb := hL.lt
  clear hL hn
  go_enter Tryz.func67, Tryz.ntmps67
  go_wp2_with (at_make; refine wpList_make_full _ rfl _ _ 116 rfl w.heap.size 106 i0 _ 4 Tryz.underlying116 hi hz0 hz1 _ _ _ _ P rfl rfl rfl rfl (by rw [hz2]; omega) (by unfold maxLen; omega) (Nat.le_refl _) ?_)
  intro w1 hown1 hgrow1
  have hB1 : Below w.heap.size w w1 := (Below.refl _ _).grown hgrow1 (Nat.le_refl _) (fun b hb => by cases hb)
  have hR1 := room_new hown1
  have hz1' : w.heap.size < w1.heap.size := (hown1.lt w.heap.size rfl).2
  have HS := hide (And.intro hB1 hR1)
  clear hB1 hR1 hown1 hgrow1
  go_wp2_with fail
  go_loopw [11, 6] (fun i _ wr => ∃ k : Nat, k ≤ P ∧ i = .int .i64 k ∧ Room wr w.heap.size P (levelT ls 0 k) ∧ w.heap.size < wr.heap.size ∧ Below w.heap.size w wr) (fun i _ _ => P - (intOf i).toNat)
  case atStart => exact ⟨0, Nat.zero_le _, rfl, (unhide HS).2, hz1', (unhide HS).1⟩
  case round =>
    obtain ⟨k, hk, rfl, hR, hz, hbel⟩ := hrel
    have HR := hide (And.intro hR hbel)
    clear hR hbel HS
    by_cases hk' : k < P
    · obtain ⟨⟨⟨s0, s1, s2⟩, x⟩, hx⟩ : ∃ y, sideT ls 0 k = y := ⟨_, rfl⟩
      have HX := hide hx
      by_cases hkn : k < n
      · obtain ⟨c0, c1, c2⟩ := ((unhide HL).below (unhide HR).2 hb).cells k (by rw [unhide HN]; exact hkn)
        have hok := (unhide HL).ok _ (List.getElem_mem (by rw [unhide HN]; exact hkn : k < ls.length))
        have hsd : sideT ls 0 k = (dg (0 :: leafB (ls[k]'(by rw [unhide HN]; exact hkn)).nm.data.toList (ls[k]'(by rw [unhide HN]; exact hkn)).bal (ls[k]'(by rw [unhide HN]; exact hkn)).salt), (ls[k]'(by rw [unhide HN]; exact hkn)).bal) := by
          unfold sideT
          rw [List.getElem?_eq_getElem (by rw [unhide HN]; exact hkn)]
        generalize (ls[k]'(by rw [unhide HN]; exact hkn)) = y at *
        have hC := fun w => leafside_any y.nm y.bal y.salt w hok.1 hok.2.1 hok.2.2.1 hok.2.2.2.1 hok.2.2.2.2
        rw [hx] at hsd
        rw [Nat.zero_add] at c0 c1 c2
        have e1 : dg (0 :: leafB y.nm.data.toList y.bal y.salt) = (s0, s1, s2) := (congrArg Prod.fst hsd).symm
        have e2 : y.bal = x := (congrArg Prod.snd hsd).symm
        rw [e1, e2] at hC
        rw [e2] at c1
        obtain ⟨nm, bal, salt⟩ := y
        simp only at c0 c1 c2 hC
        unfold leafV sideV at hC
        have HC := fun w => hide (hC w)
        clear hok hsd hC hx e1 e2
        simp only at HC
        go_wp2_with fail
        refine (unhide (HC _)).mono ?_
        rintro e w2 ⟨rfl, hb2⟩
        have hR2 := (unhide HR).1.below hb2 hz
        have hB2 := (unhide HR).2.trans (hb2.mono (by omega))
        have hz2' : w.heap.size < w2.heap.size := by have := hb2.size; omega
        have HR3 := hide (And.intro (hR2.set (levelT_len ls 0 k) hk' s0 s1 s2 x) hB2)
        obtain ⟨r0, g0⟩ := Option.isSome_iff_exists.1 (hR2.1 (k * 4) (by omega)).1
        obtain ⟨r1, g1⟩ := Option.isSome_iff_exists.1 (hR2.1 (k * 4 + 1) (by omega)).1
        obtain ⟨r2, g2⟩ := Option.isSome_iff_exists.1 (hR2.1 (k * 4 + 2) (by omega)).1
        obtain ⟨r3, g3⟩ := Option.isSome_iff_exists.1 (hR2.1 (k * 4 + 3) (by omega)).1
        have f0 := (hR2.1 (k * 4) (by omega)).2
        have f1 := (hR2.1 (k * 4 + 1) (by omega)).2
        have f2 := (hR2.1 (k * 4 + 2) (by omega)).2
        have f3 := (hR2.1 (k * 4 + 3) (by omega)).2
        clear hR2 hB2 hb2 HC HR c0 c1 c2
        generalize (s0.toNat : Int) = t0 at *
        generalize (s1.toNat : Int) = t1 at *
        generalize (s2.toNat : Int) = t2 at *
        go_wp2
        refine ⟨⟨k + 1, by omega, by go_num, ?_, by simpa using hz2', ((((unhide HR3).2.setCell (by simp) _).setCell (by simp) _).setCell (by simp) _).setCell (by simp) _⟩, by simp [intOf]; omega⟩
        rw [levelT_snoc, unhide HX]
        exact (unhide HR3).1
      · have hsd : sideT ls 0 k = (dg [2, UInt8.ofNat k], 0) := by
          unfold sideT
          rw [List.getElem?_eq_none (by rw [unhide HN]; omega)]
        have hC := fun w => padside_any k w (by omega)
        rw [hx] at hsd
        have e1 : dg [2, UInt8.ofNat k] = (s0, s1, s2) := (congrArg Prod.fst hsd).symm
        have e2 : (0 : Int) = x := (congrArg Prod.snd hsd).symm
        rw [e1, e2] at hC
        unfold sideV at hC
        have HC := fun w => hide (hC w)
        clear hsd hC hx e1 e2
        simp only at HC
        go_wp2_with fail
        refine (unhide (HC _)).mono ?_
        rintro e w2 ⟨rfl, hb2⟩
        have hR2 := (unhide HR).1.below hb2 hz
        have hB2 := (unhide HR).2.trans (hb2.mono (by omega))
        have hz2' : w.heap.size < w2.heap.size := by have := hb2.size; omega
        have HR3 := hide (And.intro (hR2.set (levelT_len ls 0 k) hk' s0 s1 s2 x) hB2)
        obtain ⟨r0, g0⟩ := Option.isSome_iff_exists.1 (hR2.1 (k * 4) (by omega)).1
        obtain ⟨r1, g1⟩ := Option.isSome_iff_exists.1 (hR2.1 (k * 4 + 1) (by omega)).1
        obtain ⟨r2, g2⟩ := Option.isSome_iff_exists.1 (hR2.1 (k * 4 + 2) (by omega)).1
        obtain ⟨r3, g3⟩ := Option.isSome_iff_exists.1 (hR2.1 (k * 4 + 3) (by omega)).1
        have f0 := (hR2.1 (k * 4) (by omega)).2
        have f1 := (hR2.1 (k * 4 + 1) (by omega)).2
        have f2 := (hR2.1 (k * 4 + 2) (by omega)).2
        have f3 := (hR2.1 (k * 4 + 3) (by omega)).2
        clear hR2 hB2 hb2 HC HR
        generalize (s0.toNat : Int) = t0 at *
        generalize (s1.toNat : Int) = t1 at *
        generalize (s2.toNat : Int) = t2 at *
        go_wp2
        refine ⟨⟨k + 1, by omega, by go_num, ?_, by simpa using hz2', ((((unhide HR3).2.setCell (by simp) _).setCell (by simp) _).setCell (by simp) _).setCell (by simp) _⟩, by simp [intOf]; omega⟩
        rw [levelT_snoc, unhide HX]
        exact (unhide HR3).1
    · have hkk : k = P := by omega
      subst hkk
      go_wp2
      go_ret
      exact ⟨rfl, hz, (unhide HR).1.2, (unhide HR).2⟩

/-- The one above two. -/
def nodeS (y z : Dg × Int) : Dg × Int := (dg (1 :: (sideB y ++ sideB z)), y.2 + z.2)
def aboveT (ys : List (Dg × Int)) (m : Nat) : List (Dg × Int) := (List.range m).map fun i => nodeS (ys.getD (2 * i) ((0, 0, 0), 0)) (ys.getD (2 * i + 1) ((0, 0, 0), 0))
theorem aboveT_len (ys : List (Dg × Int)) (m : Nat) : (aboveT ys m).length = m := by simp [aboveT]
theorem aboveT_snoc (ys : List (Dg × Int)) (m : Nat) : aboveT ys (m + 1) = aboveT ys m ++ [nodeS (ys.getD (2 * m) ((0, 0, 0), 0)) (ys.getD (2 * m + 1) ((0, 0, 0), 0))] := by simp [aboveT, List.range_succ]

/-- Eight cells that are read. -/
abbrev S8 (b o o' : Nat) (e0 e1 e2 x f0 f1 f2 z : Int) (w' : World) : Prop :=
  (w'.cell? ⟨b, o, none⟩ = some (.int .u8 e0) ∧ w'.cell? ⟨b, o + 1, none⟩ = some (.int .u8 e1) ∧ w'.cell? ⟨b, o + 2, none⟩ = some (.int .u8 e2) ∧ w'.cell? ⟨b, o + 3, none⟩ = some (.int .u64 x)) ∧
  (w'.cell? ⟨b, o', none⟩ = some (.int .u8 f0) ∧ w'.cell? ⟨b, o' + 1, none⟩ = some (.int .u8 f1) ∧ w'.cell? ⟨b, o' + 2, none⟩ = some (.int .u8 f2) ∧ w'.cell? ⟨b, o' + 3, none⟩ = some (.int .u64 z))
theorem S8.same {W w4 : World} {b o o' : Nat} {e0 e1 e2 x f0 f1 f2 z : Int} (h : S8 b o o' e0 e1 e2 x f0 f1 f2 z W) (e : ∀ i, w4.cell? ⟨b, i, none⟩ = W.cell? ⟨b, i, none⟩) : S8 b o o' e0 e1 e2 x f0 f1 f2 z w4 := by
  obtain ⟨⟨a0, a1, a2, a3⟩, ⟨b0, b1, b2, b3⟩⟩ := h
  exact ⟨⟨(e _).trans a0, (e _).trans a1, (e _).trans a2, (e _).trans a3⟩, ⟨(e _).trans b0, (e _).trans b1, (e _).trans b2, (e _).trans b3⟩⟩
theorem S8.keep {W w4 : World} {b o o' : Nat} {e0 e1 e2 x f0 f1 f2 z : Int} (h : S8 b o o' e0 e1 e2 x f0 f1 f2 z W) (hb : Below W.heap.size W w4) (hlt : b < W.heap.size) : S8 b o o' e0 e1 e2 x f0 f1 f2 z w4 := h.same fun _ => (bcell hb).1 _ _ hlt
theorem S8.set {W : World} {b G o o' : Nat} {e0 e1 e2 x f0 f1 f2 z : Int} (h : S8 b o o' e0 e1 e2 x f0 f1 f2 z W) (hne : b ≠ G) (i : Nat) (v : Value) : S8 b o o' e0 e1 e2 x f0 f1 f2 z (W.setCell ⟨G, i, none⟩ v) := h.same fun j => World.cell?_of_block (w := W) (Below.heap_setCell W _ _ _ (by simpa using hne))

set_option maxHeartbeats 2000000 in
set_option maxRecDepth 100000 in
theorem above_any (b n m cap : Nat) (ys : List (Dg × Int)) (w : World) (hn : ys.length = n) (hm : n = 2 * m) (hm64 : m ≤ 64) (hb : b < w.heap.size) (hS : SidesAt w b ys) (hys : ∀ y ∈ ys, 0 ≤ y.2 ∧ y.2 ≤ maxS) :
    Calls Tryz.prog 68 #[.slice (some ⟨b, 0, none⟩) n cap] w fun e w' => e = .returned (.slice (some ⟨w.heap.size, 0, none⟩) m m) ∧ w.heap.size < w'.heap.size ∧ SidesAt w' w.heap.size (aboveT ys m) ∧ Below w.heap.size w w' := by
  obtain ⟨i0, hi, hz0, hz1, hz2⟩ := info_parts Tryz.infoSide
  have HS := hide hS
  have HN := hide hn
  have HY := hide hys
  have hq : (n : Int).tdiv 2 = (m : Int) := by rw [Int.tdiv_eq_ediv_of_nonneg (by omega)]; omega
  have hbG : b ≠ w.heap.size := by omega
  have HM := hide hm
  clear hS hn hys hm
  go_enter Tryz.func68, Tryz.ntmps68
  go_wp2_with (at_make; refine wpList_make_full _ rfl _ _ 116 rfl w.heap.size 106 i0 _ 4 Tryz.underlying116 hi hz0 hz1 _ _ _ _ m rfl rfl (by omega) (by omega) (by rw [hz2]; omega) (by unfold maxLen; omega) (Nat.le_refl _) ?_)
  intro w1 hown1 hgrow1
  have hB1 : Below w.heap.size w w1 := (Below.refl _ _).grown hgrow1 (Nat.le_refl _) (fun b hb => by cases hb)
  have hR1 := room_new hown1
  have hz1' : w.heap.size < w1.heap.size := (hown1.lt w.heap.size rfl).2
  have HSS := hide (And.intro hB1 hR1)
  clear hB1 hR1 hown1 hgrow1
  go_wp2_with fail
  go_loopw [11, 4] (fun i _ wr => ∃ k : Nat, k ≤ m ∧ i = .int .i64 k ∧ Room wr w.heap.size m (aboveT ys k) ∧ w.heap.size < wr.heap.size ∧ Below w.heap.size w wr) (fun i _ _ => m - (intOf i).toNat)
  case atStart => exact ⟨0, Nat.zero_le _, rfl, (unhide HSS).2, hz1', (unhide HSS).1⟩
  case round =>
    obtain ⟨k, hk, rfl, hR, hz, hbel⟩ := hrel
    have HR := hide (And.intro hR hbel)
    clear hR hbel HSS
    by_cases hk' : k < m
    · have hm := unhide HM
      have h1 : 2 * k < ys.length := by rw [unhide HN]; omega
      have h2 : 2 * k + 1 < ys.length := by rw [unhide HN]; omega
      have cy := ((unhide HS).below (unhide HR).2 hb) (2 * k) h1
      have cz := ((unhide HS).below (unhide HR).2 hb) (2 * k + 1) h2
      have ry := unhide HY _ (List.getElem_mem h1)
      have rz := unhide HY _ (List.getElem_mem h2)
      have gy : ys.getD (2 * k) ((0, 0, 0), 0) = ys[2 * k] := by rw [List.getD_eq_getElem?_getD, List.getElem?_eq_getElem h1]; rfl
      have gz : ys.getD (2 * k + 1) ((0, 0, 0), 0) = ys[2 * k + 1] := by rw [List.getD_eq_getElem?_getD, List.getElem?_eq_getElem h2]; rfl
      have hsn := aboveT_snoc ys k
      rw [gy, gz] at hsn
      generalize ys[2 * k] = y at *
      generalize ys[2 * k + 1] = z at *
      have hC := fun w => nodeside_any y.1 z.1 y.2 z.2 w ry.1 rz.1 (by unfold maxS at ry rz; omega)
      obtain ⟨⟨⟨s0, s1, s2⟩, x⟩, hx⟩ : ∃ q, nodeS y z = q := ⟨_, rfl⟩
      have e1 : dg (1 :: (sideB (y.1, y.2) ++ sideB (z.1, z.2))) = (s0, s1, s2) := congrArg Prod.fst hx
      have e2 : y.2 + z.2 = x := congrArg Prod.snd hx
      rw [e1, e2] at hC
      rw [hx] at hsn
      have HX := hide hsn
      unfold sideV at hC
      simp only at hC
      obtain ⟨c0, c1, c2, c3⟩ := cy
      obtain ⟨d0, d1, d2, d3⟩ := cz
      generalize (y.1.1.toNat : Int) = a0 at *
      generalize (y.1.2.1.toNat : Int) = a1 at *
      generalize (y.1.2.2.toNat : Int) = a2 at *
      generalize (z.1.1.toNat : Int) = b0 at *
      generalize (z.1.2.1.toNat : Int) = b1 at *
      generalize (z.1.2.2.toNat : Int) = b2 at *
      generalize y.2 = yx at *
      generalize z.2 = zx at *
      have HC := fun w => hide (hC w)
      obtain ⟨q, hq1⟩ : ∃ q, 2 * k = q := ⟨_, rfl⟩
      obtain ⟨q', hq2⟩ : ∃ q', 2 * k + 1 = q' := ⟨_, rfl⟩
      rw [hq2] at d0 d1 d2 d3
      rw [hq1] at c0 c1 c2 c3
      have hSd : S8 b (q * 4) (q' * 4) a0 a1 a2 yx b0 b1 b2 zx wr.drew := ⟨⟨c0, c1, c2, c3⟩, ⟨d0, d1, d2, d3⟩⟩
      have i7 : q < n := by omega
      have i8 : q' < n := by omega
      have i1 : (0 : Int) ≤ (q : Int) := by omega
      have i2 : (q : Int) < (n : Int) := by omega
      have i3 : (0 : Int) ≤ (q' : Int) := by omega
      have i4 : (q' : Int) < (n : Int) := by omega
      have i5 : (k : Int) < (m : Int) := by omega
      have i6 : (0 : Int) ≤ (k : Int) := by omega
      have w1' : IntKind.i64.wrap (2 * (k : Int)) = (q : Int) := by rw [IntKind.wrap_i64]; omega
      have w2' : IntKind.i64.wrap ((q : Int) + 1) = (q' : Int) := by rw [IntKind.wrap_i64]; omega
      have hbz : b < wr.heap.size := by omega
      clear hq1 hq2 h1 h2 hm
      clear hC hsn hx e1 e2 ry rz gy gz c0 c1 c2 c3 d0 d1 d2 d3
      go_upto_region 5 with fail
      go_region_held3 (fun w' => (w'.cell? ⟨b, q * 4, none⟩ = some (.int .u8 a0) ∧ w'.cell? ⟨b, q * 4 + 1, none⟩ = some (.int .u8 a1) ∧ w'.cell? ⟨b, q * 4 + 2, none⟩ = some (.int .u8 a2) ∧ w'.cell? ⟨b, q * 4 + 3, none⟩ = some (.int .u64 yx)) ∧
          (w'.cell? ⟨b, q' * 4, none⟩ = some (.int .u8 b0) ∧ w'.cell? ⟨b, q' * 4 + 1, none⟩ = some (.int .u8 b1) ∧ w'.cell? ⟨b, q' * 4 + 2, none⟩ = some (.int .u8 b2) ∧ w'.cell? ⟨b, q' * 4 + 3, none⟩ = some (.int .u64 zx)))
        (first
          | with_reducible exact hSd
          | with_reducible exact hS4
          | with_reducible exact (((S8.set hS4 hbG _ _).set hbG _ _).set hbG _ _).set hbG _ _
          | fail)
        (first
          | (go_at_call 87; (with_reducible refine (unhide (HC _)).mono ?_); rintro e w4 ⟨rfl, hb4⟩; have hS4 := S8.keep hSd hb4 hbz; have hR2 : Room w4 w.heap.size m (aboveT ys k) := (unhide HR).1.below (w' := w4) ⟨hb4.os, hb4.tape, hb4.output, hb4.size, hb4.block⟩ hz; obtain ⟨r0, g0⟩ := Option.isSome_iff_exists.1 (hR2.1 (k * 4) (by omega)).1; obtain ⟨r1, g1⟩ := Option.isSome_iff_exists.1 (hR2.1 (k * 4 + 1) (by omega)).1; obtain ⟨r2, g2⟩ := Option.isSome_iff_exists.1 (hR2.1 (k * 4 + 2) (by omega)).1; obtain ⟨r3, g3⟩ := Option.isSome_iff_exists.1 (hR2.1 (k * 4 + 3) (by omega)).1; have f0 := (hR2.1 (k * 4) (by omega)).2; have f1 := (hR2.1 (k * 4 + 1) (by omega)).2; have f2 := (hR2.1 (k * 4 + 2) (by omega)).2; have f3 := (hR2.1 (k * 4 + 3) (by omega)).2)
          | fail)
      have hz4 : w.heap.size < w4.heap.size := by have := hb4.size; simp at this; omega
      have hB4 : Below w.heap.size w w4 := (unhide HR).2.drew.trans (hb4.mono (by simp; omega))
      have HR3 := hide (And.intro (hR2.set (aboveT_len ys k) hk' s0 s1 s2 x) hB4)
      clear hSd hS4 hR2 hb4 hB4 HC HR
      go_wp2
      refine ⟨⟨k + 1, by omega, by go_num, ?_, by simpa using hz4, ((((unhide HR3).2.setCell (by simp) _).setCell (by simp) _).setCell (by simp) _).setCell (by simp) _⟩, by simp [intOf]; omega⟩
      rw [unhide HX]
      exact (unhide HR3).1
    · have hkk : k = m := by omega
      subst hkk
      go_wp2
      go_ret
      exact ⟨rfl, hz, (unhide HR).1.2, (unhide HR).2⟩

end Go.Proofs.YtbjobbkgelipmaaGreat

/-
  A tree's sums: plain numbers.
-/
namespace Go.Proofs.YtbjobbkgelipmaaGreat
open Go.RowKit

def sumTo (ls : List LeafD) (n : Nat) : Int := ((ls.take n).map LeafD.bal).sum
def sumL (ls : List LeafD) : Int := (ls.map LeafD.bal).sum
theorem sumTo_succ (ls : List LeafD) (n : Nat) : sumTo ls (n + 1) = sumTo ls n + ((ls[n]?).map LeafD.bal).getD 0 := by
  unfold sumTo
  by_cases h : n < ls.length
  · rw [List.take_succ_eq_append_getElem h, List.map_append, List.sum_append, List.getElem?_eq_getElem h]
    simp
  · rw [List.take_of_length_le (by omega), List.take_of_length_le (by omega), List.getElem?_eq_none (by omega)]
    simp
theorem sumTo_mono (ls : List LeafD) (hp : ∀ x ∈ ls, 0 ≤ x.bal) (a : Nat) : ∀ d, sumTo ls a ≤ sumTo ls (a + d)
  | 0 => Int.le_refl _
  | d + 1 => by
    have ih := sumTo_mono ls hp a d
    rw [show a + (d + 1) = (a + d) + 1 by omega, sumTo_succ]
    have : 0 ≤ ((ls[a + d]?).map LeafD.bal).getD 0 := by
      cases h : ls[a + d]? with
      | none => simp
      | some x => simpa using hp x (List.mem_of_getElem? h)
    omega
theorem sumTo_all (ls : List LeafD) (n : Nat) (h : ls.length ≤ n) : sumTo ls n = sumL ls := by unfold sumTo sumL; rw [List.take_of_length_le h]
theorem sumTo_le (ls : List LeafD) (hp : ∀ x ∈ ls, 0 ≤ x.bal) (n : Nat) : 0 ≤ sumTo ls n ∧ sumTo ls n ≤ sumL ls := by
  constructor
  · have := sumTo_mono ls hp 0 n
    rw [Nat.zero_add] at this
    have e : sumTo ls 0 = 0 := by simp [sumTo]
    omega
  · have := sumTo_mono ls hp n ls.length
    rw [sumTo_all ls (n + ls.length) (by omega)] at this
    exact this
theorem side_sum (ls : List LeafD) (hp : ∀ x ∈ ls, 0 ≤ x.bal) (hm : sumL ls ≤ maxS) : ∀ k p, (sideT ls k p).2 = sumTo ls ((p + 1) * 2 ^ k) - sumTo ls (p * 2 ^ k)
  | 0, p => by
    unfold sideT
    rw [Nat.pow_zero, Nat.mul_one, Nat.mul_one, sumTo_succ]
    cases h : ls[p]? with
    | none => simp
    | some x => simp; omega
  | k + 1, p => by
    have h1 := side_sum ls hp hm k (2 * p)
    have h2 := side_sum ls hp hm k (2 * p + 1)
    have e1 : 2 * p * 2 ^ k = p * 2 ^ (k + 1) := by rw [Nat.pow_succ, Nat.mul_comm 2 p, Nat.mul_assoc, Nat.mul_comm 2]
    have e2 : (2 * p + 1 + 1) * 2 ^ k = (p + 1) * 2 ^ (k + 1) := by rw [show 2 * p + 1 + 1 = 2 * (p + 1) by omega, Nat.pow_succ, Nat.mul_comm 2 (p + 1), Nat.mul_assoc, Nat.mul_comm 2]
    rw [e1] at h1
    rw [e2] at h2
    have m1 := sumTo_le ls hp (p * 2 ^ (k + 1))
    have m2 := sumTo_le ls hp ((p + 1) * 2 ^ (k + 1))
    have mm := sumTo_mono ls hp (p * 2 ^ (k + 1)) (2 ^ (k + 1))
    rw [show p * 2 ^ (k + 1) + 2 ^ (k + 1) = (p + 1) * 2 ^ (k + 1) by rw [Nat.add_mul, Nat.one_mul]] at mm
    show ((sideT ls k (2 * p)).2 + (sideT ls k (2 * p + 1)).2) % 18446744073709551616 = _
    unfold maxS at hm
    omega
theorem side_range (ls : List LeafD) (hp : ∀ x ∈ ls, 0 ≤ x.bal) (hm : sumL ls ≤ maxS) (k p : Nat) : 0 ≤ (sideT ls k p).2 ∧ (sideT ls k p).2 ≤ maxS := by
  rw [side_sum ls hp hm]
  have m1 := sumTo_le ls hp (p * 2 ^ k)
  have m2 := sumTo_le ls hp ((p + 1) * 2 ^ k)
  have mm := sumTo_mono ls hp (p * 2 ^ k) (2 ^ k)
  rw [show p * 2 ^ k + 2 ^ k = (p + 1) * 2 ^ k by rw [Nat.add_mul, Nat.one_mul]] at mm
  omega
theorem side_up (ls : List LeafD) (hp : ∀ x ∈ ls, 0 ≤ x.bal) (hm : sumL ls ≤ maxS) (k p : Nat) : sideT ls (k + 1) p = nodeS (sideT ls k (2 * p)) (sideT ls k (2 * p + 1)) := by
  have h1 := side_range ls hp hm k (2 * p)
  have h2 := side_range ls hp hm k (2 * p + 1)
  unfold nodeS
  show (_, ((sideT ls k (2 * p)).2 + (sideT ls k (2 * p + 1)).2) % 18446744073709551616) = _
  congr 1
  unfold maxS at h1 h2
  omega
theorem level_up (ls : List LeafD) (hp : ∀ x ∈ ls, 0 ≤ x.bal) (hm : sumL ls ≤ maxS) (k m : Nat) : aboveT (levelT ls k (2 * m)) m = levelT ls (k + 1) m := by
  unfold aboveT
  show _ = (List.range m).map (sideT ls (k + 1))
  apply List.map_congr_left
  intro i hi
  have hi' : i < m := by simpa using hi
  rw [side_up ls hp hm]
  have g : ∀ j, j < 2 * m → (levelT ls k (2 * m)).getD j ((0, 0, 0), 0) = sideT ls k j := fun j hj => by
    rw [List.getD_eq_getElem?_getD, List.getElem?_eq_getElem (by rw [levelT_len]; exact hj), levelT_get]; rfl
  rw [g _ (by omega), g _ (by omega)]

end Go.Proofs.YtbjobbkgelipmaaGreat

/-
  The walk of tithe's grow.
-/
namespace Go.Proofs.YtbjobbkgelipmaaGreat
open Go.RowKit

theorem Tryz.infoSides : (Tryz.prog.info? 116).map (fun i => (i.zero, i.size, i.bytes)) = some (some (.slice none 0 0), 1, 24) := by kernel_rfl
/-- The slices of a tree's levels. -/
def lvlV (h : Nat) (gs : List Nat) : List Value := (List.range gs.length).map fun j => .slice (some ⟨gs.getD j 0, 0, none⟩) (2 ^ (h - j)) (2 ^ (h - j))
theorem lvlV_snoc (h : Nat) (gs : List Nat) (g : Nat) : lvlV h (gs ++ [g]) = lvlV h gs ++ [.slice (some ⟨g, 0, none⟩) (2 ^ (h - gs.length)) (2 ^ (h - gs.length))] := by
  unfold lvlV
  rw [List.length_append, List.length_singleton, List.range_succ, List.map_append]
  congr 1
  · apply List.map_congr_left
    intro j hj
    have hj' : j < gs.length := by simpa using hj
    rw [List.getD_eq_getElem?_getD, List.getD_eq_getElem?_getD, List.getElem?_append_left hj']
  · simp
theorem lvlV_len (h : Nat) (gs : List Nat) : (lvlV h gs).length = gs.length := by simp [lvlV]

/-- Sides lie in no row of slices. -/
theorem sides_ne {w : World} {base n g : Nat} {v : Value} {xs : List Value} {ys : List (Dg × Int)} {a : Option Addr} {l c : Nat} (ho : w.ownsRow base 116 1 v n (.slice a l c :: xs)) (hs : SidesAt w g ys) (hy : 0 < ys.length) : some g ≠ v.ownBlock := by
  rcases ho.2 with ⟨rfl, h0⟩ | ⟨b, cap, cur, rfl, _, hb, _, _, _, hx⟩
  · intro e; cases e
  · intro e
    have e' : some g = some b := e
    have hgb := Option.some.inj e'
    subst hgb
    have h1 := (hs 0 hy).1
    rw [Nat.zero_mul, block_cell hb] at h1
    have h2 : (cur.toList.take (n * 1))[0]? = some (.slice a l c) := by rw [hx]; rfl
    rw [List.getElem?_take] at h2
    split at h2
    · rw [Array.getElem?_toList] at h2
      rw [h2] at h1
      cases h1
    · cases h2

/-- What is kept between rounds of grow. -/
structure GI (w : World) (ls : List LeafD) (h k : Nat) (v : Value) (gs : List Nat) (wr : World) : Prop where
  len : gs.length = k + 1
  own : wr.ownsRow w.heap.size 116 1 v (k + 1) (lvlV h gs)
  sides : ∀ j, j ≤ k → SidesAt wr (gs.getD j 0) (levelT ls j (2 ^ (h - j))) ∧ gs.getD j 0 < wr.heap.size ∧ w.heap.size ≤ gs.getD j 0
  below : Below w.heap.size w wr

theorem GI.start {w w1 : World} {ls : List LeafD} {h : Nat} (hz : w.heap.size < w1.heap.size) (hs : SidesAt w1 w.heap.size (levelT ls 0 (2 ^ h))) (hb : Below w.heap.size w w1) :
    GI w ls h 0 (.slice (some ⟨w1.heap.size, 0, none⟩) 1 1) [w.heap.size] (w1.alloc (.cells #[.slice (some ⟨w.heap.size, 0, none⟩) (2 ^ h) (2 ^ h)] 116)) := by
  refine ⟨rfl, ⟨rfl, .inr ⟨w1.heap.size, 1, _, rfl, by omega, heap_alloc_new w1 _, Nat.le_refl _, by unfold maxLen; omega, rfl, rfl⟩⟩, fun j hj => ?_, hb.alloc hb.size _⟩
  have hj0 : j = 0 := by omega
  subst hj0
  exact ⟨hs.below ((Below.refl _ _).alloc (Nat.le_refl _) _) hz, by rw [World.size_alloc]; exact Nat.lt_succ_of_lt hz, Nat.le_refl _⟩

theorem GI.step {w wr w4 w5 : World} {ls : List LeafD} {h k : Nat} {v v' : Value} {gs : List Nat} (hi : GI w ls h k v gs wr) (_hk : k < h) (hb4 : Below wr.heap.size wr w4) (hz4 : wr.heap.size < w4.heap.size) (hs4 : SidesAt w4 wr.heap.size (levelT ls (k + 1) (2 ^ (h - (k + 1)))))
    (hown : w5.ownsRow w.heap.size 116 1 v' (k + 1 + 1) (lvlV h gs ++ [.slice (some ⟨wr.heap.size, 0, none⟩) (2 ^ (h - (k + 1))) (2 ^ (h - (k + 1)))])) (hg : (w4.alloc (.cells #[.slice (some ⟨wr.heap.size, 0, none⟩) (2 ^ (h - (k + 1))) (2 ^ (h - (k + 1)))] 116)).grownBy w5 v.ownBlock) :
    GI w ls h (k + 1) v' (gs ++ [wr.heap.size]) w5 := by
  have hwz := hi.below.size
  have hB4 : Below w.heap.size w w4 := hi.below.trans (hb4.mono hwz)
  have hBA : Below w4.heap.size w4 (w4.alloc (.cells #[.slice (some ⟨wr.heap.size, 0, none⟩) (2 ^ (h - (k + 1))) (2 ^ (h - (k + 1)))] 116)) := (Below.refl _ _).alloc (Nat.le_refl _) _
  have hown4 : (w4.alloc (.cells #[.slice (some ⟨wr.heap.size, 0, none⟩) (2 ^ (h - (k + 1))) (2 ^ (h - (k + 1)))] 116)).ownsRow w.heap.size 116 1 v (k + 1) (lvlV h gs) := by
    have ho := hi.own
    refine ⟨ho.1, ?_⟩
    rcases ho.2 with h0 | ⟨b, cap, cur, e1, e2, hb, r⟩
    · exact .inl h0
    · have hlt := (Array.getElem?_eq_some_iff.1 hb).1
      exact .inr ⟨b, cap, cur, e1, e2, (hBA.block b (by omega)).trans ((hb4.block b hlt).trans hb), r⟩
  have hcons : ∃ a l c xs, lvlV h gs = .slice a l c :: xs := by
    have hl := lvlV_len h gs
    rw [hi.len] at hl
    cases e : lvlV h gs with
    | nil => rw [e] at hl; cases hl
    | cons x xs =>
      have : (lvlV h gs)[0]? = some x := by rw [e]; rfl
      unfold lvlV at this
      rw [hi.len, List.getElem?_map, List.getElem?_range (by omega)] at this
      simp at this
      exact ⟨_, _, _, xs, by rw [← this]⟩
  obtain ⟨a, l, c, xs, hx⟩ := hcons
  rw [hx] at hown4
  have keep : ∀ (g : Nat) (ys : List (Dg × Int)), 0 < ys.length → g < w4.heap.size → SidesAt w4 g ys → SidesAt w5 g ys := fun g ys hy hg' hs => by
    have hsA := hs.below hBA hg'
    have hne := sides_ne hown4 hsA hy
    have hblk := hg.block g (by rw [World.size_alloc]; omega) hne
    intro i hi'
    have e : ∀ o, w5.cell? ⟨g, o, none⟩ = (w4.alloc (.cells #[.slice (some ⟨wr.heap.size, 0, none⟩) (2 ^ (h - (k + 1))) (2 ^ (h - (k + 1)))] 116)).cell? ⟨g, o, none⟩ := fun o => World.cell?_of_block hblk
    obtain ⟨h0, h1, h2, h3⟩ := hsA i hi'
    exact ⟨(e _).trans h0, (e _).trans h1, (e _).trans h2, (e _).trans h3⟩
  have hsz5 : w4.heap.size < w5.heap.size := by have := hg.size; rw [World.size_alloc] at this; omega
  have hpos : ∀ j, 0 < (levelT ls j (2 ^ (h - j))).length := fun j => by rw [levelT_len]; exact Nat.two_pow_pos _
  refine ⟨by rw [List.length_append, hi.len]; rfl, ?_, fun j hj => ?_, ?_⟩
  · rw [lvlV_snoc, hi.len]; exact hown
  · by_cases hjk : j ≤ k
    · obtain ⟨s1, s2, s3⟩ := hi.sides j hjk
      have e : (gs ++ [wr.heap.size]).getD j 0 = gs.getD j 0 := by
        rw [List.getD_eq_getElem?_getD, List.getD_eq_getElem?_getD, List.getElem?_append_left (by rw [hi.len]; omega)]
      rw [e]
      exact ⟨keep _ _ (hpos j) (by omega) (s1.below hb4 s2), by omega, s3⟩
    · have hj1 : j = k + 1 := by omega
      subst hj1
      have e : (gs ++ [wr.heap.size]).getD (k + 1) 0 = wr.heap.size := by
        rw [List.getD_eq_getElem?_getD, List.getElem?_append_right (by rw [hi.len]; omega), hi.len]
        simp
      rw [e]
      exact ⟨keep _ _ (hpos (k + 1)) hz4 hs4, by omega, hwz⟩
  · exact (hB4.alloc hB4.size _).grown hg (by rw [World.size_alloc]; omega) (fun b hb => (hi.own.lt b hb).1)

/-- A tree that lies in memory. -/
structure TreeM (w : World) (T : Nat) (b cap V vc : Nat) (gs : List Nat) (ls : List LeafD) (h : Nat) : Prop where
  blk : w.heap[T]? = some (.cells #[.slice (some ⟨b, 0, none⟩) ls.length cap, .slice (some ⟨V, 0, none⟩) (h + 1) vc] 142 (0, 0))
  leaves : LeavesAt w b 0 ls
  rows : ∀ j, j ≤ h → w.cell? ⟨V, j, none⟩ = some (.slice (some ⟨gs.getD j 0, 0, none⟩) (2 ^ (h - j)) (2 ^ (h - j)))
  vlt : V < w.heap.size
  sides : ∀ j, j ≤ h → SidesAt w (gs.getD j 0) (levelT ls j (2 ^ (h - j))) ∧ gs.getD j 0 < w.heap.size
theorem TreeM.later {w w' : World} {T b cap V vc h : Nat} {gs : List Nat} {ls : List LeafD} (t : TreeM w T b cap V vc gs ls h) (hb : Below w.heap.size w w') : TreeM w' T b cap V vc gs ls h :=
  ⟨(hb.block T (Array.getElem?_eq_some_iff.1 t.blk).1).trans t.blk, t.leaves.below hb t.leaves.lt, fun j hj => keepB hb t.vlt (t.rows j hj), Nat.lt_of_lt_of_le t.vlt hb.size, fun j hj => ⟨(t.sides j hj).1.below hb (t.sides j hj).2, Nat.lt_of_lt_of_le (t.sides j hj).2 hb.size⟩⟩

theorem TreeM.set {w : World} {T b cap V vc h B : Nat} {gs : List Nat} {ls : List LeafD} (t : TreeM w T b cap V vc gs ls h) (h1 : T ≠ B) (h2 : b ≠ B) (h3 : V ≠ B) (h4 : ∀ j, j ≤ h → gs.getD j 0 ≠ B) (i : Nat) (v : Value) : TreeM (w.setCell ⟨B, i, none⟩ v) T b cap V vc gs ls h := by
  have e : ∀ k, k ≠ B → (w.setCell ⟨B, i, none⟩ v).heap[k]? = w.heap[k]? := fun k hk => Below.heap_setCell _ _ _ _ hk
  have ec : ∀ k o, k ≠ B → (w.setCell ⟨B, i, none⟩ v).cell? ⟨k, o, none⟩ = w.cell? ⟨k, o, none⟩ := fun k o hk => World.cell?_of_block (e k hk)
  refine ⟨(e T h1).trans t.blk, ⟨by simpa using t.leaves.lt, fun j hj => ?_, t.leaves.ok⟩, fun j hj => (ec V j h3).trans (t.rows j hj), by simpa using t.vlt, fun j hj => ⟨fun k hk => ?_, by simpa using (t.sides j hj).2⟩⟩
  · obtain ⟨y0, y1, y2⟩ := t.leaves.cells j hj
    exact ⟨(ec b _ h2).trans y0, (ec b _ h2).trans y1, (ec b _ h2).trans y2⟩
  · obtain ⟨y0, y1, y2, y3⟩ := (t.sides j hj).1 k hk
    exact ⟨(ec _ _ (h4 j hj)).trans y0, (ec _ _ (h4 j hj)).trans y1, (ec _ _ (h4 j hj)).trans y2, (ec _ _ (h4 j hj)).trans y3⟩
theorem GI.tree {w wr : World} {ls : List LeafD} {h b cap : Nat} {v : Value} {gs : List Nat} (hi : GI w ls h h v gs wr) (hL : LeavesAt w b 0 ls) :
    ∃ V vc, v = .slice (some ⟨V, 0, none⟩) (h + 1) vc ∧ (w.heap.size ≤ V ∧ ∀ j, j ≤ h → w.heap.size ≤ gs.getD j 0) ∧ TreeM (wr.alloc (.cells #[.slice (some ⟨b, 0, none⟩) ls.length cap, v] 142)) wr.heap.size b cap V vc gs ls h := by
  rcases hi.own.2 with ⟨_, h0⟩ | ⟨V, vc, cur, rfl, hbase, hb, h1, h2, h3, h4⟩
  · omega
  · refine ⟨V, vc, rfl, ⟨hbase, fun j hj => (hi.sides j hj).2.2⟩, ⟨heap_alloc_new wr _, ?_, fun j hj => ?_, ?_, fun j hj => ?_⟩⟩
    · exact (hL.below hi.below hL.lt).below ((Below.refl _ _).alloc (Nat.le_refl _) _) (Nat.lt_of_lt_of_le hL.lt hi.below.size)
    · rw [block_cell (heap_next hb)]
      have e : (cur.toList.take ((h + 1) * 1))[j]? = (lvlV h gs)[j]? := by rw [h4]
      rw [List.getElem?_take_of_lt (by omega), Array.getElem?_toList] at e
      rw [e]
      unfold lvlV
      rw [hi.len, List.getElem?_map, List.getElem?_range (by omega)]
      rfl
    · rw [World.size_alloc]; exact Nat.lt_succ_of_lt (Array.getElem?_eq_some_iff.1 hb).1
    · obtain ⟨s1, s2, _⟩ := hi.sides j hj
      exact ⟨s1.below ((Below.refl _ _).alloc (Nat.le_refl _) _) s2, by rw [World.size_alloc]; exact Nat.lt_succ_of_lt s2⟩

set_option maxHeartbeats 2000000 in
set_option maxRecDepth 100000 in
theorem grow_any (b cap h : Nat) (ls : List LeafD) (w : World) (hh : h ≤ 6) (hn : ls.length ≤ 64) (hL : LeavesAt w b 0 ls) (hp : ∀ x ∈ ls, 0 ≤ x.bal) (hm : sumL ls ≤ maxS) :
    Calls Tryz.prog 52 #[.slice (some ⟨b, 0, none⟩) ls.length cap, .int .i64 (h : Int)] w fun e w' => (∃ T V vc gs, e = .returned (.pointer (some ⟨T, 0, none⟩)) ∧ (w.heap.size ≤ T ∧ w.heap.size ≤ V ∧ ∀ j, j ≤ h → w.heap.size ≤ gs.getD j 0) ∧ TreeM w' T b cap V vc gs ls h) ∧ Below w.heap.size w w' := by
  obtain ⟨i0, hi, hz0, hz1, hz2⟩ := info_parts Tryz.infoSides
  have HL0 := hide hL
  have hlow := fun (P : Nat) (hP : P ≤ 64) => lowest_any b ls.length P ls w cap rfl hn hP hL
  have HLow := hide hlow
  have HAb := hide (fun (wr : World) (k G : Nat) (hk : k < h) (hG : G < wr.heap.size) (hs : SidesAt wr G (levelT ls k (2 ^ (h - k)))) =>
    (above_any G (2 ^ (h - k)) (2 ^ (h - (k + 1))) (2 ^ (h - k)) (levelT ls k (2 ^ (h - k))) wr (levelT_len _ _ _) (by rw [show h - k = (h - (k + 1)) + 1 by omega, Nat.pow_succ]; omega)
      (by have : 2 ^ (h - (k + 1)) ≤ 2 ^ 6 := Nat.pow_le_pow_right (by omega) (by omega); omega) hG hs (fun y hy => by
        unfold levelT at hy
        obtain ⟨i, _, rfl⟩ := List.mem_map.1 hy
        exact side_range ls hp hm k i)))
  have HUp := hide (fun (k : Nat) (hk : k < h) => show aboveT (levelT ls k (2 ^ (h - k))) (2 ^ (h - (k + 1))) = levelT ls (k + 1) (2 ^ (h - (k + 1))) from by
    rw [show h - k = (h - (k + 1)) + 1 by omega, Nat.pow_succ, Nat.mul_comm]
    exact level_up ls hp hm k _)
  clear hlow hL hp hm
  go_enter Tryz.func52, Tryz.ntmps52
  go_upto_region 1 with fail
  go_cut [5] (fun s5 wx => s5 = .slice (some ⟨w.heap.size, 0, none⟩) (2 ^ h) (2 ^ h) ∧ Hid (w.heap.size < wx.heap.size ∧ SidesAt wx w.heap.size (levelT ls 0 (2 ^ h)) ∧ Below w.heap.size w wx))
  case first =>
    have H7 : h = 0 ∨ h = 1 ∨ h = 2 ∨ h = 3 ∨ h = 4 ∨ h = 5 ∨ h = 6 := by omega
    clear HAb HUp HL0 hh
    generalize ls.length = n at *
    rcases H7 with rfl | rfl | rfl | rfl | rfl | rfl | rfl
    · have HC := hide (unhide HLow 1 (by omega))
      clear HLow
      go_wp2_with fail
      refine (unhide HC).mono ?_
      rintro e w1 ⟨rfl, r⟩
      have HR := hide r
      clear r HC
      go_wp2_with fail
      go_meet
      exact ⟨rfl, HR⟩
    · have HC := hide (unhide HLow 2 (by omega))
      clear HLow
      go_wp2_with fail
      refine (unhide HC).mono ?_
      rintro e w1 ⟨rfl, r⟩
      have HR := hide r
      clear r HC
      go_wp2_with fail
      go_meet
      exact ⟨rfl, HR⟩
    · have HC := hide (unhide HLow 4 (by omega))
      clear HLow
      go_wp2_with fail
      refine (unhide HC).mono ?_
      rintro e w1 ⟨rfl, r⟩
      have HR := hide r
      clear r HC
      go_wp2_with fail
      go_meet
      exact ⟨rfl, HR⟩
    · have HC := hide (unhide HLow 8 (by omega))
      clear HLow
      go_wp2_with fail
      refine (unhide HC).mono ?_
      rintro e w1 ⟨rfl, r⟩
      have HR := hide r
      clear r HC
      go_wp2_with fail
      go_meet
      exact ⟨rfl, HR⟩
    · have HC := hide (unhide HLow 16 (by omega))
      clear HLow
      go_wp2_with fail
      refine (unhide HC).mono ?_
      rintro e w1 ⟨rfl, r⟩
      have HR := hide r
      clear r HC
      go_wp2_with fail
      go_meet
      exact ⟨rfl, HR⟩
    · have HC := hide (unhide HLow 32 (by omega))
      clear HLow
      go_wp2_with fail
      refine (unhide HC).mono ?_
      rintro e w1 ⟨rfl, r⟩
      have HR := hide r
      clear r HC
      go_wp2_with fail
      go_meet
      exact ⟨rfl, HR⟩
    · have HC := hide (unhide HLow 64 (by omega))
      clear HLow
      go_wp2_with fail
      refine (unhide HC).mono ?_
      rintro e w1 ⟨rfl, r⟩
      have HR := hide r
      clear r HC
      go_wp2_with fail
      go_meet
      exact ⟨rfl, HR⟩
  case rest =>
  obtain ⟨rfl, HR⟩ := hcut
  have HGI := hide (GI.start (ls := ls) (h := h) (unhide HR).1 (unhide HR).2.1 (unhide HR).2.2)
  have hzc := (unhide HR).1
  clear HR HLow
  go_wp2
  go_loopw [5, 6, 14] (fun lv v i wr => ∃ (k : Nat) (gs : List Nat), k ≤ h ∧ i = .int .i64 k ∧ lv = .slice (some ⟨gs.getD k 0, 0, none⟩) (2 ^ (h - k)) (2 ^ (h - k)) ∧ GI w ls h k v gs wr) (fun _ _ i _ => h - (intOf i).toNat)
  case atStart => exact ⟨0, [w.heap.size], Nat.zero_le _, rfl, rfl, unhide HGI⟩
  case round =>
    obtain ⟨k, gs, hk, rfl, rfl, hgi⟩ := hrel
    have HG := hide hgi
    have hwz := hgi.below.size
    obtain ⟨s1, s2, s3⟩ := hgi.sides k (Nat.le_refl _)
    by_cases hk' : k < h
    · have hA := unhide HAb wr k (gs.getD k 0) hk' s2 s1
      rw [unhide HUp k hk'] at hA
      have HA := hide hA
      have hST := fun (w4 w5 : World) (v' : Value) (a1 : Below wr.heap.size wr w4) (a2 : wr.heap.size < w4.heap.size) (a3 : SidesAt w4 wr.heap.size (levelT ls (k + 1) (2 ^ (h - (k + 1))))) => hgi.step (w5 := w5) (v' := v') hk' a1 a2 a3
      have HST := hide hST
      have HOW := hide (fun (w4 : World) (a1 : Below wr.heap.size wr w4) => show w4.ownsRow w.heap.size 116 1 u6 (k + 1) (lvlV h gs) from by
        refine ⟨hgi.own.1, ?_⟩
        rcases hgi.own.2 with h0 | ⟨b', cap', cur, e1, e2, hb', r⟩
        · exact .inl h0
        · exact .inr ⟨b', cap', cur, e1, e2, (a1.block b' (Array.getElem?_eq_some_iff.1 hb').1).trans hb', r⟩)
      have HGET : Hid ((gs ++ [wr.heap.size]).getD (k + 1) 0 = wr.heap.size) := by
        refine hide ?_
        rw [List.getD_eq_getElem?_getD, List.getElem?_append_right (by rw [hgi.len]; omega), hgi.len]
        simp
      generalize gs.getD k 0 = G at *
      generalize 2 ^ (h - k) = N at *
      generalize hN' : 2 ^ (h - (k + 1)) = N' at *
      have HN' := hide hN'
      clear hA hgi s1 s2 s3 hST HG HGI hN'
      go_wp2_with fail
      refine (unhide HA).mono ?_
      rintro e w4 ⟨rfl, hz4, hs4, hb4⟩
      have hO4 := unhide HOW w4 hb4
      have hz4' : w.heap.size ≤ w4.heap.size := by omega
      have HS4 := hide (And.intro hz4 (And.intro hs4 hb4))
      clear HA hs4 hb4
      go_wp2_with (at_builtin; refine wpList_append_own _ rfl (.tmp 18) (.tmp 20) 139 rfl w.heap.size 116 i0 (.slice none 0 0) 1 24 Tryz.underlying139 hi hz0 hz1 hz2 rfl (by decide) _ _ _ rfl (hO4.alloc _) ⟨w4.heap.size, 0, none⟩ 1 1 [_] rfl rfl (cell_one_new _ _ _) ?c2 ?c3 ?c4 ?c5 ?_)
      case c2 => intro u hu; simp at hu; subst hu; rfl
      case c3 => unfold maxLen; omega
      case c4 => omega
      case c5 => simp; omega
      intro v' w5 hown5 hgrow5 _
      have HF := hide (unhide HST w4 w5 v' (unhide HS4).2.2 (unhide HS4).1 (unhide HS4).2.1 hown5 hgrow5)
      clear hown5 hgrow5 hO4 HS4 HST HOW
      go_wp2
      go_roundw
      case rel =>
        refine ⟨k + 1, gs ++ [wr.heap.size], by omega, by go_num, ?_, unhide HF⟩
        rw [unhide HGET, unhide HN']
      case measure => simp [intOf]; omega
    · have hkk : k = h := by omega
      subst hkk
      obtain ⟨V, vc, hv, hlo, hT⟩ := hgi.tree (cap := cap) (unhide HL0)
      have HLO := hide hlo
      clear hlo
      subst hv
      have HT := hide (And.intro hT (hgi.below.alloc hwz (Obj.cells #[Value.slice (some ⟨b, 0, none⟩) ls.length cap, .slice (some ⟨V, 0, none⟩) (k + 1) vc] 142)))
      clear hT hgi HG HGI s1 s2 s3 HAb HUp
      go_wp2
      go_ret
      exact ⟨⟨_, V, vc, gs, rfl, ⟨hwz, (unhide HLO).1, (unhide HLO).2⟩, (unhide HT).1⟩, (unhide HT).2⟩

end Go.Proofs.YtbjobbkgelipmaaGreat
