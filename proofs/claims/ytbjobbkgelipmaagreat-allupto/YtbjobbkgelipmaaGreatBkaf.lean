/-
  titheref's book: the walks of New, Balance, Draw, Pay, Move.
-/
import Derived.Laws.AppendOwnNone
import Derived.Test.YtbjobbkgelipmaaGreatBkad
import Derived.Test.YtbjobbkgelipmaaGreatBkae
namespace Go.Proofs.YtbjobbkgelipmaaGreat
open Go.RowKit Go.Maps

/-- A book's accounts, as titheref has them. -/
def refA (E : List Acct) : List (List UInt8 × Int) := E.map fun a => (a.name, a.bal)
theorem refA_len (E : List Acct) : (refA E).length = E.length := by simp [refA]
theorem refA_at (E : List Acct) (i : Nat) (hi : i < E.length) : (refA E)[i]'(by rw [refA_len]; exact hi) = (E[i].name, E[i].bal) := by simp [refA]
theorem look_at : ∀ (E : List Acct) (s : List UInt8) (i : Nat) (hi : i < E.length), E[i].name = s → (∀ j (hj : j < i), (E[j]'(by omega)).name ≠ s) → lookE E s = some E[i]
  | a :: E, s, 0, _, e, _ => by
    unfold lookE
    rw [List.find?_cons]
    have : (a.name == s) = true := by simpa using e
    rw [this]
    rfl
  | a :: E, s, i + 1, hi, e, hm => by
    have h0 : a.name ≠ s := hm 0 (by omega)
    have ih := look_at E s i (by simpa using hi) (by simpa using e) (fun j hj => by simpa using hm (j + 1) (by omega))
    unfold lookE at ih ⊢
    rw [List.find?_cons]
    have : (a.name == s) = false := by simpa using h0
    rw [this]
    simpa using ih
theorem find_look (E : List Acct) (s : List UInt8) : (findI (refA E) s = -1 ∧ lookE E s = none) ∨ ∃ i, ∃ hi : i < E.length, findI (refA E) s = (i : Int) ∧ lookE E s = some E[i] ∧ E[i].name = s := by
  rcases findI_from s (refA E) with ⟨h1, h2⟩ | ⟨i, hi, h1, h2, h3⟩
  · refine .inl ⟨h1, ?_⟩
    unfold lookE
    rw [List.find?_eq_none]
    intro a ha
    have := h2 (a.name, a.bal) (List.mem_map.2 ⟨a, ha, rfl⟩)
    simpa using this
  · rw [refA_len] at hi
    rw [refA_at E i hi] at h2
    refine .inr ⟨i, hi, h1, look_at E s i hi h2 (fun j hj => ?_), h2⟩
    have := h3 j hj
    rw [refA_at E j (by omega)] at this
    exact this
theorem set_at {E : List Acct} (hp : E.Pairwise (fun a b => a.name ≠ b.name)) {i : Nat} (hi : i < E.length) {s : List UInt8} (hs : E[i].name = s) (x : Int) : refA (setE E s x) = (refA E).set i (s, x) := by
  unfold refA setE
  apply List.ext_getElem
  · simp
  · intro j h1 h2
    have hj : j < E.length := by simpa using h1
    rw [List.getElem_set]
    by_cases e : i = j
    · subst e
      simp [hs]
    · rw [if_neg e]
      simp only [List.getElem_map]
      rw [if_neg]
      intro e2
      rw [List.pairwise_iff_getElem] at hp
      rcases Nat.lt_or_gt_of_ne e with h | h
      · exact hp i j hi hj h (by rw [hs, e2])
      · exact hp j i hj hi h (by rw [hs, e2])
theorem acctVals_set : ∀ (A : List (List UInt8 × Int)) (i : Nat) (hi : i < A.length) (nm : List UInt8) (x : Int), A[i].1 = nm → acctVals (A.set i (nm, x)) = (acctVals A).set (i * 2 + 1) (.int .u64 x)
  | a :: t, 0, _, nm, x, e => by
    have e' : a.1 = nm := e
    subst e'
    rfl
  | a :: t, i + 1, hi, nm, x, e => by
    have ih := acctVals_set t i (by simpa using hi) nm x (by simpa using e)
    unfold acctVals at *
    rw [List.set_cons_succ, List.flatMap_cons, List.flatMap_cons, ih, show (i + 1) * 2 + 1 = (i * 2 + 1) + 1 + 1 by omega]
    rfl
theorem own_set {w : World} {base : Nat} {e : TypeId} {size n g c : Nat} {xs : List Value} (h : w.ownsRow base e size (.slice (some ⟨g, 0, none⟩) n c) n xs) (k : Nat) (v : Value) : (w.setCell ⟨g, k, none⟩ v).ownsRow base e size (.slice (some ⟨g, 0, none⟩) n c) n (xs.set k v) := by
  rcases h.2 with ⟨h0, _⟩ | ⟨g', cap, cur, hv, hb, hh, r1, r2, r3, r4⟩
  · cases h0
  · cases hv
    refine ⟨by rw [List.length_set]; exact h.1, .inr ⟨g, c, cur.setIfInBounds k v, rfl, hb, heap_setCell_same w g k cur e v hh, r1, r2, by simpa using r3, ?_⟩⟩
    rw [Array.toList_setIfInBounds, List.take_set, r4]
theorem RefT.put {N : Nat} {w : World} {Rb g c : Nat} {h seed : Int} {A : List (List UInt8 × Int)} {th : Int} {tv : Value} {told : Bool} (r : RefT N w Rb h seed A (.slice (some ⟨g, 0, none⟩) A.length c) th tv told) {i : Nat} (hi : i < A.length) {nm : List UInt8} (hnm : A[i].1 = nm) (x : Int) :
    RefT N (w.setCell ⟨g, i * 2 + 1, none⟩ (.int .u64 x)) Rb h seed (A.set i (nm, x)) (.slice (some ⟨g, 0, none⟩) A.length c) th tv told := by
  have hne : Rb ≠ g := fun e => by
    obtain ⟨cur, hc⟩ := own_type r.own (g := g) rfl
    rw [← e, r.blk] at hc
    simp at hc
  refine ⟨(Below.heap_setCell _ _ _ _ hne).trans r.blk, ?_⟩
  rw [acctVals_set A i hi nm x hnm, List.length_set]
  exact own_set r.own _ _

theorem RefT.ln {N : Nat} {w : World} {Rb : Nat} {h seed : Int} {A : List (List UInt8 × Int)} {lv : Value} {th : Int} {tv : Value} {told : Bool} (r : RefT N w Rb h seed A lv th tv told) : A.length ≤ maxLen := by
  rcases r.own.2 with ⟨_, e⟩ | ⟨g, cap, cur, e1, e2, e3, e4, e5, _⟩
  · unfold maxLen; omega
  · omega

set_option maxHeartbeats 400000 in
set_option maxRecDepth 100000 in
theorem refnew_bad (h seed : Int) (w : World) (hb : h < 0 ∨ 6 < h) :
    Calls Tryz.prog 46 #[cfgV h seed] w fun e w' => e = .returned (.tuple #[.pointer none, .int .i64 1]) ∧ Below w.heap.size w w' := by
  unfold cfgV
  by_cases h0 : h < 0
  · clear hb
    go_enter Tryz.func46, Tryz.ntmps46
    go_wp2
    go_ret2
    exact ⟨rfl, (Below.refl _ _).alloc (Nat.le_refl _) _⟩
  · have h6 : 6 < h := by omega
    clear hb
    go_enter Tryz.func46, Tryz.ntmps46
    go_wp2
    go_ret2
    exact ⟨rfl, (Below.refl _ _).alloc (Nat.le_refl _) _⟩

set_option maxHeartbeats 400000 in
set_option maxRecDepth 100000 in
theorem refnew_good (N : Nat) (h seed : Int) (w : World) (h0 : 0 ≤ h) (h6 : h ≤ 6) :
    Calls Tryz.prog 46 #[cfgV h seed] w fun e w' => e = .returned (.tuple #[.pointer (some ⟨w.heap.size + 1, 0, none⟩), .int .i64 0]) ∧ RefT N w' (w.heap.size + 1) h seed [] (.slice none 0 0) 0 (.slice none 0 0) false ∧ Below w.heap.size w w' ∧ w'.heap.size = w.heap.size + 2 := by
  unfold cfgV
  have k1 : ¬ h < 0 := by omega
  have k2 : ¬ 6 < h := by omega
  clear h0 h6
  go_enter Tryz.func46, Tryz.ntmps46
  go_wp2
  go_ret2
  refine ⟨rfl, ⟨?_, rfl, .inl ⟨rfl, rfl⟩⟩, ((Below.refl _ _).alloc (Nat.le_refl _) _).alloc (by simp) _, by simp⟩
  rw [show w.heap.size + 1 = (w.alloc (Obj.cells #[Value.int IntKind.i64 h, Value.int IntKind.u64 seed] 35)).heap.size from (World.size_alloc _ _).symm]
  exact heap_alloc_new _ _

/-- An account that was found. -/
theorem RefT.found {N : Nat} {w : World} {Rb : Nat} {h seed : Int} {E : List Acct} {lv : Value} {th : Int} {tv : Value} {told : Bool} (r : RefT N w Rb h seed (refA E) lv th tv told) :
    ∃ a c, lv = .slice a E.length c ∧ E.length ≤ c ∧ w.cell? ⟨Rb, 2, none⟩ = some (.slice a E.length c) ∧ ∀ i (hi : i < E.length), ∃ g, a = some ⟨g, 0, none⟩ ∧ N ≤ g ∧ g ≠ Rb ∧ w.cell? ⟨g, i * 2, none⟩ = some (strV E[i].name) ∧ w.cell? ⟨g, i * 2 + 1, none⟩ = some (.int .u64 E[i].bal) ∧ ∀ j, w.frozen? ⟨g, j, none⟩ = false := by
  have hr := r
  obtain ⟨a, c, rfl, hc, hg⟩ := r.slice
  rw [refA_len] at hc
  refine ⟨a, c, by rw [refA_len], hc, ?_, fun i hi => ?_⟩
  · have := block_cell (i := 2) hr.blk
    rw [refA_len] at this
    exact this
  · obtain ⟨g, rfl, hN, ⟨cur, hcur⟩, hcs⟩ := hg (by rw [refA_len]; omega)
    have ci := hcs i (by rw [refA_len]; exact hi)
    rw [refA_at E i hi] at ci
    exact ⟨g, rfl, hN, fun e => by rw [e, hr.blk] at hcur; simp at hcur, ci.1, ci.2, fun j => block_free hcur⟩

set_option maxHeartbeats 400000 in
set_option maxRecDepth 100000 in
theorem refbal_any {N : Nat} {w : World} {Rb : Nat} {h seed : Int} {E : List Acct} {lv : Value} {th : Int} {tv : Value} {told : Bool} (r : RefT N w Rb h seed (refA E) lv th tv told) (s : ByteArray) (hE : E.length < 9223372036854775807) :
    Calls Tryz.prog 30 #[.pointer (some ⟨Rb, 0, none⟩), .string s] w fun e w' => e = .returned (.tuple #[.int .u64 ((balE E s.data.toList).getD 0), .int .i64 (if (balE E s.data.toList).isSome then 0 else 4)]) ∧ w' = w := by
  have hF := find_any r s.data.toList (by rw [refA_len]; exact hE)
  have es : strV s.data.toList = .string s := rfl
  rw [es] at hF
  unfold balE
  obtain ⟨a, c, rfl, hc, c2, hg⟩ := r.found
  rcases find_look E s.data.toList with ⟨h1, h2⟩ | ⟨i, hi, h1, h2, h3⟩
  · rw [h1] at hF
    rw [h2]
    have HF := hide hF
    clear r hg hF
    go_enter Tryz.func30, Tryz.ntmps30
    go_wp2_with fail
    refine (unhide HF).mono ?_
    rintro e w1 ⟨rfl, rfl⟩
    go_wp2
    go_ret2
    exact ⟨rfl, rfl⟩
  · rw [h1] at hF
    rw [h2]
    obtain ⟨g, rfl, _, _, _, ci, _⟩ := hg i hi
    have HF := hide hF
    simp only [Option.map_some, Option.getD_some, Option.isSome_some, if_true]
    generalize E[i].bal = x at *
    have ii : (i : Int) < (E.length : Int) := by omega
    have i0 : ¬ (i : Int) < 0 := by omega
    clear r hg hF h1 h2 h3
    go_enter Tryz.func30, Tryz.ntmps30
    go_wp2_with fail
    refine (unhide HF).mono ?_
    rintro e w1 ⟨rfl, rfl⟩
    go_wp2
    go_ret2
    exact ⟨rfl, rfl⟩

theorem RefT.same {N : Nat} {w w' : World} {Rb : Nat} {h seed : Int} {A : List (List UInt8 × Int)} {lv : Value} {th : Int} {tv : Value} {told : Bool} (r : RefT N w Rb h seed A lv th tv told) (h1 : w'.heap[Rb]? = w.heap[Rb]?) (h2 : ∀ g, lv.ownBlock = some g → w'.heap[g]? = w.heap[g]?) : RefT N w' Rb h seed A lv th tv told :=
  ⟨h1.trans r.blk, own_same r.own h2⟩
theorem RefT.drew {N : Nat} {w : World} {Rb : Nat} {h seed : Int} {A : List (List UInt8 × Int)} {lv : Value} {th : Int} {tv : Value} {told : Bool} (r : RefT N w Rb h seed A lv th tv told) : RefT N w.drew Rb h seed A lv th tv told := r.same rfl (fun _ _ => rfl)
theorem Kept.drew {S : List Nat} {w w' : World} (h : Kept S w w') : Kept S w w'.drew := h.trans (Kept.of_below (Below.refl _ _).drew)
/-- Where a book of titheref's writes. -/
def refBs (Rb : Nat) (lv : Value) : List Nat := Rb :: lv.ownBlock.toList
theorem names_set {E : List Acct} (hn : E.Pairwise (fun a b => a.name ≠ b.name)) (s : List UInt8) (x : Int) : (setE E s x).Pairwise (fun a b => a.name ≠ b.name) := by
  unfold setE
  rw [List.pairwise_map]
  refine hn.imp fun {a b} hab => ?_
  split <;> split <;> exact hab
theorem RefT.give {N : Nat} {w : World} {Rb g c : Nat} {h seed : Int} {E : List Acct} {th : Int} {tv : Value} {told : Bool} (r : RefT N w Rb h seed (refA E) (.slice (some ⟨g, 0, none⟩) E.length c) th tv told) (hn : E.Pairwise (fun a b => a.name ≠ b.name)) {i : Nat} (hi : i < E.length) {s : List UInt8} (hs : E[i].name = s) (x : Int) :
    RefT N (w.setCell ⟨g, i * 2 + 1, none⟩ (.int .u64 x)) Rb h seed (refA (setE E s x)) (.slice (some ⟨g, 0, none⟩) E.length c) th tv told := by
  rw [← refA_len E] at r
  have := r.put (i := i) (nm := s) (by rw [refA_len]; exact hi) (by rw [refA_at E i hi]; exact hs) x
  rw [refA_len, ← set_at hn hi hs x] at this
  exact this

set_option maxHeartbeats 1000000 in
set_option maxRecDepth 100000 in
theorem refdraw_any {N : Nat} {w : World} {Rb : Nat} {h seed : Int} {E : List Acct} {lv : Value} {th : Int} {tv : Value} {told : Bool} (r : RefT N w Rb h seed (refA E) lv th tv told) (s : ByteArray) (n : Int) (hE : E.length < 9223372036854775807) (hn : E.Pairwise (fun a b => a.name ≠ b.name)) (hpos : ∀ a ∈ E, 0 ≤ a.bal) (hsum : sumE E ≤ maxS) (hn0 : 0 ≤ n) (hn2 : n < 18446744073709551616) :
    Calls Tryz.prog 26 #[.pointer (some ⟨Rb, 0, none⟩), .string s, .int .u64 n] w fun e w' => e = .returned (.int .i64 (drawE E s.data.toList n).1) ∧ RefT N w' Rb h seed (refA (drawE E s.data.toList n).2) lv th tv told ∧ Kept (refBs Rb lv) w w' := by
  have hF := find_any r s.data.toList (by rw [refA_len]; exact hE)
  have es : strV s.data.toList = .string s := rfl
  rw [es] at hF
  unfold drawE
  obtain ⟨a, c, rfl, hc, c2, hg⟩ := r.found
  rcases find_look E s.data.toList with ⟨h1, h2⟩ | ⟨i, hi, h1, h2, h3⟩
  · rw [h1] at hF
    rw [h2]
    have HF := hide hF
    have HR := hide r
    clear r hg hF
    go_enter Tryz.func26, Tryz.ntmps26
    go_wp2_with fail
    refine (unhide HF).mono ?_
    rintro e w1 ⟨rfl, rfl⟩
    go_wp2
    go_ret
    exact ⟨rfl, unhide HR, Kept.refl _ _⟩
  · rw [h1] at hF
    rw [h2]
    obtain ⟨g, rfl, _, hgR, _, ci, hfz⟩ := hg i hi
    have HF := hide hF
    have hle := le_sum hpos (List.getElem_mem hi)
    have hp0 := hpos _ (List.getElem_mem hi)
    have ii : (i : Int) < (E.length : Int) := by omega
    have i0 : ¬ (i : Int) < 0 := by omega
    have fi := hfz (i * 2 + 1)
    by_cases hlt : E[i].bal < n
    · have hng : ¬ n ≤ E[i].bal := by omega
      simp only [hng, if_false]
      have HR := hide r
      generalize E[i].bal = x at *
      clear r hg hF h1 h2 h3
      go_enter Tryz.func26, Tryz.ntmps26
      go_wp2_with fail
      refine (unhide HF).mono ?_
      rintro e w1 ⟨rfl, rfl⟩
      go_wp2
      go_ret
      exact ⟨rfl, unhide HR, Kept.refl _ _⟩
    · have hng : n ≤ E[i].bal := by omega
      simp only [hng, if_true]
      have hK : ∀ v, Kept (refBs Rb (.slice (some ⟨g, 0, none⟩) E.length c)) w (w.setCell ⟨g, i * 2 + 1, none⟩ v) := fun v => Kept.setCell (by simp [refBs, Value.ownBlock]) _
      have HE := hide (And.intro (r.give hn hi h3 (E[i].bal - n)) (hK (.int .u64 (E[i].bal - n))))
      have hwr : IntKind.u64.wrap (E[i].bal - n) = E[i].bal - n := by rw [IntKind.wrap_u64]; unfold maxS at hsum; omega
      generalize E[i].bal = x at *
      clear r hg hF h1 h2 h3 hK hle hp0 hsum hpos hn
      go_enter Tryz.func26, Tryz.ntmps26
      go_wp2_with fail
      refine (unhide HF).mono ?_
      rintro e w1 ⟨rfl, rfl⟩
      go_wp2_with fail
      go_region
      go_wp2
      go_ret
      exact ⟨rfl, (unhide HE).1.drew, (unhide HE).2.drew⟩

/-- What the first accounts hold. -/
def sumK (E : List Acct) (k : Nat) : Int := sumE (E.take k)
theorem sumK_succ (E : List Acct) (k : Nat) (hk : k < E.length) : sumK E (k + 1) = sumK E k + E[k].bal := by
  unfold sumK sumE
  rw [List.take_succ_eq_append_getElem hk, List.map_append, List.sum_append]
  simp
theorem sumE_nonneg : ∀ {E : List Acct}, (∀ a ∈ E, 0 ≤ a.bal) → 0 ≤ sumE E
  | [], _ => by simp [sumE]
  | a :: E, h => by
    have h1 := h a (by simp)
    have h2 := sumE_nonneg (fun b hb => h b (List.mem_cons_of_mem _ hb) : ∀ b ∈ E, 0 ≤ b.bal)
    unfold sumE at *
    simp only [List.map_cons, List.sum_cons]
    omega
theorem sumK_range {E : List Acct} (hp : ∀ a ∈ E, 0 ≤ a.bal) (k : Nat) : 0 ≤ sumK E k ∧ sumK E k ≤ sumE E := by
  have h1 : 0 ≤ sumK E k := sumE_nonneg (fun a ha => hp a (List.mem_of_mem_take ha))
  have h2 : 0 ≤ sumE (E.drop k) := sumE_nonneg (fun a ha => hp a (List.mem_of_mem_drop ha))
  have h3 : sumE E = sumK E k + sumE (E.drop k) := by
    unfold sumK sumE
    rw [← List.sum_append, ← List.map_append, List.take_append_drop]
  omega
theorem sumK_all (E : List Acct) : sumK E E.length = sumE E := by unfold sumK; rw [List.take_length]

set_option maxHeartbeats 1000000 in
set_option maxRecDepth 100000 in
theorem refpay_any {N : Nat} {w : World} {Rb : Nat} {h seed : Int} {E : List Acct} {lv : Value} {th : Int} {tv : Value} {told : Bool} (r : RefT N w Rb h seed (refA E) lv th tv told) (s : ByteArray) (n : Int) (hE : E.length < 9223372036854775807) (hn : E.Pairwise (fun a b => a.name ≠ b.name)) (hpos : ∀ a ∈ E, 0 ≤ a.bal) (hsum : sumE E ≤ maxS) (hn0 : 0 ≤ n) (hn2 : n < 18446744073709551616) :
    Calls Tryz.prog 24 #[.pointer (some ⟨Rb, 0, none⟩), .string s, .int .u64 n] w fun e w' => e = .returned (.int .i64 (payE E s.data.toList n).1) ∧ RefT N w' Rb h seed (refA (payE E s.data.toList n).2) lv th tv told ∧ Kept (refBs Rb lv) w w' := by
  have hF := find_any r s.data.toList (by rw [refA_len]; exact hE)
  have es : strV s.data.toList = .string s := rfl
  rw [es] at hF
  obtain ⟨a, c, rfl, hc, c2, hg⟩ := r.found
  rcases find_look E s.data.toList with ⟨h1, h2⟩ | ⟨i, hi, h1, h2, h3⟩
  · rw [h1] at hF
    have hpr : payE E s.data.toList n = (4, E) := by unfold payE; rw [h2]
    rw [hpr]
    have HF := hide hF
    have HR := hide r
    clear r hg hF
    go_enter Tryz.func24, Tryz.ntmps24
    go_wp2_with fail
    refine (unhide HF).mono ?_
    rintro e w1 ⟨rfl, rfl⟩
    go_wp2
    go_ret
    exact ⟨rfl, unhide HR, Kept.refl _ _⟩
  · rw [h1] at hF
    obtain ⟨g, rfl, _, hgR, _, ci, hfz⟩ := hg i hi
    have hcs : ∀ k (hk : k < E.length), w.cell? ⟨g, k * 2 + 1, none⟩ = some (.int .u64 E[k].bal) := fun k hk => by
      obtain ⟨g', e', _, _, _, ck, _⟩ := hg k hk
      cases e'
      exact ck
    have hpr1 : sumE E + n ≤ maxS → payE E s.data.toList n = (0, setE E s.data.toList (E[i].bal + n)) := fun hb => by unfold payE; rw [h2]; simp only [hb, if_true]
    have hpr2 : ¬ sumE E + n ≤ maxS → payE E s.data.toList n = (5, E) := fun hb => by unfold payE; rw [h2]; simp only [hb, if_false]
    generalize payE E s.data.toList n = pr at *
    have HP1 := hide hpr1
    have HP2 := hide hpr2
    have HF := hide hF
    have HCS := hide hcs
    clear hpr1 hpr2
    have hle := le_sum hpos (List.getElem_mem hi)
    have hp0 := hpos _ (List.getElem_mem hi)
    have ii : (i : Int) < (E.length : Int) := by omega
    have i0 : ¬ (i : Int) < 0 := by omega
    have fi := hfz (i * 2 + 1)
    have HRg := hide (fun k => sumK_range hpos k)
    have HPS := hide hpos
    have HNM := hide hn
    have HR := hide r
    have H3 := hide h3
    clear hg hF hcs r hn h3 hpos
    go_enter Tryz.func24, Tryz.ntmps24
    go_wp2_with fail
    refine (unhide HF).mono ?_
    rintro e w1 ⟨rfl, rfl⟩
    clear HF
    go_wp2
    go_loop [8, 9] (fun t j => ∃ k : Nat, k ≤ E.length ∧ j = .int .i64 k ∧ t = .int .u64 (sumK E k)) (fun _ j => E.length - (intOf j).toNat)
    case atStart => exact ⟨0, Nat.zero_le _, rfl, by simp [sumK, sumE]⟩
    case round =>
      obtain ⟨k, hk, rfl, rfl⟩ := hrel
      by_cases hlt : k < E.length
      · have ck := unhide HCS k hlt
        have ik : (k : Int) < (E.length : Int) := by omega
        have hsc := sumK_succ E k hlt
        have hrg := unhide HRg (k + 1)
        rw [hsc] at hrg
        have hwr : IntKind.u64.wrap (sumK E k + E[k].bal) = sumK E k + E[k].bal := by rw [IntKind.wrap_u64]; unfold maxS at hsum; omega
        generalize E[k].bal = x at *
        generalize hy : sumK E k = y at *
        clear hrg hy
        go_wp2
        exact ⟨⟨k + 1, by omega, by go_num, by rw [hsc]⟩, by simp [intOf]; omega⟩
      · have hke : k = E.length := by omega
        subst hke
        rw [sumK_all]
        have hrg := sumE_nonneg (unhide HPS)
        obtain ⟨S, hS⟩ : ∃ S, sumE E = S := ⟨_, rfl⟩
        rw [hS] at hrg HP1 HP2 hle hsum ⊢
        by_cases hbig : S + n ≤ maxS
        · have hng : ¬ 4611686018427387904 < n := by unfold maxS at hbig; omega
          have hwr : IntKind.u64.wrap (S + n) = S + n := by rw [IntKind.wrap_u64]; unfold maxS at hbig; omega
          have hng2 : ¬ 4611686018427387904 < S + n := by unfold maxS at hbig; omega
          have hK : ∀ v, Kept (refBs Rb (.slice (some ⟨g, 0, none⟩) E.length c)) w1 (w1.setCell ⟨g, i * 2 + 1, none⟩ v) := fun v => Kept.setCell (by simp [refBs, Value.ownBlock]) _
          have HE := hide (And.intro ((unhide HR).give (unhide HNM) hi (unhide H3) (E[i].bal + n)) (hK (.int .u64 (E[i].bal + n))))
          have hwr2 : IntKind.u64.wrap (E[i].bal + n) = E[i].bal + n := by rw [IntKind.wrap_u64]; unfold maxS at hsum hbig; omega
          have HPr := hide (unhide HP1 hbig)
          generalize E[i].bal = x at *
          clear HR HNM H3 HPS HRg HCS HP1 HP2 hK h2 hle hp0 hsum hbig hS hrg h1
          go_wp2_with fail
          go_region
          go_wp2
          go_ret
          rw [unhide HPr]
          exact ⟨rfl, (unhide HE).1.drew, (unhide HE).2.drew⟩
        · have hpr := unhide HP2 (by omega)
          subst hpr
          by_cases hng : 4611686018427387904 < n
          · clear HPS HRg HCS HP1 HP2 h2 hle hp0 hsum hbig hS hrg h1 ci
            go_wp2
            go_ret
            exact ⟨rfl, unhide HR, Kept.refl _ _⟩
          · have hwr : IntKind.u64.wrap (S + n) = S + n := by rw [IntKind.wrap_u64]; unfold maxS at hsum; omega
            have hng2 : 4611686018427387904 < S + n := by unfold maxS at hbig; omega
            clear HPS HRg HCS HP1 HP2 h2 hle hp0 hsum hbig hS hrg h1 ci
            go_wp2
            go_ret
            exact ⟨rfl, unhide HR, Kept.refl _ _⟩

theorem set_len {E : List Acct} {i : Nat} (hi : i < E.length) (s : List UInt8) (x : Int) : ∃ hj : i < (setE E s x).length, ((setE E s x)[i]'hj).name = E[i].name ∧ ((setE E s x)[i]'hj).bal = (if E[i].name = s then x else E[i].bal) := by
  refine ⟨by rw [len_set]; exact hi, ?_⟩
  unfold setE
  simp only [List.getElem_map]
  split <;> simp [*]

set_option maxHeartbeats 1000000 in
set_option maxRecDepth 100000 in
theorem refmove_any {N : Nat} {w : World} {Rb : Nat} {h seed : Int} {E : List Acct} {lv : Value} {th : Int} {tv : Value} {told : Bool} (r : RefT N w Rb h seed (refA E) lv th tv told) (s u : ByteArray) (n : Int) (hE : E.length < 9223372036854775807) (hn : E.Pairwise (fun a b => a.name ≠ b.name)) (hpos : ∀ a ∈ E, 0 ≤ a.bal) (hsum : sumE E ≤ maxS) (hn0 : 0 ≤ n) (hn2 : n < 18446744073709551616) :
    Calls Tryz.prog 28 #[.pointer (some ⟨Rb, 0, none⟩), .string s, .string u, .int .u64 n] w fun e w' => e = .returned (.int .i64 (moveE E s.data.toList u.data.toList n).1) ∧ RefT N w' Rb h seed (refA (moveE E s.data.toList u.data.toList n).2) lv th tv told ∧ Kept (refBs Rb lv) w w' := by
  have hF := find_any r s.data.toList (by rw [refA_len]; exact hE)
  have hG := find_any r u.data.toList (by rw [refA_len]; exact hE)
  have es : strV s.data.toList = .string s := rfl
  have eu : strV u.data.toList = .string u := rfl
  rw [es] at hF
  rw [eu] at hG
  obtain ⟨a, c, rfl, hc, c2, hg⟩ := r.found
  rcases find_look E s.data.toList with ⟨h1, h2⟩ | ⟨i, hi, h1, h2, h3⟩
  · rw [h1] at hF
    have hpr : moveE E s.data.toList u.data.toList n = (4, E) := by unfold moveE; rw [h2]
    rw [hpr]
    have HF := hide hF
    have HG := hide hG
    have HR := hide r
    clear r hg hF hG
    go_enter Tryz.func28, Tryz.ntmps28
    go_wp2_with fail
    refine (unhide HF).mono ?_
    rintro e w1 ⟨rfl, rfl⟩
    go_wp2_with fail
    refine (unhide HG).mono ?_
    rintro e w2 ⟨rfl, rfl⟩
    go_wp2
    go_ret
    exact ⟨rfl, unhide HR, Kept.refl _ _⟩
  · rw [h1] at hF
    obtain ⟨g, rfl, _, hgR, _, ci, hfz⟩ := hg i hi
    have i0 : ¬ (i : Int) < 0 := by omega
    rcases find_look E u.data.toList with ⟨k1, k2⟩ | ⟨j, hj, k1, k2, k3⟩
    · rw [k1] at hG
      have hpr : moveE E s.data.toList u.data.toList n = (4, E) := by unfold moveE; rw [h2, k2]
      rw [hpr]
      have HF := hide hF
      have HG := hide hG
      have HR := hide r
      clear r hg hF hG
      go_enter Tryz.func28, Tryz.ntmps28
      go_wp2_with fail
      refine (unhide HF).mono ?_
      rintro e w1 ⟨rfl, rfl⟩
      go_wp2_with fail
      refine (unhide HG).mono ?_
      rintro e w2 ⟨rfl, rfl⟩
      go_wp2
      go_ret
      exact ⟨rfl, unhide HR, Kept.refl _ _⟩
    · rw [k1] at hG
      have HF := hide hF
      have HG := hide hG
      have hle := le_sum hpos (List.getElem_mem hi)
      have hp0 := hpos _ (List.getElem_mem hi)
      have hlej := le_sum hpos (List.getElem_mem hj)
      have hp0j := hpos _ (List.getElem_mem hj)
      have ii : (i : Int) < (E.length : Int) := by omega
      have jj : (j : Int) < (E.length : Int) := by omega
      have j0 : ¬ (j : Int) < 0 := by omega
      have fi := hfz (i * 2 + 1)
      have fj := hfz (j * 2 + 1)
      by_cases hlt : E[i].bal < n
      · have hng : ¬ n ≤ E[i].bal := by omega
        have hpr : moveE E s.data.toList u.data.toList n = (5, E) := by unfold moveE; rw [h2, k2]; simp only [hng, if_false]
        rw [hpr]
        have HR := hide r
        generalize E[i].bal = x at *
        clear r hg hF hG h1 h2 h3 k1 k2 k3
        go_enter Tryz.func28, Tryz.ntmps28
        go_wp2_with fail
        refine (unhide HF).mono ?_
        rintro e w1 ⟨rfl, rfl⟩
        go_wp2_with fail
        refine (unhide HG).mono ?_
        rintro e w2 ⟨rfl, rfl⟩
        go_wp2
        go_ret
        exact ⟨rfl, unhide HR, Kept.refl _ _⟩
      · have hng : n ≤ E[i].bal := by omega
        have hpr : moveE E s.data.toList u.data.toList n = (0, setE (setE E s.data.toList (E[i].bal - n)) u.data.toList ((if u.data.toList = s.data.toList then E[i].bal - n else E[j].bal) + n)) := by unfold moveE; rw [h2, k2]; simp only [hng, if_true]
        rw [hpr]
        have hK : ∀ (W : World) k v, Kept (refBs Rb (.slice (some ⟨g, 0, none⟩) E.length c)) W (W.setCell ⟨g, k, none⟩ v) := fun W k v => Kept.setCell (by simp [refBs, Value.ownBlock]) _
        have r1 := (r.give hn hi h3 (E[i].bal - n)).drew
        rw [← len_set E s.data.toList (E[i].bal - n)] at r1
        obtain ⟨hj', hjn, hjb⟩ := set_len hj s.data.toList (E[i].bal - n)
        have r2 := r1.give (names_set hn _ _) hj' (hjn.trans k3) ((if u.data.toList = s.data.toList then E[i].bal - n else E[j].bal) + n)
        rw [len_set] at r2
        obtain ⟨a', c', ea, _, d2, hg'⟩ := r1.found
        cases ea
        rw [len_set] at d2
        obtain ⟨g', eg, _, _, _, cj, hfz'⟩ := hg' j hj'
        cases eg
        have fj' := hfz' (j * 2 + 1)
        rw [hjb, k3] at cj
        have hwr : IntKind.u64.wrap (E[i].bal - n) = E[i].bal - n := by rw [IntKind.wrap_u64]; unfold maxS at hsum; omega
        have hwr2 : IntKind.u64.wrap ((if u.data.toList = s.data.toList then E[i].bal - n else E[j].bal) + n) = (if u.data.toList = s.data.toList then E[i].bal - n else E[j].bal) + n := by
          rw [IntKind.wrap_u64]
          unfold maxS at hsum
          split
          · omega
          · rename_i hne
            have hij : i ≠ j := fun e => hne (by subst e; rw [← k3, ← h3])
            have h2s : E[i].bal + E[j].bal ≤ sumE E := by
              have q1 := sum_set (x := 0) hn h2
              have q2 := le_sum (E := setE E s.data.toList 0) (a := (setE E s.data.toList 0)[j]'(by rw [len_set]; exact hj)) (fun b hb => by
                obtain ⟨a, ha, _, _, e | e⟩ := mem_set hb
                · rw [e.2]; exact Int.le_refl _
                · rw [e.2]; exact hpos a ha) (List.getElem_mem _)
              obtain ⟨_, _, q3⟩ := set_len hj s.data.toList 0
              rw [q3, k3, if_neg hne] at q2
              omega
            omega
        have HE := hide (And.intro r2.drew (((hK w (i * 2 + 1) (.int .u64 (E[i].bal - n))).drew.trans (hK _ (j * 2 + 1) (.int .u64 ((if u.data.toList = s.data.toList then E[i].bal - n else E[j].bal) + n)))).drew))
        generalize (if u.data.toList = s.data.toList then E[i].bal - n else E[j].bal) = y at *
        generalize E[i].bal = x at *
        clear r hg hF hG h1 h2 h3 hK hle hp0 hsum hpos hn r1 r2 hg' hjn hjb hfz hfz' hlej hp0j k1 k2 k3
        go_enter Tryz.func28, Tryz.ntmps28
        go_wp2_with fail
        refine (unhide HF).mono ?_
        rintro e w1 ⟨rfl, rfl⟩
        go_wp2_with fail
        refine (unhide HG).mono ?_
        rintro e w2 ⟨rfl, rfl⟩
        go_wp2_with fail
        go_region
        go_wp2_with fail
        generalize hW : (w2.setCell ⟨g, i * 2 + 1, none⟩ (.int .u64 (x - n))).drew = W at *
        clear hW
        go_region
        go_wp2
        go_ret
        exact ⟨rfl, (unhide HE).1, (unhide HE).2⟩

end Go.Proofs.YtbjobbkgelipmaaGreat

/-
  titheref's book: the walks of Open and Close.
-/
namespace Go.Proofs.YtbjobbkgelipmaaGreat
open Go.RowKit Go.Maps Go.WideShapes Go.WideMaps Go.MapKept Go.ChangeMaps Go.WideAt

/-- An append of a list that may be nil onto a list of the call's own. -/
theorem wpList_append_may {P : Program} (w : World) {ops : Array Oper} {rest : List Oper} {o : Oper} {a : Act} {Q : Exit → Act → World → Prop} (hgd : o.guard = none) (s x : Operand) (t : TypeId)
    (ho : o.op = .call { callee := .builtin .append, args := #[s, x], argTypes := #[t, t] })
    (base : Nat) (e : TypeId) (i : TypeInfo) (z : Value) (size bytes : Nat) (ht : P.underlying t = some (.slice e)) (hi : P.info? e = some i) (hz : i.zero = some z)
    (hsize : i.size = size) (hby : i.bytes = bytes) (hzs : z.cells.size = size) (hsz : 0 < size)
    (v : Value) (n : Nat) (xs : List Value) (hs : a.eval s = v) (hown : w.ownsRow base e size v n xs)
    (ax : Option Addr) (m c : Nat) (news : List Value) (hx : a.eval x = .slice ax m c) (hnone : ax = none → m = 0 ∧ c = 0) (hl : news.length = m * size) (hnews : ∀ ad, ax = some ad → ∀ j u, news[j]? = some u → w.cell? (ad.add j) = some u) (h1 : ∀ u ∈ news, u.oneCell' = true)
    (h63 : n + m ≤ maxLen) (hbytes : (n + m) * bytes ≤ 140737488355328) (hbase : base ≤ w.heap.size)
    (h : ∀ v' w', w'.ownsRow base e size v' (n + m) (xs ++ news) → w.grownBy w' v.ownBlock → wpList P ops Q rest (a.put o.dst v') w') : wpList P ops Q (o :: rest) a w := by
  cases ax with
  | none =>
    obtain ⟨rfl, rfl⟩ := hnone rfl
    have hn0 : news = [] := List.eq_nil_of_length_eq_zero (by omega)
    subst hn0
    refine wpList_append_own_none hgd s x t ho base e i size ht hi v n xs hs hown hx (h v w ?_ ⟨rfl, rfl, rfl, Nat.le_refl _, fun _ _ _ => rfl⟩)
    simpa using hown
  | some ad => exact wpList_append_own w hgd s x t ho base e i z size bytes ht hi hz hsize hby hzs hsz v n xs hs hown ad m c news hx hl (hnews ad rfl) h1 h63 hbytes hbase (fun v' w' h2 h3 _ => h v' w' h2 h3)

theorem Tryz.infoAcct : (Tryz.prog.info? 98).map (fun i => (i.zero, i.size, i.bytes)) = some (some (.agg #[.string ⟨#[]⟩, .int .u64 0]), 2, 24) := by kernel_rfl
theorem Tryz.sizeAcct (w : World) : (Go.sizeOf 98).run Tryz.prog w = .ok 2 w := by
  obtain ⟨i0, hi, hz0, hz1, hz2⟩ := info_parts Tryz.infoAcct
  simp [Go.sizeOf, typeInfo, hi, hz1]

theorem less_before : ∀ (a b : List UInt8), Op.bytesLess a b = bytesBefore a b
  | [], [] => rfl
  | [], _ :: _ => rfl
  | _ :: _, [] => rfl
  | a :: r, b :: s => by unfold Op.bytesLess bytesBefore; rw [less_before r s]

/-- An account more, in its place. -/
theorem ins_take (x : Acct) : ∀ (E : List Acct) (k : Nat), k ≤ E.length → (∀ j (hj : j < E.length), j < k → bytesBefore E[j].name x.name = true) → (∀ hk : k < E.length, bytesBefore E[k].name x.name = false) → (∀ a ∈ E, a.name ≠ x.name) → insE x E = E.take k ++ [x] ++ E.drop k
  | [], 0, _, _, _, _ => rfl
  | y :: r, 0, _, _, h2, hne => by
    have h := h2 (by simp)
    have hb : bytesBefore x.name y.name = true := by
      rcases bytes_total x.name y.name (fun e => hne y (by simp) e.symm) with h3 | h3
      · exact h3
      · have h' : bytesBefore y.name x.name = false := h
        rw [h3] at h'
        cases h'
    unfold insE
    rw [if_pos (show (Lit.string x.name).before (.string y.name) = true from hb)]
    rfl
  | y :: r, k + 1, hk, h1, h2, hne => by
    have hy := h1 0 (by simp) (by omega)
    have hnb : ¬ bytesBefore x.name y.name = true := fun h3 => by
      have := bytes_trans _ _ _ h3 hy
      rw [bytes_irrefl] at this
      cases this
    have ih := ins_take x r k (by simpa using hk) (fun j hj hjk => h1 (j + 1) (by simpa using hj) (by omega)) (fun hk' => h2 (by simpa using hk')) (fun a ha => hne a (List.mem_cons_of_mem _ ha))
    unfold insE
    rw [if_neg (show ¬ (Lit.string x.name).before (.string y.name) = true from hnb), ih]
    simp
theorem acctVals_append (A B : List (List UInt8 × Int)) : acctVals (A ++ B) = acctVals A ++ acctVals B := by simp [acctVals]
theorem acctVals_take (A : List (List UInt8 × Int)) (k : Nat) : acctVals (A.take k) = (acctVals A).take (k * 2) := by
  by_cases hk : k ≤ A.length
  · have hl : (acctVals (A.take k)).length = k * 2 := by rw [acctVals_len, List.length_take, Nat.min_eq_left hk]
    have e : acctVals A = acctVals (A.take k) ++ acctVals (A.drop k) := by rw [← acctVals_append, List.take_append_drop]
    rw [e, ← hl]
    exact List.take_left.symm
  · rw [List.take_of_length_le (by omega), List.take_of_length_le (by rw [acctVals_len]; omega)]
theorem acctVals_drop (A : List (List UInt8 × Int)) (k : Nat) (hk : k ≤ A.length) : acctVals (A.drop k) = (acctVals A).drop (k * 2) := by
  have hl : (acctVals (A.take k)).length = k * 2 := by rw [acctVals_len, List.length_take, Nat.min_eq_left hk]
  have e : acctVals A = acctVals (A.take k) ++ acctVals (A.drop k) := by rw [← acctVals_append, List.take_append_drop]
  rw [e, ← hl]
  exact List.drop_left.symm
theorem acctVals_one (A : List (List UInt8 × Int)) : ∀ u ∈ acctVals A, u.oneCell' = true := by
  intro u hu
  unfold acctVals at hu
  obtain ⟨a, _, h⟩ := List.mem_flatMap.1 hu
  simp at h
  rcases h with rfl | rfl <;> rfl

/-- The cells of the accounts' row, from a place on. -/
theorem RefT.cells {N : Nat} {w : World} {Rb : Nat} {h seed : Int} {A : List (List UInt8 × Int)} {a : Option Addr} {n c : Nat} {th : Int} {tv : Value} {told : Bool} (r : RefT N w Rb h seed A (.slice a n c) th tv told) : (a = none → A = [] ∧ n = 0 ∧ c = 0) ∧ ∀ ad, a = some ad → ∃ g, ad = ⟨g, 0, none⟩ ∧ N ≤ g ∧ g < w.heap.size ∧ g ≠ Rb ∧ ∀ j, j < A.length * 2 → w.cell? ⟨g, j, none⟩ = (acctVals A)[j]? := by
  rcases r.own.2 with ⟨e1, e2⟩ | ⟨g, cap, cur, e1, e2, e3, e4, _, e6, e7⟩
  · cases e1
    exact ⟨fun _ => ⟨List.eq_nil_of_length_eq_zero e2, rfl, rfl⟩, fun ad h => by cases h⟩
  · cases e1
    refine ⟨fun h => (by cases h), fun ad h => ?_⟩
    cases h
    refine ⟨g, rfl, e2, (Array.getElem?_eq_some_iff.1 e3).1, fun e => by rw [e, r.blk] at e3; simp at e3, fun j hj => ?_⟩
    rw [block_cell e3, ← e7, List.getElem?_take, if_pos hj]
    simp

set_option linter.unusedSimpArgs false in
theorem run_slice_to (w : World) (a : Option Addr) (n c k : Nat) (hk : k ≤ c) : (Instr.slice 94 (.slice a n c) none (some (.int .i64 (k : Int))) none).run Tryz.prog w = .ok (.slice a k c) w := by
  have h := Tryz.sizeAcct w
  have hu : (underlying 94).run Tryz.prog w = .ok (.slice 98) w := run_underlying Tryz.underlying94 w
  have hk' : (k : Int) ≤ (c : Int) := by omega
  have hk2 : ¬ c < k := by omega
  cases a with
  | none => simp [Instr.slice, hu, Instr.sliceBounds, Instr.sliceBound, asIntOf, h, hk', hk2, Int.natCast_nonneg]
  | some a => simp [Instr.slice, hu, Instr.sliceBounds, Instr.sliceBound, asIntOf, h, hk', hk2, Int.natCast_nonneg, Addr.add]
set_option linter.unusedSimpArgs false in
theorem run_slice_from (w : World) (a : Option Addr) (n c k : Nat) (hk : k ≤ n) : (Instr.slice 94 (.slice a n c) (some (.int .i64 (k : Int))) none none).run Tryz.prog w = .ok (.slice (if c = k then a else a.map (·.add (k * 2))) (n - k) (c - k)) w := by
  have h := Tryz.sizeAcct w
  have hu : (underlying 94).run Tryz.prog w = .ok (.slice 98) w := run_underlying Tryz.underlying94 w
  have hk' : (k : Int) ≤ (n : Int) := by omega
  have hk2 : ¬ n < k := by omega
  simp [Instr.slice, hu, Instr.sliceBounds, Instr.sliceBound, asIntOf, h, hk', hk2, Int.natCast_nonneg]

theorem run_slice_from1 (w : World) (a : Option Addr) (n c k : Nat) (hk : k + 1 ≤ n) : (Instr.slice 94 (.slice a n c) (some (.int .i64 ((k : Int) + 1))) none none).run Tryz.prog w = .ok (.slice (if c = k + 1 then a else a.map (·.add ((k + 1) * 2))) (n - (k + 1)) (c - (k + 1))) w := by
  have h := run_slice_from w a n c (k + 1) hk
  rw [show ((k + 1 : Nat) : Int) = (k : Int) + 1 by omega] at h
  exact h
theorem rem_at : ∀ {E : List Acct} {s : List UInt8} {i : Nat}, E.Pairwise (fun a b => a.name ≠ b.name) → (hi : i < E.length) → E[i].name = s → remE E s = E.take i ++ E.drop (i + 1)
  | a :: E, s, 0, hp, _, e => by
    rw [List.pairwise_cons] at hp
    have e' : a.name = s := e
    unfold remE
    rw [List.filter_cons, if_neg (by simp [e'])]
    simp only [List.take_zero, List.nil_append, List.drop_succ_cons, List.drop_zero]
    rw [List.filter_eq_self]
    intro b hb
    have := hp.1 b hb
    rw [e'] at this
    simp [Ne.symm this]
  | a :: E, s, i + 1, hp, hi, e => by
    rw [List.pairwise_cons] at hp
    have hi' : i < E.length := by simpa using hi
    have e' : E[i].name = s := e
    have hne : a.name ≠ s := fun h => hp.1 E[i] (List.getElem_mem hi') (h.trans e'.symm)
    have ih := rem_at hp.2 hi' e'
    unfold remE at ih ⊢
    rw [List.filter_cons, if_pos (by simp [hne]), ih]
    simp
theorem refA_rem {E : List Acct} {s : List UInt8} {i : Nat} (hp : E.Pairwise (fun a b => a.name ≠ b.name)) (hi : i < E.length) (e : E[i].name = s) : refA (remE E s) = (refA E).take i ++ (refA E).drop (i + 1) := by
  rw [rem_at hp hi e]
  simp [refA]

theorem own_slice {w : World} {b : Nat} {e : TypeId} {sz : Nat} {v : Value} {n : Nat} {xs : List Value} (h : w.ownsRow b e sz v n xs) : ∃ a c, v = .slice a n c := by
  rcases h.2 with ⟨h0, h1⟩ | ⟨g, cap, cur, hv, _⟩
  · exact ⟨none, 0, by rw [h0, h1]⟩
  · exact ⟨_, _, hv⟩
theorem own_lower2 {w : World} {b b' : Nat} {e : TypeId} {sz : Nat} {v : Value} {n : Nat} {xs : List Value} (h : w.ownsRow b e sz v n xs) (hb : b' ≤ b) : w.ownsRow b' e sz v n xs := by
  refine ⟨h.1, ?_⟩
  rcases h.2 with h0 | ⟨g, cap, cur, hv, hg, r⟩
  · exact .inl h0
  · exact .inr ⟨g, cap, cur, hv, Nat.le_trans hb hg, r⟩
/-- The row of accounts is another one. -/
theorem RefT.row {N : Nat} {w w' : World} {Rb : Nat} {h seed : Int} {A A' : List (List UInt8 × Int)} {lv lv' : Value} {th : Int} {tv : Value} {told : Bool} (r : RefT N w Rb h seed A lv th tv told) (h1 : w'.heap[Rb]? = w.heap[Rb]?) (ho : w'.ownsRow N 98 2 lv' A'.length (acctVals A')) :
    RefT N (w'.setCell ⟨Rb, 2, none⟩ lv') Rb h seed A' lv' th tv told := by
  have hb : w'.heap[Rb]? = _ := h1.trans r.blk
  refine ⟨heap_setCell_same w' Rb 2 _ _ lv' hb, own_same ho (fun g hg => Below.heap_setCell _ _ _ _ (fun e => ?_))⟩
  have e' : g = Rb := e
  obtain ⟨cur, hc⟩ := own_type ho hg
  rw [e', hb] at hc
  simp at hc
theorem Kept.grown {S : List Nat} {w w' w'' : World} {r : Option Nat} (h : Kept S w w') (hg : w'.grownBy w'' r) (hr : ∀ g, r = some g → w.heap.size ≤ g) : Kept S w w'' :=
  ⟨hg.os.trans h.os, hg.tape.trans h.tape, hg.output.trans h.output, Nat.le_trans h.size hg.size, fun k hk hs => (hg.block k (Nat.lt_of_lt_of_le hk h.size) (fun e => by have := hr k e.symm; omega)).trans (h.block k hk hs)⟩

set_option maxHeartbeats 1000000 in
set_option maxRecDepth 100000 in
theorem refclose_any {N : Nat} {w : World} {Rb : Nat} {h seed : Int} {E : List Acct} {lv : Value} {th : Int} {tv : Value} {told : Bool} (r : RefT N w Rb h seed (refA E) lv th tv told) (s : ByteArray) (hE : E.length ≤ 2000000000000) (hN : N ≤ w.heap.size) (hn : E.Pairwise (fun a b => a.name ≠ b.name)) (hpos : ∀ a ∈ E, 0 ≤ a.bal) :
    Calls Tryz.prog 22 #[.pointer (some ⟨Rb, 0, none⟩), .string s] w fun e w' => e = .returned (.int .i64 (closeE E s.data.toList).1) ∧ (∃ lv', RefT N w' Rb h seed (refA (closeE E s.data.toList).2) lv' th tv told ∧ (lv' = lv ∨ ∀ g, lv'.ownBlock = some g → w.heap.size ≤ g)) ∧ Kept [Rb] w w' := by
  have hF := find_any r s.data.toList (by rw [refA_len]; omega)
  have es : strV s.data.toList = .string s := rfl
  rw [es] at hF
  obtain ⟨a, c, rfl, hc, c2, hg⟩ := r.found
  rcases find_look E s.data.toList with ⟨h1, h2⟩ | ⟨i, hi, h1, h2, h3⟩
  · rw [h1] at hF
    have hpr : closeE E s.data.toList = (4, E) := by unfold closeE; rw [h2]
    rw [hpr]
    have HF := hide hF
    have HR := hide r
    clear r hg hF
    go_enter Tryz.func22, Tryz.ntmps22
    go_wp2_with fail
    refine (unhide HF).mono ?_
    rintro e w1 ⟨rfl, rfl⟩
    go_wp2
    go_ret
    exact ⟨rfl, ⟨_, unhide HR, .inl rfl⟩, Kept.refl _ _⟩
  · rw [h1] at hF
    obtain ⟨g, rfl, _, hgR, _, ci, hfz⟩ := hg i hi
    have i0 : ¬ (i : Int) < 0 := by omega
    have ii : (i : Int) < (E.length : Int) := by omega
    have HF := hide hF
    by_cases hb : 0 < E[i].bal
    · have hpr : closeE E s.data.toList = (6, E) := by
        unfold closeE; rw [h2]
        have : ¬ E[i].bal = 0 := by omega
        simp only [this, if_false]
      rw [hpr]
      have HR := hide r
      generalize E[i].bal = x at *
      clear r hg hF h1 h2 h3
      go_enter Tryz.func22, Tryz.ntmps22
      go_wp2_with fail
      refine (unhide HF).mono ?_
      rintro e w1 ⟨rfl, rfl⟩
      go_wp2
      go_ret
      exact ⟨rfl, ⟨_, unhide HR, .inl rfl⟩, Kept.refl _ _⟩
    · have hb0 : E[i].bal = 0 := by have := hpos _ (List.getElem_mem hi); omega
      have hpr : closeE E s.data.toList = (0, remE E s.data.toList) := by
        unfold closeE; rw [h2]
        simp only [hb0, if_true]
      rw [hpr]
      obtain ⟨i0', hi', hz0, hz1, hz2⟩ := info_parts Tryz.infoAcct
      have hcell := (r.cells.2 _ rfl)
      obtain ⟨g', eg, _, hgl, _, hcs⟩ := hcell
      cases eg
      rw [refA_len] at hcs
      have hs1 := fun w => run_slice_to w (some ⟨g, 0, none⟩) E.length c i (by omega)
      have i1 : (i : Int) + 1 ≤ (E.length : Int) := by omega
      have i2 : (0 : Int) ≤ (i : Int) + 1 := by omega
      have hrem : refA (remE E s.data.toList) = (refA E).take i ++ (refA E).drop (i + 1) := refA_rem hn hi h3
      have HR := hide r
      have HRem := hide hrem
      have HCS := hide hcs
      rw [hb0] at ci
      clear r hg hF h1 h2 h3 hrem hcs hb hpos hn hfz hpr
      go_enter Tryz.func22, Tryz.ntmps22
      go_wp2_with fail
      refine (unhide HF).mono ?_
      rintro e w1 ⟨rfl, rfl⟩
      go_wp2_with (at_builtin; refine wpList_append_may _ rfl (.tmp 21) (.tmp 27) 94 rfl w1.heap.size 98 i0' _ 2 24 Tryz.underlying94 hi' hz0 hz1 hz2 rfl (by decide) _ 0 [] rfl ⟨rfl, .inl ⟨rfl, rfl⟩⟩ (some ⟨g, 0, none⟩) i c ((acctVals (refA E)).take (i * 2)) rfl ?c0 ?c1 ?c2 ?c3 ?c4 ?c5 (Nat.le_refl _) ?_)
      case c0 => intro e; cases e
      case c1 => rw [List.length_take, acctVals_len, refA_len]; omega
      case c2 =>
        intro ad ea j u hu
        cases ea
        rw [List.getElem?_take] at hu
        split at hu
        · rw [addr_add, Nat.zero_add, unhide HCS j (by omega)]; exact hu
        · cases hu
      case c3 => exact fun u hu => acctVals_one _ u (List.mem_of_mem_take hu)
      case c4 => unfold maxLen; omega
      case c5 => omega
      intro v1 w2 hown2 hg2
      have hRb2 : w2.heap[Rb]? = w1.heap[Rb]? := hg2.block _ (Array.getElem?_eq_some_iff.1 (unhide HR).blk).1 (by intro e; cases e)
      have c2' : w2.cell? ⟨Rb, 2, none⟩ = some (.slice (some ⟨g, 0, none⟩) E.length c) := (World.cell?_of_block (a := ⟨Rb, 2, none⟩) hRb2).trans c2
      have hgc2 : w2.heap[g]? = w1.heap[g]? := hg2.block _ hgl (by intro e; cases e)
      have HV1 : Hid (∀ g, v1.ownBlock = some g → w1.heap.size ≤ g) := hide fun g hg => (hown2.lt g hg).1
      have HO2 := hide hown2
      have HG2 := hide hg2
      have HRB := hide hRb2
      have HGC := hide hgc2
      have hsz2 := hg2.size
      clear hown2 hg2 hRb2 hgc2 c2
      by_cases hci : c = i + 1
      · go_wp2_with (at_builtin; refine wpList_append_may _ rfl (.tmp 30) (.tmp 37) 94 rfl w1.heap.size 98 i0' _ 2 24 Tryz.underlying94 hi' hz0 hz1 hz2 rfl (by decide) _ _ _ rfl (unhide HO2) _ _ _ ((acctVals (refA E)).drop ((i + 1) * 2)) rfl ?c0 ?c1 ?c2 ?c3 ?c4 ?c5 (by omega) ?_)
        case c1 => rw [List.length_drop, acctVals_len, refA_len]; omega
        case c2 =>
          intro ad ea j u hu
          rw [List.getElem?_drop] at hu
          have hjl : (i + 1) * 2 + j < (acctVals (refA E)).length := (List.getElem?_eq_some_iff.1 hu).1
          rw [acctVals_len, refA_len] at hjl
          first
            | omega
            | (cases ea
               rw [addr_add]
               rw [World.cell?_of_block (a := ⟨g, (i + 1) * 2 + j, none⟩) (unhide HGC), unhide HCS _ (by omega)]
               exact hu)
        case c3 => exact fun u hu => acctVals_one _ u (List.mem_of_mem_drop hu)
        case c4 => unfold maxLen; omega
        case c5 => omega
        intro v3 w3 hown3 hg3
        obtain ⟨a3, e3, rfl⟩ := own_slice hown3
        have hv1 : ∀ g, v1.ownBlock = some g → w1.heap.size ≤ g := unhide HV1
        have hRl := (Array.getElem?_eq_some_iff.1 (unhide HR).blk).1
        have hRb3 : w3.heap[Rb]? = w1.heap[Rb]? := (hg3.block _ (by omega) (fun e => by have := hv1 _ e.symm; omega)).trans (unhide HRB)
        have hlen3 : i + (E.length - (i + 1)) = (refA (remE E s.data.toList)).length := by
          rw [unhide HRem, List.length_append, List.length_take, List.length_drop, refA_len]
          omega
        have hvals3 : (acctVals (refA E)).take (i * 2) ++ (acctVals (refA E)).drop ((i + 1) * 2) = acctVals (refA (remE E s.data.toList)) := by
          rw [unhide HRem, acctVals_append, acctVals_take, acctVals_drop _ _ (by rw [refA_len]; omega)]
        rw [hvals3] at hown3
        have hown3' : w3.ownsRow N 98 2 (.slice a3 (i + (E.length - (i + 1))) e3) (refA (remE E s.data.toList)).length (acctVals (refA (remE E s.data.toList))) := by
          rw [← hlen3]
          exact own_lower2 hown3 hN
        have hdone : RefT N (w3.setCell ⟨Rb, 2, none⟩ (.slice a3 (i + (E.length - (i + 1))) e3)) Rb h seed (refA (remE E s.data.toList)) (.slice a3 (i + (E.length - (i + 1))) e3) th tv told := (unhide HR).row hRb3 hown3'
        have hv3 : ∀ g, (Value.slice a3 (i + (E.length - (i + 1))) e3).ownBlock = some g → w1.heap.size ≤ g := fun gg hgg => (hown3.lt gg hgg).1
        have hK3 : Kept [Rb] w1 (w3.setCell ⟨Rb, 2, none⟩ (.slice a3 (i + (E.length - (i + 1))) e3)) := (((Kept.refl [Rb] w1).grown (unhide HG2) (fun g e => by cases e)).grown hg3 hv1).trans (Kept.setCell (by simp) _)
        have c3' : w3.cell? ⟨Rb, 2, none⟩ = some (.slice (some ⟨g, 0, none⟩) E.length c) := block_cell (hRb3.trans (unhide HR).blk)
        have f3' : w3.frozen? ⟨Rb, 2, none⟩ = false := block_free (hRb3.trans (unhide HR).blk)
        have HD := hide (And.intro hdone (And.intro hv3 hK3))
        clear hown3 hg3 hown3' hdone hv3 hK3 hvals3 hlen3 hRb3 HO2 HG2 HRB HGC HR HRem HCS hv1 HV1
        go_wp2
        go_ret
        exact ⟨rfl, ⟨_, (unhide HD).1, .inr (unhide HD).2.1⟩, (unhide HD).2.2⟩
      · go_wp2_with (at_builtin; refine wpList_append_may _ rfl (.tmp 30) (.tmp 37) 94 rfl w1.heap.size 98 i0' _ 2 24 Tryz.underlying94 hi' hz0 hz1 hz2 rfl (by decide) _ _ _ rfl (unhide HO2) _ _ _ ((acctVals (refA E)).drop ((i + 1) * 2)) rfl ?d0 ?d1 ?d2 ?d3 ?d4 ?d5 (by omega) ?_)
        case d0 => intro e; cases e
        case d1 => rw [List.length_drop, acctVals_len, refA_len]; omega
        case d2 =>
          intro ad ea j u hu
          rw [List.getElem?_drop] at hu
          have hjl : (i + 1) * 2 + j < (acctVals (refA E)).length := (List.getElem?_eq_some_iff.1 hu).1
          rw [acctVals_len, refA_len] at hjl
          first
            | omega
            | (cases ea
               rw [addr_add]
               rw [World.cell?_of_block (a := ⟨g, (i + 1) * 2 + j, none⟩) (unhide HGC), unhide HCS _ (by omega)]
               exact hu)
        case d3 => exact fun u hu => acctVals_one _ u (List.mem_of_mem_drop hu)
        case d4 => unfold maxLen; omega
        case d5 => omega
        intro v3 w3 hown3 hg3
        obtain ⟨a3, e3, rfl⟩ := own_slice hown3
        have hv1 : ∀ g, v1.ownBlock = some g → w1.heap.size ≤ g := unhide HV1
        have hRl := (Array.getElem?_eq_some_iff.1 (unhide HR).blk).1
        have hRb3 : w3.heap[Rb]? = w1.heap[Rb]? := (hg3.block _ (by omega) (fun e => by have := hv1 _ e.symm; omega)).trans (unhide HRB)
        have hlen3 : i + (E.length - (i + 1)) = (refA (remE E s.data.toList)).length := by
          rw [unhide HRem, List.length_append, List.length_take, List.length_drop, refA_len]
          omega
        have hvals3 : (acctVals (refA E)).take (i * 2) ++ (acctVals (refA E)).drop ((i + 1) * 2) = acctVals (refA (remE E s.data.toList)) := by
          rw [unhide HRem, acctVals_append, acctVals_take, acctVals_drop _ _ (by rw [refA_len]; omega)]
        rw [hvals3] at hown3
        have hown3' : w3.ownsRow N 98 2 (.slice a3 (i + (E.length - (i + 1))) e3) (refA (remE E s.data.toList)).length (acctVals (refA (remE E s.data.toList))) := by
          rw [← hlen3]
          exact own_lower2 hown3 hN
        have hdone : RefT N (w3.setCell ⟨Rb, 2, none⟩ (.slice a3 (i + (E.length - (i + 1))) e3)) Rb h seed (refA (remE E s.data.toList)) (.slice a3 (i + (E.length - (i + 1))) e3) th tv told := (unhide HR).row hRb3 hown3'
        have hv3 : ∀ g, (Value.slice a3 (i + (E.length - (i + 1))) e3).ownBlock = some g → w1.heap.size ≤ g := fun gg hgg => (hown3.lt gg hgg).1
        have hK3 : Kept [Rb] w1 (w3.setCell ⟨Rb, 2, none⟩ (.slice a3 (i + (E.length - (i + 1))) e3)) := (((Kept.refl [Rb] w1).grown (unhide HG2) (fun g e => by cases e)).grown hg3 hv1).trans (Kept.setCell (by simp) _)
        have c3' : w3.cell? ⟨Rb, 2, none⟩ = some (.slice (some ⟨g, 0, none⟩) E.length c) := block_cell (hRb3.trans (unhide HR).blk)
        have f3' : w3.frozen? ⟨Rb, 2, none⟩ = false := block_free (hRb3.trans (unhide HR).blk)
        have HD := hide (And.intro hdone (And.intro hv3 hK3))
        clear hown3 hg3 hown3' hdone hv3 hK3 hvals3 hlen3 hRb3 HO2 HG2 HRB HGC HR HRem HCS hv1 HV1
        go_wp2
        go_ret
        exact ⟨rfl, ⟨_, (unhide HD).1, .inr (unhide HD).2.1⟩, (unhide HD).2.2⟩

end Go.Proofs.YtbjobbkgelipmaaGreat
