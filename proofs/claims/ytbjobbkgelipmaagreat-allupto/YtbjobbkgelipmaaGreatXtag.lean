/-
  What follows of proofs that one report accepts, in plain words: two texts of one digest, or no more than the report's sum.
-/
import Derived.Laws.EntriesVeiled
import Derived.WalkSpells
import Derived.BigQuiet
import Derived.Test.YtbjobbkgelipmaaGreatXtac
import Derived.Test.YtbjobbkgelipmaaGreatXtaf
import Derived.Test.YtbjobbkgelipmaaGreatXtae
import Derived.Test.YtbjobbkgelipmaaGreatBkad
namespace Go.Proofs.YtbjobbkgelipmaaGreat
open Go.RowKit

/-- What stands at a level of a proof's way. -/
def nowOf (l : List UInt8) (k : Nat) : Dg × Int := match accUp l k with
  | some p => p.2
  | none => ((0, 0, 0), 0)
def besOf (l : List UInt8) (k : Nat) : Dg × Int := sideAt l (19 + bAt l 2 + 11 * k)

/-- A proof's way, level by level. -/
structure Way (l : List UInt8) (h : Nat) (ts : List (List UInt8)) : Prop where
  len : ts.length = h + 1
  t0 : ts.getD 0 [] = accText0 l
  n0 : (nowOf l 0).2 = accBal l
  up : ∀ k, k < h → ts.getD (k + 1) [] = upText (bAt l 1 / 2 ^ k) (nowOf l k) (besOf l k)
  sum : ∀ k, k < h → (nowOf l (k + 1)).2 = (nowOf l k).2 + (besOf l k).2
  dig : ∀ k, k ≤ h → (nowOf l k).1 = dg (ts.getD k [])
  rng : ∀ k, k ≤ h → 0 ≤ (nowOf l k).2 ∧ (nowOf l k).2 ≤ maxS
  brg : ∀ k, k < h → 0 ≤ (besOf l k).2 ∧ (besOf l k).2 ≤ maxS

theorem way_of {l : List UInt8} (hb : accBal l ≤ maxS) (hb0 : 0 ≤ accBal l) : ∀ {h : Nat} {ts : List (List UInt8)} {now : Dg × Int}, accUp l h = some (ts, now) → Way l h ts ∧ nowOf l h = now
  | 0, ts, now, hu => by
    have e : nowOf l 0 = (dg (accText0 l), accBal l) := rfl
    simp only [accUp, Option.some.injEq, Prod.mk.injEq] at hu
    obtain ⟨rfl, rfl⟩ := hu
    refine ⟨⟨rfl, rfl, rfl, fun k hk => by omega, fun k hk => by omega, fun k hk => ?_, fun k hk => ?_, fun k hk => by omega⟩, rfl⟩
    · obtain rfl : k = 0 := by omega
      rfl
    · obtain rfl : k = 0 := by omega
      exact ⟨hb0, hb⟩
  | h + 1, ts, now, hu => by
    have hu' := hu
    simp only [accUp] at hu
    split at hu
    · cases hu
    · rename_i ts' now' h'
      obtain ⟨W, hn⟩ := way_of hb hb0 h'
      split at hu
      · cases hu
      · rename_i hc
        simp only [Option.some.injEq, Prod.mk.injEq] at hu
        obtain ⟨e1, e2⟩ := hu
        have hnow : nowOf l (h + 1) = now := by unfold nowOf; rw [hu']
        have hle := accUp_le hb hb0 hu'
        have hx := sideAt_range l (19 + bAt l 2 + 11 * h)
        have gl : ∀ k, k ≤ h → ts.getD k [] = ts'.getD k [] := fun k hk => by
          rw [← e1, List.getD_eq_getElem?_getD, List.getD_eq_getElem?_getD, List.getElem?_append_left (by rw [W.len]; omega)]
        have gr : ts.getD (h + 1) [] = upText (bAt l 1 / 2 ^ h) now' (sideAt l (19 + bAt l 2 + 11 * h)) := by
          rw [← e1, List.getD_eq_getElem?_getD, List.getElem?_append_right (by rw [W.len]; omega), W.len]
          simp
        refine ⟨⟨?_, ?_, W.n0, fun k hk => ?_, fun k hk => ?_, fun k hk => ?_, fun k hk => ?_, fun k hk => ?_⟩, hnow⟩
        · rw [← e1, List.length_append, W.len]; rfl
        · rw [gl 0 (by omega)]; exact W.t0
        · by_cases e : k = h
          · subst e
            rw [gr, hn]; rfl
          · rw [gl (k + 1) (by omega)]; exact W.up k (by omega)
        · by_cases e : k = h
          · subst e
            rw [hnow, ← e2, hn]; rfl
          · exact W.sum k (by omega)
        · by_cases e : k = h + 1
          · subst e
            rw [hnow, gr, ← e2]
          · rw [gl k (by omega)]; exact W.dig k (by omega)
        · by_cases e : k = h + 1
          · subst e
            rw [hnow]
            exact ⟨hle.1, hle.2.1⟩
          · exact W.rng k (by omega)
        · by_cases e : k = h
          · subst e
            unfold besOf
            exact ⟨hx.1, Int.not_lt.1 fun h => hc (Or.inl h)⟩
          · exact W.brg k (by omega)

theorem upText_sides (q : Nat) (y z : Dg × Int) (h0 : 0 ≤ y.2) (h1 : y.2 ≤ maxS) (h0' : 0 ≤ z.2) (h1' : z.2 ≤ maxS) :
    sideAt (upText q y z) (if q % 2 = 1 then 12 else 1) = y ∧ sideAt (upText q y z) (if q % 2 = 1 then 1 else 12) = z := by
  have m : maxS < 18446744073709551616 := by unfold maxS; omega
  have A : ∀ u v : Dg × Int, 0 ≤ u.2 → u.2 ≤ maxS → 0 ≤ v.2 → v.2 ≤ maxS → sideAt (1 :: (sideB u ++ sideB v)) 1 = u ∧ sideAt (1 :: (sideB u ++ sideB v)) 12 = v := fun u v a b c d => by
    have k1 := sideAt_sideB [1] (sideB v) u a (by omega)
    have k2 := sideAt_sideB ([1] ++ sideB u) [] v c (by omega)
    simp only [sideB_length, List.length_cons, List.length_nil, List.append_nil, List.singleton_append] at k1 k2
    exact ⟨k1, k2⟩
  unfold upText
  by_cases e : q % 2 = 1
  · rw [if_pos e, if_pos e, if_pos e]
    exact ⟨(A z y h0' h1' h0 h1).2, (A z y h0' h1' h0 h1).1⟩
  · rw [if_neg e, if_neg e, if_neg e]
    exact ⟨(A y z h0 h1 h0' h1').1, (A y z h0 h1 h0' h1').2⟩

/-- A proof that a root accepts: its way. -/
theorem way_acc {h : Nat} {root : Dg × Int} {l : List UInt8} (hs : (accOk h root l).isSome = true) : Way l h ((accOk h root l).getD []) ∧ nowOf l h = root ∧ accBal l ≤ maxS := by
  unfold accOk at *
  split at hs
  · cases hs
  · rename_i hb
    rw [if_neg hb]
    unfold accTexts at *
    cases hu : accUp l h with
    | none => rw [hu] at hs; cases hs
    | some p =>
      obtain ⟨ts, now⟩ := p
      rw [hu] at hs
      simp only at hs ⊢
      split at hs
      · rename_i e
        rw [if_pos e]
        obtain ⟨W, hn⟩ := way_of (Int.not_lt.1 hb) (accBal_range l).1 hu
        exact ⟨W, hn.trans e, Int.not_lt.1 hb⟩
      · cases hs

variable {h : Nat} {root : Dg × Int} {Ls : List (List UInt8)}

theorem mem_textsAt {lv pl : Nat} {t : List UInt8} : t ∈ textsAt lv pl (Ls.map (dataOf h root)) ↔ ∃ l ∈ Ls, bAt l 1 / 2 ^ lv = pl ∧ ((accOk h root l).getD []).getD lv [] = t := by
  unfold textsAt
  simp only [List.mem_map, List.mem_filter, decide_eq_true_eq]
  constructor
  · rintro ⟨p, ⟨⟨l, hl, rfl⟩, hp⟩, rfl⟩
    exact ⟨l, hl, hp, rfl⟩
  · rintro ⟨l, hl, hp, rfl⟩
    exact ⟨_, ⟨⟨l, hl, rfl⟩, hp⟩, rfl⟩

/-- What two proofs have at a place that both go through, where all texts above are one: the same digest and sum. -/
theorem same_now (hA : ∀ l ∈ Ls, (accOk h root l).isSome = true) {lv pl : Nat} (hlv : lv ≤ h) (hup : lv < h → firstTwo (textsAt (lv + 1) (pl / 2) (Ls.map (dataOf h root))) = none) {l l' : List UInt8} (hl : l ∈ Ls) (hl' : l' ∈ Ls) (e : bAt l 1 / 2 ^ lv = pl) (e' : bAt l' 1 / 2 ^ lv = pl) : nowOf l lv = nowOf l' lv := by
  obtain ⟨W, hn, _⟩ := way_acc (hA l hl)
  obtain ⟨W', hn', _⟩ := way_acc (hA l' hl')
  by_cases hh : lv = h
  · subst hh
    rw [hn, hn']
  · have hlt : lv < h := by omega
    have d : ∀ x : Nat, x / 2 ^ lv = pl → x / 2 ^ (lv + 1) = pl / 2 := fun x hx => by rw [Nat.pow_succ, ← Nat.div_div_eq_div_mul, hx]
    have ht := firstTwo_none (hup hlt) _ (mem_textsAt.2 ⟨l, hl, d _ e, rfl⟩) _ (mem_textsAt.2 ⟨l', hl', d _ e', rfl⟩)
    rw [W.up lv hlt, W'.up lv hlt, e, e'] at ht
    have r := W.rng lv hlv
    have r' := W'.rng lv hlv
    have b := W.brg lv hlt
    have b' := W'.brg lv hlt
    have s := (upText_sides pl (nowOf l lv) (besOf l lv) r.1 r.2 b.1 b.2).1
    have s' := (upText_sides pl (nowOf l' lv) (besOf l' lv) r'.1 r'.2 b'.1 b'.2).1
    rw [← s, ← s', ht]

/-- Two texts that Extract shows have one digest. -/
theorem ext_digest (hA : ∀ l ∈ Ls, (accOk h root l).isSome = true) {lv pl : Nat} (hlv : lv ≤ h) (hpl : pl < 2 ^ (h - lv)) (hN : NoneBefore h (Ls.map (dataOf h root)) (placeNo h lv pl)) {x y : List UInt8} (hx : x ∈ textsAt lv pl (Ls.map (dataOf h root))) (hy : y ∈ textsAt lv pl (Ls.map (dataOf h root))) : dg x = dg y := by
  obtain ⟨l, hl, e, rfl⟩ := mem_textsAt.1 hx
  obtain ⟨l', hl', e', rfl⟩ := mem_textsAt.1 hy
  have W := (way_acc (hA l hl)).1
  have W' := (way_acc (hA l' hl')).1
  rw [← W.dig lv hlv, ← W'.dig lv hlv]
  rw [same_now hA hlv (fun hlt => hN (lv + 1) (pl / 2) (by omega) ?_ (placeNo_lv (by omega) ?_ (by omega))) hl hl' e e']
  all_goals
    have : 2 ^ (h - lv) = 2 ^ (h - (lv + 1)) * 2 := by rw [← Nat.pow_succ]; congr 1; omega
    omega

theorem extR_digest (hA : ∀ l ∈ Ls, (accOk h root l).isSome = true) {x y : List UInt8} (hE : ExtR h (Ls.map (dataOf h root)) x y) : (x = [] ∧ y = [] ∧ NoneBefore h (Ls.map (dataOf h root)) (2 ^ (h + 1))) ∨ (x ≠ y ∧ dg x = dg y ∧ x ≠ [] ∧ y ≠ []) := by
  rcases hE with ⟨lv, pl, h1, h2, h3, h4⟩ | hE
  · obtain ⟨k1, k2, k3⟩ := firstTwo_some h3
    have ne : ∀ t, t ∈ textsAt lv pl (Ls.map (dataOf h root)) → t ≠ [] := fun t ht => by
      obtain ⟨l, hl, e, rfl⟩ := mem_textsAt.1 ht
      have W := (way_acc (hA l hl)).1
      cases lv with
      | zero => rw [W.t0]; exact List.cons_ne_nil _ _
      | succ k => rw [W.up k (by omega)]; unfold upText; split <;> exact List.cons_ne_nil _ _
    exact .inr ⟨k1, ext_digest hA h1 h2 h4 k2 k3, ne x k2, ne y k3⟩
  · exact .inl hE

/-- All balances of proofs below a place. -/
def balAt (lv pl : Nat) (Ls : List (List UInt8)) : Int := ((Ls.filter fun l => decide (bAt l 1 / 2 ^ lv = pl)).map accBal).foldr (· + ·) 0

theorem sum_split (p q : List UInt8 → Bool) (r : List UInt8 → Bool) (f : List UInt8 → Int) (hpq : ∀ l, r l = (p l || q l)) (hno : ∀ l, p l = true → q l = false) : ∀ Ls : List (List UInt8), ((Ls.filter r).map f).foldr (· + ·) 0 = ((Ls.filter p).map f).foldr (· + ·) 0 + ((Ls.filter q).map f).foldr (· + ·) 0
  | [] => rfl
  | l :: Ls => by
    have ih := sum_split p q r f hpq hno Ls
    have h1 := hpq l
    have h2 := hno l
    cases hp : p l <;> cases hq : q l
    · rw [hp, hq] at h1
      rw [List.filter_cons_of_neg (by simp [h1]), List.filter_cons_of_neg (by simp [hp]), List.filter_cons_of_neg (by simp [hq]), ih]
    · rw [hp, hq] at h1
      rw [List.filter_cons_of_pos (by simp [h1]), List.filter_cons_of_neg (by simp [hp]), List.filter_cons_of_pos (by simp [hq])]
      simp only [List.map_cons, List.foldr_cons, ih]
      omega
    · rw [hp, hq] at h1
      rw [List.filter_cons_of_pos (by simp [h1]), List.filter_cons_of_pos (by simp [hp]), List.filter_cons_of_neg (by simp [hq])]
      simp only [List.map_cons, List.foldr_cons, ih]
      omega
    · rw [h2 hp] at hq; cases hq

theorem balAt_up (lv pl : Nat) : balAt (lv + 1) pl Ls = balAt lv (2 * pl) Ls + balAt lv (2 * pl + 1) Ls := by
  unfold balAt
  refine sum_split _ _ _ _ (fun l => ?_) (fun l hl => ?_) Ls
  · have : bAt l 1 / 2 ^ (lv + 1) = bAt l 1 / 2 ^ lv / 2 := by rw [Nat.pow_succ, Nat.div_div_eq_div_mul]
    rw [this]
    generalize bAt l 1 / 2 ^ lv = q
    rw [← Bool.decide_or]
    exact decide_eq_decide.2 (by omega)
  · simp only [decide_eq_true_eq] at hl
    simp only [decide_eq_false_iff_not]
    omega

theorem names_apart (hA : ∀ l ∈ Ls, (accOk h root l).isSome = true) (hH : ∀ l ∈ Ls, accHead h l) (hN : NoneBefore h (Ls.map (dataOf h root)) (2 ^ (h + 1))) {l l' : List UInt8} (hl : l ∈ Ls) (hl' : l' ∈ Ls) (e : bAt l 1 = bAt l' 1) : accName l = accName l' := by
  have W := (way_acc (hA l hl)).1
  have W' := (way_acc (hA l' hl')).1
  have hpl : bAt l 1 < 2 ^ (h - 0) := (hH l hl).2.2.1
  have ht := firstTwo_none (hN 0 (bAt l 1) (by omega) hpl (placeNo_lt hpl)) _ (mem_textsAt.2 ⟨l, hl, by simp, rfl⟩) _ (mem_textsAt.2 ⟨l', hl', by simp [e], rfl⟩)
  rw [W.t0, W'.t0] at ht
  unfold accText0 at ht
  have ht' : (l.drop 2).take (17 + bAt l 2) = (l'.drop 2).take (17 + bAt l' 2) := (List.cons.inj ht).2
  have h1 := (hH l hl)
  have h2 := (hH l' hl')
  have n2 : bAt l 2 = bAt l' 2 := by
    have := congrArg (fun t : List UInt8 => t.getD 0 0) ht'
    simp only [List.getD_eq_getElem?_getD, List.getElem?_take, List.getElem?_drop] at this
    rw [if_pos (by omega), if_pos (by omega)] at this
    unfold bAt
    simp only [List.getD_eq_getElem?_getD]
    exact congrArg UInt8.toNat this
  unfold accName
  have := congrArg (fun t : List UInt8 => (t.drop 1).take (bAt l 2)) ht'
  simp only [List.drop_take, List.drop_drop, List.take_take] at this
  rw [show min (bAt l 2) (17 + bAt l 2 - 1) = bAt l 2 by omega, show min (bAt l 2) (17 + bAt l' 2 - 1) = bAt l 2 by omega] at this
  rw [← n2]
  exact this

theorem bal_le (hA : ∀ l ∈ Ls, (accOk h root l).isSome = true) (hH : ∀ l ∈ Ls, accHead h l) (hN : NoneBefore h (Ls.map (dataOf h root)) (2 ^ (h + 1))) (hD : (Ls.map accName).Nodup) :
    ∀ lv, lv ≤ h → ∀ pl, pl < 2 ^ (h - lv) → ∀ l ∈ Ls, bAt l 1 / 2 ^ lv = pl → balAt lv pl Ls ≤ (nowOf l lv).2
  | 0, _, pl, _, l, hl, e => by
    have W := (way_acc (hA l hl)).1
    rw [W.n0]
    have hall : ∀ l' ∈ Ls.filter (fun l => decide (bAt l 1 / 2 ^ 0 = pl)), accName l' = accName l := fun l' h' => by
      rw [List.mem_filter, decide_eq_true_eq] at h'
      exact names_apart hA hH hN h'.1 hl (by simp at e h'; omega)
    have hsub : ((Ls.filter (fun l => decide (bAt l 1 / 2 ^ 0 = pl))).map accName).Nodup := (List.filter_sublist.map accName).nodup hD
    have hm : l ∈ Ls.filter (fun l => decide (bAt l 1 / 2 ^ 0 = pl)) := List.mem_filter.2 ⟨hl, by simpa using e⟩
    unfold balAt
    generalize Ls.filter (fun l => decide (bAt l 1 / 2 ^ 0 = pl)) = F at *
    match F, hall, hsub, hm with
    | [a], _, _, hm =>
      rw [List.mem_singleton] at hm
      subst hm
      simp
    | a :: b :: F, hall, hsub, _ =>
      have e1 := hall a (by simp)
      have e2 := hall b (by simp)
      simp [e1, e2] at hsub
  | lv + 1, hlv, pl, hpl, l, hl, e => by
    have p2 : 2 ^ (h - lv) = 2 ^ (h - (lv + 1)) * 2 := by rw [← Nat.pow_succ]; congr 1; omega
    have W := (way_acc (hA l hl)).1
    rw [W.sum lv (by omega), balAt_up]
    have r := W.rng lv (by omega)
    have b := W.brg lv (by omega)
    -- what both sides tell
    have key : ∀ q, q / 2 = pl → ∀ m : Int, 0 ≤ m → (∀ l' ∈ Ls, bAt l' 1 / 2 ^ lv = q → (nowOf l' lv).2 = m) → balAt lv q Ls ≤ m := fun q hq m hm hw => by
      by_cases hx : ∃ l' ∈ Ls, bAt l' 1 / 2 ^ lv = q
      · obtain ⟨l', hl', e'⟩ := hx
        rw [← hw l' hl' e']
        exact bal_le hA hH hN hD lv (by omega) q (by omega) l' hl' e'
      · have : Ls.filter (fun l => decide (bAt l 1 / 2 ^ lv = q)) = [] := List.filter_eq_nil_iff.2 fun l' hl' hd => hx ⟨l', hl', by simpa using hd⟩
        unfold balAt
        rw [this]
        exact hm
    have hlq : bAt l 1 / 2 ^ lv / 2 = pl := by rw [Nat.div_div_eq_div_mul, ← Nat.pow_succ]; exact e
    have other : ∀ l' ∈ Ls, bAt l' 1 / 2 ^ lv / 2 = pl → upText (bAt l 1 / 2 ^ lv) (nowOf l lv) (besOf l lv) = upText (bAt l' 1 / 2 ^ lv) (nowOf l' lv) (besOf l' lv) := fun l' hl' e' => by
      have W' := (way_acc (hA l' hl')).1
      have e'' : bAt l' 1 / 2 ^ (lv + 1) = pl := by rw [Nat.pow_succ, ← Nat.div_div_eq_div_mul]; exact e'
      have ht := firstTwo_none (hN (lv + 1) pl hlv hpl (placeNo_lt hpl)) _ (mem_textsAt.2 ⟨l, hl, e, rfl⟩) _ (mem_textsAt.2 ⟨l', hl', e'', rfl⟩)
      rwa [W.up lv (by omega), W'.up lv (by omega)] at ht
    have s := upText_sides (bAt l 1 / 2 ^ lv) (nowOf l lv) (besOf l lv) r.1 r.2 b.1 b.2
    have right : ∀ l' ∈ Ls, bAt l' 1 / 2 ^ lv / 2 = pl → ((bAt l' 1 / 2 ^ lv) % 2 = (bAt l 1 / 2 ^ lv) % 2 → (nowOf l' lv).2 = (nowOf l lv).2) ∧ ((bAt l' 1 / 2 ^ lv) % 2 ≠ (bAt l 1 / 2 ^ lv) % 2 → (nowOf l' lv).2 = (besOf l lv).2) := fun l' hl' e' => by
      have W' := (way_acc (hA l' hl')).1
      have r' := W'.rng lv (by omega)
      have b' := W'.brg lv (by omega)
      have s' := (upText_sides (bAt l' 1 / 2 ^ lv) (nowOf l' lv) (besOf l' lv) r'.1 r'.2 b'.1 b'.2).1
      rw [← other l' hl' e'] at s'
      constructor
      · intro hm
        rw [hm] at s'
        rw [← s', s.1]
      · intro hm
        have hm2 : (if (bAt l' 1 / 2 ^ lv) % 2 = 1 then 12 else 1) = (if (bAt l 1 / 2 ^ lv) % 2 = 1 then 1 else 12) := by
          by_cases z : (bAt l 1 / 2 ^ lv) % 2 = 1
          · rw [if_pos z, if_neg (by omega)]
          · rw [if_neg z, if_pos (by omega)]
        rw [hm2, s.2] at s'
        rw [← s']
    by_cases z : (bAt l 1 / 2 ^ lv) % 2 = 1
    · have k1 := key (2 * pl) (by omega) (besOf l lv).2 b.1 (fun l' hl' e' => (right l' hl' (by omega)).2 (by omega))
      have k2 := key (2 * pl + 1) (by omega) (nowOf l lv).2 r.1 (fun l' hl' e' => (right l' hl' (by omega)).1 (by omega))
      omega
    · have k1 := key (2 * pl) (by omega) (nowOf l lv).2 r.1 (fun l' hl' e' => (right l' hl' (by omega)).1 (by omega))
      have k2 := key (2 * pl + 1) (by omega) (besOf l lv).2 b.1 (fun l' hl' e' => (right l' hl' (by omega)).2 (by omega))
      omega

/-- Where no place has two texts, all balances are together no more than the root's sum. -/
theorem sound_sum (hA : ∀ l ∈ Ls, (accOk h root l).isSome = true) (hH : ∀ l ∈ Ls, accHead h l) (hN : NoneBefore h (Ls.map (dataOf h root)) (2 ^ (h + 1))) (hD : (Ls.map accName).Nodup) (hr : 0 ≤ root.2) : (Ls.map accBal).foldr (· + ·) 0 ≤ root.2 := by
  have e : balAt h 0 Ls = (Ls.map accBal).foldr (· + ·) 0 := by
    unfold balAt
    rw [List.filter_eq_self.2 fun l hl => by simpa using Nat.div_eq_of_lt (hH l hl).2.2.1]
  cases hL : Ls with
  | nil => exact hr
  | cons l t =>
    rw [← hL, ← e]
    have hl : l ∈ Ls := by rw [hL]; simp
    have := bal_le hA hH hN hD h (Nat.le_refl _) 0 (by simp) l hl (Nat.div_eq_of_lt (hH l hl).2.2.1)
    rwa [(way_acc (hA l hl)).2.1] at this

end Go.Proofs.YtbjobbkgelipmaaGreat

/-
  The walk of tithe's climb where the step notes texts.
-/
namespace Go.Proofs.YtbjobbkgelipmaaGreat
open Go.RowKit

/-- The function value of follow. -/
def noteV (A C : Nat) : Value := .func (.func 107) #[] #[.pointer (some ⟨A, 0, none⟩), .pointer (some ⟨C, 0, none⟩)]

/-- The texts on the way up, up to a level. -/
def upT (f : Nat → Nat → List (List UInt8)) (p : Nat) (ts : List (List UInt8)) : Nat → Nat → Nat → List (List UInt8)
  | 0 => f
  | k + 1 => addT (upT f p ts k) (k + 1) (p / 2 ^ (k + 1)) (ts.getD (k + 1) [])

/-- What lies in memory on the way up. -/
structure CF (N : Nat) (w : World) (A C B h a : Nat) (f : Nat → Nat → List (List UInt8)) (R H : Nat) (e0 e1 e2 x : Int) (w' : World) : Prop where
  fn : w'.heap[w.heap.size]? = some (.cells #[noteV A C] 178 (0, 0))
  res : w'.heap[R]? = some (.cells #[.int .u8 0, .int .u8 0, .int .u8 0, .int .u64 0] 106 (0, 0))
  here : w'.heap[H]? = some (.cells #[.int .u8 e0, .int .u8 e1, .int .u8 e2, .int .u64 x] 106 (0, 0))
  gt : R < H
  wR : w.heap.size < R
  kept : Kept [A, B] w w'
  fs : FS N w' A C B h a f
section
variable {N : Nat} {w W w4 : World} {A C B h a : Nat} {f f' : Nat → Nat → List (List UInt8)} {R H : Nat} {e0 e1 e2 x : Int}
theorem CF.later (c : CF N w A C B h a f R H e0 e1 e2 x W) (hb : Below W.heap.size W w4) : CF N w A C B h a f R H e0 e1 e2 x w4 :=
  ⟨(hb.block _ (Array.getElem?_eq_some_iff.1 c.fn).1).trans c.fn, (hb.block _ (Array.getElem?_eq_some_iff.1 c.res).1).trans c.res, (hb.block _ (Array.getElem?_eq_some_iff.1 c.here).1).trans c.here, c.gt, c.wR, c.kept.trans (Kept.of_below hb), c.fs.later hb⟩
theorem CF.step {a' : Nat} (c : CF N w A C B h a f R H e0 e1 e2 x W) (fs : FS N w4 A C B h a' f') (hk : Kept [A, B] W w4) : CF N w A C B h a' f' R H e0 e1 e2 x w4 := by
  obtain ⟨cs, hB⟩ := c.fs.tab.blk
  have e : ∀ (g : Nat) (ds : Array Value) (t : TypeId), t ≠ 3 → t ≠ 185 → W.heap[g]? = some (.cells ds t (0, 0)) → w4.heap[g]? = some (.cells ds t (0, 0)) := fun g ds t h1 h2 hg => (hk.block g (Array.getElem?_eq_some_iff.1 hg).1 (by simp only [List.mem_cons, List.not_mem_nil, or_false, not_or]; exact ⟨cells_ne' hg c.fs.at_ h1, cells_ne' hg hB h2⟩)).trans hg
  exact ⟨e _ _ _ (by decide) (by decide) c.fn, e _ _ _ (by decide) (by decide) c.res, e _ _ _ (by decide) (by decide) c.here, c.gt, c.wR, c.kept.trans hk, fs⟩
theorem CF.set (c : CF N w A C B h a f R H e0 e1 e2 x W) (f0 f1 f2 q : Int) :
    CF N w A C B h a f R H f0 f1 f2 q ((((W.setCell ⟨H, 0, none⟩ (.int .u8 f0)).setCell ⟨H, 1, none⟩ (.int .u8 f1)).setCell ⟨H, 2, none⟩ (.int .u8 f2)).setCell ⟨H, 3, none⟩ (.int .u64 q)) := by
  have h2 := c.gt
  have h3 := c.wR
  have e : ∀ k, k ≠ H → ((((W.setCell ⟨H, 0, none⟩ (.int .u8 f0)).setCell ⟨H, 1, none⟩ (.int .u8 f1)).setCell ⟨H, 2, none⟩ (.int .u8 f2)).setCell ⟨H, 3, none⟩ (.int .u64 q)).heap[k]? = W.heap[k]? := fun k hk => by
    rw [Below.heap_setCell _ _ _ _ hk, Below.heap_setCell _ _ _ _ hk, Below.heap_setCell _ _ _ _ hk, Below.heap_setCell _ _ _ _ hk]
  have hH : w.heap.size ≤ H := by omega
  refine ⟨(e _ (by omega)).trans c.fn, (e _ (by omega)).trans c.res, ?_, c.gt, c.wR, (((c.kept.fresh hH _).fresh hH _).fresh hH _).fresh hH _, c.fs.poke4 c.here _ _ _ _⟩
  have g1 := heap_setCell_same W H 0 _ _ (.int .u8 f0) c.here
  have g2 := heap_setCell_same _ H 1 _ _ (.int .u8 f1) g1
  have g3 := heap_setCell_same _ H 2 _ _ (.int .u8 f2) g2
  exact heap_setCell_same _ H 3 _ _ (.int .u64 q) g3
end

theorem placeNo_half {h k p : Nat} (hk : k < h) : placeNo h k (p / 2 ^ k) / 2 = placeNo h (k + 1) (p / 2 ^ k / 2) := by
  have p2 : 2 ^ (h - k) = 2 ^ (h - (k + 1)) * 2 := by rw [← Nat.pow_succ]; congr 1; omega
  unfold placeNo
  omega
theorem place_lt {h k p : Nat} (hp : p < 2 ^ h) (hk : k ≤ h) : p / 2 ^ k < 2 ^ (h - k) := by
  rw [Nat.div_lt_iff_lt_mul (Nat.two_pow_pos _), ← Nat.pow_add, show h - k + k = h by omega]
  exact hp
theorem sides_apart {N : Nat} {W : World} {A C B h a sb : Nat} {f : Nat → Nat → List (List UInt8)} {ys : List (Dg × Int)} (s : FS N W A C B h a f) (hS : SidesAt W sb ys) (hy : 0 < ys.length) : sb ≠ A ∧ sb ≠ B := by
  have h0 := (hS 0 hy).1
  simp only [Nat.zero_mul] at h0
  constructor
  · rintro rfl
    have := (block_cell s.at_ (i := 0)).symm.trans h0
    simp at this
  · rintro rfl
    have := s.tab.z0.symm.trans h0
    simp at this

set_option maxHeartbeats 2000000 in
set_option maxRecDepth 100000 in
theorem climbf_any {N : Nat} {w : World} {A C B h : Nat} {f : Nat → Nat → List (List UInt8)} (l : List UInt8) (sb : Nat) (ts : List (List UInt8)) (hh : h ≤ 6) (hacc : accHead h l) (hW : Way l h ts) (hlt : sb < w.heap.size)
    (hS : SidesAt w sb (sidesOf (l.drop (19 + bAt l 2)) h)) (s : FS N w A C B h (placeNo h 0 (bAt l 1)) f) (hN : N ≤ w.heap.size) :
    Calls Tryz.prog 96 #[.agg #[noteV A C], proofV (bAt l 1 : Int) ⟨(accName l).toArray⟩ (accBal l) (accSalt l) (some ⟨sb, 0, none⟩) h h] w fun e w' => (∃ v, e = .returned v) ∧ FS N w' A C B h (placeNo h h (bAt l 1 / 2 ^ h)) (upT f (bAt l 1) ts h) ∧ Kept [A, B] w w' := by
  have hb1 : bAt l 1 < 2 ^ h := hacc.2.2.1
  have h64 : 2 ^ h ≤ 2 ^ 6 := Nat.pow_le_pow_right (by omega) hh
  have hleaf := fun w => leafside_any ⟨(accName l).toArray⟩ (accBal l) (accSalt l) w (by rw [accName_size h l hacc]; exact hacc.2.2.2.2.1) (accBal_range l).1 (accBal_range l).2 (accSalt_range l).1 (accSalt_range l).2
  have e0 : (⟨(accName l).toArray⟩ : ByteArray).data.toList = accName l := by simp
  rw [e0, ← accText0_leaf h l hacc] at hleaf
  have hn0 : nowOf l 0 = (dg (accText0 l), accBal l) := rfl
  obtain ⟨pl, hpl⟩ : ∃ pl, bAt l 1 = pl := ⟨_, rfl⟩
  obtain ⟨nm, hnm⟩ : ∃ nm : ByteArray, ⟨(accName l).toArray⟩ = nm := ⟨_, rfl⟩
  obtain ⟨bal, hbl⟩ : ∃ x, accBal l = x := ⟨_, rfl⟩
  obtain ⟨salt, hsl⟩ : ∃ x, accSalt l = x := ⟨_, rfl⟩
  rw [hnm, hbl, hsl] at hleaf
  rw [hpl] at s
  rw [hpl, hnm, hbl, hsl]
  rw [hbl] at hn0
  have HS := hide hS
  have HWY := hide hW
  have HN0 := hide hn0
  obtain ⟨t0, t1, t2, hT⟩ : ∃ t0 t1 t2 : Int, sideV (dg (accText0 l)) bal = .agg #[.int .u8 t0, .int .u8 t1, .int .u8 t2, .int .u64 bal] := ⟨_, _, _, rfl⟩
  have HT := hide hT
  rw [hT] at hleaf
  have HL := fun w => hide (hleaf w)
  rw [hpl] at hb1
  have HFS := hide (And.intro s (And.intro hN hpl))
  have hPB : pl ≤ 255 := by omega
  clear hS hleaf e0 hacc hnm hbl hsl hT hW hn0 s hN
  unfold proofV leafV noteV at *
  go_enter Tryz.func96, Tryz.ntmps96
  go_wp2_with fail
  obtain ⟨R, hR⟩ : ∃ R, w.heap.size + 1 + 1 = R := ⟨_, rfl⟩
  rw [hR]
  obtain ⟨P, hP⟩ : ∃ P, w.heap.size + 1 = P := ⟨_, rfl⟩
  rw [hP]
  refine (unhide (HL _)).mono ?_
  rintro e w1 ⟨rfl, hb1'⟩
  have k0 := heap_next (o := sideC 0 0 0 0) (heap_next (o := (Obj.cells #[Value.int IntKind.i64 (pl : Int), Value.string nm, Value.int IntKind.u64 bal, Value.int IntKind.u64 salt, Value.slice (some ⟨sb, 0, none⟩) h h] 118)) (heap_alloc_new w (Obj.cells #[noteV A C] 178)))
  have k1 := heap_next (o := sideC 0 0 0 0) (heap_new1 w (Obj.cells #[noteV A C] 178) (Obj.cells #[Value.int IntKind.i64 (pl : Int), Value.string nm, Value.int IntKind.u64 bal, Value.int IntKind.u64 salt, Value.slice (some ⟨sb, 0, none⟩) h h] 118))
  have k2 := heap_new2 w (Obj.cells #[noteV A C] 178) (Obj.cells #[Value.int IntKind.i64 (pl : Int), Value.string nm, Value.int IntKind.u64 bal, Value.int IntKind.u64 salt, Value.slice (some ⟨sb, 0, none⟩) h h] 118) (sideC 0 0 0 0)
  have hz1 : R < w1.heap.size := by have := hb1'.size; simp only [World.size_alloc] at this; omega
  have m0 := (hb1'.block _ (Array.getElem?_eq_some_iff.1 k0).1).trans k0
  have m1 := (hb1'.block _ (Array.getElem?_eq_some_iff.1 k1).1).trans k1
  have m2 := (hb1'.block _ (Array.getElem?_eq_some_iff.1 k2).1).trans k2
  have hB1 : Below w.heap.size w w1 := ((((Below.refl _ _).alloc (Nat.le_refl _) _).alloc (by simp) _).alloc (by simp; omega) _).trans (hb1'.mono (by simp only [World.size_alloc]; omega))
  have hB2 : Below w.heap.size w (w1.alloc (sideC t0 t1 t2 bal)) := hB1.alloc hB1.size _
  have hCF : CF N w A C B h (placeNo h 0 pl) f R w1.heap.size t0 t1 t2 bal (w1.alloc (sideC t0 t1 t2 bal)) := by
    refine ⟨heap_next m0, ?_, heap_alloc_new w1 _, hz1, by omega, Kept.of_below hB2, (unhide HFS).1.later hB2⟩
    rw [← hR]
    exact heap_next m2
  have p0 : w1.cell? ⟨P, 0, none⟩ = some (.int .i64 (pl : Int)) := by rw [← hP]; exact block_cell m1
  have p4 : w1.cell? ⟨P, 4, none⟩ = some (.slice (some ⟨sb, 0, none⟩) h h) := by rw [← hP]; exact block_cell m1
  have hPw : P < w1.heap.size := by omega
  have HCM := hide hCF
  have HRR := hide hR
  clear k0 k1 k2 m0 m1 m2 hB1 hB2 hCF hb1' HL hR hz1 hP
  unfold sideC at *
  go_upto_region 2 with fail
  have HA1 : Below w1.heap.size w1 (w1.alloc (Obj.cells #[Value.int IntKind.u8 t0, Value.int IntKind.u8 t1, Value.int IntKind.u8 t2, Value.int IntKind.u64 bal] 106)) := (Below.refl _ _).alloc (Nat.le_refl _) _
  replace p0 := keepB HA1 hPw p0
  replace p4 := keepB HA1 hPw p4
  generalize (w1.alloc (Obj.cells #[Value.int IntKind.u8 t0, Value.int IntKind.u8 t1, Value.int IntKind.u8 t2, Value.int IntKind.u64 bal] 106)) = W2 at *
  clear HA1 hPw
  go_wp2
  go_loopw [7, 8, 19] (fun p _ i wr => ∃ (k : Nat), k ≤ h ∧ i = .int .i64 k ∧ p = .int .i64 ((pl / 2 ^ k : Nat) : Int) ∧ CF N w A C B h (placeNo h k (pl / 2 ^ k)) (upT f pl ts k) R w1.heap.size ((nowOf l k).1.1.toNat : Int) ((nowOf l k).1.2.1.toNat : Int) ((nowOf l k).1.2.2.toNat : Int) (nowOf l k).2 wr) (fun _ _ i _ => h - (intOf i).toNat)
  case atStart =>
    refine ⟨0, Nat.zero_le _, rfl, by simp, ?_⟩
    have hT := unhide HT
    unfold sideV at hT
    simp at hT
    rw [unhide HN0]
    simp only [Nat.pow_zero, Nat.div_one]
    rw [hT.1, hT.2.1, hT.2.2]
    exact unhide HCM
  case round =>
    obtain ⟨k, hk, rfl, rfl, hcm⟩ := hrel
    generalize hH : w1.heap.size = H at *
    clear hH p0 p4 HCM
    by_cases hk' : k < h
    · have hlen : 0 < (sidesOf (l.drop (19 + bAt l 2)) h).length := by rw [sidesOf_len]; omega
      have hap := sides_apart (unhide HFS).1 (unhide HS) hlen
      have hyk := (unhide HS) k (by rw [sidesOf_len]; exact hk')
      have esb : ∀ j, wr.cell? ⟨sb, j, none⟩ = w.cell? ⟨sb, j, none⟩ := fun j => World.cell?_of_block (w := w) (hcm.kept.block sb hlt (by simp only [List.mem_cons, List.not_mem_nil, or_false, not_or]; exact hap))
      rw [sidesOf_at hk'] at hyk
      have hup := (unhide HWY).up k hk'
      have hsm := (unhide HWY).sum k hk'
      have hdg := (unhide HWY).dig (k + 1) (by omega)
      have hrg := (unhide HWY).rng k (by omega)
      have hrg1 := (unhide HWY).rng (k + 1) (by omega)
      have hbr := (unhide HWY).brg k hk'
      rw [hup, (unhide HFS).2.2] at hdg
      rw [(unhide HFS).2.2] at hup
      unfold besOf at hup hsm hbr hdg
      generalize hY : sideAt l (19 + bAt l 2 + 11 * k) = y at *
      obtain ⟨q, hq⟩ : ∃ q, pl / 2 ^ k = q := ⟨_, rfl⟩
      have hq2 : q / 2 = pl / 2 ^ (k + 1) := by rw [← hq, Nat.div_div_eq_div_mul, Nat.pow_succ]
      have hq255 : q ≤ 255 := by rw [← hq]; exact Nat.le_trans (Nat.div_le_self _ _) hPB
      have ha255 : placeNo h k q ≤ 255 := by
        have h1 := placeNo_lt (h := h) (lv := k) (pl := q) (by rw [← hq]; exact place_lt hb1 hk)
        have h2 : 2 ^ (h + 1) ≤ 2 ^ 7 := Nat.pow_le_pow_right (by omega) (by omega)
        omega
      have hhalf : placeNo h k q / 2 = placeNo h (k + 1) (q / 2) := by rw [← hq]; exact placeNo_half hk'
      have hlt2 : q / 2 < 2 ^ (h - (k + 1)) := by rw [hq2]; exact place_lt hb1 (by omega)
      rw [hq] at hcm hup hdg
      have hJ : ∀ W', FS N W' A C B h (placeNo h k q) (upT f pl ts k) → N ≤ W'.heap.size → Calls Tryz.prog 107 #[.int .i64 (q : Int), sideV (nowOf l k).1 (nowOf l k).2, sideV y.1 y.2, .pointer (some ⟨A, 0, none⟩), .pointer (some ⟨C, 0, none⟩)] W' fun e W'' => e = .returned (.tuple #[sideV (nowOf l (k + 1)).1 (nowOf l (k + 1)).2, .bool true]) ∧ FS N W'' A C B h (placeNo h (k + 1) (pl / 2 ^ (k + 1))) (upT f pl ts (k + 1)) ∧ Kept [A, B] W' W'' := fun W' fs' hN' => by
        have := fstep_any (now := nowOf l k) (y := y) fs' hN' (show k + 1 ≤ h by omega) hh hlt2 hhalf ha255 hq255 hrg.1 hbr.1 (by rw [← hsm]; exact hrg1.2)
        rw [hhalf, ← hdg, ← hsm, ← hup, hq2] at this
        exact this
      have hNw : ∀ W', Kept [A, B] w W' → N ≤ W'.heap.size := fun W' hk => Nat.le_trans (unhide HFS).2.1 hk.size
      obtain ⟨c0, c1, c2, c3⟩ := hyk
      rw [← esb] at c0 c1 c2 c3
      unfold sideV at hJ
      have HQ2 := hide hq2
      rw [hq]
      generalize ((nowOf l k).1.1.toNat : Int) = f0 at *
      generalize ((nowOf l k).1.2.1.toNat : Int) = f1 at *
      generalize ((nowOf l k).1.2.2.toNat : Int) = f2 at *
      obtain ⟨s0, hs0⟩ : ∃ s0 : Int, ((nowOf l (k + 1)).1.1.toNat : Int) = s0 := ⟨_, rfl⟩
      obtain ⟨s1, hs1⟩ : ∃ s1 : Int, ((nowOf l (k + 1)).1.2.1.toNat : Int) = s1 := ⟨_, rfl⟩
      obtain ⟨s2, hs2⟩ : ∃ s2 : Int, ((nowOf l (k + 1)).1.2.2.toNat : Int) = s2 := ⟨_, rfl⟩
      obtain ⟨sx, hsx⟩ : ∃ sx : Int, (nowOf l (k + 1)).2 = sx := ⟨_, rfl⟩
      rw [hs0, hs1, hs2, hsx] at hJ
      have HS2 := hide (And.intro hs0 (And.intro hs1 (And.intro hs2 hsx)))
      generalize (y.1.1.toNat : Int) = g0 at *
      generalize (y.1.2.1.toNat : Int) = g1 at *
      generalize (y.1.2.2.toNat : Int) = g2 at *
      generalize (nowOf l k).2 = nx at *
      generalize y.2 = yx at *
      have HJ := hide hJ
      have HNW := hide hNw
      have HCM := hide hcm
      clear hJ hcm hNw hrg hrg1 hbr hY hup hdg hsm hq hq2 hhalf hlt2 hs0 hs1 hs2 hsx hap esb hlen ha255 HN0
      go_upto_region 6 with fail
      have hc3 := (unhide HCM).later ((Below.refl _ _).alloc (Nat.le_refl _) (Obj.cells #[Value.int IntKind.u8 g0, Value.int IntKind.u8 g1, Value.int IntKind.u8 g2, Value.int IntKind.u64 yx] 106))
      have hx3 := heap_alloc_new wr (Obj.cells #[Value.int IntKind.u8 g0, Value.int IntKind.u8 g1, Value.int IntKind.u8 g2, Value.int IntKind.u64 yx] 106)
      generalize (wr.alloc (Obj.cells #[Value.int IntKind.u8 g0, Value.int IntKind.u8 g1, Value.int IntKind.u8 g2, Value.int IntKind.u64 yx] 106)) = W3 at *
      generalize wr.heap.size = X at *
      have v0 : W3.cell? ⟨X, 0, none⟩ = some (.int .u8 g0) := block_cell hx3
      have v1 : W3.cell? ⟨X, 1, none⟩ = some (.int .u8 g1) := block_cell hx3
      have v2 : W3.cell? ⟨X, 2, none⟩ = some (.int .u8 g2) := block_cell hx3
      have v3 : W3.cell? ⟨X, 3, none⟩ = some (.int .u64 yx) := block_cell hx3
      have z0 : W3.cell? ⟨H, 0, none⟩ = some (.int .u8 f0) := block_cell hc3.here
      have z1 : W3.cell? ⟨H, 1, none⟩ = some (.int .u8 f1) := block_cell hc3.here
      have z2 : W3.cell? ⟨H, 2, none⟩ = some (.int .u8 f2) := block_cell hc3.here
      have z3 : W3.cell? ⟨H, 3, none⟩ = some (.int .u64 nx) := block_cell hc3.here
      have zf : W3.cell? ⟨w.heap.size, 0, none⟩ = some (.func (.func 107) #[] #[.pointer (some ⟨A, 0, none⟩), .pointer (some ⟨C, 0, none⟩)]) := block_cell hc3.fn
      have HC3 := hide hc3
      clear hc3 hx3 HCM c0 c1 c2 c3
      go_wp2_with fail
      refine (unhide HJ _ (unhide HC3).fs (unhide HNW _ (unhide HC3).kept)).mono ?_
      rintro e w4 ⟨rfl, fs4, hk4⟩
      have hc4 := (unhide HC3).step fs4 hk4
      clear v0 v1 v2 v3 z0 z1 z2 z3 zf fs4 hk4 HC3 HJ
      have z0 : w4.cell? ⟨H, 0, none⟩ = some (.int .u8 f0) := block_cell hc4.here
      have z1 : w4.cell? ⟨H, 1, none⟩ = some (.int .u8 f1) := block_cell hc4.here
      have z2 : w4.cell? ⟨H, 2, none⟩ = some (.int .u8 f2) := block_cell hc4.here
      have z3 : w4.cell? ⟨H, 3, none⟩ = some (.int .u64 nx) := block_cell hc4.here
      have zf : ∀ i, w4.frozen? ⟨H, i, none⟩ = false := fun i => block_free hc4.here
      have HC5 := hide (hc4.set s0 s1 s2 sx)
      clear hc4
      go_wp2
      go_roundw
      case rel =>
        refine ⟨k + 1, by omega, by go_num, ?_, ?_⟩
        · rw [← unhide HQ2]; go_num
        · rw [(unhide HS2).1, (unhide HS2).2.1, (unhide HS2).2.2.1, (unhide HS2).2.2.2]
          exact unhide HC5
      case measure => simp [intOf]; omega
    · have hkk : k = h := by omega
      subst hkk
      have z0 := block_cell hcm.here (i := 0)
      have z1 := block_cell hcm.here (i := 1)
      have z2 := block_cell hcm.here (i := 2)
      have z3 := block_cell hcm.here (i := 3)
      have r0 : wr.cell? ⟨R, 0, none⟩ = some (.int .u8 0) := block_cell hcm.res
      have r1 : wr.cell? ⟨R, 1, none⟩ = some (.int .u8 0) := block_cell hcm.res
      have r2 : wr.cell? ⟨R, 2, none⟩ = some (.int .u8 0) := block_cell hcm.res
      have r3 : wr.cell? ⟨R, 3, none⟩ = some (.int .u64 0) := block_cell hcm.res
      have rf : ∀ i, wr.frozen? ⟨R, i, none⟩ = false := fun i => block_free hcm.res
      have HC5 := hide hcm
      generalize ((nowOf l k).1.1.toNat : Int) = s0 at *
      generalize ((nowOf l k).1.2.1.toNat : Int) = s1 at *
      generalize ((nowOf l k).1.2.2.toNat : Int) = s2 at *
      generalize (nowOf l k).2 = nx at *
      replace z0 : wr.cell? ⟨H, 0, none⟩ = some (.int .u8 s0) := z0
      replace z1 : wr.cell? ⟨H, 1, none⟩ = some (.int .u8 s1) := z1
      replace z2 : wr.cell? ⟨H, 2, none⟩ = some (.int .u8 s2) := z2
      replace z3 : wr.cell? ⟨H, 3, none⟩ = some (.int .u64 nx) := z3
      clear hcm HN0
      go_wp2
      refine bodyPost_ret (v := .tuple #[.agg #[.int .u8 s0, .int .u8 s1, .int .u8 s2, .int .u64 nx], .bool true]) ?_ rfl ⟨⟨_, rfl⟩, ?_, ?_⟩
      · simp [results, Tryz.results96, go_sem, r0, r1, r2, r3]
      · exact (unhide HC5).fs.poke4 (unhide HC5).res _ _ _ _
      · have hw : w.heap.size ≤ R := Nat.le_of_lt (unhide HC5).wR
        exact ((((unhide HC5).kept.fresh hw _).fresh hw _).fresh hw _).fresh hw _

end Go.Proofs.YtbjobbkgelipmaaGreat

/-
  The walk of tithe's follow.
-/
namespace Go.Proofs.YtbjobbkgelipmaaGreat
open Go.RowKit

/-- All texts of one proof more. -/
def noteAll (f : Nat → Nat → List (List UInt8)) (p : Nat) (ts : List (List UInt8)) (h : Nat) : Nat → Nat → List (List UInt8) := upT (addT f 0 (p / 2 ^ 0) (ts.getD 0 [])) p ts h
theorem upT_at (f : Nat → Nat → List (List UInt8)) (p : Nat) (ts : List (List UInt8)) (lv pl : Nat) : ∀ k, upT f p ts k lv pl = if 1 ≤ lv ∧ lv ≤ k ∧ p / 2 ^ lv = pl then f lv pl ++ [ts.getD lv []] else f lv pl
  | 0 => by
    rw [if_neg (by omega)]; rfl
  | k + 1 => by
    show addT (upT f p ts k) (k + 1) (p / 2 ^ (k + 1)) (ts.getD (k + 1) []) lv pl = _
    unfold addT
    rw [upT_at f p ts lv pl k]
    by_cases e : lv = k + 1
    · subst e
      by_cases e2 : pl = p / 2 ^ (k + 1)
      · rw [if_pos ⟨rfl, e2⟩, if_neg (by omega), if_pos ⟨by omega, by omega, e2.symm⟩]
      · rw [if_neg (fun h => e2 h.2), if_neg (by omega), if_neg (fun h => e2 h.2.2.symm)]
    · rw [if_neg (fun h => e h.1)]
      by_cases e3 : 1 ≤ lv ∧ lv ≤ k ∧ p / 2 ^ lv = pl
      · rw [if_pos e3, if_pos ⟨e3.1, by omega, e3.2.2⟩]
      · rw [if_neg e3, if_neg (fun h => e3 ⟨h.1, by omega, h.2.2⟩)]
theorem noteAll_at (f : Nat → Nat → List (List UInt8)) (p : Nat) (ts : List (List UInt8)) {h lv pl : Nat} (hl : lv ≤ h) : noteAll f p ts h lv pl = if p / 2 ^ lv = pl then f lv pl ++ [ts.getD lv []] else f lv pl := by
  unfold noteAll
  rw [upT_at]
  by_cases e : lv = 0
  · subst e
    rw [if_neg (by omega)]
    unfold addT
    by_cases e2 : p / 2 ^ 0 = pl
    · rw [if_pos ⟨rfl, e2.symm⟩, if_pos e2]
    · rw [if_neg (fun h => e2 h.2.symm), if_neg e2]
  · have ea : addT f 0 (p / 2 ^ 0) (ts.getD 0 []) lv pl = f lv pl := by unfold addT; rw [if_neg (fun h => e h.1)]
    rw [ea]
    by_cases e2 : p / 2 ^ lv = pl
    · rw [if_pos ⟨by omega, hl, e2⟩, if_pos e2]
    · rw [if_neg (fun h => e2 h.2.2), if_neg e2]
theorem textsAt_snoc (lv pl : Nat) (L : List (Nat × List (List UInt8))) (p : Nat) (ts : List (List UInt8)) : textsAt lv pl (L ++ [(p, ts)]) = if p / 2 ^ lv = pl then textsAt lv pl L ++ [ts.getD lv []] else textsAt lv pl L := by
  unfold textsAt
  rw [List.filter_append, List.map_append]
  by_cases e : p / 2 ^ lv = pl
  · rw [if_pos e, List.filter_cons_of_pos (by simpa using e)]; rfl
  · rw [if_neg e, List.filter_cons_of_neg (by simpa using e)]; simp
theorem TabAt.congr {N K : Nat} {W : World} {B h : Nat} {f f' : Nat → Nat → List (List UInt8)} (t : TabAt N K W B h f) (e : ∀ lv pl, lv ≤ h → f lv pl = f' lv pl) : TabAt N K W B h f' :=
  ⟨t.blk, fun lv pl h1 h2 => by rw [← e lv pl h1]; exact t.tx lv pl h1 h2, t.z0, t.z1⟩

/-- What follow reads. -/
abbrev F5 (W : World) (A C B Q P : Nat) (a : Int) (nm : ByteArray) (bal salt : Int) : Prop :=
  (W.cell? ⟨C, 0, none⟩ = some (.slice (some ⟨B, 0, none⟩) P P) ∧ W.cell? ⟨A, 0, none⟩ = some (.int .i64 a)) ∧ W.cell? ⟨Q, 1, none⟩ = some (.string nm) ∧ W.cell? ⟨Q, 2, none⟩ = some (.int .u64 bal) ∧ W.cell? ⟨Q, 3, none⟩ = some (.int .u64 salt)
structure FQ (N : Nat) (W : World) (A C B h a Q : Nat) (f : Nat → Nat → List (List UInt8)) (pl : Int) (nm : ByteArray) (bal salt : Int) (sv : Value) : Prop where
  fs : FS N W A C B h a f
  q : W.heap[Q]? = some (.cells #[.int .i64 pl, .string nm, .int .u64 bal, .int .u64 salt, sv] 118 (0, 0))
section
variable {N : Nat} {W W' : World} {A C B h a Q : Nat} {f f' : Nat → Nat → List (List UInt8)} {pl : Int} {nm : ByteArray} {bal salt : Int} {sv : Value}
theorem FQ.five (b : FQ N W A C B h a Q f pl nm bal salt sv) : F5 W A C B Q (2 ^ (h + 1)) (a : Int) nm bal salt := ⟨⟨block_cell b.fs.all_, block_cell b.fs.at_⟩, block_cell b.q, block_cell b.q, block_cell b.q⟩
theorem FQ.later (b : FQ N W A C B h a Q f pl nm bal salt sv) (hb : Below W.heap.size W W') : FQ N W' A C B h a Q f pl nm bal salt sv := ⟨b.fs.later hb, (hb.block _ (Array.getElem?_eq_some_iff.1 b.q).1).trans b.q⟩
theorem FQ.kept (b : FQ N W A C B h a Q f pl nm bal salt sv) (fs : FS N W' A C B h a f') (hk : Kept [B] W W') : FQ N W' A C B h a Q f' pl nm bal salt sv := by
  obtain ⟨cs, hB⟩ := b.fs.tab.blk
  exact ⟨fs, (hk.block Q (Array.getElem?_eq_some_iff.1 b.q).1 (by simpa using cells_ne' b.q hB (by decide))).trans b.q⟩
end

/-- note, at a text that was made since. -/
theorem fnote_any {N : Nat} {w3 w4 : World} {A C B h a : Nat} {f : Nat → Nat → List (List UInt8)} {v : Value} {T : List UInt8} {n lv pl i : Nat} (fs : FS N w3 A C B h a f) (hN3 : N ≤ w3.heap.size) (hb4 : Below w3.heap.size w3 w4) (hv : w4.ownsRow w3.heap.size 5 1 v n (byteVals T)) (hne : T ≠ []) (h1 : lv ≤ h) (h2 : pl < 2 ^ (h - lv)) (ha : i = placeNo h lv pl) :
    Calls Tryz.prog 106 #[.pointer (some ⟨B, i * 2, none⟩), v] w4 fun e W' => e = .returned (.tuple #[]) ∧ FS N W' A C B h a (addT f lv pl T) ∧ Kept [B] w4 W' := by
  have tab4 : TabAt N w3.heap.size w4 B h f := fs.tab.same (Nat.le_refl _) (hb4.block _ fs.tab.lt) (fun g hg _ _ => hb4.block g hg)
  obtain ⟨cs, hcs⟩ := tab4.blk
  have hvT := TextIs.of hv hne
  have hvB : v.ownBlock ≠ some B := fun e => by
    obtain ⟨g, _, _, e2, hg, _⟩ := hvT.block
    rw [e2] at e
    have := fs.tab.lt
    simp only [Option.some.injEq] at e
    omega
  have := note_any hcs (tab4.tx lv pl h1 h2) hN3 hvT hvB
  rw [← ha, Nat.mul_comm 2 i] at this
  refine this.mono fun e W' ⟨he, hx, hW⟩ => ?_
  have hn := (fs.later hb4).note h1 h2 (x := T) (v := v) (W' := W') (by rw [← ha]; exact hx) (by rw [← ha, Nat.mul_comm 2 i]; exact hW)
  exact ⟨he, hn⟩

set_option maxHeartbeats 2000000 in
set_option maxRecDepth 100000 in
theorem follow_any {N : Nat} {w : World} {B h : Nat} {f : Nat → Nat → List (List UInt8)} (t : TabAt N w.heap.size w B h f) (hN : N ≤ w.heap.size) (l : List UInt8) (sb : Nat) (ts : List (List UInt8)) (hh : h ≤ 6) (hacc : accHead h l) (hW : Way l h ts) (hlt : sb < w.heap.size)
    (hS : SidesAt w sb (sidesOf (l.drop (19 + bAt l 2)) h)) :
    Calls Tryz.prog 98 #[.slice (some ⟨B, 0, none⟩) (2 ^ (h + 1)) (2 ^ (h + 1)), proofV (bAt l 1 : Int) ⟨(accName l).toArray⟩ (accBal l) (accSalt l) (some ⟨sb, 0, none⟩) h h, .int .i64 (placeNo h 0 (bAt l 1) : Int)] w fun e w' => e = .returned (.tuple #[]) ∧ TabAt N w'.heap.size w' B h (noteAll f (bAt l 1) ts h) ∧ Kept [B] w w' := by
  have hns : (⟨(accName l).toArray⟩ : ByteArray).size ≤ 8 := by rw [accName_size h l hacc]; exact hacc.2.2.2.2.1
  have hleaf := fun w => ownleaf_any ⟨(accName l).toArray⟩ (accBal l) (accSalt l) w hns (accBal_range l).1 (accBal_range l).2 (accSalt_range l).1 (accSalt_range l).2
  rw [leafB_vals _ _ _ hns] at hleaf
  have e0 : (⟨(accName l).toArray⟩ : ByteArray).data.toList = accName l := by simp
  rw [e0, ← accText0_leaf h l hacc, ← hW.t0] at hleaf
  have hT0 : ts.getD 0 [] ≠ [] := by rw [hW.t0]; exact List.cons_ne_nil _ _
  have hcl := fun (W A C : Nat) => @climbf_any
  have hpl0 : bAt l 1 < 2 ^ h := hacc.2.2.1
  obtain ⟨P, hP⟩ : ∃ P, 2 ^ (h + 1) = P := ⟨_, rfl⟩
  have hC : ∀ (W : World) (A C : Nat), FS N W A C B h (placeNo h 0 (bAt l 1)) (addT f 0 (bAt l 1 / 2 ^ 0) (ts.getD 0 [])) → Kept [B] w W → Calls Tryz.prog 96 #[.agg #[noteV A C], proofV (bAt l 1 : Int) ⟨(accName l).toArray⟩ (accBal l) (accSalt l) (some ⟨sb, 0, none⟩) h h] W fun e w' => (∃ v, e = .returned v) ∧ FS N w' A C B h (placeNo h h (bAt l 1 / 2 ^ h)) (noteAll f (bAt l 1) ts h) ∧ Kept [A, B] W w' := fun W A C fs hk => by
    refine climbf_any l sb ts hh hacc hW (Nat.lt_of_lt_of_le hlt hk.size) ?_ fs (Nat.le_trans hN hk.size)
    intro j hj
    have hsb : sb ≠ B := fun e => by
      have h0 := (hS 0 (by omega)).1
      simp only [Nat.zero_mul] at h0
      rw [e] at h0
      have := t.z0.symm.trans h0
      simp at this
    have ec : ∀ o, W.cell? ⟨sb, o, none⟩ = w.cell? ⟨sb, o, none⟩ := fun o => World.cell?_of_block (w := w) (hk.block sb hlt (by simpa using hsb))
    rw [ec, ec, ec, ec]
    exact hS j hj
  have hi2 : placeNo h 0 (bAt l 1) < P := by rw [← hP]; exact placeNo_lt (by simpa using hpl0)
  have hP7 : P ≤ 128 := by rw [← hP]; exact Nat.le_trans (Nat.pow_le_pow_right (by omega) (show h + 1 ≤ 7 by omega)) (by decide)
  obtain ⟨i, hi⟩ : ∃ i, placeNo h 0 (bAt l 1) = i := ⟨_, rfl⟩
  have hi0 : i = placeNo h 0 (bAt l 1 / 2 ^ 0) := by rw [← hi]; simp
  rw [hi] at hC hi2
  rw [hP, hi]
  generalize hpn : bAt l 1 = pn at *
  generalize hnm : (⟨(accName l).toArray⟩ : ByteArray) = nm at *
  generalize hbl : accBal l = bal at *
  generalize hsl : accSalt l = salt at *
  have HL := fun w => hide (hleaf w)
  have HC := hide hC
  have HTB := hide (And.intro t (And.intro hP (And.intro hT0 (And.intro hi0 (And.intro hpl0 hN)))))
  generalize ts.getD 0 [] = T0 at *
  clear hleaf hC t hT0 hi0 hpl0 hN hcl hS hW hacc hns hpn hnm hbl hsl e0 hi hh hP
  unfold proofV leafV noteV at *
  go_enter Tryz.func98, Tryz.ntmps98
  go_upto_region 1 with fail
  have hb1 : Below w.heap.size w (((w.alloc (Obj.cells #[Value.slice (some ⟨B, 0, none⟩) P P] 182)).alloc (Obj.cells #[Value.int IntKind.i64 (pn : Int), Value.string nm, Value.int IntKind.u64 bal, Value.int IntKind.u64 salt, Value.slice (some ⟨sb, 0, none⟩) h h] 118)).alloc (Obj.cells #[Value.int IntKind.i64 (i : Int)] 3)) := (((Below.refl w.heap.size w).alloc (Nat.le_refl _) _).alloc (by simp) _).alloc (by simp; omega) _
  have c1 := heap_next (o := Obj.cells #[Value.int IntKind.i64 (i : Int)] 3) (heap_next (o := Obj.cells #[Value.int IntKind.i64 (pn : Int), Value.string nm, Value.int IntKind.u64 bal, Value.int IntKind.u64 salt, Value.slice (some ⟨sb, 0, none⟩) h h] 118) (heap_alloc_new w (Obj.cells #[Value.slice (some ⟨B, 0, none⟩) P P] 182)))
  have q1 := heap_next (o := Obj.cells #[Value.int IntKind.i64 (i : Int)] 3) (heap_new1 w (Obj.cells #[Value.slice (some ⟨B, 0, none⟩) P P] 182) (Obj.cells #[Value.int IntKind.i64 (pn : Int), Value.string nm, Value.int IntKind.u64 bal, Value.int IntKind.u64 salt, Value.slice (some ⟨sb, 0, none⟩) h h] 118))
  have a1 := heap_new2 w (Obj.cells #[Value.slice (some ⟨B, 0, none⟩) P P] 182) (Obj.cells #[Value.int IntKind.i64 (pn : Int), Value.string nm, Value.int IntKind.u64 bal, Value.int IntKind.u64 salt, Value.slice (some ⟨sb, 0, none⟩) h h] 118) (Obj.cells #[Value.int IntKind.i64 (i : Int)] 3)
  have t1 := (unhide HTB).1.later hb1
  generalize (((w.alloc (Obj.cells #[Value.slice (some ⟨B, 0, none⟩) P P] 182)).alloc (Obj.cells #[Value.int IntKind.i64 (pn : Int), Value.string nm, Value.int IntKind.u64 bal, Value.int IntKind.u64 salt, Value.slice (some ⟨sb, 0, none⟩) h h] 118)).alloc (Obj.cells #[Value.int IntKind.i64 (i : Int)] 3)) = W1 at *
  obtain ⟨A, hA⟩ : ∃ A, w.heap.size + 1 + 1 = A := ⟨_, rfl⟩
  obtain ⟨Q, hQ⟩ : ∃ Q, w.heap.size + 1 = Q := ⟨_, rfl⟩
  obtain ⟨C, hCC⟩ : ∃ C, w.heap.size = C := ⟨_, rfl⟩
  have hbd : FQ N W1.drew A C B h i Q f (pn : Int) nm bal salt (.slice (some ⟨sb, 0, none⟩) h h) := by
    refine ⟨⟨?_, ?_, t1.heap rfl⟩, ?_⟩
    · rw [← hA]; exact a1
    · rw [← hCC, (unhide HTB).2.1]; exact c1
    · rw [← hQ]; exact q1
  have k2 := hbd.five
  rw [(unhide HTB).2.1] at k2
  have HK1 : Hid (Below w.heap.size w W1.drew ∧ w.heap.size ≤ A) := ⟨hb1.drew, by omega⟩
  rw [hA, hQ, hCC]
  have i1 : (0 : Int) ≤ (i : Int) := by omega
  have i2 : (i : Int) < (P : Int) := by omega
  clear hb1 c1 q1 a1 t1 hA hQ
  go_region_held3 (fun w' => F5 w' A C B Q P (i : Int) nm bal salt)
    (first
      | with_reducible exact k2
      | with_reducible exact k3
      | with_reducible exact k5
      | fail)
    (first
      | (go_at_call 99; (with_reducible refine (unhide (HL _)).mono ?_); rintro e w3 ⟨⟨v, rfl, hv⟩, hb3⟩; have b3 := hbd.later hb3; have k3 := b3.five; rw [(unhide HTB).2.1] at k3)
      | (go_at_call 106; (with_reducible refine (fnote_any hbd.fs (Nat.le_trans (unhide HTB).2.2.2.2.2 (unhide HK1).1.size) hb3 hv (unhide HTB).2.2.1 (Nat.zero_le h) (by simpa using (unhide HTB).2.2.2.2.1) (unhide HTB).2.2.2.1).mono ?_); rintro e w5 ⟨rfl, fs5, hk5⟩; have b5 := b3.kept fs5 hk5; have k5 := b5.five; rw [(unhide HTB).2.1] at k5)
      | fail)
  have hk5' : Kept [B] w w5 := ((Kept.of_below (S := [B]) (unhide HK1).1).trans (Kept.of_below hb3)).trans hk5
  have HB5 := hide (And.intro b5 hk5')
  clear k2 k3 k5 b3 b5 hbd hb3 hv fs5 hk5 hk5' HL
  go_upto_region 3 with fail
  have hb6 : Below w5.heap.size w5 (w5.alloc (Obj.cells #[noteV A C] 178)) := (Below.refl _ _).alloc (Nat.le_refl _) _
  have g6 := heap_alloc_new w5 (Obj.cells #[noteV A C] 178)
  have b6 := (unhide HB5).1.later hb6
  have hk6 := (unhide HB5).2.trans (Kept.of_below hb6)
  unfold noteV at g6 b6 hk6
  generalize (w5.alloc (Obj.cells #[Value.func (.func 107) #[] #[.pointer (some ⟨A, 0, none⟩), .pointer (some ⟨C, 0, none⟩)]] 178)) = W6 at *
  generalize w5.heap.size = G at *
  have x0 : W6.cell? ⟨G, 0, none⟩ = some (Value.func (.func 107) #[] #[.pointer (some ⟨A, 0, none⟩), .pointer (some ⟨C, 0, none⟩)]) := block_cell g6
  have q0 : W6.cell? ⟨Q, 0, none⟩ = some (.int .i64 (pn : Int)) := block_cell b6.q
  have q1 : W6.cell? ⟨Q, 1, none⟩ = some (.string nm) := block_cell b6.q
  have q2 : W6.cell? ⟨Q, 2, none⟩ = some (.int .u64 bal) := block_cell b6.q
  have q3 : W6.cell? ⟨Q, 3, none⟩ = some (.int .u64 salt) := block_cell b6.q
  have q4 : W6.cell? ⟨Q, 4, none⟩ = some (.slice (some ⟨sb, 0, none⟩) h h) := block_cell b6.q
  have HCl := hide (unhide HC W6 A C b6.fs hk6)
  have HK6 := hide hk6
  clear b6 hk6 g6 hb6 HB5 HC
  go_wp2_with fail
  refine (unhide HCl).mono ?_
  rintro e w7 ⟨⟨v7, rfl⟩, fs7, hk7⟩
  have hk : Kept [B] w w7 := by
    have h6 := unhide HK6
    have hA := (unhide HK1).2
    refine ⟨hk7.os.trans h6.os, hk7.tape.trans h6.tape, hk7.output.trans h6.output, Nat.le_trans h6.size hk7.size, fun k hk hn => ?_⟩
    rw [hk7.block k (Nat.lt_of_lt_of_le hk h6.size) (by simp only [List.mem_cons, List.not_mem_nil, or_false, not_or] at hn ⊢; exact ⟨by omega, hn⟩)]
    exact h6.block k hk hn
  have HF := hide (And.intro fs7.tab hk)
  clear x0 q0 q1 q2 q3 q4 hk fs7 hk7 HCl HK6
  go_wp2
  go_end0
  exact ⟨rfl, unhide HF⟩

end Go.Proofs.YtbjobbkgelipmaaGreat

/-
  The walk of tithe's twoTexts.
-/
namespace Go.Proofs.YtbjobbkgelipmaaGreat
open Go.RowKit

theorem Tryz.infoTexts : (Tryz.prog.info? 185).map (fun i => (i.zero, i.size, i.bytes)) = some (some (.agg #[.slice none 0 0, .slice none 0 0]), 2, 48) := by kernel_rfl

/-- Proofs that were read, in a row. -/
def PrfsAt (W : World) (g h : Nat) (Ls : List (List UInt8)) : Prop := ∀ k (hk : k < Ls.length), ∃ sb, (sb < W.heap.size ∧ SidesAt W sb (sidesOf (Ls[k].drop (19 + bAt Ls[k] 2)) h)) ∧
  W.cell? ⟨g, k * 5, none⟩ = some (.int .i64 (bAt Ls[k] 1 : Int)) ∧ W.cell? ⟨g, k * 5 + 1, none⟩ = some (.string ⟨(accName Ls[k]).toArray⟩) ∧ W.cell? ⟨g, k * 5 + 2, none⟩ = some (.int .u64 (accBal Ls[k])) ∧ W.cell? ⟨g, k * 5 + 3, none⟩ = some (.int .u64 (accSalt Ls[k])) ∧ W.cell? ⟨g, k * 5 + 4, none⟩ = some (.slice (some ⟨sb, 0, none⟩) h h)
theorem PrfsAt.below {W W' : World} {g h : Nat} {Ls : List (List UInt8)} (p : PrfsAt W g h Ls) (hb : Below W.heap.size W W') (hg : g < W.heap.size) : PrfsAt W' g h Ls := fun k hk => by
  obtain ⟨sb, ⟨h1, h2⟩, c0, c1, c2, c3, c4⟩ := p k hk
  exact ⟨sb, ⟨Nat.lt_of_lt_of_le h1 hb.size, h2.below hb h1⟩, keepB hb hg c0, keepB hb hg c1, keepB hb hg c2, keepB hb hg c3, keepB hb hg c4⟩

theorem place_of : ∀ {h i : Nat}, 1 ≤ i → i < 2 ^ (h + 1) → ∃ e, e ≤ h ∧ 2 ^ e ≤ i ∧ i < 2 ^ e + 2 ^ e
  | 0, i, h1, h2 => ⟨0, Nat.le_refl _, by simpa using h1, by simpa using h2⟩
  | h + 1, i, h1, h2 => by
    by_cases e : i < 2 ^ (h + 1)
    · obtain ⟨e, g1, g2, g3⟩ := place_of h1 e
      exact ⟨e, by omega, g2, g3⟩
    · rw [Nat.pow_succ] at h2
      exact ⟨h + 1, Nat.le_refl _, by omega, by omega⟩
theorem placeNo_of {h i : Nat} (h1 : 1 ≤ i) (h2 : i < 2 ^ (h + 1)) : ∃ lv pl, lv ≤ h ∧ pl < 2 ^ (h - lv) ∧ placeNo h lv pl = i := by
  obtain ⟨e, g1, g2, g3⟩ := place_of h1 h2
  refine ⟨h - e, i - 2 ^ e, by omega, ?_, ?_⟩
  · rw [show h - (h - e) = e by omega]; omega
  · unfold placeNo
    rw [show h - (h - e) = e by omega]; omega

/-- The table at first. -/
theorem tab_new {N : Nat} {W : World} {B h : Nat} (hW : W.ownsRow N 185 2 (.slice (some ⟨B, 0, none⟩) (2 ^ (h + 1)) (2 ^ (h + 1))) (2 ^ (h + 1)) (madeCells (Value.agg #[.slice none 0 0, .slice none 0 0]).cells (2 ^ (h + 1) * 2)).toList) : TabAt N W.heap.size W B h (fun lv pl => textsAt lv pl []) := by
  rcases hW.2 with ⟨e, _⟩ | ⟨g, cap, cur, hv, hN, hg, h1, h2, h3, h4⟩
  · cases e
  · simp only [Value.slice.injEq, Option.some.injEq, Addr.mk.injEq] at hv
    obtain ⟨⟨rfl, _⟩, _, rfl⟩ := hv
    have hc : ∀ j, j < 2 ^ (h + 1) * 2 → W.cell? ⟨B, j, none⟩ = some (.slice none 0 0) := fun j hj => by
      rw [block_cell hg]
      have e1 : (cur.toList.take (2 ^ (h + 1) * 2))[j]? = cur[j]? := by rw [List.getElem?_take, if_pos hj]; simp
      rw [← e1, h4]
      have : j % 2 = 0 ∨ j % 2 = 1 := by omega
      have e2 : (madeCells (Value.agg #[.slice none 0 0, .slice none 0 0]).cells (2 ^ (h + 1) * 2)).toList[j]? = some ((Value.agg #[.slice none 0 0, .slice none 0 0]).cells[j % 2]!) := by
        simp [madeCells, hj, Value.cells]
      rw [e2]
      rcases this with e | e <;> rw [e] <;> rfl
    have hp : 0 < 2 ^ (h + 1) := Nat.two_pow_pos _
    refine ⟨⟨cur, hg⟩, fun lv pl g1 g2 => .inl ⟨rfl, hc _ ?_, hc _ ?_⟩, hc 0 (by omega), hc 1 (by omega)⟩ <;>
    · have := placeNo_lt (h := h) (lv := lv) g2
      omega

/-- The two texts that come out, or nothing. -/
def TwoAt (N : Nat) (W : World) (v u : Value) (x y : List UInt8) : Prop := (x = [] ∧ y = [] ∧ v = .slice none 0 0 ∧ u = .slice none 0 0) ∨ (TextIs N W v x ∧ TextIs N W u y ∧ v.ownBlock ≠ u.ownBlock)

/-- The texts at a number of the row. -/
theorem tab_cells {N K : Nat} {W : World} {B h i : Nat} {f : Nat → Nat → List (List UInt8)} (t : TabAt N K W B h f) (hi : i < 2 ^ (h + 1)) : ∃ (va ua : Option Addr) (vn vc un uc : Nat), W.cell? ⟨B, i * 2, none⟩ = some (.slice va vn vc) ∧ W.cell? ⟨B, i * 2 + 1, none⟩ = some (.slice ua un uc) ∧
    ((ua = none ∧ ∀ lv pl, lv ≤ h → pl < 2 ^ (h - lv) → placeNo h lv pl = i → firstTwo (f lv pl) = none) ∨
     (ua.isSome = true ∧ ∃ x y lv pl, TextIs N W (.slice va vn vc) x ∧ TextIs N W (.slice ua un uc) y ∧ (Value.slice va vn vc).ownBlock ≠ (Value.slice ua un uc).ownBlock ∧ lv ≤ h ∧ pl < 2 ^ (h - lv) ∧ placeNo h lv pl = i ∧ firstTwo (f lv pl) = some (x, y))) := by
  by_cases h0 : i = 0
  · subst h0
    exact ⟨none, none, 0, 0, 0, 0, t.z0, t.z1, .inl ⟨rfl, fun lv pl _ _ e => by have := placeNo_pos h lv pl; omega⟩⟩
  · obtain ⟨lv, pl, h1, h2, h3⟩ := placeNo_of (by omega) hi
    have uq : ∀ lv' pl', lv' ≤ h → pl' < 2 ^ (h - lv') → placeNo h lv' pl' = i → lv' = lv ∧ pl' = pl := fun lv' pl' a b e => placeNo_inj a h1 b h2 (e.trans h3.symm)
    have hx := t.tx lv pl h1 h2
    rw [h3] at hx
    unfold TxAt at hx
    rw [Nat.mul_comm 2 i] at hx
    rcases hx with ⟨k0, k1, k2⟩ | ⟨x, r, v, g, k0, k1, k2, k3, k4, k5, k6⟩
    · exact ⟨none, none, 0, 0, 0, 0, k1, k2, .inl ⟨rfl, fun lv' pl' a b e => by obtain ⟨rfl, rfl⟩ := uq lv' pl' a b e; rw [k0]; rfl⟩⟩
    · obtain ⟨gv, cv, rfl, _⟩ := k2.block
      rcases k6 with ⟨m0, m1⟩ | ⟨y, u, g', m0, m1, m2, m3, m4, m5, m6⟩
      · exact ⟨_, none, _, _, 0, 0, k1, m1, .inl ⟨rfl, fun lv' pl' a b e => by obtain ⟨rfl, rfl⟩ := uq lv' pl' a b e; exact m0⟩⟩
      · obtain ⟨gu, cu, rfl, _⟩ := m2.block
        exact ⟨_, _, _, _, _, _, k1, m1, .inr ⟨rfl, x, y, lv, pl, k2, m2, by rw [k3, m3]; simpa using m6, h1, h2, h3, m0⟩⟩

/-- What the round of the first loop reads. -/
abbrev P5 (W : World) (X : Nat) (pl : Int) (nm : ByteArray) (bal salt : Int) (sv : Value) : Prop :=
  W.cell? ⟨X, 0, none⟩ = some (.int .i64 pl) ∧ W.cell? ⟨X, 1, none⟩ = some (.string nm) ∧ W.cell? ⟨X, 2, none⟩ = some (.int .u64 bal) ∧ W.cell? ⟨X, 3, none⟩ = some (.int .u64 salt) ∧ W.cell? ⟨X, 4, none⟩ = some sv
theorem p5_of {W : World} {X : Nat} {pl : Int} {nm : ByteArray} {bal salt : Int} {sv : Value} (h : W.heap[X]? = some (.cells #[.int .i64 pl, .string nm, .int .u64 bal, .int .u64 salt, sv] 118 (0, 0))) : P5 W X pl nm bal salt sv := ⟨block_cell h, block_cell h, block_cell h, block_cell h, block_cell h⟩

set_option maxHeartbeats 2000000 in
set_option maxRecDepth 100000 in
theorem two_any {w : World} {g h : Nat} (root : Dg × Int) (Ls : List (List UInt8)) (cap : Nat) (hg : g < w.heap.size) (hP : PrfsAt w g h Ls) (hh : h ≤ 6) (hn : Ls.length < 9223372036854775807) (hacc : ∀ l ∈ Ls, accHead h l) (hA : ∀ l ∈ Ls, (accOk h root l).isSome = true) :
    Calls Tryz.prog 83 #[.slice (some ⟨g, 0, none⟩) Ls.length cap, .int .i64 (h : Int)] w fun e w' => (∃ v u x y, e = .returned (.tuple #[v, u]) ∧ ExtR h (Ls.map (dataOf h root)) x y ∧ TwoAt w.heap.size w' v u x y) ∧ Below w.heap.size w w' := by
  obtain ⟨i0, hi, hz0, hz1, hz2⟩ := info_parts Tryz.infoTexts
  have HP := hide hP
  have HA := hide (And.intro hacc hA)
  clear hP hacc hA
  obtain ⟨P, hPP⟩ : ∃ P, 2 ^ (h + 1) = P := ⟨_, rfl⟩
  obtain ⟨Q, hQQ⟩ : ∃ Q, 2 ^ h = Q := ⟨_, rfl⟩
  have H7 : h = 0 ∨ h = 1 ∨ h = 2 ∨ h = 3 ∨ h = 4 ∨ h = 5 ∨ h = 6 := by omega
  have HP2 : Hid (P = 2 * Q) := by rw [← hPP, ← hQQ, Nat.pow_succ]; exact Nat.mul_comm _ _
  have hP128 : P ≤ 128 := by rw [← hPP]; rcases H7 with rfl | rfl | rfl | rfl | rfl | rfl | rfl <;> decide
  have hQ64 : Q ≤ 64 := by rw [← hQQ]; rcases H7 with rfl | rfl | rfl | rfl | rfl | rfl | rfl <;> decide
  have hs1 : (2 : Int) ^ h = (Q : Int) := by rw [← hQQ]; simp
  clear H7
  go_enter Tryz.func83, Tryz.ntmps83
  go_wp2_with (at_make; refine wpList_make_full _ rfl _ _ 182 rfl w.heap.size 185 i0 _ 2 Tryz.underlying182 hi hz0 hz1 _ _ _ _ P rfl rfl (by have := unhide HP2; omega) (by have := unhide HP2; omega) (by rw [hz2]; omega) (by unfold maxLen; omega) (Nat.le_refl _) ?_)
  intro w1 hown1 hgrow1
  have hB1 : Below w.heap.size w w1 := (Below.refl _ _).grown hgrow1 (Nat.le_refl _) (fun b hb => by cases hb)
  have hT1 : TabAt w.heap.size w1.heap.size w1 w.heap.size h (fun lv pl => textsAt lv pl []) := tab_new (by rw [hPP]; exact hown1)
  have HS := hide (And.intro hB1 hT1)
  clear hB1 hT1 hown1 hgrow1 hz0 hz1 hz2 hi
  have HPQ := hide (And.intro hPP hQQ)
  clear hPP hQQ
  obtain ⟨n, hnn⟩ : ∃ n, Ls.length = n := ⟨_, rfl⟩
  rw [hnn]
  rw [hnn] at hn
  go_wp2_with fail
  go_loopw [16, 8] (fun i _ wr => ∃ m : Nat, m ≤ n ∧ i = .int .i64 m ∧ TabAt w.heap.size wr.heap.size wr w.heap.size h (fun lv pl => textsAt lv pl ((Ls.take m).map (dataOf h root))) ∧ Below w.heap.size w wr) (fun i _ _ => n - (intOf i).toNat)
  case atStart => exact ⟨0, Nat.zero_le _, rfl, by simpa using (unhide HS).2, (unhide HS).1⟩
  case round =>
    obtain ⟨m, hm, rfl, hT, hB⟩ := hrel
    clear HS
    by_cases hm' : m < n
    · have hml : m < Ls.length := by rw [hnn]; exact hm'
      obtain ⟨sb, ⟨hsb, hsd⟩, c0, c1, c2, c3, c4⟩ := ((unhide HP).below hB hg) m hml
      have hsn : (Ls.take (m + 1)).map (dataOf h root) = (Ls.take m).map (dataOf h root) ++ [dataOf h root Ls[m]] := by
        rw [List.take_add_one, List.getElem?_eq_getElem hml, List.map_append]; rfl
      have hac := (unhide HA).1 Ls[m] (List.getElem_mem hml)
      have hwy := (way_acc ((unhide HA).2 Ls[m] (List.getElem_mem hml))).1
      have hfo : ∀ W', Below wr.heap.size wr W' → _ := fun W' hb => follow_any (hT.later hb) (Nat.le_trans hB.size hb.size) Ls[m] sb _ hh hac hwy (Nat.lt_of_lt_of_le hsb hb.size) (hsd.below hb hsb)
      have hto : ∀ (K : Nat) (W : World), TabAt w.heap.size K W w.heap.size h (noteAll (fun lv pl => textsAt lv pl ((Ls.take m).map (dataOf h root))) (bAt Ls[m] 1) ((accOk h root Ls[m]).getD []) h) → TabAt w.heap.size K W w.heap.size h (fun lv pl => textsAt lv pl ((Ls.take (m + 1)).map (dataOf h root))) := fun K W t => t.congr fun lv pl hl => by
        rw [noteAll_at _ _ _ hl, hsn]
        unfold dataOf
        rw [textsAt_snoc]
      have hpn : ((placeNo h 0 (bAt Ls[m] 1) : Nat) : Int) = (Q : Int) + (bAt Ls[m] 1 : Int) := by
        have := (unhide HPQ).2
        unfold placeNo
        rw [Nat.sub_zero, this]
        omega
      have hp64 : bAt Ls[m] 1 < Q := by rw [← (unhide HPQ).2]; exact hac.2.2.1
      rw [hpn, (unhide HPQ).1] at hfo
      generalize noteAll (fun lv pl => textsAt lv pl ((Ls.take m).map (dataOf h root))) (bAt Ls[m] 1) ((accOk h root Ls[m]).getD []) h = F at *
      generalize bAt Ls[m] 1 = pn at *
      generalize (⟨(accName Ls[m]).toArray⟩ : ByteArray) = nm at *
      generalize accBal Ls[m] = bal at *
      generalize accSalt Ls[m] = salt at *
      have HFO := hide hfo
      have HTO := hide hto
      have HBT := hide (And.intro hB hT)
      unfold proofV at HFO
      clear hfo hto hB hT hsn hac hwy hsd hpn
      have im : (m : Int) < (n : Int) := by omega
      have wq0 : IntKind.i64.wrap (Q : Int) = (Q : Int) := by rw [IntKind.wrap_i64]; omega
      have wq : IntKind.i64.wrap ((Q : Int) + (pn : Int)) = (Q : Int) + (pn : Int) := by rw [IntKind.wrap_i64]; omega
      go_upto_region 5 with fail
      have hb3 : Below wr.heap.size wr (wr.alloc (Obj.cells #[Value.int IntKind.i64 (pn : Int), Value.string nm, Value.int IntKind.u64 bal, Value.int IntKind.u64 salt, Value.slice (some ⟨sb, 0, none⟩) h h] 118)) := (Below.refl _ _).alloc (Nat.le_refl _) _
      have hx3 := heap_alloc_new wr (Obj.cells #[Value.int IntKind.i64 (pn : Int), Value.string nm, Value.int IntKind.u64 bal, Value.int IntKind.u64 salt, Value.slice (some ⟨sb, 0, none⟩) h h] 118)
      have hsz3 : wr.heap.size < (wr.alloc (Obj.cells #[Value.int IntKind.i64 (pn : Int), Value.string nm, Value.int IntKind.u64 bal, Value.int IntKind.u64 salt, Value.slice (some ⟨sb, 0, none⟩) h h] 118)).heap.size := by simp
      generalize (wr.alloc (Obj.cells #[Value.int IntKind.i64 (pn : Int), Value.string nm, Value.int IntKind.u64 bal, Value.int IntKind.u64 salt, Value.slice (some ⟨sb, 0, none⟩) h h] 118)) = W3 at *
      have k3 : P5 W3.drew wr.heap.size (pn : Int) nm bal salt (.slice (some ⟨sb, 0, none⟩) h h) := p5_of hx3
      have hXB : wr.heap.size ≠ w.heap.size := by have := (unhide HBT).2.lt; omega
      go_region_held3 (fun w' => P5 w' wr.heap.size (pn : Int) nm bal salt (.slice (some ⟨sb, 0, none⟩) h h))
        (first
          | with_reducible exact k3
          | with_reducible exact k5
          | fail)
        (first
          | (go_at_call 98; (with_reducible refine (unhide HFO _ hb3.drew).mono ?_); rintro e w5 ⟨rfl, t5, hk5⟩; have k5 : P5 w5 wr.heap.size (pn : Int) nm bal salt (.slice (some ⟨sb, 0, none⟩) h h) := p5_of ((hk5.block _ hsz3 (by simpa using hXB)).trans hx3))
          | fail)
      have hB5 : Below w.heap.size w w5 := ((unhide HBT).1.trans (hb3.drew.mono (unhide HBT).1.size)).trans (hk5.below (by have := (unhide HBT).1.size; have := hb3.size; show w.heap.size ≤ W3.heap.size; omega) (by simp))
      have HT5 := hide (And.intro (unhide HTO _ _ t5) hB5)
      clear k3 k5 t5 hk5 hB5 HFO HTO HBT hx3 hb3 hsz3
      go_wp2
      go_roundw
      case rel => exact ⟨m + 1, by omega, by go_num, (unhide HT5).1, (unhide HT5).2⟩
      case measure => simp [intOf]; omega
    · have hmm : m = n := by omega
      subst hmm
      rw [show Ls.take m = Ls by rw [← hnn, List.take_length]] at hT
      have HBT := hide (And.intro hB hT)
      clear hB hT hm hm' HP
      have qn : ∀ (w : World) (a : Option Addr) (n c n' c' : Nat), (binOp .neq 51 (.slice a n c) (.slice none n' c')).run Tryz.prog w = .ok (.bool (!a.isNone)) w := fun w a n c n' c' => run_neq_slice_nil_any w _ _ a n c n' c' Tryz.underlying51
      go_wp2_with fail
      go_loopw [31, 10] (fun i _ wx => ∃ k : Nat, k ≤ P ∧ i = .int .i64 k ∧ TabAt w.heap.size wx.heap.size wx w.heap.size h (fun lv pl => textsAt lv pl (Ls.map (dataOf h root))) ∧ Below w.heap.size w wx ∧ NoneBefore h (Ls.map (dataOf h root)) k) (fun i _ _ => P - (intOf i).toNat)
      case atStart => exact ⟨0, Nat.zero_le _, rfl, (unhide HBT).2, (unhide HBT).1, fun _ _ _ _ h => by omega⟩
      case round =>
        obtain ⟨k, hk, rfl, hT, hB, hNB⟩ := hrel
        clear HBT
        by_cases hk' : k < P
        · obtain ⟨va, ua, vn, vc, un, uc, c0, c1, hcs⟩ := tab_cells hT (by rw [(unhide HPQ).1]; exact hk')
          have ik : (k : Int) < (P : Int) := by omega
          have HX := hide (And.intro hB (And.intro hT hNB))
          clear hB hT hNB
          rcases hcs with ⟨rfl, hno⟩ | ⟨hs, x, y, lv, pl, t1, t2, hne, h1, h2, h3, h4⟩
          · have HNO := hide hno
            clear hno
            go_wp2
            go_roundw
            case rel =>
              have hb4 : Below wr.heap.size wr (wr.alloc (Obj.cells #[Value.slice va vn vc, Value.slice none un uc] 185)) := (Below.refl _ _).alloc (Nat.le_refl _) _
              exact ⟨k + 1, by omega, by go_num, (unhide HX).2.1.later hb4, (unhide HX).1.trans (hb4.mono (unhide HX).1.size), fun lv pl a b e => by
                by_cases e2 : placeNo h lv pl = k
                · exact unhide HNO lv pl a b e2
                · exact (unhide HX).2.2 lv pl a b (by omega)⟩
            case measure => simp [intOf]; omega
          · obtain ⟨a, rfl⟩ := Option.isSome_iff_exists.1 hs
            have HE : Hid (ExtR h (Ls.map (dataOf h root)) x y) := .inl ⟨lv, pl, h1, h2, h4, fun lv' pl' a b e => (unhide HX).2.2 lv' pl' a b (by omega)⟩
            have HT2 := hide (And.intro t1 (And.intro t2 hne))
            have hb4 : Below wr.heap.size wr (wr.alloc (Obj.cells #[Value.slice va vn vc, Value.slice (some a) un uc] 185)) := (Below.refl _ _).alloc (Nat.le_refl _) _
            have hx4 := heap_alloc_new wr (Obj.cells #[Value.slice va vn vc, Value.slice (some a) un uc] 185)
            have HB4 := hide hb4
            clear t1 t2 hne h1 h2 h3 h4 hs hb4
            go_upto_region 10 with fail
            generalize (wr.alloc (Obj.cells #[Value.slice va vn vc, Value.slice (some a) un uc] 185)) = W4 at *
            have d0 : W4.cell? ⟨wr.heap.size, 0, none⟩ = some (.slice va vn vc) := block_cell hx4
            have d1 : W4.cell? ⟨wr.heap.size, 1, none⟩ = some (.slice (some a) un uc) := block_cell hx4
            clear hx4 c0 c1
            go_wp2_with fail
            go_quiet (fail)
            go_wp2
            go_ret2
            have hbw := (unhide HX).1.trans ((unhide HB4).mono (unhide HX).1.size)
            refine ⟨⟨_, _, x, y, rfl, unhide HE, .inr ⟨?_, ?_, (unhide HT2).2.2⟩⟩, below_drewN hbw _⟩
            · exact ((unhide HT2).1.later (unhide HB4)).same fun _ _ => rfl
            · exact ((unhide HT2).2.1.later (unhide HB4)).same fun _ _ => rfl
        · have hkk : k = P := by omega
          subst hkk
          have HE : Hid (ExtR h (Ls.map (dataOf h root)) [] []) := .inr ⟨rfl, rfl, by rw [(unhide HPQ).1]; exact hNB⟩
          have HB := hide hB
          clear hB hT hNB
          go_wp2
          go_ret2
          exact ⟨⟨_, _, [], [], rfl, unhide HE, .inl ⟨rfl, rfl, rfl, rfl⟩⟩, unhide HB⟩

end Go.Proofs.YtbjobbkgelipmaaGreat
