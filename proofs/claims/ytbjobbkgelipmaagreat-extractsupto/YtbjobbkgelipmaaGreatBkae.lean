/-
  A book in memory: its record, its map, its accounts.
-/
import Derived.Maps.OwnSet
import Derived.Maps.OwnOps
import Derived.Maps.Ext
import Derived.BigQuiet
import Derived.OwnWalk
import Derived.Shelf.Pu.Clone
import Derived.Deep.DeepCutAuto
import Derived.Deep.RegionHeld3
import Derived.Carry
import Derived.Test.YtbjobbkgelipmaaGreatBkad
import Derived.Test.YtbjobbkgelipmaaGreatBkaa
namespace Go.Proofs.YtbjobbkgelipmaaGreat
open Go.RowKit Go.Maps Go.WideMaps

/-- An account: its name, its block, its balance. -/
structure Acct where
  name : List UInt8
  blk : Nat
  bal : Int
/-- How an account's place reads. -/
def ptrElem : Value → Option (DataW Nat × List MemPlace)
  | .pointer none => some (.nil, [])
  | .pointer (some ⟨A, 0, none⟩) => some (.held A, [])
  | _ => none
theorem ptr_nil {v : Value} {ps : List MemPlace} (h : ptrElem v = some (.nil, ps)) : v = .pointer none := by
  unfold ptrElem at h
  split at h
  · rfl
  · simp at h
  · cases h
theorem ptr_held {v : Value} {A : Nat} {ps : List MemPlace} (h : ptrElem v = some (.held A, ps)) : v = .pointer (some ⟨A, 0, none⟩) := by
  unfold ptrElem at h
  split at h
  · simp at h
  · simp at h; rw [h.1]
  · cases h

def entOf (a : Acct) : Lit × DataW Nat := (.string a.name, .held a.blk)
def datE (E : List Acct) : DataW Nat := .map (E.map entOf)
def lookE (E : List Acct) (s : List UInt8) : Option Acct := E.find? (fun a => a.name == s)
def sumE (E : List Acct) : Int := (E.map Acct.bal).sum
def setE (E : List Acct) (s : List UInt8) (x : Int) : List Acct := E.map fun a => if a.name = s then { a with bal := x } else a

theorem datE_at (s : List UInt8) : ∀ E : List Acct, (datE E).atKey (.string s) .nil = match lookE E s with | none => .nil | some a => .held a.blk
  | [] => rfl
  | a :: E => by
    have ih := datE_at s E
    unfold datE lookE at *
    simp only [DataW.atKey, List.map_cons, List.find?_cons] at ih ⊢
    have e : (entOf a).1.sameKey (.string s) = (a.name == s) := rfl
    rw [e]
    cases h : (a.name == s)
    · simpa using ih
    · rfl
theorem lookE_name {E : List Acct} {s : List UInt8} {a : Acct} (h : lookE E s = some a) : a ∈ E ∧ a.name = s := by
  unfold lookE at h
  exact ⟨List.mem_of_find?_eq_some h, by simpa using List.find?_some h⟩
theorem lookE_none {E : List Acct} {s : List UInt8} (h : lookE E s = none) : ∀ a ∈ E, a.name ≠ s := by
  unfold lookE at h
  intro a ha e
  have := List.find?_eq_none.1 h a ha
  simp [e] at this
theorem datE_set (E : List Acct) (s : List UInt8) (x : Int) : datE (setE E s x) = datE E := by
  unfold datE setE
  rw [List.map_map]
  congr 1
  apply List.map_congr_left
  intro a _
  simp only [Function.comp]
  split <;> rfl
theorem len_set (E : List Acct) (s : List UInt8) (x : Int) : (setE E s x).length = E.length := by simp [setE]
theorem mem_set {E : List Acct} {s : List UInt8} {x : Int} {b : Acct} (h : b ∈ setE E s x) : ∃ a ∈ E, b.name = a.name ∧ b.blk = a.blk ∧ ((a.name = s ∧ b.bal = x) ∨ (a.name ≠ s ∧ b.bal = a.bal)) := by
  unfold setE at h
  obtain ⟨a, ha, rfl⟩ := List.mem_map.1 h
  refine ⟨a, ha, ?_⟩
  split
  · rename_i e; exact ⟨rfl, rfl, .inl ⟨e, rfl⟩⟩
  · rename_i e; exact ⟨rfl, rfl, .inr ⟨e, rfl⟩⟩
theorem set_apart {E : List Acct} {s : List UInt8} {x : Int} (h : E.Pairwise (fun a b => a.blk ≠ b.blk)) : (setE E s x).Pairwise (fun a b => a.blk ≠ b.blk) := by
  unfold setE
  rw [List.pairwise_map]
  refine h.imp fun {a b} hab => ?_
  split <;> split <;> exact hab
theorem set_same {E : List Acct} {s : List UInt8} {x : Int} (h : ∀ a ∈ E, a.name ≠ s) : setE E s x = E := by
  unfold setE
  conv => rhs; rw [← List.map_id E]
  apply List.map_congr_left
  intro a ha
  rw [if_neg (h a ha)]; rfl
theorem sum_set {s : List UInt8} {x : Int} : ∀ {E : List Acct} {a : Acct}, E.Pairwise (fun a b => a.name ≠ b.name) → lookE E s = some a → sumE (setE E s x) = sumE E - a.bal + x
  | [], a, _, h => by cases h
  | b :: E, a, hp, h => by
    rw [List.pairwise_cons] at hp
    unfold lookE at h
    rw [List.find?_cons] at h
    cases hb : (b.name == s)
    · rw [hb] at h
      have ih := sum_set (x := x) hp.2 (show lookE E s = some a from h)
      have hne : b.name ≠ s := by simpa using hb
      have e : setE (b :: E) s x = b :: setE E s x := by simp [setE, hne]
      rw [e]
      unfold sumE at *
      simp only [List.map_cons, List.sum_cons]
      omega
    · rw [hb] at h
      have hab : b = a := by simpa using h
      subst hab
      have hbs : b.name = s := by simpa using hb
      have e : setE (b :: E) s x = { b with bal := x } :: E := by
        have e2 := set_same (x := x) (E := E) (s := s) (fun c hc e => hp.1 c hc (by rw [hbs, e]))
        unfold setE at e2 ⊢
        rw [List.map_cons, e2, if_pos hbs]
      rw [e]
      unfold sumE
      simp only [List.map_cons, List.sum_cons]
      omega
theorem look_set {s : List UInt8} {x : Int} : ∀ {E : List Acct} {a : Acct}, lookE E s = some a → lookE (setE E s x) s = some { a with bal := x }
  | [], a, h => by cases h
  | b :: E, a, h => by
    unfold lookE at h
    rw [List.find?_cons] at h
    cases hb : (b.name == s)
    · rw [hb] at h
      have hne : b.name ≠ s := by simpa using hb
      have e : setE (b :: E) s x = b :: setE E s x := by simp [setE, hne]
      rw [e]
      unfold lookE
      rw [List.find?_cons, hb]
      exact look_set (show lookE E s = some a from h)
    · rw [hb] at h
      have hab : b = a := by simpa using h
      subst hab
      have hbs : b.name = s := by simpa using hb
      unfold setE lookE
      rw [List.map_cons, if_pos hbs, List.find?_cons]
      simp [hbs]
theorem look_set_ne {s t : List UInt8} {x : Int} (hst : t ≠ s) : ∀ {E : List Acct}, lookE (setE E s x) t = lookE E t
  | [] => rfl
  | b :: E => by
    have ih := look_set_ne (x := x) hst (E := E)
    unfold setE lookE at *
    rw [List.map_cons, List.find?_cons, List.find?_cons]
    by_cases hb : b.name = s
    · rw [if_pos hb]
      have : (b.name == t) = false := by simp [hb]; exact fun e => hst e.symm
      simp only [this]
      exact ih
    · rw [if_neg hb, ih]
theorem le_sum {E : List Acct} {a : Acct} (hp : ∀ b ∈ E, 0 ≤ b.bal) (h : a ∈ E) : a.bal ≤ sumE E := by
  induction E with
  | nil => cases h
  | cons b E ih =>
    unfold sumE
    simp only [List.map_cons, List.sum_cons]
    have hs : 0 ≤ (E.map Acct.bal).sum := by
      clear ih h
      induction E with
      | nil => simp
      | cons c E ih => simp only [List.map_cons, List.sum_cons]; have := ih (fun d hd => hp d (by simp at hd ⊢; rcases hd with rfl | hd <;> simp [*])); have := hp c (by simp); omega
    rcases List.mem_cons.1 h with rfl | h
    · omega
    · have := ih (fun d hd => hp d (List.mem_cons_of_mem _ hd)) h
      have hb := hp b (by simp)
      unfold sumE at this
      omega

/-- What lies in memory of a book, whatever its record says of the sum. -/
structure BookT (w : World) (B M : Nat) (h seed : Int) (last : Option Addr) (tot : Int) (E : List Acct) : Prop where
  blk : w.heap[B]? = some (.cells #[.int .i64 h, .int .u64 seed, .map (some M), .int .u64 tot, .pointer last] 89 (0, 0))
  own : w.ownsMap Tryz.prog 9 ptrElem M E.length (datE E)
  acc : ∀ a ∈ E, w.heap[a.blk]? = some (.cells #[.int .u64 a.bal] 91 (0, 0))
  apart : E.Pairwise (fun a b => a.blk ≠ b.blk)
  pos : ∀ a ∈ E, 0 ≤ a.bal
/-- What lies in memory of a book. -/
structure BookM (w : World) (B M : Nat) (h seed : Int) (last : Option Addr) (E : List Acct) : Prop extends BookT w B M h seed last (sumE E) E where
  sum : sumE E ≤ maxS
/-- The blocks of a book. -/
def blksE (B M : Nat) (E : List Acct) : List Nat := B :: M :: E.map Acct.blk

theorem Tryz.lawS : Keyed Tryz.prog 9 := string_keyed Tryz.underlying9
theorem Tryz.zeroAcc (w : World) : (zeroValue 85).run Tryz.prog w = .ok (.pointer none) w := by kernel_rfl
theorem Tryz.undAcc : Tryz.prog.underlying 86 = some (.map 9 85) := by kernel_rfl

def ptrOf : Option Acct → Value
  | none => .pointer none
  | some a => .pointer (some ⟨a.blk, 0, none⟩)
theorem BookT.look {w : World} {B M : Nat} {h seed tot : Int} {last : Option Addr} {E : List Acct} (hb : BookT w B M h seed last tot E) (s : ByteArray) (hs : s.size ≤ maxLen) :
    (Instr.lookup 86 (.map (some M)) (.string s) false).run Tryz.prog w = .ok (ptrOf (lookE E s.data.toList)) w := by
  obtain ⟨v, ps, hrun, hv⟩ := hb.own.lookup Tryz.lawS Tryz.undAcc (Tryz.zeroAcc w) (show ptrElem (.pointer none) = some (.nil, []) from rfl) (keyOf_string_mk Tryz.underlying9 hs)
  rw [hrun]
  rw [datE_at] at hv
  cases hl : lookE E s.data.toList with
  | none => rw [hl] at hv; rw [ptr_nil hv]; rfl
  | some a => rw [hl] at hv; rw [ptr_held hv]; rfl
theorem BookT.names {w : World} {B M : Nat} {h seed tot : Int} {last : Option Addr} {E : List Acct} (hb : BookT w B M h seed last tot E) : E.Pairwise (fun a b => a.name ≠ b.name) := by
  obtain ⟨es, e, hp⟩ := hb.own.tidy Tryz.lawS
  unfold datE at e
  cases e
  rw [List.pairwise_map] at hp
  exact hp.imp fun {a b} h e => h (by unfold entOf; rw [e])

end Go.Proofs.YtbjobbkgelipmaaGreat

/-
  The walks of tithe's Balance, Pay, Draw.
-/
namespace Go.Proofs.YtbjobbkgelipmaaGreat
open Go.RowKit Go.Maps

/-- Nothing has turned but some blocks, and new ones. -/
structure Kept (S : List Nat) (w w' : World) : Prop where
  os : w'.os = w.os
  tape : w'.tape = w.tape
  output : w'.output = w.output
  size : w.heap.size ≤ w'.heap.size
  block : ∀ k, k < w.heap.size → k ∉ S → w'.heap[k]? = w.heap[k]?
theorem Kept.refl (S : List Nat) (w : World) : Kept S w w := ⟨rfl, rfl, rfl, Nat.le_refl _, fun _ _ _ => rfl⟩
theorem Kept.below {S : List Nat} {w w' : World} (h : Kept S w w') {b : Nat} (hb : b ≤ w.heap.size) (hS : ∀ k ∈ S, b ≤ k) : Below b w w' :=
  ⟨h.os, h.tape, h.output, h.size, fun k hk => h.block k (by omega) (fun hs => by have := hS k hs; omega)⟩
theorem Kept.of_below {S : List Nat} {w w' : World} (h : Below w.heap.size w w') : Kept S w w' := ⟨h.os, h.tape, h.output, h.size, fun k hk _ => h.block k hk⟩
theorem Kept.trans {S : List Nat} {a b c : World} (h : Kept S a b) (k : Kept S b c) : Kept S a c :=
  ⟨k.os.trans h.os, k.tape.trans h.tape, k.output.trans h.output, Nat.le_trans h.size k.size, fun i hi hs => (k.block i (Nat.lt_of_lt_of_le hi h.size) hs).trans (h.block i hi hs)⟩
theorem Kept.mono {S T : List Nat} {a b : World} (h : Kept S a b) (hst : ∀ k ∈ S, k ∈ T) : Kept T a b := ⟨h.os, h.tape, h.output, h.size, fun k hk hn => h.block k hk (fun hs => hn (hst k hs))⟩
theorem Kept.setCell {S : List Nat} {w : World} {b i : Nat} (hb : b ∈ S) (v : Value) : Kept S w (w.setCell ⟨b, i, none⟩ v) :=
  ⟨rfl, rfl, rfl, by simp, fun k _ hs => Below.heap_setCell _ _ _ _ (fun e => hs (by have : k = b := e; rw [this]; exact hb))⟩

theorem BookM.cells {w : World} {B M : Nat} {h seed : Int} {last : Option Addr} {E : List Acct} (hb : BookM w B M h seed last E) : w.cell? ⟨B, 2, none⟩ = some (.map (some M)) ∧ w.cell? ⟨B, 3, none⟩ = some (.int .u64 (sumE E)) ∧ w.frozen? ⟨B, 3, none⟩ = false :=
  ⟨block_cell hb.blk, block_cell hb.blk, block_free hb.blk⟩

/-- What Balance answers. -/
def balE (E : List Acct) (s : List UInt8) : Option Int := (lookE E s).map Acct.bal

set_option maxHeartbeats 400000 in
set_option maxRecDepth 100000 in
theorem balance_any {w : World} {B M : Nat} {h seed : Int} {last : Option Addr} {E : List Acct} (hb : BookM w B M h seed last E) (s : ByteArray) (hs : s.size ≤ maxLen) :
    Calls Tryz.prog 29 #[.pointer (some ⟨B, 0, none⟩), .string s] w fun e w' => e = .returned (.tuple #[.int .u64 ((balE E s.data.toList).getD 0), .int .i64 (if (balE E s.data.toList).isSome then 0 else 4)]) ∧ w' = w := by
  have hl := hb.look s hs
  obtain ⟨c2, _, _⟩ := hb.cells
  unfold balE
  cases hk : lookE E s.data.toList with
  | none =>
    rw [hk] at hl
    unfold ptrOf at hl
    clear hb hk
    go_enter Tryz.func29, Tryz.ntmps29
    go_wp2
    go_ret2
    exact ⟨rfl, rfl⟩
  | some a =>
    rw [hk] at hl
    obtain ⟨nm, A, x⟩ := a
    have ca : w.cell? ⟨A, 0, none⟩ = some (.int .u64 x) := block_cell (hb.acc _ (lookE_name hk).1)
    replace hl : (Instr.lookup 86 (.map (some M)) (.string s) false).run Tryz.prog w = .ok (.pointer (some ⟨A, 0, none⟩)) w := hl
    clear hb hk
    go_enter Tryz.func29, Tryz.ntmps29
    go_wp2
    go_ret2
    exact ⟨rfl, rfl⟩

theorem pw_inj {α β : Type} {f : α → β} : ∀ {l : List α}, l.Pairwise (fun a b => f a ≠ f b) → ∀ {a b : α}, a ∈ l → b ∈ l → f a = f b → a = b
  | [], _, _, _, h, _, _ => by cases h
  | c :: l, hp, a, b, ha, hb, e => by
    rw [List.pairwise_cons] at hp
    rcases List.mem_cons.1 ha with ha' | ha' <;> rcases List.mem_cons.1 hb with hb' | hb'
    · rw [ha', hb']
    · rw [ha'] at e; exact absurd e (hp.1 _ hb')
    · rw [hb'] at e; exact absurd e.symm (hp.1 _ ha')
    · exact pw_inj hp.2 ha' hb' e

/-- The balance of an account turns. -/
theorem BookT.turn {w w' : World} {B M : Nat} {h seed tot t : Int} {last : Option Addr} {E : List Acct} (hb : BookT w B M h seed last tot E) {a : Acct} {s : List UInt8} {x : Int} (hk : lookE E s = some a) (hx : 0 ≤ x)
    (hB : w'.heap[B]? = some (.cells #[.int .i64 h, .int .u64 seed, .map (some M), .int .u64 t, .pointer last] 89 (0, 0)))
    (hA : w'.heap[a.blk]? = some (.cells #[.int .u64 x] 91 (0, 0))) (hK : Kept [B, a.blk] w w') : BookT w' B M h seed last t (setE E s x) := by
  obtain ⟨hmem, hnm⟩ := lookE_name hk
  have hBA : ∀ k, k ≠ B → k ≠ a.blk → k < w.heap.size → w'.heap[k]? = w.heap[k]? := fun k h1 h2 hl => hK.block k hl (by simp [h1, h2])
  refine ⟨hB, ?_, ?_, set_apart hb.apart, ?_⟩
  · rw [datE_set, len_set]
    obtain ⟨es, cl, he, r⟩ := hb.own
    refine ⟨es, cl, ?_, r⟩
    have h1 : M ≠ B := fun e => by rw [e, hb.blk] at he; cases he
    have h2 : M ≠ a.blk := fun e => by rw [e, hb.acc a hmem] at he; cases he
    rw [hBA M h1 h2 (Array.getElem?_eq_some_iff.1 he).1]
    exact he
  · intro b hbm
    obtain ⟨c, hc, e1, e2, e3⟩ := mem_set hbm
    rw [e2]
    rcases e3 with ⟨e4, e5⟩ | ⟨e4, e5⟩
    · have hca : c = a := pw_inj hb.names hc hmem (e4.trans hnm.symm)
      rw [hca, e5]; exact hA
    · rw [e5]
      have hcb := hb.acc c hc
      have h1 : c.blk ≠ B := fun e => by rw [e, hb.blk] at hcb; simp at hcb
      have h2 : c.blk ≠ a.blk := fun e => e4 (by rw [pw_inj hb.apart hc hmem e]; exact hnm)
      rw [hBA c.blk h1 h2 (Array.getElem?_eq_some_iff.1 hcb).1]
      exact hcb
  · intro b hbm
    obtain ⟨c, hc, _, _, e3⟩ := mem_set hbm
    rcases e3 with ⟨_, e5⟩ | ⟨_, e5⟩
    · rw [e5]; exact hx
    · rw [e5]; exact hb.pos c hc
theorem BookT.ne {w : World} {B M : Nat} {h seed tot : Int} {last : Option Addr} {E : List Acct} (hb : BookT w B M h seed last tot E) {a : Acct} (ha : a ∈ E) : a.blk ≠ B := fun e => by
  have := hb.acc a ha
  rw [e, hb.blk] at this; simp at this
/-- An account's cell is written. -/
theorem BookT.put {w : World} {B M : Nat} {h seed tot : Int} {last : Option Addr} {E : List Acct} (hb : BookT w B M h seed last tot E) {a : Acct} {s : List UInt8} {x : Int} (hk : lookE E s = some a) (hx : 0 ≤ x) : BookT (w.setCell ⟨a.blk, 0, none⟩ (.int .u64 x)) B M h seed last tot (setE E s x) := by
  have hne := hb.ne (lookE_name hk).1
  refine hb.turn hk hx ?_ (heap_setCell_same _ a.blk 0 #[.int .u64 a.bal] _ _ (hb.acc a (lookE_name hk).1)) (Kept.setCell (by simp) _)
  rw [Below.heap_setCell _ _ _ _ (by show B ≠ a.blk; exact fun e => hne e.symm)]
  exact hb.blk
/-- The record's sum is written. -/
theorem BookT.tell {w : World} {B M : Nat} {h seed tot : Int} {last : Option Addr} {E : List Acct} (hb : BookT w B M h seed last tot E) (t : Int) : BookT (w.setCell ⟨B, 3, none⟩ (.int .u64 t)) B M h seed last t E := by
  have e : ∀ k, k ≠ B → (w.setCell ⟨B, 3, none⟩ (.int .u64 t)).heap[k]? = w.heap[k]? := fun k hk => Below.heap_setCell _ _ _ _ hk
  refine ⟨heap_setCell_same _ B 3 _ _ _ hb.blk, ?_, fun a ha => (e _ (hb.ne ha)).trans (hb.acc a ha), hb.apart, hb.pos⟩
  obtain ⟨es, cl, he, r⟩ := hb.own
  exact ⟨es, cl, (e M (fun e => by rw [e, hb.blk] at he; cases he)).trans he, r⟩

/-- What Pay answers and does. -/
def payE (E : List Acct) (s : List UInt8) (n : Int) : Int × List Acct := match lookE E s with
  | none => (4, E)
  | some a => if sumE E + n ≤ maxS then (0, setE E s (a.bal + n)) else (5, E)

set_option maxHeartbeats 400000 in
set_option maxRecDepth 100000 in
theorem pay_any {w : World} {B M : Nat} {h seed : Int} {last : Option Addr} {E : List Acct} (hb : BookM w B M h seed last E) (s : ByteArray) (n : Int) (hs : s.size ≤ maxLen) (hn : 0 ≤ n) (hn2 : n < 18446744073709551616) :
    Calls Tryz.prog 23 #[.pointer (some ⟨B, 0, none⟩), .string s, .int .u64 n] w fun e w' => e = .returned (.int .i64 (payE E s.data.toList n).1) ∧ BookM w' B M h seed last (payE E s.data.toList n).2 ∧ Kept (blksE B M E) w w' := by
  have hl := hb.look s hs
  obtain ⟨c2, c3, f3⟩ := hb.cells
  unfold payE
  cases hk : lookE E s.data.toList with
  | none =>
    rw [hk] at hl
    replace hl : (Instr.lookup 86 (.map (some M)) (.string s) false).run Tryz.prog w = .ok (.pointer none) w := hl
    have HB := hide hb
    clear hb hk
    go_enter Tryz.func23, Tryz.ntmps23
    go_wp2
    go_ret
    exact ⟨rfl, unhide HB, Kept.refl _ _⟩
  | some a =>
    rw [hk] at hl
    have hacc := hb.acc _ (lookE_name hk).1
    have hpos := hb.pos _ (lookE_name hk).1
    have hle := le_sum hb.pos (lookE_name hk).1
    have hmax := hb.sum
    have HAd := fun w => hide (add_any (sumE E) n w (by omega) hn)
    have ca : w.cell? ⟨a.blk, 0, none⟩ = some (.int .u64 a.bal) := block_cell hacc
    have fa : w.frozen? ⟨a.blk, 0, none⟩ = false := block_free hacc
    have hne : a.blk ≠ B := fun e => by rw [e, hb.blk] at hacc; simp at hacc
    replace hl : (Instr.lookup 86 (.map (some M)) (.string s) false).run Tryz.prog w = .ok (.pointer (some ⟨a.blk, 0, none⟩)) w := hl
    by_cases hc : sumE E + n ≤ maxS
    · show Calls _ _ _ _ fun e w' => e = .returned (.int .i64 (if sumE E + n ≤ maxS then (0, setE E s.data.toList (a.bal + n)) else (5, E)).1) ∧ BookM w' B M h seed last (if sumE E + n ≤ maxS then (0, setE E s.data.toList (a.bal + n)) else (5, E)).2 ∧ _
      rw [if_pos hc]
      have hcap := capS_id (sumE E) n (by omega) hn hc
      rw [decide_eq_true hc, hcap] at HAd
      have hT : BookM ((w.setCell ⟨B, 3, none⟩ (.int .u64 (sumE E + n))).setCell ⟨a.blk, 0, none⟩ (.int .u64 (a.bal + n))) B M h seed last (setE E s.data.toList (a.bal + n)) := by
        have hsum := sum_set (x := a.bal + n) hb.names hk
        have hq := (hb.tell (sumE E + n)).put hk (x := a.bal + n) (by omega)
        have e : sumE E + n = sumE (setE E s.data.toList (a.bal + n)) := by omega
        refine ⟨?_, by omega⟩
        rw [← e]
        exact hq
      have hK : Kept (blksE B M E) w ((w.setCell ⟨B, 3, none⟩ (.int .u64 (sumE E + n))).setCell ⟨a.blk, 0, none⟩ (.int .u64 (a.bal + n))) :=
        (Kept.setCell (by simp [blksE]) _).trans (Kept.setCell (by simp only [blksE, List.mem_cons]; exact .inr (.inr (List.mem_map_of_mem (lookE_name hk).1))) _)
      have HE := hide (And.intro hT hK)
      have hwr : IntKind.u64.wrap (a.bal + n) = a.bal + n := by rw [IntKind.wrap_u64]; unfold maxS at hc hmax; omega
      generalize a.blk = A at *
      generalize a.bal = x at *
      generalize sumE E = S at *
      clear hb hk hT hK hacc hpos hle hmax hc hcap hn hn2
      go_enter Tryz.func23, Tryz.ntmps23
      go_wp2_with fail
      refine (unhide (HAd _)).mono ?_
      rintro e w1 ⟨rfl, rfl⟩
      clear HAd
      go_wp2
      go_ret
      exact ⟨rfl, unhide HE⟩
    · show Calls _ _ _ _ fun e w' => e = .returned (.int .i64 (if sumE E + n ≤ maxS then (0, setE E s.data.toList (a.bal + n)) else (5, E)).1) ∧ BookM w' B M h seed last (if sumE E + n ≤ maxS then (0, setE E s.data.toList (a.bal + n)) else (5, E)).2 ∧ _
      rw [if_neg hc]
      rw [decide_eq_false hc] at HAd
      have HB := hide hb
      generalize a.blk = A at *
      generalize hS : sumE E = S at *
      generalize capS S + capS n = cs at *
      clear hb hk hacc hpos hle hmax hc hn hn2 hS
      go_enter Tryz.func23, Tryz.ntmps23
      go_wp2_with fail
      refine (unhide (HAd _)).mono ?_
      rintro e w1 ⟨rfl, rfl⟩
      clear HAd
      go_wp2
      go_ret
      exact ⟨rfl, unhide HB, Kept.refl _ _⟩

/-- What Draw answers and does. -/
def drawE (E : List Acct) (s : List UInt8) (n : Int) : Int × List Acct := match lookE E s with
  | none => (4, E)
  | some a => if n ≤ a.bal then (0, setE E s (a.bal - n)) else (5, E)

set_option maxHeartbeats 400000 in
set_option maxRecDepth 100000 in
theorem draw_any {w : World} {B M : Nat} {h seed : Int} {last : Option Addr} {E : List Acct} (hb : BookM w B M h seed last E) (s : ByteArray) (n : Int) (hs : s.size ≤ maxLen) (hn : 0 ≤ n) (hn2 : n < 18446744073709551616) :
    Calls Tryz.prog 25 #[.pointer (some ⟨B, 0, none⟩), .string s, .int .u64 n] w fun e w' => e = .returned (.int .i64 (drawE E s.data.toList n).1) ∧ BookM w' B M h seed last (drawE E s.data.toList n).2 ∧ Kept (blksE B M E) w w' := by
  have hl := hb.look s hs
  obtain ⟨c2, c3, f3⟩ := hb.cells
  unfold drawE
  cases hk : lookE E s.data.toList with
  | none =>
    rw [hk] at hl
    replace hl : (Instr.lookup 86 (.map (some M)) (.string s) false).run Tryz.prog w = .ok (.pointer none) w := hl
    have HB := hide hb
    clear hb hk
    go_enter Tryz.func25, Tryz.ntmps25
    go_wp2
    go_ret
    exact ⟨rfl, unhide HB, Kept.refl _ _⟩
  | some a =>
    rw [hk] at hl
    have hacc := hb.acc _ (lookE_name hk).1
    have hpos := hb.pos _ (lookE_name hk).1
    have hle := le_sum hb.pos (lookE_name hk).1
    have hmax := hb.sum
    have HAd := fun w => hide (take_any a.bal n w hpos hn (by unfold maxS at hmax; omega) hn2)
    have ca : w.cell? ⟨a.blk, 0, none⟩ = some (.int .u64 a.bal) := block_cell hacc
    have fa : w.frozen? ⟨a.blk, 0, none⟩ = false := block_free hacc
    have hne : a.blk ≠ B := fun e => by rw [e, hb.blk] at hacc; simp at hacc
    replace hl : (Instr.lookup 86 (.map (some M)) (.string s) false).run Tryz.prog w = .ok (.pointer (some ⟨a.blk, 0, none⟩)) w := hl
    by_cases hc : n ≤ a.bal
    · show Calls _ _ _ _ fun e w' => e = .returned (.int .i64 (if n ≤ a.bal then (0, setE E s.data.toList (a.bal - n)) else (5, E)).1) ∧ BookM w' B M h seed last (if n ≤ a.bal then (0, setE E s.data.toList (a.bal - n)) else (5, E)).2 ∧ _
      rw [if_pos hc]
      have hcap : max a.bal n - n = a.bal - n := by omega
      rw [decide_eq_true hc, hcap] at HAd
      have hT : BookM ((w.setCell ⟨B, 3, none⟩ (.int .u64 (sumE E - n))).setCell ⟨a.blk, 0, none⟩ (.int .u64 (a.bal - n))) B M h seed last (setE E s.data.toList (a.bal - n)) := by
        have hsum := sum_set (x := a.bal - n) hb.names hk
        have hq := (hb.tell (sumE E - n)).put hk (x := a.bal - n) (by omega)
        have e : sumE E - n = sumE (setE E s.data.toList (a.bal - n)) := by omega
        refine ⟨?_, by omega⟩
        rw [← e]
        exact hq
      have hK : Kept (blksE B M E) w ((w.setCell ⟨B, 3, none⟩ (.int .u64 (sumE E - n))).setCell ⟨a.blk, 0, none⟩ (.int .u64 (a.bal - n))) :=
        (Kept.setCell (by simp [blksE]) _).trans (Kept.setCell (by simp only [blksE, List.mem_cons]; exact .inr (.inr (List.mem_map_of_mem (lookE_name hk).1))) _)
      have HE := hide (And.intro hT hK)
      have hwr : IntKind.u64.wrap (sumE E - n) = sumE E - n := by rw [IntKind.wrap_u64]; unfold maxS at hmax; omega
      generalize a.blk = A at *
      generalize a.bal = x at *
      generalize sumE E = S at *
      clear hb hk hT hK hacc hpos hle hmax hc hcap hn hn2
      go_enter Tryz.func25, Tryz.ntmps25
      go_wp2_with fail
      refine (unhide (HAd _)).mono ?_
      rintro e w1 ⟨rfl, rfl⟩
      clear HAd
      go_wp2
      go_ret
      exact ⟨rfl, unhide HE⟩
    · show Calls _ _ _ _ fun e w' => e = .returned (.int .i64 (if n ≤ a.bal then (0, setE E s.data.toList (a.bal - n)) else (5, E)).1) ∧ BookM w' B M h seed last (if n ≤ a.bal then (0, setE E s.data.toList (a.bal - n)) else (5, E)).2 ∧ _
      rw [if_neg hc]
      rw [decide_eq_false hc] at HAd
      have HB := hide hb
      generalize max a.bal n - n = cs at *
      generalize a.blk = A at *
      generalize a.bal = x at *
      clear hb hk hacc hpos hle hmax hc hn hn2
      go_enter Tryz.func25, Tryz.ntmps25
      go_wp2_with fail
      refine (unhide (HAd _)).mono ?_
      rintro e w1 ⟨rfl, rfl⟩
      clear HAd
      go_wp2
      go_ret
      exact ⟨rfl, unhide HB, Kept.refl _ _⟩

end Go.Proofs.YtbjobbkgelipmaaGreat

/-
  The walks of tithe's Move and Close.
-/
namespace Go.Proofs.YtbjobbkgelipmaaGreat
open Go.RowKit Go.Maps Go.WideMaps

/-- What Move answers and does. -/
def moveE (E : List Acct) (s t : List UInt8) (n : Int) : Int × List Acct := match lookE E s, lookE E t with
  | some a, some b => if n ≤ a.bal then (0, setE (setE E s (a.bal - n)) t ((if t = s then a.bal - n else b.bal) + n)) else (5, E)
  | _, _ => (4, E)

theorem move_sum {E : List Acct} {s t : List UInt8} {a b : Acct} {n : Int} (hn : E.Pairwise (fun a b => a.name ≠ b.name)) (h1 : lookE E s = some a) (h2 : lookE E t = some b) :
    sumE (setE (setE E s (a.bal - n)) t ((if t = s then a.bal - n else b.bal) + n)) = sumE E := by
  have hn2 : (setE E s (a.bal - n)).Pairwise (fun a b => a.name ≠ b.name) := by
    unfold setE
    rw [List.pairwise_map]
    refine hn.imp fun {a b} hab => ?_
    split <;> split <;> exact hab
  have e1 := sum_set (x := a.bal - n) hn h1
  by_cases hts : t = s
  · subst hts
    rw [if_pos rfl]
    have e2 := sum_set (x := a.bal - n + n) hn2 (look_set h1)
    simp only at e2
    omega
  · rw [if_neg hts]
    have e2 := sum_set (x := b.bal + n) hn2 ((look_set_ne hts).trans h2)
    omega

theorem BookT.heap {w w' : World} {B M : Nat} {h seed tot : Int} {last : Option Addr} {E : List Acct} (hb : BookT w B M h seed last tot E) (e : w'.heap = w.heap) : BookT w' B M h seed last tot E := by
  refine ⟨by rw [e]; exact hb.blk, ?_, fun a ha => by rw [e]; exact hb.acc a ha, hb.apart, hb.pos⟩
  obtain ⟨es, cl, he, r⟩ := hb.own
  exact ⟨es, cl, by rw [e]; exact he, r⟩
theorem BookM.heap {w w' : World} {B M : Nat} {h seed : Int} {last : Option Addr} {E : List Acct} (hb : BookM w B M h seed last E) (e : w'.heap = w.heap) : BookM w' B M h seed last E := ⟨hb.toBookT.heap e, hb.sum⟩

set_option maxHeartbeats 1000000 in
set_option maxRecDepth 100000 in
theorem move_no {w : World} {B M : Nat} {h seed : Int} {last : Option Addr} {E : List Acct} (hb : BookM w B M h seed last E) (s t : ByteArray) (n : Int) (hs : s.size ≤ maxLen) (ht : t.size ≤ maxLen) (hno : lookE E s.data.toList = none ∨ lookE E t.data.toList = none) :
    Calls Tryz.prog 27 #[.pointer (some ⟨B, 0, none⟩), .string s, .string t, .int .u64 n] w fun e w' => e = .returned (.int .i64 4) ∧ BookM w' B M h seed last E ∧ Kept (blksE B M E) w w' := by
  have hl1 : ∀ d, _ := fun d => (hb.heap (w' := w.drewN d) rfl).look s hs
  have hl2 : ∀ d, _ := fun d => (hb.heap (w' := w.drewN d) rfl).look t ht
  obtain ⟨c2, _, _⟩ := hb.cells
  have HB := hide hb
  clear hb
  cases h1 : lookE E s.data.toList with
  | none =>
    rw [h1] at hl1
    replace hl1 : ∀ d, (Instr.lookup 86 (.map (some M)) (.string s) false).run Tryz.prog (w.drewN d) = .ok (.pointer none) (w.drewN d) := hl1
    generalize ptrOf (lookE E t.data.toList) = v2 at hl2
    clear h1 hno
    go_enter Tryz.func27, Tryz.ntmps27
    go_wp2_with fail
    go_quiet (fail)
    go_wp2
    go_ret
    exact ⟨rfl, (unhide HB).heap rfl, Kept.of_below (below_drewN (Below.refl _ _) _)⟩
  | some a =>
    have h2 : lookE E t.data.toList = none := by
      rcases hno with h | h
      · rw [h1] at h; cases h
      · exact h
    rw [h1] at hl1
    rw [h2] at hl2
    obtain ⟨nm, A, x⟩ := a
    replace hl1 : ∀ d, (Instr.lookup 86 (.map (some M)) (.string s) false).run Tryz.prog (w.drewN d) = .ok (.pointer (some ⟨A, 0, none⟩)) (w.drewN d) := hl1
    replace hl2 : ∀ d, (Instr.lookup 86 (.map (some M)) (.string t) false).run Tryz.prog (w.drewN d) = .ok (.pointer none) (w.drewN d) := hl2
    clear h1 h2 hno
    go_enter Tryz.func27, Tryz.ntmps27
    go_wp2_with fail
    go_quiet (fail)
    go_wp2
    go_ret
    exact ⟨rfl, (unhide HB).heap rfl, Kept.of_below (below_drewN (Below.refl _ _) _)⟩

set_option maxHeartbeats 1000000 in
set_option maxRecDepth 100000 in
theorem move_short {w : World} {B M : Nat} {h seed : Int} {last : Option Addr} {E : List Acct} (hb : BookM w B M h seed last E) (s t : ByteArray) (n : Int) (hs : s.size ≤ maxLen) (ht : t.size ≤ maxLen) (hn : 0 ≤ n) (hn2 : n < 18446744073709551616) {a b : Acct} (h1 : lookE E s.data.toList = some a) (h2 : lookE E t.data.toList = some b) (hc : ¬ n ≤ a.bal) :
    Calls Tryz.prog 27 #[.pointer (some ⟨B, 0, none⟩), .string s, .string t, .int .u64 n] w fun e w' => e = .returned (.int .i64 5) ∧ BookM w' B M h seed last E ∧ Kept (blksE B M E) w w' := by
  have hl1 : ∀ d, _ := fun d => (hb.heap (w' := w.drewN d) rfl).look s hs
  have hl2 : ∀ d, _ := fun d => (hb.heap (w' := w.drewN d) rfl).look t ht
  rw [h1] at hl1
  rw [h2] at hl2
  obtain ⟨c2, _, _⟩ := hb.cells
  have hmax := hb.sum
  have hle := le_sum hb.pos (lookE_name h1).1
  have HAd := fun w => hide (take_any a.bal n w (hb.pos _ (lookE_name h1).1) hn (by unfold maxS at hmax; omega) hn2)
  rw [decide_eq_false hc] at HAd
  have ca : w.cell? ⟨a.blk, 0, none⟩ = some (.int .u64 a.bal) := block_cell (hb.acc _ (lookE_name h1).1)
  have HB := hide hb
  generalize max a.bal n - n = cs at *
  clear hb h1 h2 hmax hle hc hn hn2
  obtain ⟨nm, A, x⟩ := a
  obtain ⟨nm2, A2, x2⟩ := b
  replace hl1 : ∀ d, (Instr.lookup 86 (.map (some M)) (.string s) false).run Tryz.prog (w.drewN d) = .ok (.pointer (some ⟨A, 0, none⟩)) (w.drewN d) := hl1
  replace hl2 : ∀ d, (Instr.lookup 86 (.map (some M)) (.string t) false).run Tryz.prog (w.drewN d) = .ok (.pointer (some ⟨A2, 0, none⟩)) (w.drewN d) := hl2
  simp only at ca HAd
  go_enter Tryz.func27, Tryz.ntmps27
  go_wp2_with fail
  go_quiet (fail)
  go_wp2_with fail
  refine (unhide (HAd _)).mono ?_
  rintro e w1 ⟨rfl, rfl⟩
  clear HAd
  go_wp2
  go_ret
  exact ⟨rfl, (unhide HB).heap rfl, Kept.of_below (below_drewN (Below.refl _ _) _)⟩

set_option maxHeartbeats 1000000 in
set_option maxRecDepth 100000 in
theorem move_yes {w : World} {B M : Nat} {h seed : Int} {last : Option Addr} {E : List Acct} (hb : BookM w B M h seed last E) (s t : ByteArray) (n : Int) (hs : s.size ≤ maxLen) (ht : t.size ≤ maxLen) (hn : 0 ≤ n) (hn2 : n < 18446744073709551616) {a b : Acct} (h1 : lookE E s.data.toList = some a) (h2 : lookE E t.data.toList = some b) (hc : n ≤ a.bal) :
    Calls Tryz.prog 27 #[.pointer (some ⟨B, 0, none⟩), .string s, .string t, .int .u64 n] w fun e w' => e = .returned (.int .i64 0) ∧ BookM w' B M h seed last (setE (setE E s.data.toList (a.bal - n)) t.data.toList ((if t.data.toList = s.data.toList then a.bal - n else b.bal) + n)) ∧ Kept (blksE B M E) w w' := by
  have hl1 : ∀ d, _ := fun d => (hb.heap (w' := w.drewN d) rfl).look s hs
  have hl2 : ∀ d, _ := fun d => (hb.heap (w' := w.drewN d) rfl).look t ht
  rw [h1] at hl1
  rw [h2] at hl2
  obtain ⟨c2, _, _⟩ := hb.cells
  have hmax := hb.sum
  have hle := le_sum hb.pos (lookE_name h1).1
  have hle2 := le_sum hb.pos (lookE_name h2).1
  have hpos2 := hb.pos _ (lookE_name h2).1
  have HAd := fun w => hide (take_any a.bal n w (hb.pos _ (lookE_name h1).1) hn (by unfold maxS at hmax; omega) hn2)
  rw [decide_eq_true hc, show max a.bal n - n = a.bal - n by omega] at HAd
  have hac := hb.acc _ (lookE_name h1).1
  have hbc := hb.acc _ (lookE_name h2).1
  have ca : w.cell? ⟨a.blk, 0, none⟩ = some (.int .u64 a.bal) := block_cell hac
  have fa : w.frozen? ⟨a.blk, 0, none⟩ = false := block_free hac
  have cb : w.cell? ⟨b.blk, 0, none⟩ = some (.int .u64 b.bal) := block_cell hbc
  have fb : w.frozen? ⟨b.blk, 0, none⟩ = false := block_free hbc
  have hsum := move_sum (n := n) hb.names h1 h2
  by_cases hts : t.data.toList = s.data.toList
  · rw [if_pos hts] at hsum ⊢
    have hab : b = a := by rw [hts, h1] at h2; exact (Option.some.inj h2).symm
    subst hab
    have ex : b.bal - n + n = b.bal := by omega
    rw [ex] at hsum ⊢
    have HE : ∀ d, Hid (BookM (((w.drewN d).setCell ⟨b.blk, 0, none⟩ (.int .u64 (b.bal - n))).setCell ⟨b.blk, 0, none⟩ (.int .u64 b.bal)) B M h seed last (setE (setE E s.data.toList (b.bal - n)) t.data.toList b.bal) ∧ Kept (blksE B M E) w (((w.drewN d).setCell ⟨b.blk, 0, none⟩ (.int .u64 (b.bal - n))).setCell ⟨b.blk, 0, none⟩ (.int .u64 b.bal))) := fun d => by
      have q1 := (hb.toBookT.heap (w' := w.drewN d) rfl).put h1 (x := b.bal - n) (by omega)
      have h2' : lookE (setE E s.data.toList (b.bal - n)) t.data.toList = some { b with bal := b.bal - n } := by rw [hts]; exact look_set h1
      have q2 := q1.put h2' (x := b.bal) hpos2
      have hm1 : b.blk ∈ blksE B M E := by simp only [blksE, List.mem_cons]; exact .inr (.inr (List.mem_map_of_mem (lookE_name h1).1))
      exact ⟨⟨by rw [hsum]; exact q2, by rw [hsum]; exact hb.sum⟩, ((Kept.of_below (below_drewN (Below.refl _ _) _)).trans (Kept.setCell hm1 _)).trans (Kept.setCell hm1 _)⟩
    have hwr : IntKind.u64.wrap b.bal = b.bal := by rw [IntKind.wrap_u64]; unfold maxS at hmax; omega
    clear ex
    clear hb h1 h2 hmax hle hle2 hpos2 hc hn hn2 hac hbc hsum hts
    obtain ⟨nm, A, x⟩ := b
    replace hl1 : ∀ d, (Instr.lookup 86 (.map (some M)) (.string s) false).run Tryz.prog (w.drewN d) = .ok (.pointer (some ⟨A, 0, none⟩)) (w.drewN d) := hl1
    replace hl2 : ∀ d, (Instr.lookup 86 (.map (some M)) (.string t) false).run Tryz.prog (w.drewN d) = .ok (.pointer (some ⟨A, 0, none⟩)) (w.drewN d) := hl2
    simp only at ca fa cb fb HAd HE hwr ⊢
    go_enter Tryz.func27, Tryz.ntmps27
    go_wp2_with fail
    go_quiet (fail)
    go_wp2_with fail
    refine (unhide (HAd _)).mono ?_
    rintro e w1 ⟨rfl, rfl⟩
    clear HAd
    go_wp2
    go_ret
    exact ⟨rfl, unhide (HE _)⟩
  · rw [if_neg hts] at hsum ⊢
    have hne : b.blk ≠ a.blk := fun e => by
      have := pw_inj hb.apart (lookE_name h2).1 (lookE_name h1).1 e
      rw [this] at h2
      exact hts ((lookE_name h2).2.symm.trans (lookE_name h1).2)
    have HE : ∀ d, Hid (BookM (((w.drewN d).setCell ⟨a.blk, 0, none⟩ (.int .u64 (a.bal - n))).setCell ⟨b.blk, 0, none⟩ (.int .u64 (b.bal + n))) B M h seed last (setE (setE E s.data.toList (a.bal - n)) t.data.toList (b.bal + n)) ∧ Kept (blksE B M E) w (((w.drewN d).setCell ⟨a.blk, 0, none⟩ (.int .u64 (a.bal - n))).setCell ⟨b.blk, 0, none⟩ (.int .u64 (b.bal + n)))) := fun d => by
      have q1 := (hb.toBookT.heap (w' := w.drewN d) rfl).put h1 (x := a.bal - n) (by omega)
      have q2 := q1.put ((look_set_ne hts).trans h2) (x := b.bal + n) (by omega)
      have hm1 : a.blk ∈ blksE B M E := by simp only [blksE, List.mem_cons]; exact .inr (.inr (List.mem_map_of_mem (lookE_name h1).1))
      have hm2 : b.blk ∈ blksE B M E := by simp only [blksE, List.mem_cons]; exact .inr (.inr (List.mem_map_of_mem (lookE_name h2).1))
      exact ⟨⟨by rw [hsum]; exact q2, by rw [hsum]; exact hb.sum⟩, ((Kept.of_below (below_drewN (Below.refl _ _) _)).trans (Kept.setCell hm1 _)).trans (Kept.setCell hm2 _)⟩
    have hwr : IntKind.u64.wrap (b.bal + n) = b.bal + n := by rw [IntKind.wrap_u64]; unfold maxS at hmax; omega
    clear hb h1 h2 hmax hle hle2 hpos2 hc hn hn2 hac hbc hsum hts
    obtain ⟨nm, A, x⟩ := a
    obtain ⟨nm2, A2, x2⟩ := b
    replace hl1 : ∀ d, (Instr.lookup 86 (.map (some M)) (.string s) false).run Tryz.prog (w.drewN d) = .ok (.pointer (some ⟨A, 0, none⟩)) (w.drewN d) := hl1
    replace hl2 : ∀ d, (Instr.lookup 86 (.map (some M)) (.string t) false).run Tryz.prog (w.drewN d) = .ok (.pointer (some ⟨A2, 0, none⟩)) (w.drewN d) := hl2
    simp only at ca fa cb fb HAd HE hwr hne ⊢
    go_enter Tryz.func27, Tryz.ntmps27
    go_wp2_with fail
    go_quiet (fail)
    go_wp2_with fail
    refine (unhide (HAd _)).mono ?_
    rintro e w1 ⟨rfl, rfl⟩
    clear HAd
    go_wp2
    go_ret
    exact ⟨rfl, unhide (HE _)⟩

theorem move_any {w : World} {B M : Nat} {h seed : Int} {last : Option Addr} {E : List Acct} (hb : BookM w B M h seed last E) (s t : ByteArray) (n : Int) (hs : s.size ≤ maxLen) (ht : t.size ≤ maxLen) (hn : 0 ≤ n) (hn2 : n < 18446744073709551616) :
    Calls Tryz.prog 27 #[.pointer (some ⟨B, 0, none⟩), .string s, .string t, .int .u64 n] w fun e w' => e = .returned (.int .i64 (moveE E s.data.toList t.data.toList n).1) ∧ BookM w' B M h seed last (moveE E s.data.toList t.data.toList n).2 ∧ Kept (blksE B M E) w w' := by
  cases h1 : lookE E s.data.toList with
  | none =>
    have e : moveE E s.data.toList t.data.toList n = (4, E) := by unfold moveE; rw [h1]
    rw [e]
    exact move_no hb s t n hs ht (.inl h1)
  | some a =>
    cases h2 : lookE E t.data.toList with
    | none =>
      have e : moveE E s.data.toList t.data.toList n = (4, E) := by unfold moveE; rw [h1, h2]
      rw [e]
      exact move_no hb s t n hs ht (.inr h2)
    | some b =>
      by_cases hc : n ≤ a.bal
      · have e : moveE E s.data.toList t.data.toList n = (0, setE (setE E s.data.toList (a.bal - n)) t.data.toList ((if t.data.toList = s.data.toList then a.bal - n else b.bal) + n)) := by unfold moveE; rw [h1, h2]; exact if_pos hc
        rw [e]
        exact move_yes hb s t n hs ht hn hn2 h1 h2 hc
      · have e : moveE E s.data.toList t.data.toList n = (5, E) := by unfold moveE; rw [h1, h2]; exact if_neg hc
        rw [e]
        exact move_short hb s t n hs ht hn hn2 h1 h2 hc

end Go.Proofs.YtbjobbkgelipmaaGreat

/-
  The walks of tithe's Close and New.
-/
namespace Go.Proofs.YtbjobbkgelipmaaGreat
open Go.RowKit Go.Maps Go.WideMaps Go.MapKept Go.ChangeMaps

def remE (E : List Acct) (s : List UInt8) : List Acct := E.filter fun a => !(a.name == s)
theorem datE_rem (s : List UInt8) (E : List Acct) : (datE E).del (.string s) = datE (remE E s) := by
  unfold datE DataW.del remE
  simp only
  rw [List.filter_map]
  congr 1
theorem sum_rem {s : List UInt8} : ∀ {E : List Acct} {a : Acct}, E.Pairwise (fun a b => a.name ≠ b.name) → lookE E s = some a → sumE (remE E s) = sumE E - a.bal
  | [], a, _, h => by cases h
  | b :: E, a, hp, h => by
    rw [List.pairwise_cons] at hp
    unfold lookE at h
    rw [List.find?_cons] at h
    cases hb : (b.name == s)
    · rw [hb] at h
      have ih := sum_rem hp.2 (show lookE E s = some a from h)
      have e : remE (b :: E) s = b :: remE E s := by simp [remE, hb]
      rw [e]
      unfold sumE at *
      simp only [List.map_cons, List.sum_cons]
      omega
    · rw [hb] at h
      have hab : b = a := by simpa using h
      subst hab
      have hbs : b.name = s := by simpa using hb
      have e : remE (b :: E) s = E := by
        unfold remE
        rw [List.filter_cons_of_neg (by simp [hb])]
        rw [List.filter_eq_self]
        intro c hc
        have := hp.1 c hc
        rw [hbs] at this
        simp
        exact fun e => this e.symm
      rw [e]
      unfold sumE
      simp only [List.map_cons, List.sum_cons]
      omega
theorem own_tight {H : Type} {P : Program} {w : World} {k : TypeId} {R : Value → Option (DataW H × List MemPlace)} {b n : Nat} {D : DataW H} (h : w.ownsMap P k R b n D) : w.ownsMap P k R b (Maps.size D) D := by
  obtain ⟨es, clock, hb, F, _, rfl⟩ := h
  exact ⟨es, clock, hb, F, by simp [Maps.size, length_sorted], rfl⟩
theorem Kept.turned {S : List Nat} {w w' : World} {b : Nat} (h : w.mapTurned w' b) (hb : b ∈ S) : Kept S w w' := by
  obtain ⟨es, cl, es', cl', he, rfl⟩ := h
  exact ⟨rfl, rfl, rfl, by simp [setBlock], fun k _ hk => heap_setBlock_other he _ (fun e => hk (by rw [e]; exact hb))⟩

/-- What Close answers and does. -/
def closeE (E : List Acct) (s : List UInt8) : Int × List Acct := match lookE E s with
  | none => (4, E)
  | some a => if a.bal = 0 then (0, remE E s) else (6, E)

theorem BookM.close {w w' : World} {B M : Nat} {h seed : Int} {last : Option Addr} {E : List Acct} (hb : BookM w B M h seed last E) {a : Acct} {s : List UInt8} (hk : lookE E s = some a) (h0 : a.bal = 0) {n : Nat}
    (hown : w'.ownsMap Tryz.prog 9 ptrElem M n ((datE E).del (.string s))) (ht : w.mapTurned w' M) : BookM w' B M h seed last (remE E s) := by
  have hsum := sum_rem hb.names hk
  have hK : Kept [M] w w' := Kept.turned ht (by simp)
  have hMB : ∀ (k : Nat) (cs : Array Value) (t : TypeId) (f : Nat × Nat), w.heap[k]? = some (.cells cs t f) → w'.heap[k]? = some (.cells cs t f) := fun k cs t f hk => by
    obtain ⟨es, cl, he, _⟩ := hb.own
    rw [hK.block k (Array.getElem?_eq_some_iff.1 hk).1 (by simp; intro e; rw [e, he] at hk; cases hk)]
    exact hk
  refine ⟨⟨?_, ?_, fun b hbm => hMB _ _ _ _ (hb.acc b (List.mem_filter.1 hbm).1), hb.apart.filter _, fun b hbm => hb.pos b (List.mem_filter.1 hbm).1⟩, by have := hb.sum; omega⟩
  · rw [show sumE (remE E s) = sumE E by omega]; exact hMB _ _ _ _ hb.blk
  · rw [datE_rem] at hown
    have := own_tight hown
    simpa [datE, Maps.size] using this

set_option maxHeartbeats 400000 in
set_option maxRecDepth 100000 in
theorem close_any {w : World} {B M : Nat} {h seed : Int} {last : Option Addr} {E : List Acct} (hb : BookM w B M h seed last E) (s : ByteArray) (hs : s.size ≤ maxLen) :
    Calls Tryz.prog 21 #[.pointer (some ⟨B, 0, none⟩), .string s] w fun e w' => e = .returned (.int .i64 (closeE E s.data.toList).1) ∧ BookM w' B M h seed last (closeE E s.data.toList).2 ∧ Kept (blksE B M E) w w' := by
  have hl := hb.look s hs
  obtain ⟨c2, _, _⟩ := hb.cells
  unfold closeE
  cases hk : lookE E s.data.toList with
  | none =>
    rw [hk] at hl
    replace hl : (Instr.lookup 86 (.map (some M)) (.string s) false).run Tryz.prog w = .ok (.pointer none) w := hl
    have HB := hide hb
    clear hb hk
    go_enter Tryz.func21, Tryz.ntmps21
    go_wp2
    go_ret
    exact ⟨rfl, unhide HB, Kept.refl _ _⟩
  | some a =>
    rw [hk] at hl
    have ca : w.cell? ⟨a.blk, 0, none⟩ = some (.int .u64 a.bal) := block_cell (hb.acc _ (lookE_name hk).1)
    replace hl : (Instr.lookup 86 (.map (some M)) (.string s) false).run Tryz.prog w = .ok (.pointer (some ⟨a.blk, 0, none⟩)) w := hl
    by_cases h0 : a.bal = 0
    · show Calls _ _ _ _ fun e w' => e = .returned (.int .i64 (if a.bal = 0 then (0, remE E s.data.toList) else (6, E)).1) ∧ BookM w' B M h seed last (if a.bal = 0 then (0, remE E s.data.toList) else (6, E)).2 ∧ _
      rw [if_pos h0]
      obtain ⟨w1, hrun, hown1, hturn1⟩ := hb.own.drop Tryz.lawS Tryz.undAcc (keyOf_string_mk Tryz.underlying9 hs) 0
      have HE := hide (And.intro (hb.close hk h0 hown1 hturn1) (Kept.turned (S := blksE B M E) hturn1 (by simp [blksE])))
      rw [h0] at ca
      generalize a.blk = A at *
      clear hb hk hown1 hturn1
      go_enter Tryz.func21, Tryz.ntmps21
      go_wp2
      go_ret
      exact ⟨rfl, unhide HE⟩
    · show Calls _ _ _ _ fun e w' => e = .returned (.int .i64 (if a.bal = 0 then (0, remE E s.data.toList) else (6, E)).1) ∧ BookM w' B M h seed last (if a.bal = 0 then (0, remE E s.data.toList) else (6, E)).2 ∧ _
      rw [if_neg h0]
      have HB := hide hb
      have h0' : (a.bal != 0) = true := by simp [h0]
      generalize a.blk = A at *
      generalize a.bal = x at *
      clear hb hk h0
      go_enter Tryz.func21, Tryz.ntmps21
      go_wp2
      go_ret
      exact ⟨rfl, unhide HB, Kept.refl _ _⟩

end Go.Proofs.YtbjobbkgelipmaaGreat

/-
  strings.Clone: the library's contract, at this program's numbers.
-/
namespace Go.Proofs.YtbjobbkgelipmaaGreat
open Go.RowKit Go.Shelf

def cloneF (n : FuncId) : FuncId := if n = 25 then 66 else 0
def cloneT (n : TypeId) : TypeId := if n = 3 then 3 else if n = 4 then 4 else if n = 5 then 5 else if n = 9 then 9 else if n = 37 then 51 else if n = 47 then 165 else 0
def cloneRen : Ren := ⟨cloneF, cloneT, fun n => n⟩

theorem Tryz.laysClone : LaysPu.n25 Tryz.prog cloneRen := {
  mixed := by kernel_rfl,
  f25 := by kernel_rfl,
  t0 := by kernel_rfl,
  a0 := fun _ => by kernel_rfl,
  z0 := fun _ => by kernel_rfl,
  v0 := fun _ => by kernel_rfl,
  i0 := by kernel_rfl,
  t3 := by kernel_rfl,
  a3 := fun _ => by kernel_rfl,
  z3 := fun _ => by kernel_rfl,
  v3 := fun _ => by kernel_rfl,
  i3 := by kernel_rfl,
  t4 := by kernel_rfl,
  a4 := fun _ => by kernel_rfl,
  z4 := fun _ => by kernel_rfl,
  v4 := fun _ => by kernel_rfl,
  i4 := by kernel_rfl,
  t5 := by kernel_rfl,
  a5 := fun _ => by kernel_rfl,
  z5 := fun _ => by kernel_rfl,
  v5 := fun _ => by kernel_rfl,
  i5 := by kernel_rfl,
  t9 := by kernel_rfl,
  a9 := fun _ => by kernel_rfl,
  z9 := fun _ => by kernel_rfl,
  v9 := fun _ => by kernel_rfl,
  i9 := by kernel_rfl,
  t37 := by kernel_rfl,
  a37 := fun _ => by kernel_rfl,
  z37 := fun _ => by kernel_rfl,
  v37 := fun _ => by kernel_rfl,
  i37 := by kernel_rfl,
  t47 := by kernel_rfl,
  a47 := fun _ => by kernel_rfl,
  z47 := fun _ => by kernel_rfl,
  v47 := fun _ => by kernel_rfl,
  i47 := by kernel_rfl }

set_option maxHeartbeats 400000 in
theorem clone_any (s : ByteArray) (w : World) (hs : s.size ≤ 281474976710656) :
    Calls Tryz.prog 48 #[.string s] w fun e w' => e = .returned (.string s) ∧ Below w.heap.size w w' := by
  have HC : ∀ w, Hid (Calls Tryz.prog 66 #[.string s] w fun e w' => e = .returned (.string s) ∧ Below w.heap.size w w') := fun w => AnyPu.stringslite_Clone Tryz.laysClone s w hs
  go_enter Tryz.func48, Tryz.ntmps48
  go_wp2_with fail
  refine (unhide (HC _)).mono ?_
  rintro e w1 ⟨rfl, hb⟩
  have HB := hide hb
  clear hb HC
  go_wp2
  go_ret
  exact ⟨rfl, unhide HB⟩

end Go.Proofs.YtbjobbkgelipmaaGreat

/-
  The walks of tithe's New and Open.
-/
namespace Go.Proofs.YtbjobbkgelipmaaGreat
open Go.RowKit Go.Maps Go.WideMaps Go.MapKept Go.ChangeMaps

def cfgV (h seed : Int) : Value := .agg #[.int .i64 h, .int .u64 seed]

set_option maxHeartbeats 400000 in
set_option maxRecDepth 100000 in
theorem new_bad (h seed : Int) (w : World) (hb : h < 0 ∨ 6 < h) :
    Calls Tryz.prog 45 #[cfgV h seed] w fun e w' => e = .returned (.tuple #[.pointer none, .int .i64 1]) ∧ Below w.heap.size w w' := by
  unfold cfgV
  by_cases h0 : h < 0
  · clear hb
    go_enter Tryz.func45, Tryz.ntmps45
    go_wp2
    go_ret2
    exact ⟨rfl, (Below.refl _ _).alloc (Nat.le_refl _) _⟩
  · have h6 : 6 < h := by omega
    clear hb
    go_enter Tryz.func45, Tryz.ntmps45
    go_wp2
    go_ret2
    exact ⟨rfl, (Below.refl _ _).alloc (Nat.le_refl _) _⟩

theorem book_new (w : World) (o : Obj) (h seed : Int) : BookM (((w.alloc o).alloc (.map #[] 0)).alloc (.cells #[.int .i64 h, .int .u64 seed, .map (some (w.heap.size + 1)), .int .u64 0, .pointer none] 89)) (w.heap.size + 2) (w.heap.size + 1) h seed none [] := by
  have hm := World.ownsMap_made (w.alloc o) Tryz.prog 9 ptrElem
  rw [World.size_alloc] at hm
  exact ⟨⟨heap_new2 w _ _ _, hm.alloc _, fun a ha => (by cases ha), List.Pairwise.nil, fun a ha => (by cases ha)⟩, by unfold sumE maxS; simp⟩

set_option maxHeartbeats 400000 in
set_option maxRecDepth 100000 in
theorem new_good (h seed : Int) (w : World) (h0 : 0 ≤ h) (h6 : h ≤ 6) :
    Calls Tryz.prog 45 #[cfgV h seed] w fun e w' => e = .returned (.tuple #[.pointer (some ⟨w.heap.size + 2, 0, none⟩), .int .i64 0]) ∧ BookM w' (w.heap.size + 2) (w.heap.size + 1) h seed none [] ∧ Below w.heap.size w w' := by
  unfold cfgV
  have hmm := @run_makeMap Tryz.prog
  have hb := book_new w (Obj.cells #[Value.int IntKind.i64 h, Value.int IntKind.u64 seed] 35) h seed
  have HB := hide hb
  have k1 : ¬ h < 0 := by omega
  have k2 : ¬ 6 < h := by omega
  clear hb h0 h6
  go_enter Tryz.func45, Tryz.ntmps45
  go_wp2
  go_ret2
  exact ⟨rfl, unhide HB, (((Below.refl _ _).alloc (Nat.le_refl _) _).alloc (by simp) _).alloc (by simp; omega) _⟩

/-- An account more, in its place. -/
def insE (x : Acct) : List Acct → List Acct
  | [] => [x]
  | y :: r => if (Lit.string x.name).before (.string y.name) then x :: y :: r else y :: insE x r
theorem ins_perm (x : Acct) : ∀ E : List Acct, (insE x E).Perm (x :: E)
  | [] => List.Perm.refl _
  | y :: r => by
    unfold insE
    split
    · exact List.Perm.refl _
    · exact ((ins_perm x r).cons y).trans (List.Perm.swap x y r)
theorem ins_map (x : Acct) : ∀ E : List Acct, (insE x E).map entOf = DataW.insert (entOf x) (E.map entOf)
  | [] => rfl
  | y :: r => by
    unfold insE
    rw [List.map_cons, DataW.insert]
    show _ = if (Lit.string x.name).before (.string y.name) then _ else _
    split
    · rfl
    · rw [List.map_cons, ins_map x r]
theorem datE_put {E : List Acct} {s : List UInt8} {A : Nat} (x : Int) (h : ∀ a ∈ E, a.name ≠ s) : (datE E).put (.string s) (.held A) = datE (insE ⟨s, A, x⟩ E) := by
  unfold datE DataW.put
  simp only
  rw [ins_map]
  have e : (E.map entOf).filter (fun p => !p.1.sameKey (.string s)) = E.map entOf := by
    rw [List.filter_eq_self]
    intro p hp
    obtain ⟨a, ha, rfl⟩ := List.mem_map.1 hp
    show (!(a.name == s)) = true
    simp [h a ha]
  rw [e]
  rfl
theorem sum_ins (x : Acct) : ∀ E : List Acct, sumE (insE x E) = x.bal + sumE E
  | [] => by simp [sumE, insE]
  | y :: r => by
    have ih := sum_ins x r
    unfold insE
    split
    · simp [sumE]
    · unfold sumE at *
      simp only [List.map_cons, List.sum_cons]
      omega

theorem BookT.later {w W : World} {B M : Nat} {h seed tot : Int} {last : Option Addr} {E : List Acct} (hb : BookT w B M h seed last tot E) (hW : Below w.heap.size w W) : BookT W B M h seed last tot E := by
  have e : ∀ (k : Nat) (o : Obj), w.heap[k]? = some o → W.heap[k]? = some o := fun k o hk => (hW.block k (Array.getElem?_eq_some_iff.1 hk).1).trans hk
  refine ⟨e _ _ hb.blk, ?_, fun a ha => e _ _ (hb.acc a ha), hb.apart, hb.pos⟩
  obtain ⟨es, cl, he, r⟩ := hb.own
  exact ⟨es, cl, e _ _ he, r⟩

/-- A new account is stored. -/
theorem BookM.opened {w W : World} {B M A n : Nat} {h seed : Int} {last : Option Addr} {E : List Acct} {s : List UInt8} (hb : BookM w B M h seed last E) (hW : Below w.heap.size w W) (hk : lookE E s = none) (hA : w.heap.size ≤ A) (hc : W.heap[A]? = some (.cells #[.int .u64 0] 91 (0, 0)))
    {W' : World} (hown : W'.ownsMap Tryz.prog 9 ptrElem M n ((datE E).put (.string s) (.held A))) (ht : W.mapTurned W' M) : BookM W' B M h seed last (insE ⟨s, A, 0⟩ E) ∧ Kept (blksE B M E) w W' := by
  have hT := hb.toBookT.later hW
  have hK : Kept [M] W W' := Kept.turned ht (by simp)
  have hMB : ∀ (k : Nat) (cs : Array Value) (t : TypeId) (f : Nat × Nat), W.heap[k]? = some (.cells cs t f) → W'.heap[k]? = some (.cells cs t f) := fun k cs t f hk => by
    obtain ⟨es, cl, he, _⟩ := hT.own
    rw [hK.block k (Array.getElem?_eq_some_iff.1 hk).1 (by simp; intro e; rw [e, he] at hk; cases hk)]
    exact hk
  have hsum : sumE (insE ⟨s, A, 0⟩ E) = sumE E := by rw [sum_ins]; simp
  have hmem : ∀ a, a ∈ insE ⟨s, A, 0⟩ E → a = ⟨s, A, 0⟩ ∨ a ∈ E := fun a ha => List.mem_cons.1 ((ins_perm _ E).mem_iff.1 ha)
  refine ⟨⟨⟨?_, ?_, ?_, ?_, ?_⟩, ?_⟩, ?_⟩
  · rw [hsum]; exact hMB _ _ _ _ hT.blk
  · rw [datE_put 0 (lookE_none hk)] at hown
    have := own_tight hown
    simpa [datE, Maps.size] using this
  · intro a ha
    rcases hmem a ha with rfl | ha
    · exact hMB _ _ _ _ hc
    · exact hMB _ _ _ _ (hT.acc a ha)
  · refine ((ins_perm _ E).pairwise_iff (fun {a b} hab => Ne.symm hab)).2 (List.pairwise_cons.2 ⟨fun b hbm => ?_, hb.apart⟩)
    have := (Array.getElem?_eq_some_iff.1 (hb.acc b hbm)).1
    show A ≠ b.blk
    omega
  · intro a ha
    rcases hmem a ha with rfl | ha
    · exact Int.le_refl _
    · exact hb.pos a ha
  · rw [hsum]; exact hb.sum
  · exact (Kept.of_below hW).trans (hK.mono (by simp [blksE]))

/-- What Open answers. -/
def openE (E : List Acct) (s : List UInt8) : Int := if 1 ≤ s.length ∧ s.length ≤ 8 then (if (lookE E s).isSome then 3 else 0) else 2

set_option maxHeartbeats 400000 in
set_option maxRecDepth 100000 in
theorem open_no {w : World} {B M : Nat} {h seed : Int} {last : Option Addr} {E : List Acct} (hb : BookM w B M h seed last E) (s : ByteArray) (hs : s.size ≤ maxLen) (hno : openE E s.data.toList ≠ 0) :
    Calls Tryz.prog 19 #[.pointer (some ⟨B, 0, none⟩), .string s] w fun e w' => e = .returned (.int .i64 (openE E s.data.toList)) ∧ w' = w := by
  have hl := hb.look s hs
  obtain ⟨c2, _, _⟩ := hb.cells
  have hI := fun w => hide (isname_any s.size w)
  have hsz : s.data.toList.length = s.size := by simp
  by_cases hn : 1 ≤ s.size ∧ s.size ≤ 8
  · rw [decide_eq_true hn] at hI
    cases hk : lookE E s.data.toList with
    | none => exact absurd (by unfold openE; rw [hsz, if_pos hn, hk]; rfl) hno
    | some a =>
      have e3 : openE E s.data.toList = 3 := by unfold openE; rw [hsz, if_pos hn, hk]; rfl
      rw [e3]
      rw [hk] at hl
      obtain ⟨nm, A, x⟩ := a
      replace hl : (Instr.lookup 86 (.map (some M)) (.string s) false).run Tryz.prog w = .ok (.pointer (some ⟨A, 0, none⟩)) w := hl
      clear e3
      clear hb hk hno hn
      go_enter Tryz.func19, Tryz.ntmps19
      go_wp2_with fail
      refine (unhide (hI _)).mono ?_
      rintro e w1 ⟨rfl, rfl⟩
      go_wp2
      go_ret
      exact ⟨rfl, rfl⟩
  · have e2 : openE E s.data.toList = 2 := by unfold openE; rw [hsz, if_neg hn]
    rw [e2]
    rw [decide_eq_false hn] at hI
    clear e2
    clear hb hl hno hn
    go_enter Tryz.func19, Tryz.ntmps19
    go_wp2_with fail
    refine (unhide (hI _)).mono ?_
    rintro e w1 ⟨rfl, rfl⟩
    go_wp2
    go_ret
    exact ⟨rfl, rfl⟩

set_option maxHeartbeats 1000000 in
set_option maxRecDepth 100000 in
theorem open_yes {w : World} {B M : Nat} {h seed : Int} {last : Option Addr} {E : List Acct} (hb : BookM w B M h seed last E) (s : ByteArray) (hyes : openE E s.data.toList = 0) (hE : E.length < maxLen) :
    Calls Tryz.prog 19 #[.pointer (some ⟨B, 0, none⟩), .string s] w fun e w' => e = .returned (.int .i64 0) ∧ (∃ A, w.heap.size ≤ A ∧ BookM w' B M h seed last (insE ⟨s.data.toList, A, 0⟩ E)) ∧ Kept (blksE B M E) w w' := by
  have hsz : s.data.toList.length = s.size := by simp
  unfold openE at hyes
  rw [hsz] at hyes
  have hn : 1 ≤ s.size ∧ s.size ≤ 8 := Classical.byContradiction fun h => by rw [if_neg h] at hyes; cases hyes
  rw [if_pos hn] at hyes
  have hk : lookE E s.data.toList = none := by
    cases hk : lookE E s.data.toList with
    | none => rfl
    | some a => rw [hk] at hyes; cases hyes
  have hs : s.size ≤ maxLen := by unfold maxLen; omega
  have hl := hb.look s hs
  rw [hk] at hl
  replace hl : (Instr.lookup 86 (.map (some M)) (.string s) false).run Tryz.prog w = .ok (.pointer none) w := hl
  obtain ⟨c2, _, _⟩ := hb.cells
  have hI := fun w => hide (isname_any s.size w)
  rw [decide_eq_true hn] at hI
  have hC := fun w => hide (clone_any s w (by omega))
  have hcb : ∀ W, Below w.heap.size w W → W.cell? ⟨B, 2, none⟩ = some (.map (some M)) := fun W hW => block_cell (hb.toBookT.later hW).blk
  have hU : ∀ W A, Below w.heap.size w W → w.heap.size ≤ A → W.heap[A]? = some (.cells #[.int .u64 0] 91 (0, 0)) → ∃ W', (Instr.mapUpdate 86 (.map (some M)) (.string s) (.pointer (some ⟨A, 0, none⟩))).run Tryz.prog W = .ok () W' ∧ Hid ((∃ A, w.heap.size ≤ A ∧ BookM W' B M h seed last (insE ⟨s.data.toList, A, 0⟩ E)) ∧ Kept (blksE B M E) w W') := fun W A hW hA hc => by
    obtain ⟨W', r1, r2, r3⟩ := (hb.toBookT.later hW).own.store Tryz.lawS Tryz.undAcc hE (keyOf_string_mk Tryz.underlying9 hs) (show ptrElem (.pointer (some ⟨A, 0, none⟩)) = some (.held A, []) from rfl)
    have := hb.opened hW hk hA hc r2 r3
    exact ⟨W', r1, ⟨A, hA, this.1⟩, this.2⟩
  have HU := hide hU
  have HCB := hide hcb
  clear hb hk hyes hn hcb hU hsz hE hs
  go_enter Tryz.func19, Tryz.ntmps19
  go_wp2_with fail
  refine (unhide (hI _)).mono ?_
  rintro e w1 ⟨rfl, rfl⟩
  clear hI
  go_upto_region 5 with fail
  have hSd : w1.drew.cell? ⟨B, 2, none⟩ = some (.map (some M)) := c2
  have hBd : Below w1.heap.size w1 w1.drew := (Below.refl _ _).drew
  clear hl
  go_region_held3 (fun w' => w'.cell? ⟨B, 2, none⟩ = some (.map (some M)))
    (first
      | with_reducible exact hSd
      | with_reducible exact hS4
      | with_reducible exact unhide HCB _ (hB4.alloc hB4.size _)
      | with_reducible exact unhide HCB _ (((Below.refl w1.heap.size w1).alloc (Nat.le_refl _) _).drew)
      | with_reducible exact hS5
      | fail)
    (first
      | (go_at_call 48; (with_reducible refine (unhide (hC w1.drew)).mono ?_); rintro e w4 ⟨rfl, hb4⟩; have hB4 : Below w1.heap.size w1 w4 := hBd.trans hb4; have hS4 := unhide HCB _ hB4; obtain ⟨W5, hrun5, HE5⟩ := unhide HU (w4.alloc (Obj.cells #[Value.int IntKind.u64 0] 91)) w4.heap.size (hB4.alloc hB4.size _) hB4.size (heap_alloc_new w4 _); have hS5 : W5.cell? ⟨B, 2, none⟩ = some (.map (some M)) := block_cell (unhide HE5).1.choose_spec.2.blk)
      | (go_at_call 48; (with_reducible refine (unhide (hC _)).mono ?_); rintro e w4 ⟨rfl, hb4⟩; have hA4 : Below w1.heap.size w1 (w1.alloc (Obj.cells #[Value.int IntKind.u64 0] 91)).drew := ((Below.refl w1.heap.size w1).alloc (Nat.le_refl _) _).drew; have hB4 : Below w1.heap.size w1 w4 := hA4.trans (hb4.mono hA4.size); have hS4 := unhide HCB _ hB4; obtain ⟨W5, hrun5, HE5⟩ := unhide HU w4 w1.heap.size hB4 (Nat.le_refl _) ((hb4.block w1.heap.size (by simp)).trans (heap_alloc_new w1 _)); have hS5 : W5.cell? ⟨B, 2, none⟩ = some (.map (some M)) := block_cell (unhide HE5).1.choose_spec.2.blk))
  all_goals
    clear hSd hS4 hS5 hrun5
    go_wp2
    go_ret
    exact ⟨rfl, unhide HE5⟩

end Go.Proofs.YtbjobbkgelipmaaGreat
