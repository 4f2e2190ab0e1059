/-
  The walk of step, looks and UpTo where steps that digest alone are played.
-/
import Derived.Test.YtbjobbkgelipmaaGreatFree
namespace Go.Proofs.YtbjobbkgelipmaaGreat
open Go.RowKit

set_option maxHeartbeats 400000 in
set_option maxRecDepth 100000 in
theorem step_sum (wp : Value) (n h sd : Int) (s t : ByteArray) (la : Option Addr) (ll lc : Nat) (a : Int) (w : World) (hs : s.size ≤ 140737488351232) :
    Calls Tryz.prog 12 #[wp, opV 1 n h sd s t la ll lc a] w fun e w' => e = .returned (.bool true) ∧ Below w.heap.size w w' := by
  unfold opV
  go_enter Tryz.func12, Tryz.ntmps12
  go_wp2_with fail
  have hF := free_sum wp n h sd s t la ll lc a
  unfold opV at hF
  refine (hF _ hs).mono ?_
  rintro e w1 ⟨rfl, hb⟩
  have Hb := hide (((Below.refl w.heap.size w).alloc (Nat.le_refl _) _).trans (hb.mono (by simp)))
  clear hb hF
  go_wp2
  go_ret
  exact ⟨rfl, unhide Hb⟩

set_option maxHeartbeats 400000 in
theorem looks_none (b : Nat) (w : World) (h : w.cell? ⟨b, 1, none⟩ = some (.slice none 0 0)) :
    Calls Tryz.prog 13 #[.pointer (some ⟨b, 0, none⟩)] w fun e w' => e = .returned (.bool true) ∧ w' = w := by
  go_enter Tryz.func13, Tryz.ntmps13
  go_wp2
  go_loop [3] (fun i => i = .int .i64 0) (fun _ => 0)
  case atStart => rfl
  case round =>
    subst hrel
    go_wp2
    go_ret
    exact ⟨rfl, rfl⟩

/-- A step of a script. -/
structure OpD where
  k : Int
  n : Int
  h : Int
  sd : Int
  s : ByteArray
  t : ByteArray
  la : Option Addr
  ll : Nat
  lc : Nat
  a : Int

/-- A step's cells. -/
def OpCells (w : World) (b o : Nat) (x : OpD) : Prop :=
  w.cell? ⟨b, o, none⟩ = some (.int .i64 x.k) ∧ w.cell? ⟨b, o + 1, none⟩ = some (.int .i64 x.n) ∧ w.cell? ⟨b, o + 2, none⟩ = some (.int .i64 x.h) ∧ w.cell? ⟨b, o + 3, none⟩ = some (.int .u64 x.sd) ∧
  w.cell? ⟨b, o + 4, none⟩ = some (.string x.s) ∧ w.cell? ⟨b, o + 5, none⟩ = some (.string x.t) ∧ w.cell? ⟨b, o + 6, none⟩ = some (.slice x.la x.ll x.lc) ∧ w.cell? ⟨b, o + 7, none⟩ = some (.int .u64 x.a)

theorem OpCells.below {w w' : World} {B b o : Nat} {x : OpD} (h : OpCells w b o x) (hb : Below B w w') (hlt : b < B) : OpCells w' b o x := by
  obtain ⟨h0, h1, h2, h3, h4, h5, h6, h7⟩ := h
  have e : ∀ o, w'.cell? ⟨b, o, none⟩ = w.cell? ⟨b, o, none⟩ := fun o => hb.cell (p := ⟨b, o, none⟩) hlt
  exact ⟨(e _).trans h0, (e _).trans h1, (e _).trans h2, (e _).trans h3, (e _).trans h4, (e _).trans h5, (e _).trans h6, (e _).trans h7⟩

/-- A script that lies in memory. -/
structure ScriptAt (w : World) (b off : Nat) (xs : List OpD) : Prop where
  lt : b < w.heap.size
  cells : ∀ i (h : i < xs.length), OpCells w b (off + i * 8) xs[i]
  small : ∀ x ∈ xs, x.s.size ≤ 140737488351232 ∧ x.t.size ≤ 140737488351232

set_option maxHeartbeats 400000 in
set_option maxRecDepth 100000 in
theorem upto_sums (b off cap : Nat) (xs : List OpD) (w : World) (hm : xs.length ≤ maxLen) (hS : ScriptAt w b off xs) :
    Calls Tryz.prog 9 #[.slice (some ⟨b, off, none⟩) xs.length cap, .int .i64 1, .int .i64 1] w fun e w' => e = .returned (.int .i64 (-1)) ∧ Below w.heap.size w w' := by
  unfold maxLen at hm
  have HS := hide hS
  have hlt := hS.lt
  clear hS
  go_enter Tryz.func9, Tryz.ntmps9
  go_wp2
  go_loopw [8] (fun i wr => ∃ k : Nat, k ≤ xs.length ∧ i = .int .i64 k ∧ wr.cell? ⟨w.heap.size, 1, none⟩ = some (.slice none 0 0) ∧ w.heap.size < wr.heap.size ∧ Below w.heap.size w wr) (fun i _ => xs.length - (intOf i).toNat)
  case atStart => exact ⟨0, Nat.zero_le _, rfl, by simp, by simp, (Below.refl _ _).alloc (Nat.le_refl _) _⟩
  case round =>
    obtain ⟨k, hk, rfl, hh, hz, hbel⟩ := hrel
    have Hbel := hide hbel
    clear hbel
    by_cases hlt' : k < xs.length
    · obtain ⟨h0, h1, h2, h3, h4, h5, h6, h7⟩ := ((unhide HS).cells k hlt').below (unhide Hbel) hlt
      have hsm := (unhide HS).small _ (List.getElem_mem hlt')
      generalize xs[k] = x at *
      obtain ⟨xk, xn, xh, xsd, xs', xt, xla, xll, xlc, xa⟩ := x
      simp only at h0 h1 h2 h3 h4 h5 h6 h7 hsm
      obtain ⟨hsm1, hsm2⟩ := hsm
      rcases Int.lt_trichotomy xk 1 with hk1 | rfl | hk1
      · clear h1 h2 h3 h4 h5 h6 h7 hsm1 hsm2
        go_wp2
        go_roundw
        case rel => exact ⟨k + 1, by omega, by go_num, hh, hz, unhide Hbel⟩
        case measure => simp [intOf]; omega
      · have hst := step_sum (.pointer (some ⟨w.heap.size, 0, none⟩)) xn xh xsd xs' xt xla xll xlc xa
        unfold opV at hst
        have Hst : Hid _ := hide hst
        clear hst hsm2
        go_wp2_with fail
        refine (unhide Hst _ hsm1).mono ?_
        rintro e w1 ⟨rfl, hb⟩
        have hz1 : w.heap.size < w1.heap.size := by have := hb.size; omega
        have hh1 : w1.cell? ⟨w.heap.size, 1, none⟩ = some (.slice none 0 0) := keepB hb hz hh
        have Hb1 := hide ((unhide Hbel).trans (hb.mono (by omega)))
        clear hb Hbel hh hz Hst h0 h1 h2 h3 h4 h5 h6 h7
        go_wp2_with fail
        refine (looks_none _ _ hh1).mono ?_
        rintro e w2 ⟨rfl, rfl⟩
        go_wp2
        go_roundw
        case rel => exact ⟨k + 1, by omega, by go_num, hh1, hz1, unhide Hb1⟩
        case measure => simp [intOf]; omega
      · have hk1' : ¬ xk < 1 := by omega
        clear h1 h2 h3 h4 h5 h6 h7 hsm1 hsm2
        go_wp2
        go_roundw
        case rel => exact ⟨k + 1, by omega, by go_num, hh, hz, unhide Hbel⟩
        case measure => simp [intOf]; omega
    · clear hh
      go_wp2
      go_ret
      exact ⟨rfl, unhide Hbel⟩

set_option maxHeartbeats 400000 in
theorem upto_none (a0 : Option Addr) (cap : Nat) (least last : Int) (w : World) :
    Calls Tryz.prog 9 #[.slice a0 0 cap, .int .i64 least, .int .i64 last] w fun e w' => e = .returned (.int .i64 (-1)) ∧ Below w.heap.size w w' := by
  go_enter Tryz.func9, Tryz.ntmps9
  go_wp2
  go_loop [8] (fun i => i = .int .i64 0) (fun _ => 0)
  case atStart => rfl
  case round =>
    subst hrel
    go_wp2
    go_ret
    exact ⟨rfl, (Below.refl _ _).alloc (Nat.le_refl _) _⟩

end Go.Proofs.YtbjobbkgelipmaaGreat
