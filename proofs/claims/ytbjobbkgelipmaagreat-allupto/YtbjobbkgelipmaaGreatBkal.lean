/-
  step where a book is asked for a balance.
-/
import Derived.Test.YtbjobbkgelipmaaGreatBkak
namespace Go.Proofs.YtbjobbkgelipmaaGreat
open Go.RowKit Go.Maps

set_option maxHeartbeats 1000000 in
set_option maxRecDepth 100000 in
theorem step_bal {w : World} {B n : Nat} {c : Nat → Nat} {ps hv : Value} {hs : List HoldD} {pl : List Nat} (J : Joint w B n c ps hv hs pl) (h0 : 0 < pl.length) (hn : n < 2000000000000) (nn h sd : Int) (s t : ByteArray) (la : Option Addr) (ll lc : Nat) (a : Int) (hr1 : -9223372036854775808 ≤ nn) (hr2 : nn < 9223372036854775808) (hss : s.size ≤ 140737488351232) :
    Calls Tryz.prog 12 #[.pointer (some ⟨B, 0, none⟩), opV 10 nn h sd s t la ll lc a] w fun e w' => e = .returned (.bool true) ∧ Below B w w' ∧ ∃ c', Joint w' B (n + 1) c' ps hv hs pl := by
  obtain ⟨gp, cap, _, cB0, hgp, hcap, hpl⟩ := J.at h0
  have h4 := J.four
  have hq := pickL_range nn (pl.length : Int) (by omega)
  have HPk := fun w => hide (pickL_any nn (pl.length : Int) w hr1 hr2 (by omega) (by omega))
  generalize pickL nn (pl.length : Int) = q at *
  obtain ⟨i, rfl⟩ : ∃ i : Nat, q = (i : Int) := ⟨q.toNat, by omega⟩
  have hi : i < pl.length := by omega
  have cpi := hpl i hi
  obtain ⟨Bk, M, Rb, hh, seed, last, E, lv, th, tv, told, x⟩ := J.pls i hi
  have hBl := J.inv.lt
  have HPr := hide (pair_bal x (by omega) s (by unfold maxLen; omega))
  have hpl' : pl[i] < w.heap.size := (Array.getElem?_eq_some_iff.1 x.blk).1
  have hpn : ¬ Mine c i w.heap.size pl[i] := fun hm => by have := x.cp; rcases hm.2 with e | e <;> omega
  have hOn : ¬ Mine c i w.heap.size w.heap.size := fun hm => by have := hm.1; omega
  have cp0 : w.cell? ⟨pl[i], 0, none⟩ = some (.pointer (some ⟨Bk, 0, none⟩)) := block_cell x.blk
  have cp1 : w.cell? ⟨pl[i], 1, none⟩ = some (.pointer (some ⟨Rb, 0, none⟩)) := block_cell x.blk
  have HJ := hide fun (w' : World) (c' : Nat → Nat) (k : KeptS (Mine c i w.heap.size) w w') (hc : ∀ g, g < w.heap.size → c' g = c g) (hp : PlOk w' B c' i (n + 1) pl[i]) => And.intro (k.below (Nat.le_of_lt hBl) (fun g hm => Nat.le_of_lt (J.above g (by rcases hm.2 with e | e <;> omega)))) (J.turn hi k hc (Nat.le_succ n) hp)
  clear J x hpl
  obtain ⟨L, hL⟩ : ∃ L, pl.length = L := ⟨_, rfl⟩
  have hiL : i < L := by omega
  have hLc : L ≤ cap := by omega
  have hL4 : L ≤ 4 := by omega
  have hL0 : 0 < L := by omega
  rw [hL] at cB0 HPk
  generalize hpi : pl[i] = p at *
  unfold Pair ptrV at HPr
  generalize hcode : (balE E s.data.toList).getD 0 = bl at *
  generalize hcode2 : (if (balE E s.data.toList).isSome then (0 : Int) else 4) = code at *
  clear hcode hcode2 hq h0 h4 hcap
  unfold opV
  go_enter Tryz.func12, Tryz.ntmps12
  go_wp2_with fail
  generalize hW0 : w.alloc (Obj.cells #[Value.int IntKind.i64 10, Value.int IntKind.i64 nn, Value.int IntKind.i64 h, Value.int IntKind.u64 sd, Value.string s, Value.string t, Value.slice la ll lc, Value.int IntKind.u64 a] 38) = W0
  have hz0 : W0.heap.size = w.heap.size + 1 := by rw [← hW0]; simp
  have o0 : W0.cell? ⟨w.heap.size, 0, none⟩ = some (.int .i64 10) := by rw [← hW0]; simp
  have o1 : W0.cell? ⟨w.heap.size, 1, none⟩ = some (.int .i64 nn) := by rw [← hW0]; simp
  have o4 : W0.cell? ⟨w.heap.size, 4, none⟩ = some (.string s) := by rw [← hW0]; simp
  have hA0 : Below w.heap.size w W0 := by rw [← hW0]; exact (Below.refl _ _).alloc (Nat.le_refl _) _
  have p0 := keepB hA0 hpl' cp0
  have p1 := keepB hA0 hpl' cp1
  have b0 := keepB hA0 hBl cB0
  have i0 := keepB hA0 hgp cpi
  have HA0 := hide hA0
  clear hW0 hA0 cp0 cp1 cB0 cpi
  go_quiet ((go_at_call 18; exact (unhide (HPk _)).mono fun _ _ h => ⟨h.1, _, h.2⟩))
  go_wp2_with fail
  have hSe : (W0.drewN nq).drew.cell? ⟨w.heap.size, 4, none⟩ = some (.string s) ∧ (W0.drewN nq).drew.cell? ⟨p, 0, none⟩ = some (.pointer (some ⟨Bk, 0, none⟩)) ∧ (W0.drewN nq).drew.cell? ⟨p, 1, none⟩ = some (.pointer (some ⟨Rb, 0, none⟩)) := ⟨o4, p0, p1⟩
  have hBd : Below w.heap.size w (W0.drewN nq).drew := (below_drewN (unhide HA0) nq).drew
  have hO : w.heap.size < (W0.drewN nq).drew.heap.size := by show w.heap.size < W0.heap.size; omega
  have hp' : p < (W0.drewN nq).drew.heap.size := by show p < W0.heap.size; omega
  have H1 := hide (unhide HPr _ hBd)
  have HB := hide (And.intro hBd (And.intro hO hp'))
  have HN := hide (And.intro hOn hpn)
  clear HPk HPr hBd hO hp' hOn hpn
  go_region_held3 (fun w' => w'.cell? ⟨w.heap.size, 4, none⟩ = some (.string s) ∧ w'.cell? ⟨p, 0, none⟩ = some (.pointer (some ⟨Bk, 0, none⟩)) ∧ w'.cell? ⟨p, 1, none⟩ = some (.pointer (some ⟨Rb, 0, none⟩)))
    (first | with_reducible exact hS3 | with_reducible exact hSe)
    (first
      | (go_at_call 29; refine (unhide H1).mono ?_; rintro e w3 ⟨rfl, hk3, hnx⟩; have hS3 : w3.cell? ⟨w.heap.size, 4, none⟩ = some (.string s) ∧ w3.cell? ⟨p, 0, none⟩ = some (.pointer (some ⟨Bk, 0, none⟩)) ∧ w3.cell? ⟨p, 1, none⟩ = some (.pointer (some ⟨Rb, 0, none⟩)) := ⟨(hk3.cell (unhide HB).2.1 (unhide HN).1).trans o4, (hk3.cell (unhide HB).2.2 (unhide HN).2).trans p0, (hk3.cell (unhide HB).2.2 (unhide HN).2).trans p1⟩; have HK3 := hide hk3; have H2 := hide hnx; clear hk3 hnx))
  clear hSe o4 p0 p1
  have o4' := hS3.1
  have p0' := hS3.2.1
  have p1' := hS3.2.2
  have hSf : w3.drew.cell? ⟨w.heap.size, 4, none⟩ = some (.string s) ∧ w3.drew.cell? ⟨p, 0, none⟩ = some (.pointer (some ⟨Bk, 0, none⟩)) ∧ w3.drew.cell? ⟨p, 1, none⟩ = some (.pointer (some ⟨Rb, 0, none⟩)) := hS3
  go_wp2_with fail
  go_region_held3 (fun w' => w'.cell? ⟨w.heap.size, 4, none⟩ = some (.string s) ∧ w'.cell? ⟨p, 0, none⟩ = some (.pointer (some ⟨Bk, 0, none⟩)) ∧ w'.cell? ⟨p, 1, none⟩ = some (.pointer (some ⟨Rb, 0, none⟩)))
    (first | with_reducible exact hS4 | with_reducible exact hSf)
    (first
      | (go_at_call 30; refine (unhide H2 _ (Below.refl _ _).drew).mono ?_; rintro e w4 ⟨rfl, hk4, c', hc', hpl4⟩; have hS4 : w4.cell? ⟨w.heap.size, 4, none⟩ = some (.string s) ∧ w4.cell? ⟨p, 0, none⟩ = some (.pointer (some ⟨Bk, 0, none⟩)) ∧ w4.cell? ⟨p, 1, none⟩ = some (.pointer (some ⟨Rb, 0, none⟩)) := ⟨(hk4.cell (Nat.lt_of_lt_of_le (unhide HB).2.1 (unhide HK3).size) (unhide HN).1).trans hS3.1, (hk4.cell (Nat.lt_of_lt_of_le (unhide HB).2.2 (unhide HK3).size) (unhide HN).2).trans hS3.2.1, (hk4.cell (Nat.lt_of_lt_of_le (unhide HB).2.2 (unhide HK3).size) (unhide HN).2).trans hS3.2.2⟩; have HE := hide (unhide HJ w4 c' ((KeptS.of_below (unhide HB).1).trans ((unhide HK3).trans ((KeptS.of_below (Below.refl _ _).drew).trans hk4))) hc' hpl4); clear hk4 hc' hpl4))
  clear hS3 hS4 hSf o4' p0' p1'
  go_wp2
  go_ret
  exact ⟨rfl, (unhide HE).1, _, (unhide HE).2⟩

end Go.Proofs.YtbjobbkgelipmaaGreat
