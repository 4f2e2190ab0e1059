/-
  The walk of tithe's Publish, given what slices.Sorted(maps.Keys(m)) gives.
-/
import Derived.BigQuiet
import Derived.Test.YtbjobbkgelipmaaSbaf
import Derived.Test.YtbjobbkgelipmaaSbai
namespace Go.Proofs.Ytbjobbkgelipmaa
open Go.RowKit Go.Maps Go.WideMaps

theorem len_run {w : World} {B M : Nat} {h seed tot : Int} {last : Option Addr} {E : List Acct} (hb : BookT w B M h seed last tot E) (ty : TypeId) : (Builtin.len_ #[61] ty #[.map (some M)]).run Try.prog w = .ok (.int .i64 (E.length : Int)) w := by
  have h := hb.own.len Try.undAcc ty
  rw [h]
  simp [datE, Maps.size]

/-- Is there a place for each account? -/
def fullB (h : Nat) (E : List Acct) : Bool := decide (2 ^ h < E.length)

set_option maxHeartbeats 2000000 in
set_option maxRecDepth 100000 in
theorem publish_full {w : World} {B M h : Nat} {seed tot : Int} {last : Option Addr} {E : List Acct} (hb : BookT w B M (h : Int) seed last tot E) (hh : h ≤ 6) (hE : E.length ≤ 1048576) (hf : 2 ^ h < E.length) :
    Calls Try.prog 19 #[.pointer (some ⟨B, 0, none⟩)] w fun e w' => e = .returned (.tuple #[.slice none 0 0, .int .i64 7]) ∧ ∃ d, w' = w.drewN d := by
  have hl : ∀ d ty, (Builtin.len_ #[61] ty #[.map (some M)]).run Try.prog (w.drewN d) = .ok (.int .i64 (E.length : Int)) (w.drewN d) := fun d ty => len_run (hb.heap (w' := w.drewN d) rfl) ty
  have c0 : w.cell? ⟨B, 0, none⟩ = some (.int .i64 (h : Int)) := block_cell hb.blk
  have c2 : w.cell? ⟨B, 2, none⟩ = some (.map (some M)) := block_cell hb.blk
  generalize E.length = n at *
  have H7 : h = 0 ∨ h = 1 ∨ h = 2 ∨ h = 3 ∨ h = 4 ∨ h = 5 ∨ h = 6 := by omega
  clear hb hh
  rcases H7 with rfl | rfl | rfl | rfl | rfl | rfl | rfl
  all_goals
    simp only [Nat.reducePow] at hf
    go_enter Try.func19, Try.ntmps19
    go_wp2_with fail
    go_quiet (fail)
    go_wp2
    go_ret2
    exact ⟨rfl, _, rfl⟩

theorem leaves_sum (seed : Int) (E : List Acct) : sumL (leavesE seed E E.length) = sumE E := by
  unfold sumL sumE leavesE
  rw [List.map_map]
  congr 1
  apply List.ext_getElem
  · simp
  · intro i h1 h2
    have hi : i < E.length := by simpa using h2
    simp only [List.getElem_map, List.getElem_range, Function.comp, leafOf]
    rw [List.getD_eq_getElem?_getD, List.getElem?_eq_getElem hi]
    rfl
theorem leaves_pos {w : World} {B M : Nat} {h seed tot : Int} {last : Option Addr} {E : List Acct} (hb : BookT w B M h seed last tot E) : ∀ x ∈ leavesE seed E E.length, 0 ≤ x.bal := by
  intro x hx
  unfold leavesE at hx
  obtain ⟨i, hi, rfl⟩ := List.mem_map.1 hx
  have hi' : i < E.length := by simpa using hi
  unfold leafOf
  rw [List.getD_eq_getElem?_getD, List.getElem?_eq_getElem hi']
  exact hb.pos _ (List.getElem_mem hi')
/-- The record's tree is written. -/
theorem BookT.root {w : World} {B M : Nat} {h seed tot : Int} {last : Option Addr} {E : List Acct} (hb : BookT w B M h seed last tot E) (a : Option Addr) : BookT (w.setCell ⟨B, 4, none⟩ (.pointer a)) B M h seed a tot E := by
  have e : ∀ k, k ≠ B → (w.setCell ⟨B, 4, none⟩ (.pointer a)).heap[k]? = w.heap[k]? := fun k hk => Below.heap_setCell _ _ _ _ hk
  refine ⟨heap_setCell_same _ B 4 _ _ _ hb.blk, ?_, fun c hc => (e _ (hb.ne hc)).trans (hb.acc c hc), hb.apart, hb.pos⟩
  obtain ⟨es, cl, he, r⟩ := hb.own
  exact ⟨es, cl, (e M (fun e => by rw [e, hb.blk] at he; cases he)).trans he, r⟩

set_option maxHeartbeats 4000000 in
set_option maxRecDepth 100000 in
theorem publish_ok (K : SortK) {w : World} {B M h : Nat} {seed : Int} {last : Option Addr} {E : List Acct} (hb : BookM w B M (h : Int) seed last E) (hh : h ≤ 6) (hf : E.length ≤ 2 ^ h) (hnm : ∀ a ∈ E, a.name.length ≤ 8) :
    Calls Try.prog 19 #[.pointer (some ⟨B, 0, none⟩)] w fun e w' => (∃ v T b cap V vc gs, e = .returned (.tuple #[v, .int .i64 0]) ∧ w'.ownsRow w.heap.size 5 1 v 12 (byteVals (reportB (leavesE seed E E.length) h)) ∧
      BookM w' B M (h : Int) seed (some ⟨T, 0, none⟩) E ∧ TreeM w' T b cap V vc gs (leavesE seed E E.length) h ∧ w.heap.size ≤ T ∧ w.heap.size ≤ b ∧ w.heap.size ≤ V ∧ ∀ j, j ≤ h → w.heap.size ≤ gs.getD j 0) ∧ Kept [B] w w' := by
  have h64 : 2 ^ h ≤ 2 ^ 6 := Nat.pow_le_pow_right (by omega) hh
  have hn64 : E.length ≤ 64 := by omega
  have hl : ∀ d ty, (Builtin.len_ #[61] ty #[.map (some M)]).run Try.prog (w.drewN d) = .ok (.int .i64 (E.length : Int)) (w.drewN d) := fun d ty => len_run (hb.toBookT.heap (w' := w.drewN d) rfl) ty
  have c0 : w.cell? ⟨B, 0, none⟩ = some (.int .i64 (h : Int)) := block_cell hb.blk
  have c2 : w.cell? ⟨B, 2, none⟩ = some (.map (some M)) := block_cell hb.blk
  have hBl := (Array.getElem?_eq_some_iff.1 hb.blk).1
  have HLv := hide (fun (W : World) (hW : BookT W B M (h : Int) seed last (sumE E) E) => leaves_any K hW hn64 hnm (fun a ha => by have h1 := le_sum hb.pos ha; have h2 := hb.sum; unfold maxS at h2; omega))
  have hlsum := leaves_sum seed E
  have hlpos := leaves_pos hb.toBookT
  have hllen := leavesE_len seed E E.length
  have hsm := hb.sum
  generalize hls : leavesE seed E E.length = ls at *
  have hgr := fun (W : World) (g : Nat) (hL : LeavesAt W g 0 ls) => grow_any g ls.length h ls W hh (by omega) hL hlpos (by omega)
  rw [hllen] at hgr
  have HGr := hide hgr
  have HLs := hide (And.intro hlsum (And.intro hlpos hllen))
  have HB := hide hb
  have HF := hide hf
  have HRg := hide (fun (k p : Nat) => side_range ls hlpos (by omega) k p)
  clear hlsum hlpos hllen hsm hb hnm hls K h64 hgr
  go_enter Try.func19, Try.ntmps19
  go_upto_region 1 with fail
  go_cut [14] (fun s14 wx => s14 = .bool false ∧ ∃ d, wx = w.drewN d)
  case first =>
    have hf := unhide HF
    have H7 : h = 0 ∨ h = 1 ∨ h = 2 ∨ h = 3 ∨ h = 4 ∨ h = 5 ∨ h = 6 := by omega
    clear HLv HGr HLs HB HF hh
    generalize E.length = n at *
    rcases H7 with rfl | rfl | rfl | rfl | rfl | rfl | rfl
    all_goals
      simp only [Nat.reducePow] at hf
      go_quiet (fail)
      go_wp2_with fail
      go_meet
      exact ⟨by rw [decide_eq_false (by omega)], _, rfl⟩
  case rest =>
  obtain ⟨rfl, d, rfl⟩ := hcut
  have hB0 : BookT (w.drewN d) B M (h : Int) seed last (sumE E) E := (unhide HB).toBookT.heap rfl
  have hW0 : Below w.heap.size w (w.drewN d) := below_drewN (Below.refl _ _) _
  have hz0 : w.heap.size ≤ (w.drewN d).heap.size := hW0.size
  have HW0 := hide hW0
  clear hl c2 hW0
  go_upto_region 3 with fail
  generalize (w.drewN d) = W0 at *
  have hSd : W0.drew.cell? ⟨B, 0, none⟩ = some (.int .i64 (h : Int)) := block_cell hB0.blk
  have hB0' : BookT W0.drew B M (h : Int) seed last (sumE E) E := hB0.heap rfl
  clear c0
  go_cut [17] (fun _ wx => ∃ T V vc gs g, Hid (BookT wx B M (h : Int) seed (some ⟨T, 0, none⟩) (sumE E) E ∧ TreeM wx T g E.length V vc gs ls h ∧ (w.heap.size ≤ T ∧ w.heap.size ≤ g ∧ w.heap.size ≤ V ∧ ∀ j, j ≤ h → w.heap.size ≤ gs.getD j 0) ∧ Kept [B] w wx))
  case first =>
    go_region_held3 (fun w' => w'.cell? ⟨B, 0, none⟩ = some (.int .i64 (h : Int)))
      (first
        | with_reducible exact hSd
        | with_reducible exact hS4
        | with_reducible exact hS5
        | with_reducible exact hS6
        | fail)
      (first
        | (go_at_call 31; (with_reducible refine (unhide HLv W0.drew hB0').mono ?_); rintro e w4 ⟨⟨g, rfl, hg, hL4⟩, hb4⟩; have hT4 := hB0'.later hb4; have hS4 : w4.cell? ⟨B, 0, none⟩ = some (.int .i64 (h : Int)) := block_cell hT4.blk)
        | (go_at_call 30; (with_reducible refine (unhide HGr w4 g hL4).mono ?_); rintro e w5 ⟨⟨T, V, vc, gs, rfl, hlo, hTr5⟩, hb5⟩; have hT5 := hT4.later hb5; have hS5 : w5.cell? ⟨B, 0, none⟩ = some (.int .i64 (h : Int)) := block_cell hT5.blk; have u4 : w5.cell? ⟨B, 4, none⟩ = some (.pointer last) := block_cell hT5.blk; have uf : w5.frozen? ⟨B, 4, none⟩ = false := block_free hT5.blk; have hT6 := hT5.root (some ⟨T, 0, none⟩); have hS6 : (w5.setCell ⟨B, 4, none⟩ (.pointer (some ⟨T, 0, none⟩))).cell? ⟨B, 0, none⟩ = some (.int .i64 (h : Int)) := block_cell hT6.blk))
    have hz4 := hb4.size
    have hz5 := hb5.size
    have hsW : W0.drew.heap.size = W0.heap.size := rfl
    have hlo' : w.heap.size ≤ T ∧ w.heap.size ≤ g ∧ w.heap.size ≤ V ∧ ∀ j, j ≤ h → w.heap.size ≤ gs.getD j 0 := ⟨by have := hlo.1; omega, by omega, by have := hlo.2.1; omega, fun j hj => by have := hlo.2.2 j hj; omega⟩
    have hTr6 := hTr5.set (B := B) (by omega) (by omega) (by omega) (fun j hj => by have := hlo'.2.2.2 j hj; omega) 4 (.pointer (some ⟨T, 0, none⟩))
    have hK6 : Kept [B] w (w5.setCell ⟨B, 4, none⟩ (.pointer (some ⟨T, 0, none⟩))) :=
      (((Kept.of_below (unhide HW0)).trans (Kept.of_below (S := [B]) (w' := W0.drew) ((Below.refl _ _).drew))).trans ((Kept.of_below (S := [B]) hb4).trans (Kept.of_below (S := [B]) hb5))).trans (Kept.setCell (by simp) _)
    have HE := hide (And.intro hT6 (And.intro hTr6 (And.intro hlo' hK6)))
    clear hT6 hTr6 hlo' hK6 hT5 hTr5 hlo hT4 hL4 hS4 hS5 hS6 hSd hb4 hb5
    go_wp2_with fail
    go_meet
    exact ⟨T, V, vc, gs, g, HE⟩
  case rest =>
  obtain ⟨T, V, vc, gs, g, HE⟩ := hcut
  have hrt := trep_any (unhide HE).2.1 hh
  have HRt := hide hrt
  have c4 : wc.cell? ⟨B, 4, none⟩ = some (.pointer (some ⟨T, 0, none⟩)) := block_cell (unhide HE).1.blk
  have hrg := unhide HRg h 0
  have HWr := hide (fun w' => wrreport_any h (sideT ls h 0) w' hh hrg.1 (by have := hrg.2; unfold maxS at this; omega))
  have hzc := (unhide HE).2.2.2.size
  clear hrt hrg hB0 hB0' hSd HLv HGr HRg hz0 HW0
  unfold ownRepV at HRt HWr
  generalize ((sideT ls h 0).1.1.toNat : Int) = d0 at *
  generalize ((sideT ls h 0).1.2.1.toNat : Int) = d1 at *
  generalize ((sideT ls h 0).1.2.2.toNat : Int) = d2 at *
  generalize hnn : (sideT ls h 0).2 = nn at *
  have HRB : Hid (UInt8.ofNat h :: sideB (sideT ls h 0) = reportB ls h) := rfl
  generalize UInt8.ofNat h :: sideB (sideT ls h 0) = RBy at *
  clear hnn
  go_wp2_with fail
  refine (unhide HRt).mono ?_
  rintro e w7 ⟨rfl, hb7⟩
  have HW7 := hide (unhide HWr w7)
  have HB7 := hide hb7
  clear HRt HWr hb7 c4
  go_wp2_with fail
  refine (unhide HW7).mono ?_
  rintro e w8 ⟨⟨v8, rfl, hown8⟩, hb8⟩
  have hb78 := (unhide HB7).trans (hb8.mono (unhide HB7).size)
  have hown' := own_lower hown8 (b' := w.heap.size) (by have := (unhide HB7).size; omega)
  rw [unhide HRB] at hown'
  have HF8 := hide (And.intro hown' (And.intro hb78 True.intro))
  clear hown8 hb8 hb78 hown' HW7 HB7
  go_wp2
  go_ret2
  obtain ⟨e1, e2, e3, e4⟩ := unhide HE
  have hb78 := (unhide HF8).2.1
  exact ⟨⟨v8, T, g, E.length, V, vc, gs, rfl, (unhide HF8).1, ⟨e1.later hb78, (unhide HB).sum⟩, e2.later hb78, e3⟩, e4.trans (Kept.of_below hb78)⟩

end Go.Proofs.Ytbjobbkgelipmaa
