/-
  The walk of tithe's grow.
-/
import Derived.OwnWalk
import Derived.Deep.DeepCutAuto
import Derived.Test.YtbjobbkgelipmaaSbag
import Derived.Test.YtbjobbkgelipmaaSbaa
namespace Go.Proofs.Ytbjobbkgelipmaa
open Go.RowKit

theorem Try.infoSides : (Try.prog.info? 77).map (fun i => (i.zero, i.size, i.bytes)) = some (some (.slice none 0 0), 1, 24) := by kernel_rfl
/-- The slices of a tree's levels. -/
def lvlV (h : Nat) (gs : List Nat) : List Value := (List.range gs.length).map fun j => .slice (some ⟨gs.getD j 0, 0, none⟩) (2 ^ (h - j)) (2 ^ (h - j))
theorem lvlV_snoc (h : Nat) (gs : List Nat) (g : Nat) : lvlV h (gs ++ [g]) = lvlV h gs ++ [.slice (some ⟨g, 0, none⟩) (2 ^ (h - gs.length)) (2 ^ (h - gs.length))] := by
  unfold lvlV
  rw [List.length_append, List.length_singleton, List.range_succ, List.map_append]
  congr 1
  · apply List.map_congr_left
    intro j hj
    have hj' : j < gs.length := by simpa using hj
    rw [List.getD_eq_getElem?_getD, List.getD_eq_getElem?_getD, List.getElem?_append_left hj']
  · simp
theorem lvlV_len (h : Nat) (gs : List Nat) : (lvlV h gs).length = gs.length := by simp [lvlV]

/-- Sides lie in no row of slices. -/
theorem sides_ne {w : World} {base n g : Nat} {v : Value} {xs : List Value} {ys : List (Dg × Int)} {a : Option Addr} {l c : Nat} (ho : w.ownsRow base 77 1 v n (.slice a l c :: xs)) (hs : SidesAt w g ys) (hy : 0 < ys.length) : some g ≠ v.ownBlock := by
  rcases ho.2 with ⟨rfl, h0⟩ | ⟨b, cap, cur, rfl, _, hb, _, _, _, hx⟩
  · intro e; cases e
  · intro e
    have e' : some g = some b := e
    have hgb := Option.some.inj e'
    subst hgb
    have h1 := (hs 0 hy).1
    rw [Nat.zero_mul, block_cell hb] at h1
    have h2 : (cur.toList.take (n * 1))[0]? = some (.slice a l c) := by rw [hx]; rfl
    rw [List.getElem?_take] at h2
    split at h2
    · rw [Array.getElem?_toList] at h2
      rw [h2] at h1
      cases h1
    · cases h2

/-- What is kept between rounds of grow. -/
structure GI (w : World) (ls : List LeafD) (h k : Nat) (v : Value) (gs : List Nat) (wr : World) : Prop where
  len : gs.length = k + 1
  own : wr.ownsRow w.heap.size 77 1 v (k + 1) (lvlV h gs)
  sides : ∀ j, j ≤ k → SidesAt wr (gs.getD j 0) (levelT ls j (2 ^ (h - j))) ∧ gs.getD j 0 < wr.heap.size ∧ w.heap.size ≤ gs.getD j 0
  below : Below w.heap.size w wr

theorem GI.start {w w1 : World} {ls : List LeafD} {h : Nat} (hz : w.heap.size < w1.heap.size) (hs : SidesAt w1 w.heap.size (levelT ls 0 (2 ^ h))) (hb : Below w.heap.size w w1) :
    GI w ls h 0 (.slice (some ⟨w1.heap.size, 0, none⟩) 1 1) [w.heap.size] (w1.alloc (.cells #[.slice (some ⟨w.heap.size, 0, none⟩) (2 ^ h) (2 ^ h)] 77)) := by
  refine ⟨rfl, ⟨rfl, .inr ⟨w1.heap.size, 1, _, rfl, by omega, heap_alloc_new w1 _, Nat.le_refl _, by unfold maxLen; omega, rfl, rfl⟩⟩, fun j hj => ?_, hb.alloc hb.size _⟩
  have hj0 : j = 0 := by omega
  subst hj0
  exact ⟨hs.below ((Below.refl _ _).alloc (Nat.le_refl _) _) hz, by rw [World.size_alloc]; exact Nat.lt_succ_of_lt hz, Nat.le_refl _⟩

theorem GI.step {w wr w4 w5 : World} {ls : List LeafD} {h k : Nat} {v v' : Value} {gs : List Nat} (hi : GI w ls h k v gs wr) (_hk : k < h) (hb4 : Below wr.heap.size wr w4) (hz4 : wr.heap.size < w4.heap.size) (hs4 : SidesAt w4 wr.heap.size (levelT ls (k + 1) (2 ^ (h - (k + 1)))))
    (hown : w5.ownsRow w.heap.size 77 1 v' (k + 1 + 1) (lvlV h gs ++ [.slice (some ⟨wr.heap.size, 0, none⟩) (2 ^ (h - (k + 1))) (2 ^ (h - (k + 1)))])) (hg : (w4.alloc (.cells #[.slice (some ⟨wr.heap.size, 0, none⟩) (2 ^ (h - (k + 1))) (2 ^ (h - (k + 1)))] 77)).grownBy w5 v.ownBlock) :
    GI w ls h (k + 1) v' (gs ++ [wr.heap.size]) w5 := by
  have hwz := hi.below.size
  have hB4 : Below w.heap.size w w4 := hi.below.trans (hb4.mono hwz)
  have hBA : Below w4.heap.size w4 (w4.alloc (.cells #[.slice (some ⟨wr.heap.size, 0, none⟩) (2 ^ (h - (k + 1))) (2 ^ (h - (k + 1)))] 77)) := (Below.refl _ _).alloc (Nat.le_refl _) _
  have hown4 : (w4.alloc (.cells #[.slice (some ⟨wr.heap.size, 0, none⟩) (2 ^ (h - (k + 1))) (2 ^ (h - (k + 1)))] 77)).ownsRow w.heap.size 77 1 v (k + 1) (lvlV h gs) := by
    have ho := hi.own
    refine ⟨ho.1, ?_⟩
    rcases ho.2 with h0 | ⟨b, cap, cur, e1, e2, hb, r⟩
    · exact .inl h0
    · have hlt := (Array.getElem?_eq_some_iff.1 hb).1
      exact .inr ⟨b, cap, cur, e1, e2, (hBA.block b (by omega)).trans ((hb4.block b hlt).trans hb), r⟩
  have hcons : ∃ a l c xs, lvlV h gs = .slice a l c :: xs := by
    have hl := lvlV_len h gs
    rw [hi.len] at hl
    cases e : lvlV h gs with
    | nil => rw [e] at hl; cases hl
    | cons x xs =>
      have : (lvlV h gs)[0]? = some x := by rw [e]; rfl
      unfold lvlV at this
      rw [hi.len, List.getElem?_map, List.getElem?_range (by omega)] at this
      simp at this
      exact ⟨_, _, _, xs, by rw [← this]⟩
  obtain ⟨a, l, c, xs, hx⟩ := hcons
  rw [hx] at hown4
  have keep : ∀ (g : Nat) (ys : List (Dg × Int)), 0 < ys.length → g < w4.heap.size → SidesAt w4 g ys → SidesAt w5 g ys := fun g ys hy hg' hs => by
    have hsA := hs.below hBA hg'
    have hne := sides_ne hown4 hsA hy
    have hblk := hg.block g (by rw [World.size_alloc]; omega) hne
    intro i hi'
    have e : ∀ o, w5.cell? ⟨g, o, none⟩ = (w4.alloc (.cells #[.slice (some ⟨wr.heap.size, 0, none⟩) (2 ^ (h - (k + 1))) (2 ^ (h - (k + 1)))] 77)).cell? ⟨g, o, none⟩ := fun o => World.cell?_of_block hblk
    obtain ⟨h0, h1, h2, h3⟩ := hsA i hi'
    exact ⟨(e _).trans h0, (e _).trans h1, (e _).trans h2, (e _).trans h3⟩
  have hsz5 : w4.heap.size < w5.heap.size := by have := hg.size; rw [World.size_alloc] at this; omega
  have hpos : ∀ j, 0 < (levelT ls j (2 ^ (h - j))).length := fun j => by rw [levelT_len]; exact Nat.two_pow_pos _
  refine ⟨by rw [List.length_append, hi.len]; rfl, ?_, fun j hj => ?_, ?_⟩
  · rw [lvlV_snoc, hi.len]; exact hown
  · by_cases hjk : j ≤ k
    · obtain ⟨s1, s2, s3⟩ := hi.sides j hjk
      have e : (gs ++ [wr.heap.size]).getD j 0 = gs.getD j 0 := by
        rw [List.getD_eq_getElem?_getD, List.getD_eq_getElem?_getD, List.getElem?_append_left (by rw [hi.len]; omega)]
      rw [e]
      exact ⟨keep _ _ (hpos j) (by omega) (s1.below hb4 s2), by omega, s3⟩
    · have hj1 : j = k + 1 := by omega
      subst hj1
      have e : (gs ++ [wr.heap.size]).getD (k + 1) 0 = wr.heap.size := by
        rw [List.getD_eq_getElem?_getD, List.getElem?_append_right (by rw [hi.len]; omega), hi.len]
        simp
      rw [e]
      exact ⟨keep _ _ (hpos (k + 1)) hz4 hs4, by omega, hwz⟩
  · exact (hB4.alloc hB4.size _).grown hg (by rw [World.size_alloc]; omega) (fun b hb => (hi.own.lt b hb).1)

/-- A tree that lies in memory. -/
structure TreeM (w : World) (T : Nat) (b cap V vc : Nat) (gs : List Nat) (ls : List LeafD) (h : Nat) : Prop where
  blk : w.heap[T]? = some (.cells #[.slice (some ⟨b, 0, none⟩) ls.length cap, .slice (some ⟨V, 0, none⟩) (h + 1) vc] 104 (0, 0))
  leaves : LeavesAt w b 0 ls
  rows : ∀ j, j ≤ h → w.cell? ⟨V, j, none⟩ = some (.slice (some ⟨gs.getD j 0, 0, none⟩) (2 ^ (h - j)) (2 ^ (h - j)))
  vlt : V < w.heap.size
  sides : ∀ j, j ≤ h → SidesAt w (gs.getD j 0) (levelT ls j (2 ^ (h - j))) ∧ gs.getD j 0 < w.heap.size
theorem TreeM.later {w w' : World} {T b cap V vc h : Nat} {gs : List Nat} {ls : List LeafD} (t : TreeM w T b cap V vc gs ls h) (hb : Below w.heap.size w w') : TreeM w' T b cap V vc gs ls h :=
  ⟨(hb.block T (Array.getElem?_eq_some_iff.1 t.blk).1).trans t.blk, t.leaves.below hb t.leaves.lt, fun j hj => keepB hb t.vlt (t.rows j hj), Nat.lt_of_lt_of_le t.vlt hb.size, fun j hj => ⟨(t.sides j hj).1.below hb (t.sides j hj).2, Nat.lt_of_lt_of_le (t.sides j hj).2 hb.size⟩⟩

theorem TreeM.set {w : World} {T b cap V vc h B : Nat} {gs : List Nat} {ls : List LeafD} (t : TreeM w T b cap V vc gs ls h) (h1 : T ≠ B) (h2 : b ≠ B) (h3 : V ≠ B) (h4 : ∀ j, j ≤ h → gs.getD j 0 ≠ B) (i : Nat) (v : Value) : TreeM (w.setCell ⟨B, i, none⟩ v) T b cap V vc gs ls h := by
  have e : ∀ k, k ≠ B → (w.setCell ⟨B, i, none⟩ v).heap[k]? = w.heap[k]? := fun k hk => Below.heap_setCell _ _ _ _ hk
  have ec : ∀ k o, k ≠ B → (w.setCell ⟨B, i, none⟩ v).cell? ⟨k, o, none⟩ = w.cell? ⟨k, o, none⟩ := fun k o hk => World.cell?_of_block (e k hk)
  refine ⟨(e T h1).trans t.blk, ⟨by simpa using t.leaves.lt, fun j hj => ?_, t.leaves.ok⟩, fun j hj => (ec V j h3).trans (t.rows j hj), by simpa using t.vlt, fun j hj => ⟨fun k hk => ?_, by simpa using (t.sides j hj).2⟩⟩
  · obtain ⟨y0, y1, y2⟩ := t.leaves.cells j hj
    exact ⟨(ec b _ h2).trans y0, (ec b _ h2).trans y1, (ec b _ h2).trans y2⟩
  · obtain ⟨y0, y1, y2, y3⟩ := (t.sides j hj).1 k hk
    exact ⟨(ec _ _ (h4 j hj)).trans y0, (ec _ _ (h4 j hj)).trans y1, (ec _ _ (h4 j hj)).trans y2, (ec _ _ (h4 j hj)).trans y3⟩
theorem GI.tree {w wr : World} {ls : List LeafD} {h b cap : Nat} {v : Value} {gs : List Nat} (hi : GI w ls h h v gs wr) (hL : LeavesAt w b 0 ls) :
    ∃ V vc, v = .slice (some ⟨V, 0, none⟩) (h + 1) vc ∧ (w.heap.size ≤ V ∧ ∀ j, j ≤ h → w.heap.size ≤ gs.getD j 0) ∧ TreeM (wr.alloc (.cells #[.slice (some ⟨b, 0, none⟩) ls.length cap, v] 104)) wr.heap.size b cap V vc gs ls h := by
  rcases hi.own.2 with ⟨_, h0⟩ | ⟨V, vc, cur, rfl, hbase, hb, h1, h2, h3, h4⟩
  · omega
  · refine ⟨V, vc, rfl, ⟨hbase, fun j hj => (hi.sides j hj).2.2⟩, ⟨heap_alloc_new wr _, ?_, fun j hj => ?_, ?_, fun j hj => ?_⟩⟩
    · exact (hL.below hi.below hL.lt).below ((Below.refl _ _).alloc (Nat.le_refl _) _) (Nat.lt_of_lt_of_le hL.lt hi.below.size)
    · rw [block_cell (heap_next hb)]
      have e : (cur.toList.take ((h + 1) * 1))[j]? = (lvlV h gs)[j]? := by rw [h4]
      rw [List.getElem?_take_of_lt (by omega), Array.getElem?_toList] at e
      rw [e]
      unfold lvlV
      rw [hi.len, List.getElem?_map, List.getElem?_range (by omega)]
      rfl
    · rw [World.size_alloc]; exact Nat.lt_succ_of_lt (Array.getElem?_eq_some_iff.1 hb).1
    · obtain ⟨s1, s2, _⟩ := hi.sides j hj
      exact ⟨s1.below ((Below.refl _ _).alloc (Nat.le_refl _) _) s2, by rw [World.size_alloc]; exact Nat.lt_succ_of_lt s2⟩

set_option maxHeartbeats 2000000 in
set_option maxRecDepth 100000 in
theorem grow_any (b cap h : Nat) (ls : List LeafD) (w : World) (hh : h ≤ 6) (hn : ls.length ≤ 64) (hL : LeavesAt w b 0 ls) (hp : ∀ x ∈ ls, 0 ≤ x.bal) (hm : sumL ls ≤ maxS) :
    Calls Try.prog 30 #[.slice (some ⟨b, 0, none⟩) ls.length cap, .int .i64 (h : Int)] w fun e w' => (∃ T V vc gs, e = .returned (.pointer (some ⟨T, 0, none⟩)) ∧ (w.heap.size ≤ T ∧ w.heap.size ≤ V ∧ ∀ j, j ≤ h → w.heap.size ≤ gs.getD j 0) ∧ TreeM w' T b cap V vc gs ls h) ∧ Below w.heap.size w w' := by
  obtain ⟨i0, hi, hz0, hz1, hz2⟩ := info_parts Try.infoSides
  have HL0 := hide hL
  have hlow := fun (P : Nat) (hP : P ≤ 64) => lowest_any b ls.length P ls w cap rfl hn hP hL
  have HLow := hide hlow
  have HAb := hide (fun (wr : World) (k G : Nat) (hk : k < h) (hG : G < wr.heap.size) (hs : SidesAt wr G (levelT ls k (2 ^ (h - k)))) =>
    (above_any G (2 ^ (h - k)) (2 ^ (h - (k + 1))) (2 ^ (h - k)) (levelT ls k (2 ^ (h - k))) wr (levelT_len _ _ _) (by rw [show h - k = (h - (k + 1)) + 1 by omega, Nat.pow_succ]; omega)
      (by have : 2 ^ (h - (k + 1)) ≤ 2 ^ 6 := Nat.pow_le_pow_right (by omega) (by omega); omega) hG hs (fun y hy => by
        unfold levelT at hy
        obtain ⟨i, _, rfl⟩ := List.mem_map.1 hy
        exact side_range ls hp hm k i)))
  have HUp := hide (fun (k : Nat) (hk : k < h) => show aboveT (levelT ls k (2 ^ (h - k))) (2 ^ (h - (k + 1))) = levelT ls (k + 1) (2 ^ (h - (k + 1))) from by
    rw [show h - k = (h - (k + 1)) + 1 by omega, Nat.pow_succ, Nat.mul_comm]
    exact level_up ls hp hm k _)
  clear hlow hL hp hm
  go_enter Try.func30, Try.ntmps30
  go_upto_region 1 with fail
  go_cut [5] (fun s5 wx => s5 = .slice (some ⟨w.heap.size, 0, none⟩) (2 ^ h) (2 ^ h) ∧ Hid (w.heap.size < wx.heap.size ∧ SidesAt wx w.heap.size (levelT ls 0 (2 ^ h)) ∧ Below w.heap.size w wx))
  case first =>
    have H7 : h = 0 ∨ h = 1 ∨ h = 2 ∨ h = 3 ∨ h = 4 ∨ h = 5 ∨ h = 6 := by omega
    clear HAb HUp HL0 hh
    generalize ls.length = n at *
    rcases H7 with rfl | rfl | rfl | rfl | rfl | rfl | rfl
    · have HC := hide (unhide HLow 1 (by omega))
      clear HLow
      go_wp2_with fail
      refine (unhide HC).mono ?_
      rintro e w1 ⟨rfl, r⟩
      have HR := hide r
      clear r HC
      go_wp2_with fail
      go_meet
      exact ⟨rfl, HR⟩
    · have HC := hide (unhide HLow 2 (by omega))
      clear HLow
      go_wp2_with fail
      refine (unhide HC).mono ?_
      rintro e w1 ⟨rfl, r⟩
      have HR := hide r
      clear r HC
      go_wp2_with fail
      go_meet
      exact ⟨rfl, HR⟩
    · have HC := hide (unhide HLow 4 (by omega))
      clear HLow
      go_wp2_with fail
      refine (unhide HC).mono ?_
      rintro e w1 ⟨rfl, r⟩
      have HR := hide r
      clear r HC
      go_wp2_with fail
      go_meet
      exact ⟨rfl, HR⟩
    · have HC := hide (unhide HLow 8 (by omega))
      clear HLow
      go_wp2_with fail
      refine (unhide HC).mono ?_
      rintro e w1 ⟨rfl, r⟩
      have HR := hide r
      clear r HC
      go_wp2_with fail
      go_meet
      exact ⟨rfl, HR⟩
    · have HC := hide (unhide HLow 16 (by omega))
      clear HLow
      go_wp2_with fail
      refine (unhide HC).mono ?_
      rintro e w1 ⟨rfl, r⟩
      have HR := hide r
      clear r HC
      go_wp2_with fail
      go_meet
      exact ⟨rfl, HR⟩
    · have HC := hide (unhide HLow 32 (by omega))
      clear HLow
      go_wp2_with fail
      refine (unhide HC).mono ?_
      rintro e w1 ⟨rfl, r⟩
      have HR := hide r
      clear r HC
      go_wp2_with fail
      go_meet
      exact ⟨rfl, HR⟩
    · have HC := hide (unhide HLow 64 (by omega))
      clear HLow
      go_wp2_with fail
      refine (unhide HC).mono ?_
      rintro e w1 ⟨rfl, r⟩
      have HR := hide r
      clear r HC
      go_wp2_with fail
      go_meet
      exact ⟨rfl, HR⟩
  case rest =>
  obtain ⟨rfl, HR⟩ := hcut
  have HGI := hide (GI.start (ls := ls) (h := h) (unhide HR).1 (unhide HR).2.1 (unhide HR).2.2)
  have hzc := (unhide HR).1
  clear HR HLow
  go_wp2
  go_loopw [5, 6, 14] (fun lv v i wr => ∃ (k : Nat) (gs : List Nat), k ≤ h ∧ i = .int .i64 k ∧ lv = .slice (some ⟨gs.getD k 0, 0, none⟩) (2 ^ (h - k)) (2 ^ (h - k)) ∧ GI w ls h k v gs wr) (fun _ _ i _ => h - (intOf i).toNat)
  case atStart => exact ⟨0, [w.heap.size], Nat.zero_le _, rfl, rfl, unhide HGI⟩
  case round =>
    obtain ⟨k, gs, hk, rfl, rfl, hgi⟩ := hrel
    have HG := hide hgi
    have hwz := hgi.below.size
    obtain ⟨s1, s2, s3⟩ := hgi.sides k (Nat.le_refl _)
    by_cases hk' : k < h
    · have hA := unhide HAb wr k (gs.getD k 0) hk' s2 s1
      rw [unhide HUp k hk'] at hA
      have HA := hide hA
      have hST := fun (w4 w5 : World) (v' : Value) (a1 : Below wr.heap.size wr w4) (a2 : wr.heap.size < w4.heap.size) (a3 : SidesAt w4 wr.heap.size (levelT ls (k + 1) (2 ^ (h - (k + 1))))) => hgi.step (w5 := w5) (v' := v') hk' a1 a2 a3
      have HST := hide hST
      have HOW := hide (fun (w4 : World) (a1 : Below wr.heap.size wr w4) => show w4.ownsRow w.heap.size 77 1 u6 (k + 1) (lvlV h gs) from by
        refine ⟨hgi.own.1, ?_⟩
        rcases hgi.own.2 with h0 | ⟨b', cap', cur, e1, e2, hb', r⟩
        · exact .inl h0
        · exact .inr ⟨b', cap', cur, e1, e2, (a1.block b' (Array.getElem?_eq_some_iff.1 hb').1).trans hb', r⟩)
      have HGET : Hid ((gs ++ [wr.heap.size]).getD (k + 1) 0 = wr.heap.size) := by
        refine hide ?_
        rw [List.getD_eq_getElem?_getD, List.getElem?_append_right (by rw [hgi.len]; omega), hgi.len]
        simp
      generalize gs.getD k 0 = G at *
      generalize 2 ^ (h - k) = N at *
      generalize hN' : 2 ^ (h - (k + 1)) = N' at *
      have HN' := hide hN'
      clear hA hgi s1 s2 s3 hST HG HGI hN'
      go_wp2_with fail
      refine (unhide HA).mono ?_
      rintro e w4 ⟨rfl, hz4, hs4, hb4⟩
      have hO4 := unhide HOW w4 hb4
      have hz4' : w.heap.size ≤ w4.heap.size := by omega
      have HS4 := hide (And.intro hz4 (And.intro hs4 hb4))
      clear HA hs4 hb4
      go_wp2_with (at_builtin; refine wpList_append_own _ rfl (.tmp 18) (.tmp 20) 102 rfl w.heap.size 77 i0 (.slice none 0 0) 1 24 Try.underlying102 hi hz0 hz1 hz2 rfl (by decide) _ _ _ rfl (hO4.alloc _) ⟨w4.heap.size, 0, none⟩ 1 1 [_] rfl rfl (cell_one_new _ _ _) ?c2 ?c3 ?c4 ?c5 ?_)
      case c2 => intro u hu; simp at hu; subst hu; rfl
      case c3 => unfold maxLen; omega
      case c4 => omega
      case c5 => simp; omega
      intro v' w5 hown5 hgrow5 _
      have HF := hide (unhide HST w4 w5 v' (unhide HS4).2.2 (unhide HS4).1 (unhide HS4).2.1 hown5 hgrow5)
      clear hown5 hgrow5 hO4 HS4 HST HOW
      go_wp2
      go_roundw
      case rel =>
        refine ⟨k + 1, gs ++ [wr.heap.size], by omega, by go_num, ?_, unhide HF⟩
        rw [unhide HGET, unhide HN']
      case measure => simp [intOf]; omega
    · have hkk : k = h := by omega
      subst hkk
      obtain ⟨V, vc, hv, hlo, hT⟩ := hgi.tree (cap := cap) (unhide HL0)
      have HLO := hide hlo
      clear hlo
      subst hv
      have HT := hide (And.intro hT (hgi.below.alloc hwz (Obj.cells #[Value.slice (some ⟨b, 0, none⟩) ls.length cap, .slice (some ⟨V, 0, none⟩) (k + 1) vc] 104)))
      clear hT hgi HG HGI s1 s2 s3 HAb HUp
      go_wp2
      go_ret
      exact ⟨⟨_, V, vc, gs, rfl, ⟨hwz, (unhide HLO).1, (unhide HLO).2⟩, (unhide HT).1⟩, (unhide HT).2⟩

end Go.Proofs.Ytbjobbkgelipmaa
