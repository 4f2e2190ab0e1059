/-
  The walk of extracted.
-/
import Derived.Test.YtbjobbkgelipmaaGreatXtah
import Derived.Test.YtbjobbkgelipmaaGreatXtae
import Derived.Test.YtbjobbkgelipmaaGreatBkap
namespace Go.Proofs.YtbjobbkgelipmaaGreat
open Go.RowKit

theorem Tryz.infoSl : (Tryz.prog.info? 51).map (fun i => (i.zero, i.size, i.bytes)) = some (some (.slice none 0 0), 1, 24) := by kernel_rfl

theorem room_at {a q j C : Nat} (h : q < j) (hl : (a + 4 * (j + 3)) * 8 ≤ C) : (a + 12 + 4 * q + 4) * 8 ≤ C := by
  have h1 : a + 12 + 4 * q + 4 ≤ a + 4 * (j + 3) := by omega
  exact Nat.le_trans (Nat.mul_le_mul_right 8 h1) hl
set_option maxRecDepth 100000 in
theorem eq_nil (w' : World) : (binOp BinOp.eql 51 (Value.slice none 0 0) (Value.slice none 0 0)).run Tryz.prog w' = .ok (.bool true) w' := by kernel_rfl
theorem room_end (a q : Nat) : a + 12 + 4 * q = a + 4 * (q + 3) := by omega

set_option maxHeartbeats 1500000 in
set_option maxRecDepth 100000 in
theorem extracted_any {w : World} {B nn : Nat} {c : Nat → Nat} {ps hv : Value} {hs : List HoldD} {pl : List Nat} (J : Joint w B nn c ps hv hs pl) (kk xn xh sd : Int) (s t : ByteArray) (la : Option Addr) (lc : Nat) (a : Int) (Bs : List ByteArray) (ht : TextsIn w la Bs) (hss : s.size ≤ 140737488351232) (hsz : ∀ x ∈ Bs, x.size ≤ 1048576) (hn : Bs.length ≤ 1048576) (hl : (hs.length + 4 * (Bs.length + 3)) * 8 ≤ 140737488355328) :
    Calls Tryz.prog 44 #[.pointer (some ⟨B, 0, none⟩), opV kk xn xh sd s t la Bs.length lc a] w fun e w' => e = .returned (.bool true) ∧ Below B w w' ∧ ∃ c' hv' hs', Joint w' B nn c' ps hv' hs' pl ∧ hs'.length = hs.length + 4 * (Bs.length + 3) := by
  obtain ⟨i0, hi, hz0, hz1, hz2⟩ := info_parts Tryz.infoSl
  have hmk := run_make_row' (P := Tryz.prog) 133 51 (.slice none 0 0) 24 Tryz.underlying133 Tryz.infoSl rfl .i64 .i64 (Bs.length + 8) (by omega) (by omega)
  have hBl := J.inv.lt
  have HJ := hide J
  have HT := hide ht
  have hsb : ∀ j, (txB Bs j).size ≤ 1048576 := fun j => by
    by_cases hj : j < Bs.length
    · rw [txB_at hj]; exact hsz _ (List.getElem_mem hj)
    · unfold txB
      rw [List.getD_eq_getElem?_getD, List.getElem?_eq_none (by omega)]
      exact Nat.zero_le _
  have HSB := hide hsb
  obtain ⟨n, hnn⟩ : ∃ n, Bs.length = n := ⟨_, rfl⟩
  have HNN := hide hnn
  rw [hnn] at hn hl hmk ⊢
  rw [show ((n + 8 : Nat) : Int) = (n : Int) + 8 from by omega] at hmk
  have HL := hide hl
  clear J ht hsz hsb hnn hl
  unfold opV
  go_enter Tryz.func44, Tryz.ntmps44
  go_wp2_with fail
  generalize hW0 : w.alloc (Obj.cells #[Value.int IntKind.i64 kk, Value.int IntKind.i64 xn, Value.int IntKind.i64 xh, Value.int IntKind.u64 sd, Value.string s, Value.string t, Value.slice la n lc, Value.int IntKind.u64 a] 38) = W0
  have hz0' : W0.heap.size = w.heap.size + 1 := by rw [← hW0]; simp
  have o4 : W0.cell? ⟨w.heap.size, 4, none⟩ = some (.string s) := by rw [← hW0]; simp
  have o6 : W0.cell? ⟨w.heap.size, 6, none⟩ = some (.slice la n lc) := by rw [← hW0]; simp
  have hA0 : Below w.heap.size w W0 := by rw [← hW0]; exact (Below.refl _ _).alloc (Nat.le_refl _) _
  clear hW0
  refine (lent_any s W0 (by omega)).mono ?_
  rintro e w1 ⟨rfl, hrow1, hb1⟩
  have o4' := keepB hb1 (by omega) o4
  have o6' := keepB hb1 (by omega) o6
  have HP1 := hide (And.intro hrow1 (hA0.trans (hb1.mono hA0.size)))
  have hAw : w.heap.size < W0.heap.size := by omega
  have hAl := hrow1.lt
  clear hrow1 hb1 hA0 o4 o6 hz0'
  generalize W0.heap.size = A at *
  go_wp2_with fail
  have hrow2 := World.rowIs_made w1 (.slice none 0 0) (n + 8) 51
  generalize hW2 : w1.alloc (.cells (madeCells #[.slice none 0 0] (n + 8)) 51) = W2 at *
  have hb2 : Below w1.heap.size w1 W2 := by rw [← hW2]; exact (Below.refl _ _).alloc (Nat.le_refl _) _
  have hX0 : XM w W2 A w1.heap.size s la lc (.slice none 0 0) Bs 0 (fun _ => 0) := by
    refine ⟨(unhide HP1).2.trans (hb2.mono (unhide HP1).2.size), keepB hb2 (by omega) o4', ?_, hAw, hAl, (unhide HP1).1.of_block (hb2.block _ hAl), ?_, ⟨rfl, .inl ⟨rfl, rfl⟩⟩, fun j hj => by omega, fun i j _ hj => by omega, fun j hj => by omega⟩
    · rw [unhide HNN]; exact keepB hb2 (by omega) o6'
    · rw [unhide HNN]
      exact hrow2.congr (fun j hj => by simp)
  have HX0 := hide hX0
  clear hX0 hrow2 hW2 hb2 HP1 o4' o6' hmk hAl
  generalize w1.heap.size = Q at *
  go_loopw [6, 8, 9] (fun v i _ wr => ∃ k : Nat, k ≤ n ∧ i = .int .i64 k ∧ ∃ b va vc, v = .slice va k vc ∧ Hid (XM w wr A Q s la lc v Bs k b)) (fun _ i _ _ => n - (intOf i).toNat)
  case atStart => exact ⟨0, Nat.zero_le _, rfl, _, _, _, rfl, HX0⟩
  case round =>
    obtain ⟨k, hk, rfl, b, va, vc, rfl, HX⟩ := hrel
    have p4 := (unhide HX).o4
    have p6 := (unhide HX).o6
    rw [unhide HNN] at p6
    have hQA := (unhide HX).hQ
    by_cases hlt : k < n
    · have hkB : k < Bs.length := by rw [unhide HNN]; exact hlt
      obtain ⟨g, o, e, hgl, cg⟩ := (unhide HT).at_ k hkB
      cases e
      have cg' := keepB (unhide HX).below hgl cg
      rw [← txB_at hkB] at cg'
      have hzk := unhide HSB k
      have ik : (k : Int) < (n : Int) := by omega
      have HTX := hide fun (w' : World) => lent_any (txB Bs k) w' (by omega)
      obtain ⟨tk, htk⟩ : ∃ tk, txB Bs k = tk := ⟨_, rfl⟩
      rw [htk] at cg' hzk HTX
      have HTK := hide htk
      clear cg htk HX0
      go_wp2_with fail
      refine (unhide HTX _).mono ?_
      rintro e w3 ⟨rfl, hrow3, hb3⟩
      have hQl := (unhide HX).list.lt
      have hOl : w.heap.size < wr.heap.size := by omega
      have hgl' : g < wr.heap.size := Nat.lt_of_lt_of_le hgl (unhide HX).below.size
      have q4 := keepB hb3 hOl p4
      have q6 := keepB hb3 hOl p6
      have qg := keepB hb3 hgl' cg'
      have HO3 := hide (own_same (unhide HX).own (fun c hc => hb3.block c (own_lt (unhide HX).own hc)))
      have HR3 := hide (And.intro hrow3 hb3)
      have hz3 := hb3.size
      have hnl3 := hrow3.lt
      clear hrow3 hb3 p4 p6 cg' HTX
      go_wp2_with (at_builtin; refine wpList_append_lies _ rfl (.tmp 42) (.tmp 44) 133 rfl (Q + 1) 51 i0 _ 1 24 Tryz.underlying133 hi hz0 hz1 hz2 rfl (by decide) _ _ _ rfl ((unhide HO3).alloc _) ⟨w3.heap.size, 0, none⟩ 1 1 [.slice (some ⟨wr.heap.size, 0, none⟩) (tk.size + 8) (tk.size + 8)] rfl rfl (World.news_of_block (cs := #[.slice (some ⟨wr.heap.size, 0, none⟩) (tk.size + 8) (tk.size + 8)]) (t := 51) (fr := (0, 0)) (heap_alloc_new w3 _)) (by simp [Value.oneCell']) (by decide) (by unfold maxLen; omega) (by omega) (by simp; omega) (w3.heap.size + 1) (by simp) ?_)
      intro gA capA w5 hown5 hgrow5 hat5 hlt5
      have hown5' : w5.ownsRow (Q + 1) 51 1 (.slice (some ⟨gA, 0, none⟩) (k + 1) capA) (k + 1) ((List.range k).map (wholeV Bs b) ++ [.slice (some ⟨wr.heap.size, 0, none⟩) ((txB Bs k).size + 8) ((txB Bs k).size + 8)]) := by rw [unhide HTK]; exact hown5
      have hrow3' : w3.rowIs wr.heap.size 5 ((txB Bs k).size + 8) (lentV (txB Bs k).data.toList) := by rw [unhide HTK]; exact (unhide HR3).1
      have hXn := (unhide HX).next (unhide HR3).2 hrow3' hgrow5 hown5'
      rw [unhide HTK] at hXn
      have HXn := hide hXn
      have nlow : ∀ c, c ≤ Q → some c ≠ (Value.slice va k vc).ownBlock := fun c hc e => by have := ((unhide HX).own.lt c e.symm).1; omega
      have kw : ∀ c, c ≤ Q → w5.heap[c]? = w3.heap[c]? := fun c hc => (hgrow5.block c (by rw [World.size_alloc]; omega) (nlow c hc)).trans (Below.heap_alloc _ _ _ (by omega))
      have r6 : w5.cell? ⟨w.heap.size, 6, none⟩ = some (.slice (some ⟨g, o, none⟩) n lc) := (World.cell?_of_block (kw w.heap.size (by omega))).trans q6
      have rg : w5.cell? ⟨g, o + k, none⟩ = some (.string tk) := (World.cell?_of_block (kw g (by omega))).trans qg
      have hl5 := (unhide HX).list.of_block ((kw Q (Nat.le_refl _)).trans ((unhide HR3).2.block Q hQl))
      rw [unhide HNN] at hl5
      have rQ : w5.cell? ⟨Q, k, none⟩ = some (.slice none 0 0) := by
        rw [hl5.cell (by omega), if_neg (by omega)]
      have fQ : w5.frozen? ⟨Q, k, none⟩ = false := hl5.frozen k
      have itk : (tk.size : Int) ≤ (tk.size : Int) + 8 := by omega
      clear hown5 hgrow5 hat5 hlt5 hown5' hrow3' hXn nlow kw hl5 q4 q6 qg HO3 HR3 HX HTK
      go_wp2
      go_roundw
      case rel => exact ⟨k + 1, by omega, by go_num, _, _, _, rfl, HXn⟩
      case measure => simp [intOf]; omega
    · have hkn : k = n := by omega
      subst hkn
      have hXl : XM w wr A Q s la lc (.slice va k vc) Bs Bs.length b := by
        have := unhide HX
        rw [← unhide HNN] at this ⊢
        exact this
      have hEx := fun W' (hb : Below wr.heap.size wr W') => hXl.ext hss (unhide HSB) (by rw [unhide HNN]; exact hn) hb
      rw [unhide HNN] at hEx
      have HEx := hide hEx
      have hOl : w.heap.size < wr.heap.size := by have := (unhide HX).list.lt; omega
      have hSd : wr.drew.cell? ⟨w.heap.size, 4, none⟩ = some (.string s) ∧ wr.drew.cell? ⟨w.heap.size, 6, none⟩ = some (.slice la k lc) := ⟨p4, p6⟩
      have i1 : (s.size : Int) ≤ (s.size : Int) + 8 := by omega
      have i2 : (k : Int) ≤ (k : Int) + 8 := by omega
      have i3 : ¬ (k : Int) < (k : Int) := by omega
      clear HX0 hEx hXl
      go_wp2_with fail
      go_region_held3 (fun w' => w'.cell? ⟨w.heap.size, 4, none⟩ = some (.string s) ∧ w'.cell? ⟨w.heap.size, 6, none⟩ = some (.slice la k lc))
        (first | with_reducible exact hSd | with_reducible exact hS3)
        (first | (go_at_call 64; refine (unhide HEx _ (Below.refl _ _).drew).mono ?_; rintro e w3 ⟨⟨xv, uv, x, y, er, rfl, hAns, hTwo⟩, hb3⟩; have hS3 : w3.cell? ⟨w.heap.size, 4, none⟩ = some (.string s) ∧ w3.cell? ⟨w.heap.size, 6, none⟩ = some (.slice la k lc) := ⟨keepB hb3 hOl p4, keepB hb3 hOl p6⟩; have HE3 := hide (And.intro hAns (And.intro hTwo ((Below.refl wr.heap.size wr).drew.trans hb3))); clear hb3 hAns hTwo))
      obtain ⟨q4, q6⟩ := hS3
      have z3 : wr.heap.size ≤ w3.heap.size := (unhide HE3).2.2.size
      clear hSd p4 p6 HEx
      have HRx : Hid (Calls Tryz.prog 65 #[.string s, .slice la k lc] w3 (RxP s.data.toList (Bs.map fun s => s.data.toList) w3)) := by
        have := refext_any s Bs la lc w3 (by omega) ((unhide HT).later ((unhide HX).below.trans ((unhide HE3).2.2.mono (unhide HX).below.size))) (fun x hx => by
          obtain ⟨j, hj, rfl⟩ := List.mem_iff_getElem.1 hx
          have := unhide HSB j
          rw [txB_at hj] at this
          omega) (by rw [unhide HNN]; exact hn)
        rw [unhide HNN] at this
        exact this
      go_wp2_with fail
      refine (unhide HRx).mono ?_
      rintro e w4 ⟨⟨x', y', er', rfl, hAns'⟩, hb4⟩
      obtain ⟨rfl, rfl, rfl⟩ := (unhide HE3).1.unique hAns'
      have hX4 := (unhide HX).later ((unhide HE3).2.2.trans (hb4.mono z3))
      obtain ⟨hv3, hu3, hvu⟩ := (unhide HE3).2.1.own
      have hv4 : w4.ownsRow wr.heap.size 5 1 xv x.length (byteVals x) := own_same hv3 (fun g hg => hb4.block g (own_lt hv3 hg))
      have hu4 : w4.ownsRow wr.heap.size 5 1 uv y.length (byteVals y) := own_same hu3 (fun g hg => hb4.block g (own_lt hu3 hg))
      have hcv1 := conv_own hv4
      have hcv2 := conv_own hu4
      have hsm := (unhide HE3).1.small
      have HX4 := hide hX4
      have HV4 := hide (And.intro hv4 (And.intro hu4 (And.intro hvu hsm)))
      have HSt := hide (still_any A s w4 (by omega) (fun j hj => hX4.rep.cell hj))
      have hzw : wr.heap.size ≤ w4.heap.size := Nat.le_trans z3 hb4.size
      have hwr : w.heap.size ≤ wr.heap.size := (unhide HX).below.size
      have hlw : ∀ j, j < k → b j < wr.heap.size ∧ A < wr.heap.size := fun j hj => ⟨((unhide HX).row j hj).lt, (unhide HX).rep.lt⟩
      have HLW := hide (And.intro hlw (unhide HX).rep.lt)
      have q4' := hX4.o4
      have q6' := hX4.o6
      rw [unhide HNN] at q6'
      clear hAns' hb4 hX4 hv3 hu3 hvu hv4 hu4 hsm HE3 HRx q4 q6 z3 HX hlw
      unfold strV
      go_wp2_with fail
      refine (unhide HSt).mono ?_
      rintro e w5 ⟨rfl, n5, rfl⟩
      clear HSt hcv1 hcv2
      go_wp2_with fail
      go_loopw [16, 17, 18] (fun ok _ i wr' => ∃ j d : Nat, j ≤ k ∧ i = .int .i64 j ∧ ok = .bool true ∧ wr' = w4.drewN d) (fun _ _ i _ => k - (intOf i).toNat)
      case atStart => exact ⟨0, n5, Nat.zero_le _, rfl, rfl, rfl⟩
      case round =>
        obtain ⟨j, d, hj, rfl, rfl, rfl⟩ := hrel
        by_cases hjk : j < k
        · have hjB : j < Bs.length := by rw [unhide HNN]; exact hjk
          obtain ⟨Vb, vcap, eV, _, hVl⟩ := (unhide HX4).own.form (by omega)
          cases eV
          have cV := (unhide HX4).own.cellAt j (by omega)
          rw [List.getElem?_map, List.getElem?_range hjk] at cV
          obtain ⟨g, o, e, hgl, cg⟩ := (unhide HT).at_ j hjB
          cases e
          have cg' := keepB (unhide HX4).below hgl cg
          rw [← txB_at hjB] at cg'
          have cQ := (unhide HX4).list.cell (i := j) (by omega)
          rw [if_pos hjk] at cQ
          have hzj := unhide HSB j
          have hrow := (unhide HX4).row j hjk
          have hcvj : ∀ w', w'.heap = w4.heap → (convert 51 9 (cutV Bs b j)).run Tryz.prog w' = .ok (.string (txB Bs j)) w' := fun w' hw => by
            have hr' : w'.rowIs (b j) 5 ((txB Bs j).size + 8) (lentV (txB Bs j).data.toList) := hrow.of_block (by rw [hw])
            have := run_convert_bytes_back (P := Tryz.prog) w' 51 9 5 ⟨b j, 0, none⟩ ((txB Bs j).size + 8) (txB Bs j).data.toList Tryz.underlying51 Tryz.underlying5 Tryz.underlying9 (fun i hi => by
              rw [addr_add]
              exact lentV_bytes (txB Bs j) w' (b j) hr' i hi)
            have e1 : (txB Bs j).data.toList.length = (txB Bs j).size := by simp
            rw [e1] at this
            exact this
          have HStj := hide fun (w' : World) (hw : w'.heap = w4.heap) => still_any (b j) (txB Bs j) w' (by omega) (fun i hi => by
            have hr' : w'.rowIs (b j) 5 ((txB Bs j).size + 8) (lentV (txB Bs j).data.toList) := hrow.of_block (by rw [hw])
            exact hr'.cell hi)
          have HCv := hide hcvj
          have ij : (j : Int) < (k : Int) := by omega
          have ij8 : (j : Int) < (k : Int) + 8 := by omega
          unfold wholeV at cV
          simp only [Option.map_some] at cV
          unfold cutV at cQ HCv
          generalize txB Bs j = tj at *
          generalize b j = bj at *
          clear cg hrow hcvj
          go_wp2_with fail
          have hSd : (w4.drewN d).drew.cell? ⟨Vb, j, none⟩ = some (.slice (some ⟨bj, 0, none⟩) (tj.size + 8) (tj.size + 8)) ∧ (w4.drewN d).drew.cell? ⟨w.heap.size, 6, none⟩ = some (.slice (some ⟨g, o, none⟩) k lc) ∧ (w4.drewN d).drew.cell? ⟨g, o + j, none⟩ = some (.string tj) := ⟨cV, q6', cg'⟩
          have hSn : ∀ m, (w4.drewN m).cell? ⟨Vb, j, none⟩ = some (.slice (some ⟨bj, 0, none⟩) (tj.size + 8) (tj.size + 8)) ∧ (w4.drewN m).cell? ⟨w.heap.size, 6, none⟩ = some (.slice (some ⟨g, o, none⟩) k lc) ∧ (w4.drewN m).cell? ⟨g, o + j, none⟩ = some (.string tj) := fun m => ⟨cV, q6', cg'⟩
          go_region_held3 (fun w' => w'.cell? ⟨Vb, j, none⟩ = some (.slice (some ⟨bj, 0, none⟩) (tj.size + 8) (tj.size + 8)) ∧ w'.cell? ⟨w.heap.size, 6, none⟩ = some (.slice (some ⟨g, o, none⟩) k lc) ∧ w'.cell? ⟨g, o + j, none⟩ = some (.string tj))
            (first | with_reducible exact hSd | exact hSn _)
            (first | (go_at_call 41; refine (unhide HStj (w4.drewN d).drew rfl).mono ?_; rintro e w6 ⟨rfl, m6, rfl⟩))
          clear hSd hSn
          have hTd : (w4.drewN (d + 1 + m6)).drew.cell? ⟨Q, j, none⟩ = some (.slice (some ⟨bj, 0, none⟩) tj.size (tj.size + 8)) ∧ (w4.drewN (d + 1 + m6)).drew.cell? ⟨w.heap.size, 6, none⟩ = some (.slice (some ⟨g, o, none⟩) k lc) ∧ (w4.drewN (d + 1 + m6)).drew.cell? ⟨g, o + j, none⟩ = some (.string tj) ∧ (convert 51 9 (.slice (some ⟨bj, 0, none⟩) tj.size (tj.size + 8))).run Tryz.prog (w4.drewN (d + 1 + m6)).drew = .ok (.string tj) (w4.drewN (d + 1 + m6)).drew := ⟨cQ, q6', cg', unhide HCv _ rfl⟩
          have hTn : ∀ m, (w4.drewN m).cell? ⟨Q, j, none⟩ = some (.slice (some ⟨bj, 0, none⟩) tj.size (tj.size + 8)) ∧ (w4.drewN m).cell? ⟨w.heap.size, 6, none⟩ = some (.slice (some ⟨g, o, none⟩) k lc) ∧ (w4.drewN m).cell? ⟨g, o + j, none⟩ = some (.string tj) ∧ (convert 51 9 (.slice (some ⟨bj, 0, none⟩) tj.size (tj.size + 8))).run Tryz.prog (w4.drewN m) = .ok (.string tj) (w4.drewN m) := fun m => ⟨cQ, q6', cg', unhide HCv _ rfl⟩
          go_wp2_with fail
          go_region_held3 (fun w' => w'.cell? ⟨Q, j, none⟩ = some (.slice (some ⟨bj, 0, none⟩) tj.size (tj.size + 8)) ∧ w'.cell? ⟨w.heap.size, 6, none⟩ = some (.slice (some ⟨g, o, none⟩) k lc) ∧ w'.cell? ⟨g, o + j, none⟩ = some (.string tj) ∧ (convert 51 9 (.slice (some ⟨bj, 0, none⟩) tj.size (tj.size + 8))).run Tryz.prog w' = .ok (.string tj) w')
            (first | with_reducible exact hTd | exact hTn _)
            (fail)
          clear hTd hTn
          go_wp2
          go_roundw
          case rel => exact ⟨j + 1, d + 1 + m6 + 1, by omega, by go_num, rfl, rfl⟩
          case measure => simp [intOf]; omega
        · have hje : j = k := by omega
          subst hje
          have hnil : ∀ i, j ≤ i → i < j + 8 → w4.cell? ⟨Q, i, none⟩ = some (.slice none 0 0) := fun i h1 h2 => by
            have := (unhide HX4).list.cell (i := i) (by rw [unhide HNN]; exact h2)
            rw [if_neg (by omega)] at this
            exact this
          have HNil := hide hnil
          clear hnil
          go_wp2_with fail
          go_loop [16, 19] (fun ok i => ∃ r : Nat, j ≤ r ∧ r ≤ j + 8 ∧ i = .int .i64 r ∧ ok = .bool true) (fun _ i => j + 8 - (intOf i).toNat)
          case atStart => exact ⟨j, Nat.le_refl _, by omega, rfl, rfl⟩
          case round =>
            obtain ⟨r, hr1, hr2, rfl, rfl⟩ := hrel
            by_cases hr8 : r < j + 8
            · have cr := unhide HNil r hr1 hr8
              have ir : (r : Int) < (j : Int) + 8 := by omega
              have hE := fun w' => eq_nil w'
              go_wp2
              exact ⟨⟨r + 1, by omega, by omega, by go_num, rfl⟩, by simp [intOf]; omega⟩
            · have hre : r = j + 8 := by omega
              subst hre
              have ir : ¬ ((j + 8 : Nat) : Int) < (j : Int) + 8 := by omega
              clear HNil q4' q6'
              have hb4 := (unhide HX4).below
              have hB5 : Below w.heap.size w (w4.drewN d) := below_drewN hb4 d
              have hown5 : (w4.drewN d).ownsRow wr.heap.size 5 1 xv x.length (byteVals x) := own_same (unhide HV4).1 (fun _ _ => rfl)
              have hown6 : (w4.drewN d).ownsRow wr.heap.size 5 1 uv y.length (byteVals y) := own_same (unhide HV4).2.1 (fun _ _ => rfl)
              have hrep : (w4.drewN d).ownsRow A 5 1 (.slice (some ⟨A, 0, none⟩) (s.size + 8) (s.size + 8)) (s.size + 8) ((List.range (s.size + 8)).map (lentV s.data.toList)) := row_own ((unhide HX4).rep.of_block rfl) (Nat.le_refl _) (by unfold maxLen; omega)
              have hrow : ∀ i, i < j → (w4.drewN d).ownsRow A 5 1 (wholeV Bs b i) ((txB Bs i).size + 8) ((List.range ((txB Bs i).size + 8)).map (lentV (txB Bs i).data.toList)) := fun i hi => row_own (((unhide HX4).row i hi).of_block rfl) (by have := (unhide HX4).bQ i hi; omega) (by have := unhide HSB i; unfold maxLen; omega)
              have hAlt : A < wr.heap.size := (unhide HLW).2
              have hK0 := KS.start (unhide HJ) hB5 (P := fun g => some g = xv.ownBlock ∨ some g = uv.ownBlock ∨ g = A ∨ ∃ i, i < j ∧ g = b i) (fun g hg => by
                rcases hg with hg | hg | rfl | ⟨i, hi, rfl⟩
                · exact ⟨by have := (hown5.lt g hg.symm).1; omega, own_type hown5 hg.symm⟩
                · exact ⟨by have := (hown6.lt g hg.symm).1; omega, own_type hown6 hg.symm⟩
                · exact ⟨by omega, own_type hrep rfl⟩
                · exact ⟨by have := (unhide HX4).bQ i hi; omega, own_type (hrow i hi) rfl⟩)
              have HK0 := hide hK0
              have HOW := hide (And.intro hown5 (And.intro hown6 (And.intro hrep hrow)))
              have hsm := (unhide HV4).2.2.2
              have hlL := unhide HL
              clear hK0 hown5 hown6 hrep hrow hb4
              go_wp2_with fail
              refine ((unhide HK0).step hBl (unhide HOW).1 (by omega) (fun g hg => .inl hg.symm) (by omega) (by omega)).mono ?_
              rintro e W6 ⟨rfl, hK6⟩
              have HK6 := hide (hK6.less (P' := fun g => some g = uv.ownBlock ∨ g = A ∨ ∃ i, i < j ∧ g = b i) (fun g hg => by
                rcases hg with hg | rfl | ⟨i, hi, rfl⟩
                · refine ⟨.inr (.inl hg), fun e => ?_⟩
                  rcases (unhide HV4).2.2.1 with ⟨h1, _⟩ | h1
                  · rw [h1] at e; cases e
                  · exact h1 (e.symm.trans hg)
                · refine ⟨.inr (.inr (.inl rfl)), fun e => ?_⟩
                  have := ((unhide HOW).1.lt _ e.symm).1
                  omega
                · refine ⟨.inr (.inr (.inr ⟨i, hi, rfl⟩)), fun e => ?_⟩
                  have h1 := ((unhide HOW).1.lt _ e.symm).1
                  have h2 := ((unhide HLW).1 i hi).1
                  omega))
              clear hK6 HK0
              go_wp2_with fail
              refine ((unhide HK6).step hBl (unhide HOW).2.1 (by omega) (fun g hg => .inl hg.symm) (by omega) (by omega)).mono ?_
              rintro e W7 ⟨rfl, hK7⟩
              have HK7 := hide (hK7.less (P' := fun g => g = A ∨ ∃ i, i < j ∧ g = b i) (fun g hg => by
                rcases hg with rfl | ⟨i, hi, rfl⟩
                · refine ⟨.inr (.inl rfl), fun e => ?_⟩
                  have := ((unhide HOW).2.1.lt _ e.symm).1
                  omega
                · refine ⟨.inr (.inr ⟨i, hi, rfl⟩), fun e => ?_⟩
                  have h1 := ((unhide HOW).2.1.lt _ e.symm).1
                  have h2 := ((unhide HLW).1 i hi).1
                  omega))
              clear hK7 HK6
              go_wp2_with fail
              refine ((unhide HK7).step hBl (unhide HOW).2.2.1 (by omega) (fun g hg => .inl (Option.some.inj hg).symm) (by omega) (by omega)).mono ?_
              rintro e W8 ⟨rfl, hK8⟩
              have HK8 := hide (hK8.less (P' := fun g => ∃ i, 0 ≤ i ∧ i < j ∧ g = b i) (fun g hg => by
                obtain ⟨i, _, hi, rfl⟩ := hg
                refine ⟨.inr ⟨i, hi, rfl⟩, fun e => ?_⟩
                have h1 : b i = A := Option.some.inj e
                have h2 := (unhide HX4).bQ i hi
                omega))
              clear hK8 HK7
              go_wp2_with fail
              go_loopw [20] (fun i wr' => ∃ q : Nat, q ≤ j ∧ i = .int .i64 q ∧ Hid (KS (w4.drewN d) B nn w.heap.size c ps pl (fun g => ∃ i, q ≤ i ∧ i < j ∧ g = b i) (hs.length + 12 + 4 * q) wr')) (fun i _ => j - (intOf i).toNat)
              case atStart => exact ⟨0, Nat.zero_le _, rfl, HK8⟩
              case round =>
                obtain ⟨q, hq, rfl, HKq⟩ := hrel
                by_cases hqj : q < j
                · have hX5 : XM w (w4.drewN d) A Q s la lc (.slice va j vc) Bs j b := (unhide HX4).later (below_drewN (Below.refl _ _) d)
                  obtain ⟨⟨Vb, vcap, eV, cV⟩, hKp⟩ := hX5.keepOne hqj (unhide HKq) hBl (unhide HSB q) (room_at hqj (unhide HL))
                  cases eV
                  have HSp := hide hKp
                  have iq : (q : Int) < (j : Int) := Int.ofNat_lt.2 hqj
                  generalize b q = bq at cV HSp
                  generalize (txB Bs q).size = zq at cV HSp
                  clear hKp hX5 HKq HOW HX4 HK8 HLW
                  go_wp2_with fail
                  refine (unhide HSp).mono ?_
                  rintro e W9 ⟨rfl, hK9⟩
                  have HK9 := hide hK9
                  clear hK9 HSp
                  go_wp2
                  go_roundw
                  case rel => exact ⟨q + 1, by omega, by go_num, HK9⟩
                  case measure => simp [intOf]; omega
                · have hqe : q = j := Nat.le_antisymm hq (Nat.le_of_not_lt hqj)
                  subst hqe
                  have HFin := hide ((unhide HKq).done (hB5.mono (Nat.le_of_lt hBl)))
                  clear HKq
                  go_wp2
                  go_ret
                  obtain ⟨h1, c', hv', hs', h2, h3⟩ := unhide HFin
                  exact ⟨rfl, h1, c', hv', hs', h2, h3.trans (room_end _ _)⟩

end Go.Proofs.YtbjobbkgelipmaaGreat
