/-
  The walk of titheref's accepted: a head that fits.
-/
import Derived.Deep.DeepCutAuto
import Derived.Test.YtbjobbkgelipmaaGreatBkad
import Derived.Test.YtbjobbkgelipmaaGreatBkai
import Derived.Test.YtbjobbkgelipmaaGreatXtaa
namespace Go.Proofs.YtbjobbkgelipmaaGreat
open Go.RowKit

theorem extract_list (s : ByteArray) (a b : Nat) : (s.extract a b).data.toList = (s.data.toList.drop a).take (b - a) := by
  rw [ByteArray.data_extract, Array.toList_extract, List.extract_eq_take_drop]
theorem text0_list (s : ByteArray) (b2 : Nat) : ((⟨#[0]⟩ : ByteArray) ++ s.extract 2 (19 + b2)).data.toList = 0 :: (s.data.toList.drop 2).take (17 + b2) := by
  rw [ByteArray.data_append, Array.toList_append, extract_list, show 19 + b2 - 2 = 17 + b2 by omega]
  rfl

theorem Tryz.infoStr : (Tryz.prog.info? 9).map (fun i => (i.zero, i.size, i.bytes)) = some (some (.string ⟨#[]⟩), 1, 16) := by kernel_rfl

theorem side_eq {nd d : Dg} {m n f0 f1 f2 d0 d1 d2 : Int} (h1 : sideV nd m = .agg #[.int .u8 f0, .int .u8 f1, .int .u8 f2, .int .u64 m]) (h2 : sideV d n = .agg #[.int .u8 d0, .int .u8 d1, .int .u8 d2, .int .u64 n]) :
    ((f0 == d0 && (f1 == d1 && f2 == d2)) && m == n) = decide (((nd, m) : Dg × Int) = (d, n)) := by
  unfold sideV at h1 h2
  simp at h1 h2
  obtain ⟨rfl, rfl, rfl⟩ := h1
  obtain ⟨rfl, rfl, rfl⟩ := h2
  obtain ⟨a0, a1, a2⟩ := nd
  obtain ⟨c0, c1, c2⟩ := d
  have e : ∀ x y : UInt8, ((x.toNat : Int) = (y.toNat : Int)) ↔ x = y := fun x y => ⟨fun h => UInt8.toNat.inj (by omega), fun h => by rw [h]⟩
  rw [Bool.eq_iff_iff]
  simp [e, and_assoc]
theorem own_base {w : World} {b b' : Nat} {e : TypeId} {v : Value} {n : Nat} {xs : List Value} (h : w.ownsRow b e 1 v n xs) (hb : b' ≤ b) : w.ownsRow b' e 1 v n xs := by
  refine ⟨h.1, ?_⟩
  rcases h.2 with h0 | ⟨g, cap, cur, hv, hg, r⟩
  · exact .inl h0
  · exact .inr ⟨g, cap, cur, hv, by omega, r⟩

/-- What accepted owes where the head fits. -/
def AccPost (h : Nat) (root : Dg × Int) (l : List UInt8) (w : World) (e : Ending) (w' : World) : Prop :=
  Below w.heap.size w w' ∧ ∃ (pl : Int) (nm : ByteArray) (bal salt : Int) (a : Option Addr) (k c : Nat), match (if maxS < accBal l then none else accTexts h root l) with
    | none => e = .returned (.tuple #[proofV pl nm bal salt a k c, .bool false])
    | some ts => e = .returned (.tuple #[proofV (bAt l 1 : Int) ⟨(accName l).toArray⟩ (accBal l) (accSalt l) a ts.length c, .bool true]) ∧ w'.ownsRow w.heap.size 9 1 (.slice a ts.length c) ts.length (ts.map strV)

theorem AccPost.none {h : Nat} {root : Dg × Int} {l : List UInt8} {w w' : World} {e : Ending} (hb : Below w.heap.size w w') (hn : (if maxS < accBal l then Option.none else accTexts h root l) = Option.none)
    (he : ∃ (pl : Int) (nm : ByteArray) (bal salt : Int) (a : Option Addr) (k c : Nat), e = .returned (.tuple #[proofV pl nm bal salt a k c, .bool false])) : AccPost h root l w e w' := by
  refine ⟨hb, ?_⟩
  obtain ⟨pl, nm, bal, salt, a, k, c, he⟩ := he
  exact ⟨pl, nm, bal, salt, a, k, c, by rw [hn]; exact he⟩

theorem acc_end {h : Nat} {root now : Dg × Int} {l : List UInt8} {w w' : World} {ts : List (List UInt8)} {bb : Bool} {b1 : Nat} {nm : ByteArray} {bal salt : Int} {a : Option Addr} {c : Nat}
    (hend : (if maxS < accBal l then Option.none else accTexts h root l) = if now = root then some ts else Option.none) (hbb : bb = decide (now = root)) (h1 : b1 = bAt l 1) (h2 : nm = ⟨(accName l).toArray⟩) (h3 : bal = accBal l) (h4 : salt = accSalt l)
    (hb : Below w.heap.size w w') (ho : w'.ownsRow w.heap.size 9 1 (.slice a ts.length c) ts.length (ts.map strV)) :
    AccPost h root l w (.returned (.tuple #[proofV (b1 : Int) nm bal salt a ts.length c, .bool bb])) w' := by
  refine ⟨hb, (b1 : Int), nm, bal, salt, a, ts.length, c, ?_⟩
  rw [hend]
  by_cases hr : now = root
  · rw [if_pos hr]
    rw [decide_eq_true hr] at hbb
    subst hbb h1 h2 h3 h4
    exact ⟨rfl, ho⟩
  · rw [if_neg hr]
    rw [decide_eq_false hr] at hbb
    subst hbb
    rfl

set_option maxHeartbeats 8000000 in
set_option maxRecDepth 100000 in
theorem accepted_good (h : Nat) (d : Dg) (n : Int) (s : ByteArray) (w : World) (hh : h ≤ 6) (hb : accHead h s.data.toList) :
    Calls Tryz.prog 63 #[.int .i64 (h : Int), sideV d n, .string s] w (AccPost h (d, n) s.data.toList w) := by
  obtain ⟨d0, d1, d2, hD⟩ : ∃ d0 d1 d2 : Int, sideV d n = .agg #[.int .u8 d0, .int .u8 d1, .int .u8 d2, .int .u64 n] := ⟨_, _, _, rfl⟩
  rw [hD]
  have hls : s.data.toList.length = s.size := by simp
  unfold accHead at hb
  rw [hls] at hb
  obtain ⟨b1, hb1⟩ : ∃ b, b = bAt s.data.toList 1 := ⟨_, rfl⟩
  obtain ⟨b2, hb2⟩ : ∃ b, b = bAt s.data.toList 2 := ⟨_, rfl⟩
  obtain ⟨h3, hb0, c1, c2, c3, c4⟩ := hb
  rw [← hb1] at c1
  rw [← hb2] at c2 c3 c4
  have r1 : b1 < 256 := by rw [hb1]; exact UInt8.toNat_lt _
  have y0 : ∀ w, (Instr.index 9 (.string s) (.int .i64 0)).run Tryz.prog w = .ok (.int .u8 (h : Int)) w := by rw [← hb0]; exact index_at s 0 (by omega)
  have y1 : ∀ w, (Instr.index 9 (.string s) (.int .i64 1)).run Tryz.prog w = .ok (.int .u8 (b1 : Int)) w := by rw [hb1]; exact index_at s 1 (by omega)
  have y2 : ∀ w, (Instr.index 9 (.string s) (.int .i64 2)).run Tryz.prog w = .ok (.int .u8 (b2 : Int)) w := by rw [hb2]; exact index_at s 2 (by omega)
  obtain ⟨bal, hbal⟩ : ∃ x, x = accBal s.data.toList := ⟨_, rfl⟩
  obtain ⟨salt, hsalt⟩ : ∃ x, x = accSalt s.data.toList := ⟨_, rfl⟩
  have HN1 : ∀ w, Hid (Calls Tryz.prog 80 #[.string s, .int .i64 (3 + (b2 : Int))] w fun e w' => e = .returned (.int .u64 bal) ∧ w' = w) := fun w => by
    have := number_any s (3 + b2) w (by omega) (by unfold maxLen; omega)
    rw [show ((3 + b2 : Nat) : Int) = 3 + (b2 : Int) by omega] at this
    rw [hbal]; unfold accBal; rw [← hb2]; exact this
  have HN2 : ∀ w, Hid (Calls Tryz.prog 80 #[.string s, .int .i64 (11 + (b2 : Int))] w fun e w' => e = .returned (.int .u64 salt) ∧ w' = w) := fun w => by
    have := number_any s (11 + b2) w (by omega) (by unfold maxLen; omega)
    rw [show ((11 + b2 : Nat) : Int) = 11 + (b2 : Int) by omega] at this
    rw [hsalt]; unfold accSalt; rw [← hb2]; exact this
  have c4' : ((s.size : Int) != 19 + (b2 : Int) + 11 * (h : Int)) = false := by simp [bne, c4]
  have HC4 := hide c4
  have hs3 : ¬ s.size < 3 := by omega
  have hssz : 19 + b2 ≤ s.size := by omega
  have hsmax : s.size ≤ 1000 := by omega
  have hc0' : ((h : Int) != (h : Int)) = false := by simp
  have HALL := hide (And.intro hb1 (And.intro hb2 (And.intro hbal (And.intro hsalt hD))))
  have c5 : ¬ b2 < 1 := by omega
  have c6 : ¬ 8 < b2 := by omega
  have e1 : IntKind.i64.wrap (3 + (b2 : Int)) = 3 + (b2 : Int) := by rw [IntKind.wrap_i64]; omega
  have e2 : IntKind.i64.wrap (11 + (b2 : Int)) = 11 + (b2 : Int) := by rw [IntKind.wrap_i64]; omega
  have e3 : IntKind.i64.wrap (b1 : Int) = (b1 : Int) := by rw [IntKind.wrap_i64]; omega
  have i1 : (0 : Int) ≤ 3 + (b2 : Int) := by omega
  have i2 : 3 + (b2 : Int) ≤ (s.size : Int) := by omega
  have i3 : (3 : Int) ≤ 3 + (b2 : Int) := by omega
  obtain ⟨nm, hnm⟩ : ∃ x, s.extract 3 (3 + (b2 : Int)).toNat = x := ⟨_, rfl⟩
  obtain ⟨tx, htx⟩ : ∃ x, s.extract 2 (19 + b2) = x := ⟨_, rfl⟩
  have HNM := hide hnm
  have HTX := hide htx
  have stx : tx.size = 17 + b2 := by rw [← htx, ByteArray.size_extract]; omega
  have hsa0 := str_add (P := Tryz.prog) ⟨#[0]⟩ tx (by rw [show (⟨#[0]⟩ : ByteArray).size = 1 from rfl]; omega)
  clear hD hls h3 hb0 hb1 hb2 hbal hsalt c4
  go_enter Tryz.func63, Tryz.ntmps63
  go_wp2
  go_loop [8, 9] (fun p i => ∃ k : Nat, k ≤ h ∧ i = .int .i64 k ∧ p = .int .i64 ((2 ^ k : Nat) : Int)) (fun _ i => h - (intOf i).toNat)
  case atStart => exact ⟨0, by omega, rfl, rfl⟩
  case round =>
    obtain ⟨k, hk, rfl, rfl⟩ := hrel
    have hp64 : 2 ^ k ≤ 64 := (Nat.pow_le_pow_right (by omega) (by omega : k ≤ 6) : 2 ^ k ≤ 2 ^ 6)
    have Hps : Hid (2 * (2 ^ k) = 2 ^ (k + 1)) := by show 2 * 2 ^ k = 2 ^ (k + 1); rw [Nat.pow_succ]; omega
    have HPK : Hid (k = h → b1 < 2 ^ k) := fun e => by rw [e]; exact c1
    generalize 2 ^ k = pk at *
    clear c1
    by_cases hlt : k < h
    · go_wp2
      go_round
      case rel => exact ⟨k + 1, by omega, by go_num, by rw [← unhide Hps]; go_num⟩
      case measure => simp [intOf]; omega
    · have hkh : k = h := by omega
      subst hkh
      have c1 := unhide HPK rfl
      clear Hps HPK hlt
      go_upto_region 11 with fail
      generalize hW0 : (w.alloc (Obj.cells #[Value.int IntKind.u8 d0, Value.int IntKind.u8 d1, Value.int IntKind.u8 d2, Value.int IntKind.u64 n] 49)).alloc (Obj.cells #[Value.int IntKind.i64 0, Value.string ⟨#[]⟩, Value.int IntKind.u64 0, Value.int IntKind.u64 0, Value.slice none 0 0] 130) = W0
      have HW0 := hide hW0
      clear hW0
      go_cut [11] (fun s11 wx => s11 = .pointer (some ⟨W0.heap.size, 0, none⟩) ∧ wx = (W0.alloc (Obj.cells #[Value.int IntKind.i64 (b1 : Int), Value.string nm, Value.int IntKind.u64 bal, Value.int IntKind.u64 salt, Value.slice none 0 0] 130)).drew)
      case first =>
        go_region_held3 (fun _ => True) (trivial)
          (first | (go_at_call 80; refine (unhide (HN1 _)).mono ?_; rintro e w' ⟨rfl, rfl⟩; clear HN1) | (go_at_call 80; refine (unhide (HN2 _)).mono ?_; rintro e w' ⟨rfl, rfl⟩))
        all_goals (go_wp2_with fail; go_meet; exact ⟨rfl, rfl⟩)
      case rest =>
      obtain ⟨rfl, rfl⟩ := hcut
      clear y0 y1 y2 HN1 HN2 hnm
      have hz0 : W0.heap.size = w.heap.size + 2 := by rw [← unhide HW0]; simp
      have hA0 : Below w.heap.size w W0 := by rw [← unhide HW0]; exact ((Below.refl w.heap.size w).alloc (Nat.le_refl _) _).alloc (by simp) _
      have hroot : W0.heap[w.heap.size]? = some (.cells (quadB d0 d1 d2 n) 49 (0, 0)) := by rw [← unhide HW0, Below.heap_alloc _ _ _ (by simp)]; exact heap_alloc_new w _
      have hroom : W0.heap[w.heap.size + 1]? = some (.cells (proofCells 0 ⟨#[]⟩ 0 0 (.slice none 0 0)) 130 (0, 0)) := by
        rw [← unhide HW0]
        rw [show w.heap.size + 1 = (w.alloc (Obj.cells #[Value.int IntKind.u8 d0, Value.int IntKind.u8 d1, Value.int IntKind.u8 d2, Value.int IntKind.u64 n] 49)).heap.size from by simp]
        exact heap_alloc_new _ _
      have q0 : W0.cell? ⟨w.heap.size + 1, 0, none⟩ = some (.int .i64 0) := by rw [block_cell hroom]; rfl
      have q1 : W0.cell? ⟨w.heap.size + 1, 1, none⟩ = some (.string ⟨#[]⟩) := by rw [block_cell hroom]; rfl
      have q2 : W0.cell? ⟨w.heap.size + 1, 2, none⟩ = some (.int .u64 0) := by rw [block_cell hroom]; rfl
      have q3 : W0.cell? ⟨w.heap.size + 1, 3, none⟩ = some (.int .u64 0) := by rw [block_cell hroom]; rfl
      have q4 : W0.cell? ⟨w.heap.size + 1, 4, none⟩ = some (.slice none 0 0) := by rw [block_cell hroom]; rfl
      have qf : ∀ i, W0.frozen? ⟨w.heap.size + 1, i, none⟩ = false := fun i => block_free hroom
      have hlt0 : w.heap.size + 1 < W0.heap.size := by omega
      have HZ0 := hide hz0
      clear hz0
      by_cases hgt : maxS < bal
      · have hgt' : decide (4611686018427387904 < bal) = true := by simpa [maxS] using hgt
        have HF : Hid ((if maxS < accBal s.data.toList then Option.none else accTexts k (d, n) s.data.toList) = Option.none) := by rw [← (unhide HALL).2.2.1]; exact if_pos hgt
        have HA0 := hide hA0
        clear hroot hroom hA0 hgt hsa0 htx HTX
        go_wp2
        refine bodyPost_ret (v := .tuple #[proofZ, .bool false]) ?_ rfl (AccPost.none ?_ (unhide HF) ⟨0, ⟨#[]⟩, 0, 0, none, 0, 0, rfl⟩)
        · simp [results, Tryz.results63, go_sem, proofZ, q0, q1, q2, q3, q4, hlt0]
        · exact ((((((unhide HA0).setCell (by simp) _).setCell (by simp) _).setCell (by simp) _).setCell (by simp) _).setCell (by simp) _).alloc (by simp; omega) _ |>.drew
      · have hgt' : decide (4611686018427387904 < bal) = false := by simpa [maxS] using hgt
        have i4 : 19 + (b2 : Int) ≤ (s.size : Int) := by omega
        have HR := hide (And.intro hroot (And.intro hroom hA0))
        have HGT : Hid (bal ≤ maxS) := Int.not_lt.1 hgt
        clear q0 q1 q2 q3 q4 qf hroot hroom hA0 hgt
        go_upto_region 16 with fail
        generalize hW1 : ((W0.alloc (Obj.cells #[Value.int IntKind.i64 (b1 : Int), Value.string nm, Value.int IntKind.u64 bal, Value.int IntKind.u64 salt, Value.slice (some ⟨W0.heap.size + 1, 0, none⟩) 1 1] 130)).alloc (Obj.cells #[Value.string (⟨#[0]⟩ ++ tx)] 9)).drew = W1
        have eT0 : (⟨#[0]⟩ ++ tx : ByteArray) = ⟨(accText0 s.data.toList).toArray⟩ := bytes_ext (by
          rw [← unhide HTX, text0_list]
          unfold accText0
          rw [← (unhide HALL).2.1])
        have hPM : PM w W1 W0.heap.size d0 d1 d2 n (b1 : Int) nm bal salt (.slice (some ⟨W0.heap.size + 1, 0, none⟩) 1 1) [accText0 s.data.toList] := by
          obtain ⟨hroot, hroom, hA0⟩ := unhide HR
          have hz := unhide HZ0
          rw [← hW1]
          have hB : Below W0.heap.size W0 ((W0.alloc (Obj.cells #[Value.int IntKind.i64 (b1 : Int), Value.string nm, Value.int IntKind.u64 bal, Value.int IntKind.u64 salt, Value.slice (some ⟨W0.heap.size + 1, 0, none⟩) 1 1] 130)).alloc (Obj.cells #[Value.string (⟨#[0]⟩ ++ tx)] 9)) := ((Below.refl _ _).alloc (Nat.le_refl _) _).alloc (by simp) _
          refine PM.drew ⟨(hB.block _ (by omega)).trans hroot, (hB.block _ (by omega)).trans hroom, ?_, ?_, by omega, hA0.trans (hB.mono (by omega))⟩
          · rw [Below.heap_alloc _ _ _ (by simp)]; exact heap_alloc_new W0 _
          · refine ⟨rfl, .inr ⟨W0.heap.size + 1, 1, #[Value.string (⟨#[0]⟩ ++ tx)], rfl, by omega, ?_, Nat.le_refl _, by unfold maxLen; omega, rfl, ?_⟩⟩
            · have hn := heap_alloc_new (W0.alloc (Obj.cells #[Value.int IntKind.i64 (b1 : Int), Value.string nm, Value.int IntKind.u64 bal, Value.int IntKind.u64 salt, Value.slice (some ⟨W0.heap.size + 1, 0, none⟩) 1 1] 130)) (Obj.cells #[Value.string (⟨#[0]⟩ ++ tx)] 9)
              have en : (W0.alloc (Obj.cells #[Value.int IntKind.i64 (b1 : Int), Value.string nm, Value.int IntKind.u64 bal, Value.int IntKind.u64 salt, Value.slice (some ⟨W0.heap.size + 1, 0, none⟩) 1 1] 130)).heap.size = W0.heap.size + 1 := by simp
              rw [en] at hn
              exact hn
            · rw [eT0]; rfl
        obtain ⟨e0, e1', e2', hE⟩ : ∃ e0 e1 e2 : Int, digV (dg (accText0 s.data.toList)) = .agg #[.int .u8 e0, .int .u8 e1, .int .u8 e2] := ⟨_, _, _, rfl⟩
        have HSum : ∀ w, Hid (Calls Tryz.prog 37 #[.string (⟨#[0]⟩ ++ tx)] w fun e w' => e = .returned (.agg #[.int .u8 e0, .int .u8 e1', .int .u8 e2']) ∧ Below w.heap.size w w') := fun w => by
          have := refsum_any (⟨#[0]⟩ ++ tx) w (by rw [ByteArray.size_append, show (⟨#[0]⟩ : ByteArray).size = 1 from rfl]; unfold maxLen; omega)
          rw [← hE]
          rw [eT0] at this ⊢
          exact this
        have HE := hide hE
        have hSd : SP w W1.drew W0.heap.size d0 d1 d2 n (b1 : Int) nm bal salt (.slice (some ⟨W0.heap.size + 1, 0, none⟩) 1 1) [accText0 s.data.toList] := hPM.drew.sp
        have hSB : SP w (W1.alloc (Obj.cells #[Value.int IntKind.u8 0, Value.int IntKind.u8 0, Value.int IntKind.u8 0, Value.int IntKind.u64 0] 49)).drew W0.heap.size d0 d1 d2 n (b1 : Int) nm bal salt (.slice (some ⟨W0.heap.size + 1, 0, none⟩) 1 1) [accText0 s.data.toList] := (hPM.alloc 0 0 0 0).pm.drew.sp
        have hAB : AM w (W1.alloc (Obj.cells #[Value.int IntKind.u8 0, Value.int IntKind.u8 0, Value.int IntKind.u8 0, Value.int IntKind.u64 0] 49)).drew W0.heap.size W1.heap.size d0 d1 d2 n (b1 : Int) nm bal salt (.slice (some ⟨W0.heap.size + 1, 0, none⟩) 1 1) [accText0 s.data.toList] 0 0 0 0 := (hPM.alloc 0 0 0 0).drew
        have HAB := hide hAB
        clear hAB
        have hzz : W0.heap.size < W1.heap.size := hPM.lt
        clear hW1 eT0 hE hPM HR HZ0 hsa0 htx
        go_cut [13] (fun s13 wx => ∃ N, s13 = .pointer (some ⟨N, 0, none⟩) ∧ Hid (AM w wx W0.heap.size N d0 d1 d2 n (b1 : Int) nm bal salt (.slice (some ⟨W0.heap.size + 1, 0, none⟩) 1 1) [accText0 s.data.toList] e0 e1' e2' bal))
        case first =>
          go_region_held3 (fun w' => w'.cell? ⟨W0.heap.size, 2, none⟩ = some (.int .u64 bal) ∧ PM w w' W0.heap.size d0 d1 d2 n (b1 : Int) nm bal salt (.slice (some ⟨W0.heap.size + 1, 0, none⟩) 1 1) [accText0 s.data.toList])
            (first | with_reducible exact hSd | with_reducible exact hSB | with_reducible exact hP4.sp | with_reducible exact (hP4.later ((Below.refl _ _).alloc (Nat.le_refl _) _)).sp | with_reducible exact (hA4.set _ _ _ _).pm.sp)
            (first
              | (go_at_call 37; refine (unhide (HSum _)).mono ?_; rintro e w4 ⟨rfl, hb4⟩; have hP4 := PM.later hSd.2 hb4; have oA := True.intro)
              | (go_at_call 37; refine (unhide (HSum _)).mono ?_; rintro e w4 ⟨rfl, hb4⟩; have hP4 := PM.later hSB.2 hb4; have hA4 := AM.later (unhide HAB) hb4; have k4 := (bcell hb4).1; have f4 := (bcell hb4).2; have z4 := hb4.size; try simp [Nat.add_one_le_iff] at z4))
          all_goals (go_wp2_with fail; go_meet; first | exact ⟨_, rfl, hide (hA4.set _ _ _ _)⟩ | exact ⟨_, rfl, hide (hP4.alloc _ _ _ _)⟩)
        case rest =>
        obtain ⟨N, rfl, HAM⟩ := hcut
        have u0 : wc.cell? ⟨W0.heap.size, 0, none⟩ = some (.int .i64 (b1 : Int)) := by rw [block_cell (unhide HAM).prf]; rfl
        clear hSd hSB HAB hzz HSum
        go_wp2_with fail
        have HW := hide (And.intro hs3 (And.intro hssz hsmax))
        clear u0 HW0 hlt0 hc0' c5 c6 e1 e2 e3 i1 i2 i3 i4 hgt' hp64 c4'
        generalize hP : W0.heap.size = P at *
        clear hP
        go_loopw [12, 14, 15] (fun st sp si wr => ∃ (j : Nat) (tt : ByteArray) (ts : List (List UInt8)) (now : Dg × Int) (f0 f1 f2 : Int) (ta : Option Addr) (tc : Nat), j ≤ k ∧ si = .int .i64 j ∧ sp = .int .i64 ((b1 / 2 ^ j : Nat) : Int) ∧ st = .string tt ∧ Hid (accUp s.data.toList j = some (ts, now)) ∧ Hid (sideV now.1 now.2 = .agg #[.int .u8 f0, .int .u8 f1, .int .u8 f2, .int .u64 now.2]) ∧ Hid (AM w wr P N d0 d1 d2 n (b1 : Int) nm bal salt (.slice ta ts.length tc) ts f0 f1 f2 now.2))
          (fun _ _ si _ => k - (intOf si).toNat)
        case atStart =>
          refine ⟨0, _, [accText0 s.data.toList], (dg (accText0 s.data.toList), bal), e0, e1', e2', _, _, by omega, rfl, by simp, rfl, ?_, ?_, HAM⟩
          · rw [(unhide HALL).2.2.1]; rfl
          · have := unhide HE
            show sideV (dg (accText0 s.data.toList)) bal = _
            unfold digV at this
            unfold sideV
            simp at this
            simp [this]
        case round =>
          obtain ⟨j, tt, ts, now, f0, f1, f2, ta, tc, hjk, rfl, rfl, rfl, Hup, HV, HM⟩ := hrel
          clear HAM HE
          obtain ⟨nd, m⟩ := now
          simp only at HV HM
          have hle := accUp_le (by rw [← (unhide HALL).2.2.1]; exact unhide HGT) (numB_range _ (by rw [List.length_take]; omega)).1 (unhide Hup)
          obtain ⟨hm0, hm1, htl⟩ := hle
          have HTL := hide htl
          clear htl
          simp only at hm0 hm1
          obtain ⟨z0, hzi, hzz0, hzz1, hzz2⟩ := info_parts Tryz.infoStr
          by_cases hlt : j < k
          · have hra : 19 + b2 + 11 * j + 11 ≤ s.size := by have := unhide HC4; omega
            have hx := sideAt_range s.data.toList (19 + b2 + 11 * j)
            obtain ⟨xd, hxd⟩ : ∃ x, sideAt s.data.toList (19 + b2 + 11 * j) = x := ⟨_, rfl⟩
            have HXD := hide hxd
            rw [hxd] at hx
            have HC : ∀ w, Hid (Calls Tryz.prog 79 #[.string s, .int .i64 (19 + (b2 : Int) + 11 * (j : Int))] w fun e w' => e = .returned (sideV xd.1 xd.2) ∧ Below w.heap.size w w') := fun w => by
              have := side_read s (19 + b2 + 11 * j) w hra (by have := (unhide HW).2.2; omega)
              rw [hxd, show ((19 + b2 + 11 * j : Nat) : Int) = 19 + (b2 : Int) + 11 * (j : Int) by omega] at this
              exact this
            clear hxd
            obtain ⟨xdd, xn⟩ := xd
            simp only at hx HC
            obtain ⟨x0, x1, x2, TX, hXV, sTX, lTX, HTX'⟩ := sideText xdd xn hx.1 hx.2
            obtain ⟨f0', f1', f2', TN, hNV, sTN, lTN, HTN⟩ := sideText nd m hm0 (by unfold maxS at hm1; omega)
            rw [unhide HV] at hNV
            simp at hNV
            obtain ⟨rfl, rfl, rfl⟩ := hNV
            rw [hXV] at HC
            have hsz2 : s.size ≤ 1000 := (unhide HW).2.2
            have hq63 : b1 / 2 ^ j ≤ 255 := Nat.le_trans (Nat.div_le_self _ _) (by omega)
            generalize hq : b1 / 2 ^ j = q at *
            have HQ := hide hq
            clear hq
            go_wp2_with fail
            refine (unhide (HC _)).mono ?_
            rintro e w1 ⟨rfl, hb1⟩
            have HM1 := hide ((unhide HM).later hb1)
            clear hb1 HC HM
            go_wp2_with fail
            generalize hW2 : (w1.alloc (Obj.cells #[Value.int IntKind.u8 x0, Value.int IntKind.u8 x1, Value.int IntKind.u8 x2, Value.int IntKind.u64 xn] 49)) = W2
            have hMX : AMX w W2 P N w1.heap.size d0 d1 d2 n (b1 : Int) nm bal salt (.slice ta ts.length tc) ts f0 f1 f2 m x0 x1 x2 xn := by
              rw [← hW2]
              exact ⟨(unhide HM1).later ((Below.refl _ _).alloc (Nat.le_refl _) _), heap_alloc_new w1 _, (unhide HM1).size⟩
            generalize w1.heap.size = X at *
            have hSd := hMX.drew.sx
            have hsa1 := str_add (P := Tryz.prog) ⟨#[1]⟩ TN (by rw [show (⟨#[1]⟩ : ByteArray).size = 1 from rfl]; omega)
            have hsa2 := str_add (P := Tryz.prog) (⟨#[1]⟩ ++ TN) TX (by rw [ByteArray.size_append, show (⟨#[1]⟩ : ByteArray).size = 1 from rfl]; omega)
            have hsa3 := str_add (P := Tryz.prog) ⟨#[1]⟩ TX (by rw [show (⟨#[1]⟩ : ByteArray).size = 1 from rfl]; omega)
            have hsa4 := str_add (P := Tryz.prog) (⟨#[1]⟩ ++ TX) TN (by rw [ByteArray.size_append, show (⟨#[1]⟩ : ByteArray).size = 1 from rfl]; omega)
            have HT1 := hide HTN
            have HT2 := hide HTX'
            clear hW2 hMX HM1 HTN HTX'
            go_region_held3 (fun w' => (w'.cell? ⟨N, 0, none⟩ = some (.int .u8 f0) ∧ w'.cell? ⟨N, 1, none⟩ = some (.int .u8 f1) ∧ w'.cell? ⟨N, 2, none⟩ = some (.int .u8 f2) ∧ w'.cell? ⟨N, 3, none⟩ = some (.int .u64 m)) ∧ (w'.cell? ⟨X, 0, none⟩ = some (.int .u8 x0) ∧ w'.cell? ⟨X, 1, none⟩ = some (.int .u8 x1) ∧ w'.cell? ⟨X, 2, none⟩ = some (.int .u8 x2) ∧ w'.cell? ⟨X, 3, none⟩ = some (.int .u64 xn)) ∧ AMX w w' P N X d0 d1 d2 n (b1 : Int) nm bal salt (.slice ta ts.length tc) ts f0 f1 f2 m x0 x1 x2 xn)
              (first | with_reducible exact hM5.sx | with_reducible exact hM4.sx | with_reducible exact hSd)
              (first
                | (go_at_call 15; refine (unhide ((unhide HT1) _)).mono ?_; rintro e w4 ⟨rfl, hb4⟩; have hM4 := AMX.later hSd.2.2 hb4; have HTd := HT1; clear HT1)
                | (go_at_call 15; refine (unhide ((unhide HT2) _)).mono ?_; rintro e w5 ⟨rfl, hb5⟩; have hM5 := AMX.later hM4 hb5))
            have hSe := hM5.drew.sx
            have HM5 := hide hM5
            clear hSd hM4 hM5
            obtain ⟨TT, hTT⟩ : ∃ TT : ByteArray, TT = if q % 2 = 1 then ⟨#[1]⟩ ++ TX ++ TN else ⟨#[1]⟩ ++ TN ++ TX := ⟨_, rfl⟩
            have HTT := hide hTT
            clear hTT
            go_upto_if 120 with fail
            go_cut [12] (fun st wx => st = .string TT ∧ Hid (AMX w wx P N X d0 d1 d2 n (b1 : Int) nm bal salt (.slice ta ts.length tc) ts f0 f1 f2 m x0 x1 x2 xn))
            case first =>
              by_cases hodd : q % 2 = 1
              · have hodd' : ((q : Int) % 2 == 1) = true := by simp; omega
                have HTE : Hid (TT = ⟨#[1]⟩ ++ TX ++ TN) := by rw [unhide HTT, if_pos hodd]; rfl
                clear hodd HTT
                go_wp2_with fail
                go_region_held3 (fun w' => (w'.cell? ⟨N, 0, none⟩ = some (.int .u8 f0) ∧ w'.cell? ⟨N, 1, none⟩ = some (.int .u8 f1) ∧ w'.cell? ⟨N, 2, none⟩ = some (.int .u8 f2) ∧ w'.cell? ⟨N, 3, none⟩ = some (.int .u64 m)) ∧ (w'.cell? ⟨X, 0, none⟩ = some (.int .u8 x0) ∧ w'.cell? ⟨X, 1, none⟩ = some (.int .u8 x1) ∧ w'.cell? ⟨X, 2, none⟩ = some (.int .u8 x2) ∧ w'.cell? ⟨X, 3, none⟩ = some (.int .u64 xn)) ∧ AMX w w' P N X d0 d1 d2 n (b1 : Int) nm bal salt (.slice ta ts.length tc) ts f0 f1 f2 m x0 x1 x2 xn)
                  (first | with_reducible exact hM7.sx | with_reducible exact hM6.sx | with_reducible exact hSe)
                  (first
                    | (go_at_call 15; refine (unhide ((unhide HT2) _)).mono ?_; rintro e w6 ⟨rfl, hb6⟩; have hM6 := AMX.later hSe.2.2 hb6; clear HT2)
                    | (go_at_call 15; refine (unhide ((unhide HTd) _)).mono ?_; rintro e w7 ⟨rfl, hb7⟩; have hM7 := AMX.later hM6 hb7))
                go_wp2_with fail
                go_meet
                exact ⟨by rw [unhide HTE], hM7⟩
              · have hodd' : ((q : Int) % 2 == 1) = false := by simp; omega
                have HTE : Hid (TT = ⟨#[1]⟩ ++ TN ++ TX) := by rw [unhide HTT, if_neg hodd]; rfl
                clear hodd HTT
                go_wp2_with fail
                go_meet
                exact ⟨by rw [unhide HTE], HM5⟩
            case rest =>
            obtain ⟨rfl, HMX⟩ := hcut
            clear hSe HM5 HT2 HTd hsa1 hsa2 hsa3 hsa4
            have v3 := (quad_of (unhide HMX).am.now).2.2.2
            have x3 := (quad_of (unhide HMX).xb).2.2.2
            have hroom := (unhide HMX).am.room
            have q0 : wc.cell? ⟨w.heap.size + 1, 0, none⟩ = some (.int .i64 0) := by rw [block_cell hroom]; rfl
            have q1 : wc.cell? ⟨w.heap.size + 1, 1, none⟩ = some (.string ⟨#[]⟩) := by rw [block_cell hroom]; rfl
            have q2 : wc.cell? ⟨w.heap.size + 1, 2, none⟩ = some (.int .u64 0) := by rw [block_cell hroom]; rfl
            have q3 : wc.cell? ⟨w.heap.size + 1, 3, none⟩ = some (.int .u64 0) := by rw [block_cell hroom]; rfl
            have q4 : wc.cell? ⟨w.heap.size + 1, 4, none⟩ = some (.slice none 0 0) := by rw [block_cell hroom]; rfl
            have qf : ∀ i, wc.frozen? ⟨w.heap.size + 1, i, none⟩ = false := fun i => block_free hroom
            have hm2 : m ≤ 4611686018427387904 := hm1
            have hx0' : 0 ≤ xn := hx.1
            by_cases hc1 : maxS < xn
            · have hd1 : decide (4611686018427387904 < xn) = true := by simpa [maxS] using hc1
              have HF : Hid ((if maxS < accBal s.data.toList then Option.none else accTexts k (d, n) s.data.toList) = Option.none) := by
                refine accUp_stop (unhide Hup) (x := (xdd, xn)) ?_ (Or.inl hc1) hlt
                rw [← (unhide HALL).2.1]; exact unhide HXD
              have HBl := hide (unhide HMX).am.below
              clear hroom HMX v3 hc1
              go_wp2
              refine bodyPost_ret (v := .tuple #[proofZ, .bool false]) ?_ rfl (AccPost.none ?_ (unhide HF) ⟨0, ⟨#[]⟩, 0, 0, none, 0, 0, rfl⟩)
              · simp [results, Tryz.results63, go_sem, proofZ, q0, q1, q2, q3, q4]
              · exact (((((unhide HBl).setCell (by simp) _).setCell (by simp) _).setCell (by simp) _).setCell (by simp) _).setCell (by simp) _
            · have hd1 : decide (4611686018427387904 < xn) = false := by simpa [maxS] using hc1
              have hx3 : xn ≤ 4611686018427387904 := Int.not_lt.1 hc1
              by_cases hc2 : maxS < m + xn
              · have hd2 : decide (4611686018427387904 < m + xn) = true := by simpa [maxS] using hc2
                have HF : Hid ((if maxS < accBal s.data.toList then Option.none else accTexts k (d, n) s.data.toList) = Option.none) := by
                  refine accUp_stop (unhide Hup) (x := (xdd, xn)) ?_ (Or.inr hc2) hlt
                  rw [← (unhide HALL).2.1]; exact unhide HXD
                have HBl := hide (unhide HMX).am.below
                clear hroom HMX hc1 hc2
                go_wp2
                refine bodyPost_ret (v := .tuple #[proofZ, .bool false]) ?_ rfl (AccPost.none ?_ (unhide HF) ⟨0, ⟨#[]⟩, 0, 0, none, 0, 0, rfl⟩)
                · simp [results, Tryz.results63, go_sem, proofZ, q0, q1, q2, q3, q4]
                · exact (((((unhide HBl).setCell (by simp) _).setCell (by simp) _).setCell (by simp) _).setCell (by simp) _).setCell (by simp) _
              · have hd2 : decide (4611686018427387904 < m + xn) = false := by simpa [maxS] using hc2
                have p4 : wc.cell? ⟨P, 4, none⟩ = some (.slice ta ts.length tc) := by rw [block_cell (unhide HMX).am.prf]; rfl
                have hown := hide (unhide HMX).am.txt
                have hzb : w.heap.size + 2 ≤ wc.heap.size := by have := (unhide HMX).am.size; have := (unhide HMX).am.hP; have := (unhide HMX).am.hN; omega
                have HUP : Hid (accUp s.data.toList (j + 1) = some (ts ++ [upText q (nd, m) (xdd, xn)], (dg (upText q (nd, m) (xdd, xn)), m + xn))) := by
                  have := accUp_step (unhide Hup) (x := (xdd, xn)) (by rw [← (unhide HALL).2.1]; exact unhide HXD) (fun hc => hc.elim hc1 hc2)
                  rw [← (unhide HALL).1, unhide HQ] at this
                  exact this
                clear hroom q0 q1 q2 q3 q4 qf hc1 hc2
                go_wp2_with (at_builtin; refine wpList_append_both rfl (.tmp 140) (.tmp 142) 36 rfl (w.heap.size + 2) 9 z0 (.string ⟨#[]⟩) 16 Tryz.underlying36 hzi hzz0 hzz1 hzz2 rfl _ _ _ rfl ((unhide hown).alloc _) ⟨wc.heap.size, 0, none⟩ 1 1 [.string TT] rfl rfl ?c1 ?c2 (by decide) ?c3 ?c4 ?c5 ?_)
                case c1 =>
                  intro j u hj
                  match j, hj with
                  | 0, hj => simp at hj; subst hj; simp [Addr.add]
                case c2 => intro u hu; simp at hu; subst hu; rfl
                case c3 => have := unhide HTL; unfold maxLen; omega
                case c4 => have := unhide HTL; omega
                case c5 => simp; omega
                intro g cap w3 hown3 _ hg3 hnew3
                obtain ⟨ut, hut⟩ : ∃ ut, ut = upText q (nd, m) (xdd, xn) := ⟨_, rfl⟩
                have hTu : TT = ⟨ut.toArray⟩ := by
                  rw [hut, unhide HTT]
                  unfold upText
                  split
                  · exact bytes_ext (by rw [ByteArray.data_append, ByteArray.data_append, Array.toList_append, Array.toList_append, lTX, lTN]; simp)
                  · exact bytes_ext (by rw [ByteArray.data_append, ByteArray.data_append, Array.toList_append, Array.toList_append, lTX, lTN]; simp)
                obtain ⟨hMX3, r4, rf4⟩ := (unhide HMX).app (v := .string TT) (t := ut) (by rw [hTu]; rfl) hown3 hg3 hnew3
                have HMX3 := hide hMX3
                have hsTT : TT.size ≤ 100 := by
                  rw [unhide HTT]
                  split
                  · rw [ByteArray.size_append, ByteArray.size_append, show (⟨#[1]⟩ : ByteArray).size = 1 from rfl]; omega
                  · rw [ByteArray.size_append, ByteArray.size_append, show (⟨#[1]⟩ : ByteArray).size = 1 from rfl]; omega
                obtain ⟨g0, g1, g2, hG⟩ : ∃ g0 g1 g2 : Int, digV (dg ut) = .agg #[.int .u8 g0, .int .u8 g1, .int .u8 g2] ∧ sideV (dg ut) (m + xn) = .agg #[.int .u8 g0, .int .u8 g1, .int .u8 g2, .int .u64 (m + xn)] := ⟨_, _, _, rfl, rfl⟩
                have HSum : ∀ w, Hid (Calls Tryz.prog 37 #[.string TT] w fun e w' => e = .returned (.agg #[.int .u8 g0, .int .u8 g1, .int .u8 g2]) ∧ Below w.heap.size w w') := fun w => by
                  have := refsum_any TT w (by unfold maxLen; omega)
                  rw [← hG.1]
                  rw [hTu] at this ⊢
                  exact this
                have HU := hide (And.intro hut (And.intro hTu hG.2))
                have hwr : IntKind.u64.wrap (m + xn) = m + xn := by rw [IntKind.wrap_u64]; omega
                clear hown3 hg3 hnew3 hMX3 hut hTu hG hown v3 x3 p4 HMX HTT
                go_upto_region 28 with fail
                generalize hW4 : w3.setCell ⟨P, 4, none⟩ (.slice (some ⟨g, 0, none⟩) (ts.length + 1) cap) = W4 at *
                have y3 := (quad_of (unhide HMX3).am.now)
                have x3 := (quad_of (unhide HMX3).xb)
                have nf : ∀ i, W4.frozen? ⟨N, i, none⟩ = false := fun i => block_free (unhide HMX3).am.now
                have zN : N < W4.heap.size := (unhide HMX3).am.size
                have zX : X < W4.heap.size := (Array.getElem?_eq_some_iff.1 (unhide HMX3).xb).1
                obtain ⟨y30, y31, y32, y33⟩ := y3
                obtain ⟨x30, x31, x32, x33⟩ := x3
                clear hW4 r4 rf4
                go_cut [] (fun wx => Hid (AM w wx P N d0 d1 d2 n (b1 : Int) nm bal salt (.slice (some ⟨g, 0, none⟩) (ts.length + 1) cap) (ts ++ [ut]) g0 g1 g2 (m + xn)))
                case first =>
                  go_region_with (go_at_call 37; refine (unhide (HSum _)).mono ?_; rintro e w6 ⟨rfl, hb6⟩; have a0 := keepB (o := 0) hb6 (by simpa using zN) (by simpa using y30); have a1 := keepB (o := 1) hb6 (by simpa using zN) (by simpa using y31); have a2 := keepB (o := 2) hb6 (by simpa using zN) (by simpa using y32); have a3 := keepB (o := 3) hb6 (by simpa using zN) (by simpa using y33); have a4 := keepB (o := 3) hb6 (by simpa using zX) (by simpa using x33); have af := fun i => ((bcell hb6).2 N i (by simpa using zN)).trans (nf i); have hA6 := hide (AM.later (unhide HMX3).am.drew hb6); clear hb6)
                  all_goals (go_wp2_with fail; go_meet; exact (unhide hA6).set _ _ _ _)
                case rest =>
                clear y30 y31 y32 y33 x30 x31 x32 x33 nf zN zX HMX3 HSum
                go_wp2
                go_roundw
                case rel =>
                  have hq2 : b1 / 2 ^ (j + 1) = q / 2 := by rw [Nat.pow_succ, ← Nat.div_div_eq_div_mul, unhide HQ]
                  refine ⟨j + 1, TT, ts ++ [ut], (dg ut, m + xn), g0, g1, g2, some ⟨g, 0, none⟩, cap, by omega, by go_num, by rw [hq2]; go_num, rfl, ?_, (unhide HU).2.2, ?_⟩
                  · rw [(unhide HU).1]; exact HUP
                  · rw [List.length_append]; exact hcut
                case measure => simp [intOf]; omega
          · have hjk' : j = k := by omega
            subst hjk'
            have HEND := hide (accTexts_end (root := (d, n)) (unhide Hup) (by rw [← (unhide HALL).2.2.1]; exact Int.not_lt.2 (unhide HGT)))
            have hM := unhide HM
            have h1 := hM.hP
            have h2 := hM.hN
            have nP : P ≠ w.heap.size + 1 := by omega
            have nN : N ≠ w.heap.size + 1 := by omega
            have nA : w.heap.size ≠ w.heap.size + 1 := by omega
            obtain ⟨bb, hbb⟩ : ∃ bb : Bool, bb = decide (((nd, m) : Dg × Int) = (d, n)) := ⟨_, rfl⟩
            have hq : ∀ w, (Op.equalIn 10000 49 (.agg #[.int .u8 f0, .int .u8 f1, .int .u8 f2, .int .u64 m]) (.agg #[.int .u8 d0, .int .u8 d1, .int .u8 d2, .int .u64 n])).run Tryz.prog w = .ok bb w := by
              intro w
              rw [eql_side, hbb, side_eq (unhide HV) (unhide HALL).2.2.2.2]
            have q0 : wr.cell? ⟨w.heap.size + 1, 0, none⟩ = some (.int .i64 0) := by rw [block_cell hM.room]; rfl
            have q1 : wr.cell? ⟨w.heap.size + 1, 1, none⟩ = some (.string ⟨#[]⟩) := by rw [block_cell hM.room]; rfl
            have q2 : wr.cell? ⟨w.heap.size + 1, 2, none⟩ = some (.int .u64 0) := by rw [block_cell hM.room]; rfl
            have q3 : wr.cell? ⟨w.heap.size + 1, 3, none⟩ = some (.int .u64 0) := by rw [block_cell hM.room]; rfl
            have q4 : wr.cell? ⟨w.heap.size + 1, 4, none⟩ = some (.slice none 0 0) := by rw [block_cell hM.room]; rfl
            have qf : ∀ i, wr.frozen? ⟨w.heap.size + 1, i, none⟩ = false := fun i => block_free hM.room
            have hS0 := hM.s30
            have hS1 := hS0.drew
            have HBB := hide hbb
            have HM' := hide hM
            clear hM HM hbb HV
            go_wp2_with fail
            go_region_held3 (fun w' => (w'.cell? ⟨P, 0, none⟩ = some (.int .i64 (b1 : Int)) ∧ w'.cell? ⟨P, 1, none⟩ = some (.string nm) ∧ w'.cell? ⟨P, 2, none⟩ = some (.int .u64 bal) ∧ w'.cell? ⟨P, 3, none⟩ = some (.int .u64 salt) ∧ w'.cell? ⟨P, 4, none⟩ = some (.slice ta ts.length tc)) ∧ (w'.cell? ⟨N, 0, none⟩ = some (.int .u8 f0) ∧ w'.cell? ⟨N, 1, none⟩ = some (.int .u8 f1) ∧ w'.cell? ⟨N, 2, none⟩ = some (.int .u8 f2) ∧ w'.cell? ⟨N, 3, none⟩ = some (.int .u64 m)) ∧ (w'.cell? ⟨w.heap.size, 0, none⟩ = some (.int .u8 d0) ∧ w'.cell? ⟨w.heap.size, 1, none⟩ = some (.int .u8 d1) ∧ w'.cell? ⟨w.heap.size, 2, none⟩ = some (.int .u8 d2) ∧ w'.cell? ⟨w.heap.size, 3, none⟩ = some (.int .u64 n)))
              (first | with_reducible exact hS1 | with_reducible exact (((((hS0.set nP nN nA).set nP nN nA).set nP nN nA).set nP nN nA).set nP nN nA).drew | with_reducible exact ((((hS1.set nP nN nA).set nP nN nA).set nP nN nA).set nP nN nA).set nP nN nA)
              (fail)
            go_wp2
            have hNM : nm = ⟨(accName s.data.toList).toArray⟩ := bytes_ext (by
              rw [← unhide HNM, extract_list]
              unfold accName
              rw [← (unhide HALL).2.1, show (3 + (b2 : Int)).toNat - 3 = b2 by omega])
            refine bodyPost_ret (v := .tuple #[proofV (b1 : Int) nm bal salt ta ts.length tc, .bool bb]) ?_ rfl (acc_end (unhide HEND) (unhide HBB) (unhide HALL).1 hNM (unhide HALL).2.2.1 (unhide HALL).2.2.2.1 ?_ ?_)
            · simp [results, Tryz.results63, go_sem, proofV, q0, q1, q2, q3, q4]
            · exact ((((((unhide HM').below.setCell (Nat.le_succ _) _).setCell (Nat.le_succ _) _).setCell (Nat.le_succ _) _).setCell (Nat.le_succ _) _).setCell (Nat.le_succ _) _).drew
            · refine own_base (own_same (w := wr) (unhide HM').txt (fun g hg => ?_)) (Nat.le_add_right _ _)
              have hgR : g ≠ w.heap.size + 1 := fun e => by
                obtain ⟨cur, hc⟩ := own_type (unhide HM').txt hg
                rw [e, (unhide HM').room] at hc; simp at hc
              show (((((wr.setCell _ _).setCell _ _).setCell _ _).setCell _ _).setCell _ _).heap[g]? = _
              rw [Below.heap_setCell _ _ _ _ hgR, Below.heap_setCell _ _ _ _ hgR, Below.heap_setCell _ _ _ _ hgR, Below.heap_setCell _ _ _ _ hgR, Below.heap_setCell _ _ _ _ hgR]

end Go.Proofs.YtbjobbkgelipmaaGreat
