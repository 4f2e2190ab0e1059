/-
  The walk of tithekeep's Steps.
-/
import Derived.Deep.CutBlock
import Derived.Deep.RegionHeld3
import Derived.BigQuiet
import Derived.Test.YtbjobbkgelipmaaSbac
namespace Go.Proofs.Ytbjobbkgelipmaa
open Go.RowKit

set_option maxHeartbeats 40000000 in
set_option maxRecDepth 100000 in
theorem steps_any (a0 : Option Addr) (len cap : Nat) (xs : List MoveD) (w : World) (hK : Calls Try.prog 7 #[] w fun e w' => e = .returned (.bool true) ∧ Below w.heap.size w w') (hlen : xs.length = len) (hlen2 : len < 9223372036854775807) (hM : 0 < len → ∃ b off, a0 = some ⟨b, off, none⟩ ∧ MovesAt w b off xs) :
    Calls Try.prog 3 #[.slice a0 len cap] w fun e w' => e = .returned (.bool true) ∧ Below w.heap.size w w' := by
  have HK := hide hK
  have HM := hide hM
  have HL := hide hlen
  clear hK hM hlen
  go_enter Try.func3, Try.ntmps3
  go_wp2_with fail
  refine (unhide HK).mono ?_
  rintro e w1 ⟨rfl, hb1⟩
  have HN := hide (new_good 6 0 w1 (by omega) (by omega))
  unfold cfgV at HN
  have HB1 := hide hb1
  clear HK hb1
  go_wp2_with fail
  refine (unhide HN).mono ?_
  rintro e w2 ⟨rfl, hB2, hb2⟩
  have hI2 : BkI w w2 (w1.heap.size + 2) (w1.heap.size + 1) 6 0 none [] := ⟨hB2, fun k hk => by have := (unhide HB1).size; simp [blksE] at hk; omega, fun a ha => (by cases ha), (unhide HB1).trans (hb2.mono (unhide HB1).size)⟩
  have HI := hide hI2
  generalize w1.heap.size + 2 = B at *
  generalize w1.heap.size + 1 = M at *
  clear HN hB2 hb2 hI2 HB1
  go_wp2_with fail
  go_loopw [6] (fun i wr => ∃ k : Nat, k ≤ 60 ∧ i = .int .i64 k ∧ ∃ E, BkI w wr B M 6 0 none E) (fun i _ => 60 - (intOf i).toNat)
  case atStart => exact ⟨0, by omega, rfl, [], unhide HI⟩
  case round =>
    obtain ⟨k, hk, rfl, E, hI⟩ := hrel
    clear HI
    by_cases h1 : k < len
    · by_cases h2 : k < 60
      · have i1 : (k : Int) < (len : Int) := by omega
        have i2 : (k : Int) < 60 := by omega
        have hkl : k < xs.length := by rw [unhide HL]; exact h1
        obtain ⟨b, off, rfl, hmv⟩ := unhide HM (by omega)
        have hmW : ∀ W, Below w.heap.size w W → MovesAt W b off xs := fun W hW => hmv.below hW
        obtain ⟨x, hx⟩ : ∃ x, xs[k] = x := ⟨_, rfl⟩
        have hxo : x.ok := hmv.ok x (hx ▸ List.getElem_mem hkl)
        have d0 := (hmW wr hI.below).c0 k hkl
        have d1 := (hmW wr hI.below).c1 k hkl
        have d2 := (hmW wr hI.below).c2 k hkl
        have d3 := (hmW wr hI.below).c3 k hkl
        rw [hx] at d0 d1 d2 d3
        obtain ⟨kd, A, Bn, n⟩ := x
        have HI := hide hI
        have hxk : IntKind.i64.wrap (k : Int) = (k : Int) := by rw [IntKind.wrap_i64]; omega
        clear hI hmv hmW hx
        have HP0 := fun w => hide (pick_any kd 6 w hxo.1.1 hxo.1.2 (by omega) (by omega))
        have HP1 := fun w => hide (pick_any A 6 w hxo.2.1.1 hxo.2.1.2 (by omega) (by omega))
        have HP2 := fun w => hide (pick_any Bn 6 w hxo.2.2.1.1 hxo.2.2.1.2 (by omega) (by omega))
        have hr0 := pick_range kd 6 (by omega)
        have hr1 := pick_range A 6 (by omega)
        have hr2 := pick_range Bn 6 (by omega)
        generalize pickI kd 6 = p0 at *
        generalize pickI A 6 = p1 at *
        generalize pickI Bn 6 = p2 at *
        obtain ⟨p, rfl⟩ : ∃ p : Nat, p0 = (p : Int) := ⟨p0.toNat, by omega⟩
        obtain ⟨q, rfl⟩ : ∃ p : Nat, p1 = (p : Int) := ⟨p1.toNat, by omega⟩
        obtain ⟨r, rfl⟩ : ∃ p : Nat, p2 = (p : Int) := ⟨p2.toNat, by omega⟩
        have hn1 : 0 ≤ n := hxo.2.2.2.1
        have hn2 : n < 18446744073709551616 := hxo.2.2.2.2
        have hp6 : p < 6 := by omega
        have hq6 : q < 6 := by omega
        have hr6 : r < 6 := by omega
        clear hxo hr0 hr1 hr2
        go_upto_region 9 with fail
        have hA1 : Below wr.heap.size wr (wr.alloc (Obj.cells #[Value.int IntKind.i64 kd, Value.int IntKind.i64 A, Value.int IntKind.i64 Bn, Value.int IntKind.u64 n] 32)) := (Below.refl _ _).alloc (Nat.le_refl _) _
        have hI1 := (unhide HI).later hA1
        have hQ1 := heap_alloc_new wr (Obj.cells #[Value.int IntKind.i64 kd, Value.int IntKind.i64 A, Value.int IntKind.i64 Bn, Value.int IntKind.u64 n] 32)
        generalize (wr.alloc (Obj.cells #[Value.int IntKind.i64 kd, Value.int IntKind.i64 A, Value.int IntKind.i64 Bn, Value.int IntKind.u64 n] 32)) = W1 at *
        generalize wr.heap.size = Q at *
        have z0 : W1.cell? ⟨Q, 0, none⟩ = some (.int .i64 kd) := block_cell hQ1
        have z1 : W1.cell? ⟨Q, 1, none⟩ = some (.int .i64 A) := block_cell hQ1
        have z2 : W1.cell? ⟨Q, 2, none⟩ = some (.int .i64 Bn) := block_cell hQ1
        have HI1 := hide (And.intro hI1 hQ1)
        clear hA1 hI1 hQ1 HI d0 d1 d2 d3 wr
        go_wp2_with fail
        refine (unhide (HP0 _)).mono ?_
        rintro e w3 ⟨rfl, rfl⟩
        go_wp2_with fail
        refine (unhide (HP1 _)).mono ?_
        rintro e w4 ⟨rfl, rfl⟩
        go_wp2_with fail
        refine (unhide (HP2 _)).mono ?_
        rintro e W1 ⟨rfl, rfl⟩
        have HBl := hide (balances_any (unhide HI1).1.book)
        clear HP0 HP1 HP2 z0 z1 z2
        go_wp2_with fail
        refine (unhide HBl).mono ?_
        rintro e w5 ⟨rfl, hb5⟩
        have hI5 := (unhide HI1).1.later hb5
        have hQ5 := (hb5.block Q (Array.getElem?_eq_some_iff.1 (unhide HI1).2).1).trans (unhide HI1).2
        have hQl := (Array.getElem?_eq_some_iff.1 hQ5).1
        obtain ⟨x, hxe⟩ : ∃ x, xE E = x := ⟨_, rfl⟩
        obtain ⟨y, hye⟩ : ∃ y : Nat → Bool, (fun i => (fE E i).isSome) = y := ⟨_, rfl⟩
        have ex : arr6 (balV E) = #[.int .u64 (x 0), .int .u64 (x 1), .int .u64 (x 2), .int .u64 (x 3), .int .u64 (x 4), .int .u64 (x 5)] := by rw [← hxe]; rfl
        have ey : arr6 (isV E) = #[.bool (y 0), .bool (y 1), .bool (y 2), .bool (y 3), .bool (y 4), .bool (y 5)] := by rw [← hye]; rfl
        rw [ex, ey]
        have HXY := hide (And.intro hxe hye)
        have HQ5 := hide (And.intro hI5 hQ5)
        clear HBl HI1 hb5 hI5 hQ5 ex ey hxe hye
        go_upto_region 18 with fail
        generalize hW : ((((w5.alloc (Obj.cells #[Value.int IntKind.u64 (x 0), Value.int IntKind.u64 (x 1), Value.int IntKind.u64 (x 2), Value.int IntKind.u64 (x 3), Value.int IntKind.u64 (x 4), Value.int IntKind.u64 (x 5)] 34)).alloc (Obj.cells #[Value.bool (y 0), Value.bool (y 1), Value.bool (y 2), Value.bool (y 3), Value.bool (y 4), Value.bool (y 5)] 35)).alloc (Obj.cells #[Value.int IntKind.u64 (x 0), Value.int IntKind.u64 (x 1), Value.int IntKind.u64 (x 2), Value.int IntKind.u64 (x 3), Value.int IntKind.u64 (x 4), Value.int IntKind.u64 (x 5)] 34)).alloc (Obj.cells #[Value.bool (y 0), Value.bool (y 1), Value.bool (y 2), Value.bool (y 3), Value.bool (y 4), Value.bool (y 5)] 35)) = W
        have hsn := sa_new (N := w.heap.size) x y (unhide HQ5).2 (unhide HQ5).1.below.size hW.symm
        have hI6 := (unhide HQ5).1.later hsn.2
        have hS6 := hsn.1
        have hsx : ∀ i, 0 ≤ x i ∧ (y i = false → x i = 0) := fun i => by
          rw [← (unhide HXY).1, ← (unhide HXY).2]
          unfold xE fE balE
          cases hl : lookE E (nmB i).data.toList with
          | none => exact ⟨Int.le_refl _, fun _ => rfl⟩
          | some a => exact ⟨(unhide HQ5).1.book.pos a (lookE_name hl).1, fun h => absurd h (by simp [hl])⟩
        have hst : six x = sumE E ∧ six x ≤ maxS := by
          have := (unhide HQ5).1.total
          rw [(unhide HXY).1] at this
          exact ⟨this, this ▸ (unhide HQ5).1.book.sum⟩
        have cl : ∀ j, j < 6 → W.cell? ⟨w5.heap.size, j, none⟩ = some (.int .u64 (x j)) := fun j hj => by rw [block_cell hS6.l, arr6_at _ hj]; rfl
        have HS6 := hide (And.intro hI6 hS6)
        have HSX := hide (And.intro hsx hst)
        clear hsn hI6 hS6 hW HQ5 hQl hsx hst
        generalize w5.heap.size = L at *
        clear w5
        go_loopw [17, 16] (fun j t wr' => ∃ m : Nat, m ≤ 6 ∧ j = .int .i64 m ∧ t = .int .u64 (sixTo x m) ∧ wr' = W) (fun j _ _ => 6 - (intOf j).toNat)
        case atStart => exact ⟨0, by omega, rfl, rfl, rfl⟩
        case round =>
          obtain ⟨m, hm, rfl, rfl, rfl⟩ := hrel
          by_cases hm6 : m < 6
          · have cm := cl m hm6
            have hle := sixTo_le x (fun i => ((unhide HSX).1 i).1) hm6
            have hmx := (unhide HSX).2.2
            have hwr : IntKind.u64.wrap (sixTo x m + x m) = sixTo x (m + 1) := by
              rw [IntKind.wrap_u64]
              show _ = sixTo x m + x m
              have h0 := ((unhide HSX).1 m).1
              unfold maxS at hmx
              omega
            have im : (m : Int) < 6 := by omega
            clear cl hle hmx
            go_wp2
            refine ⟨⟨m + 1, by omega, by go_num, rfl, trivial⟩, by simp [intOf]; omega⟩
          · have hmm : m = 6 := by omega
            subst hmm
            clear hm hm6 cl
            rw [sixTo_six]
            generalize L + 1 + 1 + 1 = H at *
            generalize L + 1 + 1 = T at *
            generalize L + 1 = I at *
            have ciq : wr.cell? ⟨I, q, none⟩ = some (.bool (y q)) := (unhide HS6).2.ci hq6
            have iq : (q : Int) < 6 := by omega
            have ir : (r : Int) < 6 := by omega
            go_upto_block 4 with fail
            clear ciq
            go_cut [13, 18] (fun s13 s18 wx => ∃ (e : Int) (may : Bool) (E' : List Acct) (x' : Nat → Int) (y' : Nat → Bool), s13 = .int .i64 e ∧ s18 = .bool may ∧ Hid (Swd w wx B M Q L I T H kd A Bn n x y e may E' x' y'))
            case first =>
              have P6 : (p = 0 ∨ p = 1) ∨ p = 2 ∨ p = 3 ∨ p = 4 ∨ p = 5 := by omega
              have HNq := fun w => hide (name_any (q : Int) w (by omega) (by omega))
              rw [pick_same (q : Int) 6 (by omega) (by omega), Int.toNat_natCast] at HNq
              rcases P6 with P6 | rfl | rfl | rfl | rfl
              · as_aux_lemma =>
                have HD : Hid (∀ W', Below wr.heap.size wr W' → Calls Try.prog 11 #[.pointer (some ⟨B, 0, none⟩), .string (nmB q)] W' fun e W'' => e = .returned (.int .i64 (opOpen (fE E) q).1) ∧ Done w W' W'' B M 6 0 none E (opOpen (fE E) q).2) := fun W' hW => kopen_any ((unhide HS6).1.later hW) q hq6
                generalize hop : opOpen (fE E) q = op at *
                have HOP := hide hop
                clear hop
                obtain ⟨er, fo⟩ := op
                rcases P6 with rfl | rfl
                all_goals
                  go_wp2_with fail
                  refine (unhide (HNq _)).mono ?_
                  rintro e w7 ⟨rfl, hb7⟩
                  have HO := hide (unhide HD _ hb7)
                  have HB7 := hide hb7
                  clear hb7
                  go_wp2_with fail
                  refine (unhide HO).mono ?_
                  rintro e w8 ⟨rfl, E', hI8, hf8, hK8⟩
                  have hS8 := ((unhide HS6).2.later (unhide HB7)).kept ((unhide HS6).1.later (unhide HB7)) hK8
                  have ci8 := hS8.ci hq6
                  have ch8 := hS8.ch hq6
                  have fh8 : w8.frozen? ⟨H, q, none⟩ = false := block_free hS8.h
                  have hE8 := swd_open (q := q) (unhide HXY).1 (unhide HXY).2 (hS8.pokeH hI8 q (.bool true)) (by rw [unhide HOP]; exact hf8) (hS8.setH hq6 true)
                  rw [unhide HOP] at hE8
                  have HE8 := hide hE8
                  clear hE8 hS8 hI8 hf8 hK8 HO HB7
                  go_wp2_with fail
                  go_meet
                  exact ⟨er, !(y q), E', x, _, rfl, rfl, HE8⟩
              · as_aux_lemma =>
                have HD : Hid (∀ W', Below wr.heap.size wr W' → Calls Try.prog 13 #[.pointer (some ⟨B, 0, none⟩), .string (nmB q), .int .u64 n] W' fun e W'' => e = .returned (.int .i64 (opPay (fE E) (six x) q n).1) ∧ Done w W' W'' B M 6 0 none E (opPay (fE E) (six x) q n).2) := fun W' hW => by
                  rw [(unhide HSX).2.1]
                  exact kpay_any ((unhide HS6).1.later hW) q hq6 n hn1 hn2
                generalize hop : opPay (fE E) (six x) q n = op at *
                have HOP := hide hop
                clear hop
                obtain ⟨er, fo⟩ := op
                obtain ⟨z, hz⟩ : ∃ z, IntKind.u64.wrap (x q + n) = z := ⟨_, rfl⟩
                have hsb : IntKind.u64.wrap (4611686018427387904 - six x) = 4611686018427387904 - six x := by
                  have h1 := (unhide HSX).2.2
                  have h2 := (sixTo_le x (fun i => ((unhide HSX).1 i).1) (show 0 < 6 by omega)).2
                  have h3 := ((unhide HSX).1 0).1
                  have h4 : sixTo x 0 = 0 := rfl
                  rw [IntKind.wrap_u64]
                  unfold maxS at h1
                  omega
                have hbd : Below wr.heap.size wr wr.drew := (Below.refl _ _).drew
                have hSd : wr.drew.cell? ⟨Q, 3, none⟩ = some (.int .u64 n) := (unhide HS6).2.drew.cn
                go_wp2_with fail
                go_cut [13] (fun s13 wx => ∃ E', s13 = .int .i64 er ∧ Hid (BkI w wx B M 6 0 none E' ∧ (∀ i, i < 6 → fE E' i = fo i) ∧ SA w.heap.size wx Q L I T H kd A Bn n x y x y))
                case first =>
                  go_region_held3 (fun w' => w'.cell? ⟨Q, 3, none⟩ = some (.int .u64 n))
                    (first
                      | with_reducible exact hSd
                      | with_reducible exact hS7
                      | with_reducible exact hS8
                      | fail)
                    (first
                      | (go_at_call 12; (with_reducible refine (unhide (HNq _)).mono ?_); rintro e w7 ⟨rfl, hb7⟩; have hS7 : w7.cell? ⟨Q, 3, none⟩ = some (.int .u64 n) := ((unhide HS6).2.drew.later hb7).cn)
                      | (go_at_call 13; (with_reducible refine (unhide HD w7 (hbd.trans (hb7.mono hbd.size))).mono ?_); rintro e w8 ⟨rfl, E', hI8, hf8, hK8⟩; have hA8 := ((unhide HS6).2.drew.later hb7).kept ((unhide HS6).1.drew.later hb7) hK8; have hS8 : w8.cell? ⟨Q, 3, none⟩ = some (.int .u64 n) := hA8.cn))
                  have HE := hide (And.intro hI8 (And.intro hf8 hA8))
                  clear hI8 hf8 hK8 hA8 hS7 hS8 hb7 hbd hSd HNq HD
                  go_wp2_with fail
                  go_meet
                  exact ⟨E', rfl, HE⟩
                case rest =>
                obtain ⟨E', rfl, HE⟩ := hcut
                have hA := (unhide HE).2.2
                have cn := hA.cn
                have clq := hA.cl hq6
                have ctq := hA.ct hq6
                have ftq : wc.frozen? ⟨T, q, none⟩ = false := block_free hA.t
                have hyes : ∀ may, may = (y q && decide (n ≤ maxS - six x)) → Swd w (wc.setCell ⟨T, q, none⟩ (.int .u64 z)) B M Q L I T H kd A Bn n x y er may E' (updI x q z) y := fun may hm => by
                  have := swd_pay (unhide HXY).1 (unhide HXY).2 (unhide HSX).2.2 (fun i => ((unhide HSX).1 i).1) (six_le (fun i => ((unhide HSX).1 i).1)).1 hq6 hn1 (hA.pokeT (unhide HE).1 q (.int .u64 z)) (by rw [unhide HOP]; exact (unhide HE).2.1) hz.symm (hA.setT hq6 z) hm
                  rw [unhide HOP] at this
                  exact this
                have HY := hide hyes
                clear hA hyes HE HNq HD hbd hSd
                cases hyq : y q
                · go_wp2_with fail
                  go_region
                  all_goals
                    go_wp2_with fail
                    go_meet
                    exact ⟨er, _, E', _, _, rfl, rfl, hide (unhide HY false (by rw [hyq]; rfl)).drew⟩
                · by_cases hc : n ≤ 4611686018427387904 - six x
                  · go_wp2_with fail
                    go_region
                    all_goals
                      go_wp2_with fail
                      go_meet
                      exact ⟨er, _, E', _, _, rfl, rfl, hide (unhide HY true (by rw [hyq, decide_eq_true (show n ≤ maxS - six x from hc)]; rfl)).drew⟩
                  · have HF := hide (unhide HY false (by rw [hyq, decide_eq_false (show ¬ n ≤ maxS - six x from hc)]; rfl))
                    go_wp2_with fail
                    go_region
                    all_goals
                      go_wp2_with fail
                      go_meet
                      exact ⟨er, _, E', _, _, rfl, rfl, hide (unhide HF).drew⟩
              · as_aux_lemma =>
                have HD : Hid (∀ W', Below wr.heap.size wr W' → Calls Try.prog 14 #[.pointer (some ⟨B, 0, none⟩), .string (nmB q), .int .u64 n] W' fun e W'' => e = .returned (.int .i64 (opDraw (fE E) q n).1) ∧ Done w W' W'' B M 6 0 none E (opDraw (fE E) q n).2) := fun W' hW => kdraw_any ((unhide HS6).1.later hW) q hq6 n hn1 hn2
                generalize hop : opDraw (fE E) q n = op at *
                have HOP := hide hop
                clear hop
                obtain ⟨er, fo⟩ := op
                obtain ⟨z, hz⟩ : ∃ z, IntKind.u64.wrap (x q - n) = z := ⟨_, rfl⟩
                have hbd : Below wr.heap.size wr wr.drew := (Below.refl _ _).drew
                have hSd : wr.drew.cell? ⟨Q, 3, none⟩ = some (.int .u64 n) := (unhide HS6).2.drew.cn
                go_wp2_with fail
                go_cut [13] (fun s13 wx => ∃ E', s13 = .int .i64 er ∧ Hid (BkI w wx B M 6 0 none E' ∧ (∀ i, i < 6 → fE E' i = fo i) ∧ SA w.heap.size wx Q L I T H kd A Bn n x y x y))
                case first =>
                  go_region_held3 (fun w' => w'.cell? ⟨Q, 3, none⟩ = some (.int .u64 n))
                    (first
                      | with_reducible exact hSd
                      | with_reducible exact hS7
                      | with_reducible exact hS8
                      | fail)
                    (first
                      | (go_at_call 12; (with_reducible refine (unhide (HNq _)).mono ?_); rintro e w7 ⟨rfl, hb7⟩; have hS7 : w7.cell? ⟨Q, 3, none⟩ = some (.int .u64 n) := ((unhide HS6).2.drew.later hb7).cn)
                      | (go_at_call 14; (with_reducible refine (unhide HD w7 (hbd.trans (hb7.mono hbd.size))).mono ?_); rintro e w8 ⟨rfl, E', hI8, hf8, hK8⟩; have hA8 := ((unhide HS6).2.drew.later hb7).kept ((unhide HS6).1.drew.later hb7) hK8; have hS8 : w8.cell? ⟨Q, 3, none⟩ = some (.int .u64 n) := hA8.cn))
                  have HE := hide (And.intro hI8 (And.intro hf8 hA8))
                  clear hI8 hf8 hK8 hA8 hS7 hS8 hb7 hbd hSd HNq HD
                  go_wp2_with fail
                  go_meet
                  exact ⟨E', rfl, HE⟩
                case rest =>
                obtain ⟨E', rfl, HE⟩ := hcut
                have hA := (unhide HE).2.2
                have cn : ∀ d, (wc.drewN d).cell? ⟨Q, 3, none⟩ = some (.int .u64 n) := fun d => hA.cn
                have cn0 := hA.cn
                have clq : ∀ d, (wc.drewN d).cell? ⟨L, q, none⟩ = some (.int .u64 (x q)) := fun d => hA.cl hq6
                have clq0 := hA.cl hq6
                have HA := hide (And.intro hA (unhide HE))
                clear hA HE HNq HD hbd hSd
                go_wp2_with fail
                go_cut [18] (fun s18 wx => ∃ may, s18 = .bool may ∧ Hid (may = (y q && decide (n ≤ x q))) ∧ ∃ d, wx = wc.drewN d)
                case first =>
                  cases hyq : y q
                  · have HF0 : Hid (false = (y q && decide (n ≤ x q))) := by rw [hyq]; exact rfl
                    go_quiet (fail)
                    go_wp2
                    go_meet
                    exact ⟨false, rfl, HF0, _, rfl⟩
                  · by_cases hc : n ≤ x q
                    · have HF : Hid (true = (y q && decide (n ≤ x q))) := by rw [hyq, decide_eq_true hc]; exact rfl
                      go_quiet (fail)
                      go_wp2
                      go_meet
                      exact ⟨true, by simp, HF, _, rfl⟩
                    · have HF : Hid (false = (y q && decide (n ≤ x q))) := by rw [hyq, decide_eq_false hc]; exact rfl
                      go_quiet (fail)
                      go_wp2
                      go_meet
                      exact ⟨false, by simp, HF, _, rfl⟩
                case rest =>
                obtain ⟨may, rfl, HMY, d, rfl⟩ := hcut
                clear cn clq cn0 clq0
                have hA := sa_drewN (unhide HA).1 d
                have hI := bki_drewN (unhide HA).2.1 d
                have hfo := (unhide HA).2.2.1
                generalize wc.drewN d = wd at *
                have cn := hA.cn
                have clq := hA.cl hq6
                have ctq := hA.ct hq6
                have ftq : wd.frozen? ⟨T, q, none⟩ = false := block_free hA.t
                have hE8 := swd_draw (unhide HXY).1 (unhide HXY).2 (unhide HSX).2.2 (fun i => ((unhide HSX).1 i).1) (six_le (fun i => ((unhide HSX).1 i).1)).1 hq6 hn1 (hA.pokeT hI q (.int .u64 z)) (by rw [unhide HOP]; exact hfo) hz.symm (hA.setT hq6 z) (unhide HMY)
                rw [unhide HOP] at hE8
                have HE8 := hide hE8
                clear hE8 hA hI hfo HA HMY HSX HS6 HXY HOP
                go_wp2_with fail
                go_region
                all_goals
                  go_wp2_with fail
                  go_meet
                  exact ⟨er, _, E', _, _, rfl, rfl, hide (unhide HE8).drew⟩
              · as_aux_lemma =>
                have HNr := fun w => hide (name_any (r : Int) w (by omega) (by omega))
                rw [pick_same (r : Int) 6 (by omega) (by omega), Int.toNat_natCast] at HNr
                have HD : Hid (∀ W', Below wr.heap.size wr W' → Calls Try.prog 15 #[.pointer (some ⟨B, 0, none⟩), .string (nmB q), .string (nmB r), .int .u64 n] W' fun e W'' => e = .returned (.int .i64 (opMove (fE E) q r n).1) ∧ Done w W' W'' B M 6 0 none E (opMove (fE E) q r n).2) := fun W' hW => kmove_any ((unhide HS6).1.later hW) q r hq6 hr6 n hn1 hn2
                generalize hop : opMove (fE E) q r n = op at *
                have HOP := hide hop
                clear hop
                obtain ⟨er, fo⟩ := op
                obtain ⟨z, hz⟩ : ∃ z, IntKind.u64.wrap (x q - n) = z := ⟨_, rfl⟩
                obtain ⟨z', hz'⟩ : ∃ z', IntKind.u64.wrap (updI x q z r + n) = z' := ⟨_, rfl⟩
                have HZ := hide (And.intro hz.symm hz'.symm)
                have hbd : Below wr.heap.size wr wr.drew := (Below.refl _ _).drew
                have hSd : wr.drew.cell? ⟨Q, 3, none⟩ = some (.int .u64 n) := (unhide HS6).2.drew.cn
                generalize hnq : nmB q = nq at *
                generalize hnr : nmB r = nr at *
                clear hz' hnq hnr
                go_wp2_with fail
                go_cut [13] (fun s13 wx => ∃ E', s13 = .int .i64 er ∧ Hid (BkI w wx B M 6 0 none E' ∧ (∀ i, i < 6 → fE E' i = fo i) ∧ SA w.heap.size wx Q L I T H kd A Bn n x y x y))
                case first =>
                  go_region_held3 (fun w' => w'.cell? ⟨Q, 3, none⟩ = some (.int .u64 n))
                    (first
                      | with_reducible exact hSd
                      | with_reducible exact hS6
                      | with_reducible exact hS7
                      | with_reducible exact hS8
                      | fail)
                    (first
                      | (go_at_call 15; (with_reducible refine (unhide HD w7 (hbd.trans (hb67.mono hbd.size))).mono ?_); rintro e w8 ⟨rfl, E', hI8, hf8, hK8⟩; have hA8 := ((unhide HS6).2.drew.later hb67).kept ((unhide HS6).1.drew.later hb67) hK8; have hS8 : w8.cell? ⟨Q, 3, none⟩ = some (.int .u64 n) := hA8.cn)
                      | (go_at_call 12; (with_reducible refine (unhide (HNq wr.drew)).mono ?_); rintro e w6 ⟨rfl, hb6⟩; have hS6 : w6.cell? ⟨Q, 3, none⟩ = some (.int .u64 n) := ((unhide HS6).2.drew.later hb6).cn)
                      | (go_at_call 12; (with_reducible refine (unhide (HNr w6)).mono ?_); rintro e w7 ⟨rfl, hb7⟩; have hb67 : Below wr.drew.heap.size wr.drew w7 := hb6.trans (hb7.mono hb6.size); have hS7 : w7.cell? ⟨Q, 3, none⟩ = some (.int .u64 n) := ((unhide HS6).2.drew.later hb67).cn))
                  have HE := hide (And.intro hI8 (And.intro hf8 hA8))
                  clear hI8 hf8 hK8 hA8 hS6 hS7 hS8 hb6 hb7 hb67 hbd hSd HNq HNr HD
                  go_wp2_with fail
                  go_meet
                  exact ⟨E', rfl, HE⟩
                case rest =>
                obtain ⟨E', rfl, HE⟩ := hcut
                have hA := (unhide HE).2.2
                have cn : ∀ d, (wc.drewN d).cell? ⟨Q, 3, none⟩ = some (.int .u64 n) := fun d => hA.cn
                have cn0 := hA.cn
                have clq : ∀ d, (wc.drewN d).cell? ⟨L, q, none⟩ = some (.int .u64 (x q)) := fun d => hA.cl hq6
                have clq0 := hA.cl hq6
                have cir : ∀ d, (wc.drewN d).cell? ⟨I, r, none⟩ = some (.bool (y r)) := fun d => hA.ci hr6
                have cir0 := hA.ci hr6
                have HA := hide (And.intro hA (unhide HE))
                clear hA HE HNq HNr HD hbd hSd
                go_wp2_with fail
                go_cut [18] (fun s18 wx => ∃ may, s18 = .bool may ∧ Hid (may = (y q && (y r && decide (n ≤ x q)))) ∧ ∃ d, wx = wc.drewN d)
                case first =>
                  cases hyq : y q
                  · have HF : Hid (false = (y q && (y r && decide (n ≤ x q)))) := by rw [hyq]; exact rfl
                    go_quiet (fail)
                    go_wp2
                    go_meet
                    exact ⟨false, rfl, HF, _, rfl⟩
                  · cases hyr : y r
                    · rw [hyr] at cir cir0
                      have HF : Hid (false = (y q && (y r && decide (n ≤ x q)))) := by rw [hyq, hyr]; exact rfl
                      go_quiet (fail)
                      go_wp2
                      go_meet
                      exact ⟨false, rfl, HF, _, rfl⟩
                    · rw [hyr] at cir cir0
                      by_cases hc : n ≤ x q
                      · have HF : Hid (true = (y q && (y r && decide (n ≤ x q)))) := by rw [hyq, hyr, decide_eq_true hc]; exact rfl
                        go_quiet (fail)
                        go_wp2
                        go_meet
                        exact ⟨true, by simp, HF, _, rfl⟩
                      · have HF : Hid (false = (y q && (y r && decide (n ≤ x q)))) := by rw [hyq, hyr, decide_eq_false hc]; exact rfl
                        go_quiet (fail)
                        go_wp2
                        go_meet
                        exact ⟨false, by simp, HF, _, rfl⟩
                case rest =>
                obtain ⟨may, rfl, HMY, d, rfl⟩ := hcut
                clear cn clq cn0 clq0 cir cir0
                have hA := sa_drewN (unhide HA).1 d
                have hI := bki_drewN (unhide HA).2.1 d
                have hfo := (unhide HA).2.2.1
                generalize wc.drewN d = wd at *
                have cn := hA.cn
                have ctq := hA.ct hq6
                have ftq : wd.frozen? ⟨T, q, none⟩ = false := block_free hA.t
                have HT := hide (And.intro (hA.pokeT hI q (.int .u64 z)) (And.intro (hA.setT hq6 z) hfo))
                clear hA hI hfo HA
                go_wp2_with fail
                go_cut [] (fun wx => Hid (BkI w wx B M 6 0 none E' ∧ SA w.heap.size wx Q L I T H kd A Bn n x y (updI x q z) y ∧ ∀ i, i < 6 → fE E' i = fo i))
                case first =>
                  go_region
                  all_goals
                    go_wp2_with fail
                    go_meet
                    exact hide ⟨(unhide HT).1.drew, (unhide HT).2.1.drew, (unhide HT).2.2⟩
                case rest =>
                have hA := (unhide hcut).2.1
                have cn := hA.cn
                have ctr := hA.ct hr6
                have ftr : wc.frozen? ⟨T, r, none⟩ = false := block_free hA.t
                have hE8 := swd_move (unhide HXY).1 (unhide HXY).2 (unhide HSX).2.2 (fun i => ((unhide HSX).1 i).1) (six_le (fun i => ((unhide HSX).1 i).1)).1 (six_le (fun i => ((unhide HSX).1 i).1)).2 hq6 hr6 hn1 (hA.pokeT (unhide hcut).1 r (.int .u64 z')) (by rw [unhide HOP]; exact (unhide hcut).2.2) (unhide HZ).1 (unhide HZ).2 (hA.setT hr6 z') (unhide HMY)
                rw [unhide HOP] at hE8
                have HE8 := hide hE8
                have hz2 := (unhide HZ).2.symm
                generalize updI x q z r = tr at *
                clear hE8 hA hcut HT HMY HSX HS6 HXY HOP HZ
                go_wp2_with fail
                go_region
                all_goals
                  go_wp2_with fail
                  go_meet
                  exact ⟨er, _, E', _, _, rfl, rfl, hide (unhide HE8).drew⟩
              · as_aux_lemma =>
                have HD : Hid (∀ W', Below wr.heap.size wr W' → Calls Try.prog 16 #[.pointer (some ⟨B, 0, none⟩), .string (nmB q)] W' fun e W'' => e = .returned (.int .i64 (opClose (fE E) q).1) ∧ Done w W' W'' B M 6 0 none E (opClose (fE E) q).2) := fun W' hW => kclose_any ((unhide HS6).1.later hW) q hq6
                generalize hop : opClose (fE E) q = op at *
                have HOP := hide hop
                clear hop
                obtain ⟨er, fo⟩ := op
                go_wp2_with fail
                refine (unhide (HNq _)).mono ?_
                rintro e w7 ⟨rfl, hb7⟩
                have HO := hide (unhide HD _ hb7)
                have HB7 := hide hb7
                clear hb7
                go_wp2_with fail
                refine (unhide HO).mono ?_
                rintro e w8 ⟨rfl, E', hI8, hf8, hK8⟩
                have hS8 := ((unhide HS6).2.later (unhide HB7)).kept ((unhide HS6).1.later (unhide HB7)) hK8
                have cl8 := hS8.cl hq6
                have ch8 := hS8.ch hq6
                have fh8 : w8.frozen? ⟨H, q, none⟩ = false := block_free hS8.h
                have hE8 : ∀ may, may = (y q && decide (x q = 0)) → Swd w (w8.setCell ⟨H, q, none⟩ (.bool false)) B M Q L I T H kd A Bn n x y er may E' x (updB y q false) := fun may hm => by
                  have := swd_close (unhide HXY).1 (unhide HXY).2 (hS8.pokeH hI8 q (.bool false)) (by rw [unhide HOP]; exact hf8) (hS8.setH hq6 false) hm
                  rw [unhide HOP] at this
                  exact this
                have HE8 := hide hE8
                clear hE8 hS8 hI8 hf8 hK8 HO HB7
                cases hyq : y q
                · have HF := hide (unhide HE8 false (by rw [hyq]; rfl))
                  go_wp2_with fail
                  go_meet
                  exact ⟨er, false, E', x, _, rfl, rfl, HF⟩
                · by_cases hc : x q = 0
                  · have HF := hide (unhide HE8 true (by rw [hyq, decide_eq_true hc]; rfl))
                    go_wp2_with fail
                    go_meet
                    exact ⟨er, true, E', x, _, rfl, by simp, HF⟩
                  · have HF := hide (unhide HE8 false (by rw [hyq, decide_eq_false hc]; rfl))
                    go_wp2_with fail
                    go_meet
                    exact ⟨er, false, E', x, _, rfl, by simp [hc], HF⟩
            case rest =>
              obtain ⟨e, may, E', x', y', rfl, rfl, hcut⟩ := hcut
              clear HS6 HSX HXY
              obtain ⟨her, hbk, hsa, hyes, hno⟩ := unhide hcut
              subst her
              have HC := hide (And.intro hbk (And.intro hsa (And.intro hyes hno)))
              clear hbk hsa hyes hno hcut
              go_upto_if 200 with fail
              · rename_i hx
                exfalso
                by_cases he : e = 0 <;> simp [he] at hx
              go_cut [13, 18] (fun _ _ wx => Hid (Lst w wx B M T H E'))
              case first =>
                by_cases he : e = 0
                · have HL := hide (lst_of (unhide HC).2.1 (unhide HC).1 ((unhide HC).2.2.1 (decide_eq_true he)))
                  clear HC
                  subst he
                  go_wp2_with fail
                  go_meet
                  exact HL
                · have hd : decide (e = 0) = false := decide_eq_false he
                  have hsa := (unhide HC).2.1
                  have h1 := sa_backT hsa (unhide HC).1
                  have h2 := sa_backH h1.1 h1.2
                  have HL := hide (lst_of h2.1 h2.2 ((unhide HC).2.2.2 hd))
                  have l0 := hsa.cl (j := 0) (by omega)
                  have l1 := hsa.cl (j := 1) (by omega)
                  have l2 := hsa.cl (j := 2) (by omega)
                  have l3 := hsa.cl (j := 3) (by omega)
                  have l4 := hsa.cl (j := 4) (by omega)
                  have l5 := hsa.cl (j := 5) (by omega)
                  have t0 := hsa.ct (j := 0) (by omega)
                  have t1 := hsa.ct (j := 1) (by omega)
                  have t2 := hsa.ct (j := 2) (by omega)
                  have t3 := hsa.ct (j := 3) (by omega)
                  have t4 := hsa.ct (j := 4) (by omega)
                  have t5 := hsa.ct (j := 5) (by omega)
                  have ft : ∀ i, wc.frozen? ⟨T, i, none⟩ = false := fun i => block_free hsa.t
                  clear h2 HC
                  simp only [hd]
                  go_upto_region 48 with fail
                  generalize hG : ((((((wc.setCell ⟨T, 0, none⟩ (.int .u64 (x 0))).setCell ⟨T, 1, none⟩ (.int .u64 (x 1))).setCell ⟨T, 2, none⟩ (.int .u64 (x 2))).setCell ⟨T, 3, none⟩ (.int .u64 (x 3))).setCell ⟨T, 4, none⟩ (.int .u64 (x 4))).setCell ⟨T, 5, none⟩ (.int .u64 (x 5))) = W1 at *
                  have hsb := h1.1
                  have m0 := hsb.ci (j := 0) (by omega)
                  have m1 := hsb.ci (j := 1) (by omega)
                  have m2 := hsb.ci (j := 2) (by omega)
                  have m3 := hsb.ci (j := 3) (by omega)
                  have m4 := hsb.ci (j := 4) (by omega)
                  have m5 := hsb.ci (j := 5) (by omega)
                  have n0 := hsb.ch (j := 0) (by omega)
                  have n1 := hsb.ch (j := 1) (by omega)
                  have n2 := hsb.ch (j := 2) (by omega)
                  have n3 := hsb.ch (j := 3) (by omega)
                  have n4 := hsb.ch (j := 4) (by omega)
                  have n5 := hsb.ch (j := 5) (by omega)
                  have fh : ∀ i, W1.frozen? ⟨H, i, none⟩ = false := fun i => block_free hsb.h
                  clear h1 hsb hsa hG l0 l1 l2 l3 l4 l5 t0 t1 t2 t3 t4 t5 ft
                  go_wp2_with fail
                  go_meet
                  exact HL
              case rest =>
                have HBl := hide (balances_any (unhide hcut).bk.book)
                clear HC
                go_wp2_with fail
                refine (unhide HBl).mono ?_
                rintro e w9 ⟨rfl, hb9⟩
                have hL9 := (unhide hcut).later hb9
                obtain ⟨z, hze⟩ : ∃ z, xE E' = z := ⟨_, rfl⟩
                obtain ⟨v, hve⟩ : ∃ y : Nat → Bool, (fun i => (fE E' i).isSome) = y := ⟨_, rfl⟩
                have ex : arr6 (balV E') = #[.int .u64 (z 0), .int .u64 (z 1), .int .u64 (z 2), .int .u64 (z 3), .int .u64 (z 4), .int .u64 (z 5)] := by rw [← hze]; rfl
                have ey : arr6 (isV E') = #[.bool (v 0), .bool (v 1), .bool (v 2), .bool (v 3), .bool (v 4), .bool (v 5)] := by rw [← hve]; rfl
                rw [ex, ey]
                have n9 := heap_next (o := Obj.cells #[Value.bool (v 0), Value.bool (v 1), Value.bool (v 2), Value.bool (v 3), Value.bool (v 4), Value.bool (v 5)] 35) (heap_alloc_new w9 (Obj.cells #[Value.int IntKind.u64 (z 0), Value.int IntKind.u64 (z 1), Value.int IntKind.u64 (z 2), Value.int IntKind.u64 (z 3), Value.int IntKind.u64 (z 4), Value.int IntKind.u64 (z 5)] 34))
                have v9 := heap_new1 w9 (Obj.cells #[Value.int IntKind.u64 (z 0), Value.int IntKind.u64 (z 1), Value.int IntKind.u64 (z 2), Value.int IntKind.u64 (z 3), Value.int IntKind.u64 (z 4), Value.int IntKind.u64 (z 5)] 34) (Obj.cells #[Value.bool (v 0), Value.bool (v 1), Value.bool (v 2), Value.bool (v 3), Value.bool (v 4), Value.bool (v 5)] 35)
                have hL10 := hL9.later (((Below.refl _ _).alloc (Nat.le_refl _) (Obj.cells #[Value.int IntKind.u64 (z 0), Value.int IntKind.u64 (z 1), Value.int IntKind.u64 (z 2), Value.int IntKind.u64 (z 3), Value.int IntKind.u64 (z 4), Value.int IntKind.u64 (z 5)] 34)).alloc (by simp) (Obj.cells #[Value.bool (v 0), Value.bool (v 1), Value.bool (v 2), Value.bool (v 3), Value.bool (v 4), Value.bool (v 5)] 35))
                clear hL9 HBl hcut hb9
                go_upto_region 50 with fail
                generalize ((w9.alloc (Obj.cells #[Value.int IntKind.u64 (z 0), Value.int IntKind.u64 (z 1), Value.int IntKind.u64 (z 2), Value.int IntKind.u64 (z 3), Value.int IntKind.u64 (z 4), Value.int IntKind.u64 (z 5)] 34)).alloc (Obj.cells #[Value.bool (v 0), Value.bool (v 1), Value.bool (v 2), Value.bool (v 3), Value.bool (v 4), Value.bool (v 5)] 35)) = W10 at *
                generalize w9.heap.size + 1 = Y at *
                generalize w9.heap.size = X at *
                have hT := hL10.t
                have hH := hL10.h
                rw [ex] at hT
                rw [ey] at hH
                generalize z 0 = z0 at *
                generalize z 1 = z1 at *
                generalize z 2 = z2 at *
                generalize z 3 = z3 at *
                generalize z 4 = z4 at *
                generalize z 5 = z5 at *
                generalize v 0 = v0 at *
                generalize v 1 = v1 at *
                generalize v 2 = v2 at *
                generalize v 3 = v3 at *
                generalize v 4 = v4 at *
                generalize v 5 = v5 at *
                have a0 : W10.cell? ⟨X, 0, none⟩ = some (.int .u64 z0) := block_cell n9
                have a1 : W10.cell? ⟨X, 1, none⟩ = some (.int .u64 z1) := block_cell n9
                have a2 : W10.cell? ⟨X, 2, none⟩ = some (.int .u64 z2) := block_cell n9
                have a3 : W10.cell? ⟨X, 3, none⟩ = some (.int .u64 z3) := block_cell n9
                have a4 : W10.cell? ⟨X, 4, none⟩ = some (.int .u64 z4) := block_cell n9
                have a5 : W10.cell? ⟨X, 5, none⟩ = some (.int .u64 z5) := block_cell n9
                have b0 : W10.cell? ⟨T, 0, none⟩ = some (.int .u64 z0) := block_cell hT
                have b1 : W10.cell? ⟨T, 1, none⟩ = some (.int .u64 z1) := block_cell hT
                have b2 : W10.cell? ⟨T, 2, none⟩ = some (.int .u64 z2) := block_cell hT
                have b3 : W10.cell? ⟨T, 3, none⟩ = some (.int .u64 z3) := block_cell hT
                have b4 : W10.cell? ⟨T, 4, none⟩ = some (.int .u64 z4) := block_cell hT
                have b5 : W10.cell? ⟨T, 5, none⟩ = some (.int .u64 z5) := block_cell hT
                have c0 : W10.cell? ⟨Y, 0, none⟩ = some (.bool v0) := block_cell v9
                have c1 : W10.cell? ⟨Y, 1, none⟩ = some (.bool v1) := block_cell v9
                have c2 : W10.cell? ⟨Y, 2, none⟩ = some (.bool v2) := block_cell v9
                have c3 : W10.cell? ⟨Y, 3, none⟩ = some (.bool v3) := block_cell v9
                have c4 : W10.cell? ⟨Y, 4, none⟩ = some (.bool v4) := block_cell v9
                have c5 : W10.cell? ⟨Y, 5, none⟩ = some (.bool v5) := block_cell v9
                have d0 : W10.cell? ⟨H, 0, none⟩ = some (.bool v0) := block_cell hH
                have d1 : W10.cell? ⟨H, 1, none⟩ = some (.bool v1) := block_cell hH
                have d2 : W10.cell? ⟨H, 2, none⟩ = some (.bool v2) := block_cell hH
                have d3 : W10.cell? ⟨H, 3, none⟩ = some (.bool v3) := block_cell hH
                have d4 : W10.cell? ⟨H, 4, none⟩ = some (.bool v4) := block_cell hH
                have d5 : W10.cell? ⟨H, 5, none⟩ = some (.bool v5) := block_cell hH
                have hq1 := eql_six W10 z0 z1 z2 z3 z4 z5
                have hq2 := eql_sixb W10 v0 v1 v2 v3 v4 v5
                have HB10 := hide hL10.bk
                clear n9 v9 hT hH hL10 hze hve ex ey
                go_wp2
                go_roundw
                case rel => exact ⟨k + 1, by omega, by go_num, E', unhide HB10⟩
                case measure => simp [intOf]; omega
      · have i1 : (k : Int) < (len : Int) := by omega
        have i2 : ¬ (k : Int) < 60 := by omega
        have HB := hide hI.below
        clear hI
        go_wp2
        go_ret
        exact ⟨rfl, unhide HB⟩
    · have i1 : ¬ (k : Int) < (len : Int) := by omega
      have HB := hide hI.below
      clear hI
      go_wp2
      go_ret
      exact ⟨rfl, unhide HB⟩

end Go.Proofs.Ytbjobbkgelipmaa
