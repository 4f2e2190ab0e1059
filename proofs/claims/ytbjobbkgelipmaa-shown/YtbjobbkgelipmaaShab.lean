/-
  The walk of tithekeep's Shown.
-/
import Derived.Test.YtbjobbkgelipmaaShaa
namespace Go.Proofs.Ytbjobbkgelipmaa
open Go.RowKit

theorem Try.infoBytes : (Try.prog.info? 43).map (fun i => (i.zero, i.size, i.bytes)) = some (some (.slice none 0 0), 1, 24) := by kernel_rfl

/-- The proofs gathered so far. -/
structure SR (N : Nat) (ls : List LeafD) (h k : Nat) (rows : List (List UInt8 × Nat × Nat)) (v : Value) (W : World) : Prop where
  own : W.ownsRow N 43 1 v rows.length (rows.map fun r => Value.slice (some ⟨r.2.1, 0, none⟩) r.1.length r.2.2)
  mem : ∀ r ∈ rows, (r.1.length ≤ r.2.2 ∧ r.2.2 ≤ 9223372036854775807) ∧ r.2.1 < W.heap.size ∧ BytesAt W r.2.1 0 r.1 ∧ 0 < r.1.length ∧ ∃ p x j, j < k ∧ HonAt ls h p x ∧ r.1 = honP ls h p x ∧ x.nm = nmB j
  nodup : (rows.map fun r => accName r.1).Nodup
  len : rows.length ≤ k
  nl : rows = [] → v = .slice none 0 0

theorem SR.later {N : Nat} {ls : List LeafD} {h k : Nat} {rows : List (List UInt8 × Nat × Nat)} {v : Value} {W W' : World} (s : SR N ls h k rows v W) (hb : Below W.heap.size W W') : SR N ls h k rows v W' := by
  refine ⟨⟨s.own.1, ?_⟩, fun r hr => ?_, s.nodup, s.len, s.nl⟩
  · rcases s.own.2 with h0 | ⟨g, cap, cur, e1, e2, e3, e4⟩
    · exact .inl h0
    · exact .inr ⟨g, cap, cur, e1, e2, (hb.block _ (Array.getElem?_eq_some_iff.1 e3).1).trans e3, e4⟩
  · obtain ⟨h1, h2, h3, h4⟩ := s.mem r hr
    exact ⟨h1, Nat.lt_of_lt_of_le h2 hb.size, h3.below hb h2, h4⟩
theorem SR.up {N : Nat} {ls : List LeafD} {h k : Nat} {rows : List (List UInt8 × Nat × Nat)} {v : Value} {W : World} (s : SR N ls h k rows v W) : SR N ls h (k + 1) rows v W :=
  ⟨s.own, fun r hr => by
    obtain ⟨h1, h2, h3, h4, p, x, j, h5, h6⟩ := s.mem r hr
    exact ⟨h1, h2, h3, h4, p, x, j, by omega, h6⟩, s.nodup, by have := s.len; omega, s.nl⟩
/-- One proof more. -/
theorem SR.snoc {N : Nat} {ls : List LeafD} {h k : Nat} {rows : List (List UInt8 × Nat × Nat)} {v v' : Value} {W W' : World} (hk : k < 6) (s : SR N ls h k rows v W) {P : List UInt8} {g c : Nat} (hc : P.length ≤ c ∧ c ≤ 9223372036854775807) (hg : g < W.heap.size) (hB : BytesAt W g 0 P) (h0 : 0 < P.length) {p : Nat} {x : LeafD} (a : HonAt ls h p x) (hP : P = honP ls h p x) (hx : x.nm = nmB k)
    (ho : W'.ownsRow N 43 1 v' (rows.length + 1) ((rows.map fun r => Value.slice (some ⟨r.2.1, 0, none⟩) r.1.length r.2.2) ++ [.slice (some ⟨g, 0, none⟩) P.length c])) (hgr : W.grownBy W' v.ownBlock) : SR N ls h (k + 1) (rows ++ [(P, g, c)]) v' W' := by
  have keep : ∀ (g' : Nat) (l : List UInt8), g' < W.heap.size → 0 < l.length → BytesAt W g' 0 l → BytesAt W' g' 0 l := fun g' l hg' hl hb j hj => by
    have hne : v.ownBlock ≠ some g' := fun e => by
      cases hr : rows with
      | nil => rw [s.nl hr] at e; cases e
      | cons r t =>
        rcases s.own.2 with ⟨e1, _⟩ | ⟨q, cap, cur, e1, _, e3, _, _, e6, e7⟩
        · rw [e1] at e; cases e
        · rw [e1] at e
          have e' : q = g' := Option.some.inj e
          subst e'
          have h1 := hb 0 hl
          rw [block_cell e3] at h1
          have e8 : (cur.toList.take (rows.length * 1))[0]? = cur[0]? := by rw [List.getElem?_take, if_pos (by rw [hr]; simp)]; simp
          rw [Nat.zero_add, ← e8, e7, hr] at h1
          simp at h1
    exact (World.cell?_of_block (w := W) (hgr.block g' hg' (fun e => hne e.symm))).trans (hb j hj)
  have hname : accName P = (nmB k).data.toList := by rw [hP, a.name, hx]
  refine ⟨?_, fun r hr => ?_, ?_, ?_, fun e => by simp at e⟩
  · rw [List.length_append, List.map_append]
    exact ho
  · rcases List.mem_append.1 hr with hr | hr
    · obtain ⟨h1, h2, h3, h4, p', x', j, h5, h6⟩ := s.mem r hr
      exact ⟨h1, Nat.lt_of_lt_of_le h2 hgr.size, keep _ _ h2 h4 h3, h4, p', x', j, by omega, h6⟩
    · rw [List.mem_singleton] at hr
      subst hr
      exact ⟨hc, Nat.lt_of_lt_of_le hg hgr.size, keep _ _ hg h0 hB, h0, p, x, k, by omega, a, hP, hx⟩
  · rw [List.map_append, List.nodup_append]
    refine ⟨s.nodup, by simp, fun n hn m hm e => ?_⟩
    simp only [List.map_cons, List.map_nil, List.mem_singleton] at hm
    obtain ⟨r, hr, rfl⟩ := List.mem_map.1 hn
    obtain ⟨_, _, _, _, p', x', j, h5, h6, h7, h8⟩ := s.mem r hr
    have hj : accName r.1 = (nmB j).data.toList := by rw [h7, h6.name, h8]
    rw [hj, hm, hname] at e
    have := nmB_inj j (by omega) k hk e
    omega
  · rw [List.length_append]
    have := s.len
    simp
    exact this

/-- Where the proofs lie. -/
theorem SR.slice {N : Nat} {ls : List LeafD} {h k : Nat} {rows : List (List UInt8 × Nat × Nat)} {v : Value} {W : World} (s : SR N ls h k rows v W) : ∃ a c, v = .slice a rows.length c ∧ (0 < rows.length → ∃ g, a = some ⟨g, 0, none⟩ ∧ g < W.heap.size ∧ ∀ j (hj : j < rows.length), W.cell? ⟨g, 0 + j, none⟩ = some (.slice (some ⟨rows[j].2.1, 0, none⟩) rows[j].1.length rows[j].2.2)) := by
  rcases s.own.2 with ⟨e1, e2⟩ | ⟨g, cap, cur, e1, _, e3, _, _, e6, e7⟩
  · exact ⟨none, 0, by rw [e2]; exact e1, fun h => by omega⟩
  · refine ⟨some ⟨g, 0, none⟩, cap, e1, fun _ => ⟨g, rfl, (Array.getElem?_eq_some_iff.1 e3).1, fun j hj => ?_⟩⟩
    rw [Nat.zero_add, block_cell e3]
    have e8 : (cur.toList.take (rows.length * 1))[j]? = cur[j]? := by rw [List.getElem?_take, if_pos (by omega)]; simp
    rw [← e8, e7, List.getElem?_map, List.getElem?_eq_getElem hj]
    rfl

set_option maxHeartbeats 8000000 in
set_option maxRecDepth 100000 in
theorem shown_any (K : SortK) (height seed : Int) (a1 a2 : Option Addr) (len1 cap1 len2 cap2 : Nat) (xs1 xs2 : List MoveD) (w : World) (hh1 : -9223372036854775808 ≤ height) (hh2 : height < 9223372036854775808)
    (hl1 : xs1.length = len1) (hl1' : len1 < 9223372036854775807) (hM1 : 0 < len1 → ∃ b off, a1 = some ⟨b, off, none⟩ ∧ MovesAt w b off xs1) (hl2 : xs2.length = len2) (hl2' : len2 < 9223372036854775807) (hM2 : 0 < len2 → ∃ b off, a2 = some ⟨b, off, none⟩ ∧ MovesAt w b off xs2) :
    Calls Try.prog 4 #[.int .i64 height, .int .u64 seed, .slice a1 len1 cap1, .slice a2 len2 cap2] w fun e w' => e = .returned (.bool true) ∧ Below w.heap.size w w' := by
  have HK := hide (known_any K w)
  have HKS := hide K
  have HM1 := hide (And.intro hl1 hM1)
  have HM2 := hide (And.intro hl2 hM2)
  have HPK := fun w => hide (pick_any height 4 w hh1 hh2 (by omega) (by omega))
  have hr := pick_range height 4 (by omega)
  generalize pickI height 4 = p0 at *
  obtain ⟨p, rfl⟩ : ∃ p : Nat, p0 = (p : Int) := ⟨p0.toNat, by omega⟩
  obtain ⟨h, hh⟩ : ∃ h : Nat, h = 3 + p := ⟨_, rfl⟩
  have h3 : 3 ≤ h := by omega
  have h6 : h ≤ 6 := by omega
  have hw3 : IntKind.i64.wrap (3 + (p : Int)) = (h : Int) := by rw [IntKind.wrap_i64]; omega
  clear K hM1 hM2 hl1 hl2 hr hh
  go_enter Try.func4, Try.ntmps4
  go_wp2_with fail
  refine (unhide HK).mono ?_
  rintro e w1 ⟨rfl, hb1⟩
  have HN := hide (new_good (h : Int) seed w1 (by omega) (by omega))
  unfold cfgV at HN
  have HB1 := hide hb1
  clear HK hb1
  go_wp2_with fail
  refine (unhide (HPK _)).mono ?_
  rintro e w1 ⟨rfl, rfl⟩
  go_wp2_with fail
  refine (unhide HN).mono ?_
  rintro e w2 ⟨rfl, hB2, hb2⟩
  have hI2 : BkI w w2 (w1.heap.size + 2) (w1.heap.size + 1) (h : Int) seed none [] := ⟨hB2, fun k hk => by have := (unhide HB1).size; simp [blksE] at hk; omega, fun a ha => (by cases ha), (unhide HB1).trans (hb2.mono (unhide HB1).size)⟩
  generalize w1.heap.size + 2 = B at *
  generalize w1.heap.size + 1 = M at *
  have HPE := hide (bproof_early hI2.book.toBookT ⟨#[97]⟩)
  have HD1 := hide (does_any hI2 a1 len1 cap1 xs1 (unhide HM1).1 hl1' (unhide HM1).2)
  clear HN hB2 hb2 HB1 hI2 HM1 HPK
  go_wp2_with fail
  refine (unhide HPE).mono ?_
  rintro e w2 ⟨rfl, rfl⟩
  go_wp2_with fail
  refine (unhide HD1).mono ?_
  rintro e w3 ⟨rfl, ⟨E, hI3⟩, _⟩
  have HBl := hide (balances_any hI3.book)
  have HI3 := hide hI3
  clear HD1 HPE hI3
  go_wp2_with fail
  refine (unhide HBl).mono ?_
  rintro e w4 ⟨rfl, hb4⟩
  have hI4 := (unhide HI3).later hb4
  obtain ⟨x, hxe⟩ : ∃ x, xE E = x := ⟨_, rfl⟩
  obtain ⟨y, hye⟩ : ∃ y : Nat → Bool, (fun i => (fE E i).isSome) = y := ⟨_, rfl⟩
  have ex : arr6 (balV E) = #[.int .u64 (x 0), .int .u64 (x 1), .int .u64 (x 2), .int .u64 (x 3), .int .u64 (x 4), .int .u64 (x 5)] := by rw [← hxe]; rfl
  have ey : arr6 (isV E) = #[.bool (y 0), .bool (y 1), .bool (y 2), .bool (y 3), .bool (y 4), .bool (y 5)] := by rw [← hye]; rfl
  rw [ex, ey]
  have hb5 : Below w4.heap.size w4 ((w4.alloc (Obj.cells (arr6 (iX x)) 34)).alloc (Obj.cells (arr6 (bY y)) 35)) := ((Below.refl _ _).alloc (Nat.le_refl _) _).alloc (by simp) _
  have hL5 := heap_next (o := Obj.cells (arr6 (bY y)) 35) (heap_alloc_new w4 (Obj.cells (arr6 (iX x)) 34))
  have hJ5 := heap_new1 w4 (Obj.cells (arr6 (iX x)) 34) (Obj.cells (arr6 (bY y)) 35)
  have hI5 := hI4.later hb5
  have HXY := hide (And.intro hxe hye)
  clear HBl HI3 hb4 hI4 ex ey hxe hye
  unfold arr6 iX bY at hL5 hJ5 hI5 hb5
  go_upto_region 10 with fail
  generalize ((w4.alloc (Obj.cells #[Value.int IntKind.u64 (x 0), Value.int IntKind.u64 (x 1), Value.int IntKind.u64 (x 2), Value.int IntKind.u64 (x 3), Value.int IntKind.u64 (x 4), Value.int IntKind.u64 (x 5)] 34)).alloc (Obj.cells #[Value.bool (y 0), Value.bool (y 1), Value.bool (y 2), Value.bool (y 3), Value.bool (y 4), Value.bool (y 5)] 35)) = W5 at *
  generalize w4.heap.size + 1 = J at *
  generalize w4.heap.size = L at *
  have hls := lsok_of (h := h) hI5 h3 h6
  have hlE := ofSix_len hI5.book.names hI5.six
  have h8 : 2 ^ 3 ≤ 2 ^ h := Nat.pow_le_pow_right (by omega) h3
  have HU := hide (publish_ok (h := h) (unhide HKS) hI5.book h6 (by omega) (fun a ha => by
    obtain ⟨j, hj, hn⟩ := hI5.six a ha
    rw [hn]
    have := (nmB_small j hj).1
    simpa using this))
  have HI5 := hide (And.intro hI5 (And.intro hL5 hJ5))
  have HLS := hide hls
  clear hls hlE h8 HKS hL5 hJ5 hI5 hb5
  obtain ⟨ls, hlsE⟩ : ∃ ls, leavesE seed E E.length = ls := ⟨_, rfl⟩
  rw [hlsE] at HU HLS
  have HLE := hide hlsE
  clear hlsE
  go_wp2_with fail
  refine (unhide HU).mono ?_
  rintro e w6 ⟨⟨vr, T, tb, tc, V, vc, gs, rfl, hown6, hB6, hT6, _⟩, hk6⟩
  obtain ⟨hI5, hL5, hJ5⟩ := unhide HI5
  have hlow : w.heap.size ≤ B := hI5.low B (by simp [blksE])
  have hE1 := hI5.book.names
  have hB6w : Below w.heap.size w w6 := hI5.below.trans (hk6.below hI5.below.size (fun k hk => by simp at hk; omega))
  have hI6 : BkI w w6 B M (h : Int) seed (some ⟨T, 0, none⟩) E := ⟨hB6, hI5.low, hI5.six, hB6w⟩
  have hL6 := (hk6.block L (Array.getElem?_eq_some_iff.1 hL5).1 (by simpa using cells_ne hL5 hI5.book.blk (by decide))).trans hL5
  have hJ6 := (hk6.block J (Array.getElem?_eq_some_iff.1 hJ5).1 (by simpa using cells_ne hJ5 hI5.book.blk (by decide))).trans hJ5
  have hlr : (reportB ls h).length = 12 := by unfold reportB; rw [List.length_cons, sideB_length]
  obtain ⟨g1, c1, rfl, hg1w, hg1, hc1, hc1', hY1⟩ := own_bytes hown6 (by omega)
  have hst : six x = sumE E ∧ six x ≤ maxS := by
    have := hI5.total
    rw [(unhide HXY).1] at this
    exact ⟨this, this ▸ hI5.book.sum⟩
  have hsx : ∀ i, 0 ≤ x i := fun i => by
    rw [← (unhide HXY).1]
    unfold xE fE balE
    cases hl : lookE E (nmB i).data.toList with
    | none => exact Int.le_refl _
    | some a => exact hI5.book.pos a (lookE_name hl).1
  have cl : ∀ j, j < 6 → w6.cell? ⟨L, j, none⟩ = some (.int .u64 (x j)) := fun j hj => by
    rw [block_cell hL6]
    match j, hj with
    | 0, _ => rfl
    | 1, _ => rfl
    | 2, _ => rfl
    | 3, _ => rfl
    | 4, _ => rfl
    | 5, _ => rfl
  have HI6 := hide (And.intro hI6 (And.intro hL6 (And.intro hJ6 (And.intro hT6 (And.intro hY1 hg1)))))
  have HSX := hide (And.intro hsx hst)
  have HCL := hide cl
  clear HU HI5 hI5 hL5 hJ5 hown6 hB6 hT6 hk6 hI6 hL6 hJ6 hY1 hsx hst cl hB6w
  go_wp2_with fail
  go_loopw [19, 18] (fun j t wr' => ∃ m : Nat, m ≤ 6 ∧ j = .int .i64 m ∧ t = .int .u64 (sixTo x m) ∧ wr' = w6) (fun j _ _ => 6 - (intOf j).toNat)
  case atStart => exact ⟨0, by omega, rfl, rfl, rfl⟩
  case round =>
    obtain ⟨m, hm, rfl, rfl, rfl⟩ := hrel
    by_cases hm6 : m < 6
    · have cm := unhide HCL m hm6
      have hle := sixTo_le x (unhide HSX).1 hm6
      have hmx := (unhide HSX).2.2
      have hwr : IntKind.u64.wrap (sixTo x m + x m) = sixTo x (m + 1) := by
        rw [IntKind.wrap_u64]
        show _ = sixTo x m + x m
        have h0 := (unhide HSX).1 m
        unfold maxS at hmx
        omega
      have im : (m : Int) < 6 := by omega
      clear hle hmx
      go_wp2
      refine ⟨⟨m + 1, by omega, by go_num, rfl, trivial⟩, by simp [intOf]; omega⟩
    · have hmm : m = 6 := by omega
      subst hmm
      clear hm hm6
      rw [sixTo_six]
      obtain ⟨R, hR⟩ : ∃ R, reportB ls h = R := ⟨_, rfl⟩
      have hrr := rep_root (unhide HLS)
      rw [hR] at hlr hrr
      have hcl : ∀ j (hj : j < R.length), wr.cell? ⟨g1, j, none⟩ = some (.int .u8 (R[j].toNat : Int)) := fun j hj => by
        have := (unhide HI6).2.2.2.2.1
        rw [hR] at this
        have h2 := this j hj
        rwa [Nat.zero_add] at h2
      have hsum : six x = numB ((R.drop 4).take 8) := by
        have h1 : (repRoot R).2 = numB ((R.drop 4).take 8) := rfl
        rw [← h1, hrr.1, hrr.2.1, (unhide HSX).2.1, ← unhide HLE, leaves_sum]
      have HCR := hide hcl
      have HSM := hide hsum
      have HRR := hide (And.intro hR hrr)
      clear hcl hsum hrr hR HCL
      generalize six x = sx at *
      go_wp2_with fail
      go_loopw [21, 20] (fun i q wx => ∃ j : Nat, 4 ≤ j ∧ j ≤ 12 ∧ i = .int .i64 j ∧ q = .int .u64 (numB ((R.drop 4).take (j - 4))) ∧ wx = wr) (fun i _ _ => 12 - (intOf i).toNat)
      case atStart => exact ⟨4, by omega, by omega, rfl, rfl, rfl⟩
      case round =>
        obtain ⟨j, hj4, hj12, rfl, rfl, rfl⟩ := hrel
        by_cases hj : j < 12
        · have hjl : j < R.length := by omega
          have hcj := unhide HCR j hjl
          have ij : (j : Int) < 12 := by omega
          have hd : (R.drop 4)[j - 4]'(by rw [List.length_drop]; omega) = R[j] := by
            rw [List.getElem_drop]
            congr 1
            omega
          have hor := or_step (R.drop 4) (j - 4) (by omega) (by rw [List.length_drop]; omega)
          rw [hd, show j - 4 + 1 = j + 1 - 4 by omega] at hor
          have HOR := hide hor
          generalize numB ((R.drop 4).take (j - 4)) = N4 at *
          generalize (R[j].toNat : Int) = bj at *
          clear hd hor
          go_wp2
          go_roundw
          case rel => exact ⟨j + 1, by omega, by omega, by go_num, by rw [← unhide HOR], trivial⟩
          case measure => simp [intOf]; omega
        · have hjj : j = 12 := by omega
          subst hjj
          rw [show 12 - 4 = 8 from rfl, ← unhide HSM]
          have HD2 := hide (does_any (unhide HI6).1 a2 len2 cap2 xs2 (unhide HM2).1 hl2' (unhide HM2).2)
          clear HCR HSM HM2 hj hj12 hj4
          go_wp2_with fail
          refine (unhide HD2).mono ?_
          rintro e w7 ⟨rfl, ⟨E2, hI7⟩, hKp, hKq⟩
          obtain ⟨hI6, hL6, hJ6, hT6, hY6, hg6⟩ := unhide HI6
          have hL7 := hKp.1 L _ _ (by decide) (by decide) hL6
          have hJ7 := hKp.1 J _ _ (by decide) (by decide) hJ6
          have hT7 := hT6.kq hKq hKp.2
          rw [(unhide HRR).1] at hY6
          have hY7 : BytesAt w7 g1 0 R := by
            have h0 := hY6 0 (by omega)
            rw [Nat.zero_add] at h0
            have hb := hKq g1 _ h0 (fun m h => by cases h) (fun m h => by cases h)
            exact fun j hj => (World.cell?_of_block (w := wr) hb).trans (hY6 j hj)
          have hg7 : g1 < w7.heap.size := Nat.lt_of_lt_of_le hg6 hKp.2
          have HI7 := hide (And.intro hI7 (And.intro hL7 (And.intro hJ7 (And.intro hT7 (And.intro hY7 hg7)))))
          have HS0 : Hid (SR w7.heap.size ls h 0 [] (.slice none 0 0) w7) := ⟨⟨rfl, .inl ⟨rfl, rfl⟩⟩, fun r hr => (by cases hr), by simp, Nat.le_refl _, fun _ => rfl⟩
          clear HD2 HI6 hI6 hL6 hJ6 hT6 hY6 hg6 hI7 hL7 hJ7 hT7 hY7 hg7 hKp hKq
          go_wp2_with fail
          go_loopw [23, 22, 24, 25, 26, 27, 28] (fun i pv _ _ _ _ _ wx => ∃ k rows, k ≤ 6 ∧ i = .int .i64 (k : Nat) ∧ SR w7.heap.size ls h k rows pv wx ∧ Below w7.heap.size w7 wx) (fun i _ _ _ _ _ _ _ => 6 - (intOf i).toNat)
          case atStart => exact ⟨0, [], by omega, rfl, unhide HS0, Below.refl _ _⟩
          case round =>
            obtain ⟨k, rows, hk, rfl, hSR, hbw⟩ := hrel
            clear HS0
            obtain ⟨hI7, hL7, hJ7, hT7, hY7, hg7⟩ := unhide HI7
            by_cases hk6 : k < 6
            · have HNK := fun w => hide (name_any (k : Int) w (by omega) (by omega))
              rw [pick_same (k : Int) 6 (by omega) (by omega), Int.toNat_natCast] at HNK
              have HPF := hide (fun W (hb : Below w7.heap.size w7 W) => khon_any (hI7.book.toBookT.later hb) (hT7.later hb) (nmB k) (unhide HLS))
              have hns := nmB_small k hk6
              have ik : (k : Int) < 6 := by omega
              have hblk : ∀ W, Below w7.heap.size w7 W → W.cell? ⟨J, k, none⟩ = some (.bool (y k)) ∧ W.cell? ⟨L, k, none⟩ = some (.int .u64 (x k)) := fun W hb =>
                ⟨(block_cell ((hb.block J (Array.getElem?_eq_some_iff.1 hJ7).1).trans hJ7)).trans (arr6_at (bY y) hk6), (block_cell ((hb.block L (Array.getElem?_eq_some_iff.1 hL7).1).trans hL7)).trans (arr6_at (iX x) hk6)⟩
              have hyk : y k = (fE E k).isSome := by rw [← (unhide HXY).2]
              have hxk : x k = xE E k := by rw [(unhide HXY).1]
              have hnames := hI7.book.names
              have HBK := hide hblk
              have HSR := hide (And.intro hSR hbw)
              have HYX := hide (And.intro hyk hxk)
              have HY7 := hide (And.intro hY7 hg7)
              clear hI7 hL7 hJ7 hT7 hY7 hg7 hblk hSR hbw hyk hxk
              generalize hnk : nmB k = nk at *
              go_wp2_with fail
              refine (unhide (HNK _)).mono ?_
              rintro e w8 ⟨rfl, hb8⟩
              have hb78 : Below w7.heap.size w7 w8 := (unhide HSR).2.trans (hb8.mono (unhide HSR).2.size)
              have HPF8 := hide (unhide HPF w8 hb78)
              have HSR8 := hide (And.intro ((unhide HSR).1.later hb8) hb78)
              clear HPF hb8 hb78 HSR
              go_wp2_with fail
              refine (unhide HPF8).mono ?_
              rintro e w9 ⟨hb9, hcs⟩
              have hb79 : Below w7.heap.size w7 w9 := (unhide HSR8).2.trans (hb9.mono (unhide HSR8).2.size)
              have HSR9 := hide (And.intro ((unhide HSR8).1.later hb9) hb79)
              obtain ⟨cj, cL⟩ := unhide HBK w9 hb79
              clear HPF8 HSR8
              rcases hcs with ⟨hno, rfl⟩ | ⟨p', x', v, hon, hxn, rfl, hPl, hown9⟩
              · have hyf : y k = false := by
                  rw [(unhide HYX).1]
                  have hfn := leaf_none (seed := seed) (E := E) (i := k) (by rw [unhide HLE, hnk]; exact hno)
                  rw [hfn]
                  rfl
                rw [hyf] at cj
                have HF := hide (And.intro (unhide HSR9).1.up (unhide HSR9).2)
                clear hb9 hb79 HSR9 HYX hno cL
                go_wp2
                go_roundw
                case rel => exact ⟨k + 1, rows, by omega, by go_num, (unhide HF).1, (unhide HF).2⟩
                case measure => simp [intOf]; omega
              · have hxm : x' ∈ ls := List.mem_of_getElem? hon.at_
                have hyt : y k = true ∧ x k = x'.bal := by
                  have hfs := leaf_look (seed := seed) (E := E) hE1 (x := x') (by rw [unhide HLE]; exact hxm) (i := k) (by rw [hnk]; exact hxn)
                  rw [(unhide HYX).1, (unhide HYX).2]
                  unfold xE
                  rw [hfs]
                  exact ⟨rfl, rfl⟩
                rw [hyt.1] at cj
                obtain ⟨P, hP⟩ : ∃ P, honP ls h p' x' = P := ⟨_, rfl⟩
                obtain ⟨n, hnn⟩ : ∃ n, nk.size + 19 + 11 * h = n := ⟨_, rfl⟩
                rw [hP, hnn] at hPl hown9
                obtain ⟨g2, c2, rfl, hg2w, hg2, hc2, hc2', hY2⟩ := own_bytes hown9 (by omega)
                obtain ⟨hRR, _, _, hrh, hrok⟩ := unhide HRR
                have hV := ownver_caps R P g1 g2 c1 c2 w9 (by omega) hc1' (by omega) (fun h => by omega) hc2' (Nat.lt_of_lt_of_le (unhide HY7).2 hb79.size) hg2 ((unhide HY7).1.below hb79 (unhide HY7).2) hY2
                have hsaid := hon.said
                rw [hRR, hP, hxn] at hsaid
                rw [hsaid, hlr, hPl] at hV
                simp only at hV
                have hnke : (⟨nk.data.toList.toArray⟩ : ByteArray) = nk := by simp
                have hve : verV nk.data.toList x'.bal 0 = .tuple #[.string nk, .int .u64 x'.bal, .int .i64 0] := by unfold verV strV; rw [hnke]
                rw [hve] at hV
                have HV := hide hV
                have HPP := hide (And.intro hon (And.intro hP (And.intro hxn (And.intro hPl (And.intro hY2 hg2)))))
                have HYT := hide hyt
                obtain ⟨i0, hi, hz0, hz1, hz2⟩ := info_parts Try.infoBytes
                have hz7 := hb79.size
                clear hb9 hb79 HYX hown9 hV hsaid hve hnke hon hxn hPl hP hY2 hyt cL hRR hrh hrok
                go_wp2_with fail
                refine (unhide HV).mono ?_
                rintro e w10 ⟨rfl, hb10⟩
                have HSR10 := hide (And.intro ((unhide HSR9).1.later hb10) ((unhide HSR9).2.trans (hb10.mono hz7)))
                have HPP10 := hide (And.intro ((unhide HPP).2.2.2.2.1.below hb10 (unhide HPP).2.2.2.2.2) (Nat.lt_of_lt_of_le (unhide HPP).2.2.2.2.2 hb10.size))
                clear HV HSR9 hb10 cj
                go_wp2_with fail
                refine (unhide (HNK _)).mono ?_
                rintro e w11 ⟨rfl, hb11⟩
                have hb711 : Below w7.heap.size w7 w11 := (unhide HSR10).2.trans (hb11.mono (unhide HSR10).2.size)
                have cL := (unhide HBK w11 hb711).2
                rw [(unhide HYT).2] at cL
                have HSR11 := hide (And.intro ((unhide HSR10).1.later hb11) hb711)
                have HPP11 := hide (And.intro ((unhide HPP10).1.below hb11 (unhide HPP10).2) (Nat.lt_of_lt_of_le (unhide HPP10).2 hb11.size))
                have hz11 := hb711.size
                have hrl := (unhide HSR11).1.len
                clear HSR10 HPP10 hb11 hb711
                go_wp2_with (at_builtin; refine wpList_append_own _ rfl (.tmp 155) (.tmp 157) 49 rfl w7.heap.size 43 i0 (.slice none 0 0) 1 24 Try.underlying49 hi hz0 hz1 hz2 rfl (by decide) _ _ _ rfl ((unhide HSR11).1.own.alloc _) ⟨w11.heap.size, 0, none⟩ 1 1 [.slice (some ⟨g2, 0, none⟩) n c2] rfl rfl (cell_one_new _ _ _) ?c2 ?c3 ?c4 ?c5 ?_)
                case c2 => intro u hu; simp at hu; subst hu; rfl
                case c3 => unfold maxLen; omega
                case c4 => omega
                case c5 => simp; omega
                intro v' w12 hown12 hgrow12 _
                have hba : Below w11.heap.size w11 (w11.alloc (Obj.cells #[Value.slice (some ⟨g2, 0, none⟩) n c2] 43)) := (Below.refl _ _).alloc (Nat.le_refl _) _
                obtain ⟨q1, q2, q3, q4, _⟩ := unhide HPP
                have hSR12 : SR w7.heap.size ls h (k + 1) (rows ++ [(P, g2, c2)]) v' w12 := ((unhide HSR11).1.later hba).snoc hk6 ⟨by omega, hc2'⟩ (Nat.lt_of_lt_of_le (unhide HPP11).2 hba.size) ((unhide HPP11).1.below hba (unhide HPP11).2) (by omega) q1 q2.symm (by rw [hnk]; exact q3) (by rw [q4]; exact hown12) hgrow12
                have hb12 : Below w7.heap.size w7 w12 := ((unhide HSR11).2.trans (hba.mono hz11)).grown hgrow12 (by have := hba.size; omega) (fun b hb => ((unhide HSR11).1.own.lt b hb).1)
                have HF := hide (And.intro hSR12 hb12)
                clear hSR12 hb12 hba hown12 hgrow12 q1 q2 q3 q4 HSR11 HPP11 HPP cL
                go_wp2
                go_roundw
                case rel => exact ⟨k + 1, _, by omega, by go_num, (unhide HF).1, (unhide HF).2⟩
                case measure => simp [intOf]; omega
            · have hkk : k = 6 := by omega
              subst hkk
              obtain ⟨a, c, rfl, hsl⟩ := hSR.slice
              obtain ⟨hRR, _, _, hrh, hrok⟩ := unhide HRR
              have hll : (rows.map Prod.fst).length = rows.length := List.length_map ..
              have hEx := extract_any R (rows.map Prod.fst) (.slice (some ⟨g1, 0, none⟩) R.length c1) a c (fun i => (some ⟨(rows.getD i ([], 0, 0)).2.1, 0, none⟩, (rows.getD i ([], 0, 0)).1.length, (rows.getD i ([], 0, 0)).2.2)) wr (by have := hSR.len; omega)
                (rdrep_all R g1 c1 wr (by omega) hc1' (Nat.lt_of_lt_of_le hg7 hbw.size) (hY7.below hbw hg7))
                (fun hok h0 => by
                  obtain ⟨g, e, hgl, hcell⟩ := hsl (by omega)
                  have hget : ∀ i (hi : i < rows.length), rows.getD i ([], 0, 0) = rows[i] := fun i hi => by rw [List.getD_eq_getElem?_getD, List.getElem?_eq_getElem hi]; rfl
                  refine ⟨g, 0, e, hgl, fun i hi => ?_, fun i hi W' hb' => ?_⟩
                  · have hi' : i < rows.length := by omega
                    simp only [hget i hi']
                    exact hcell i hi'
                  · have hi' : i < rows.length := by omega
                    simp only [hget i hi']
                    obtain ⟨m1, m2, m3, _⟩ := hSR.mem rows[i] (List.getElem_mem hi')
                    have := rdpr_all rows[i].2.1 rows[i].2.2 (repH R) rows[i].1 W' m1.1 (fun h => by omega) m1.2 hok.1.2 (Nat.lt_of_lt_of_le m2 hb'.size) (m3.below hb' m2)
                    rw [List.getElem_map]
                    exact this)
              have hfin : ∀ tx ty er, ExtAns R (rows.map Prod.fst) tx ty er → er = 0 ∧ tx = [] ∧ ty = [] := fun tx ty er hE => by
                rw [← hRR] at hE hrh hrok
                refine ext_honest hrok hrh (fun l hl => ?_) ?_ hE
                · obtain ⟨r, hr, rfl⟩ := List.mem_map.1 hl
                  obtain ⟨_, _, _, _, p', x', j, _, h6', h7', _⟩ := hSR.mem r hr
                  exact ⟨p', x', h6', h7'⟩
                · rw [List.map_map]
                  exact hSR.nodup
              rw [hll, hlr] at hEx
              have HEX := hide hEx
              have HFN := hide hfin
              have HBW := hide (hI7.below.trans (hbw.mono hI7.below.size))
              clear hI7 hL7 hJ7 hT7 hY7 hg7 hSR hbw hsl hll hEx hfin hRR hrh hrok
              go_wp2_with fail
              refine (unhide HEX).mono ?_
              rintro e w9 ⟨⟨v, u, tx, ty, er, rfl, hE, hT⟩, hb9⟩
              obtain ⟨rfl, rfl, rfl⟩ := unhide HFN tx ty er hE
              have hvu : v = .slice none 0 0 ∧ u = .slice none 0 0 := by
                rcases hT with ⟨_, _, h3, h4⟩ | ⟨h3, _⟩
                · exact ⟨h3, h4⟩
                · exact absurd rfl h3.1
              obtain ⟨rfl, rfl⟩ := hvu
              have HB9 := hide ((unhide HBW).trans (hb9.mono (unhide HBW).size))
              clear hE hT hb9 HEX HFN
              go_wp2
              go_ret
              exact ⟨rfl, unhide HB9⟩

end Go.Proofs.Ytbjobbkgelipmaa
