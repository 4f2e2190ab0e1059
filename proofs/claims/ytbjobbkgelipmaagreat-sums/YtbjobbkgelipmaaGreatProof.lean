/-
  The walk of titheref's Tree.Proof.
-/
import Derived.Test.YtbjobbkgelipmaaGreatReport
import Derived.Deep.DeepCutAuto
namespace Go.Proofs.YtbjobbkgelipmaaGreat
open Go.RowKit

/-- The place beside. -/
def sib (p : Nat) : Nat := if p % 2 = 1 then p - 1 else p + 1
/-- A proof's bytes, up to the k-th level. -/
def proofTo (ls : List LeafD) (h p : Nat) (x : LeafD) : Nat → List UInt8
  | 0 => [UInt8.ofNat h, UInt8.ofNat p] ++ leafB x.nm.data.toList x.bal x.salt
  | k + 1 => proofTo ls h p x k ++ sideB (sideT ls k (sib (p / 2 ^ k)))
theorem sideB_length (x : Dg × Int) : (sideB x).length = 11 := by simp [sideB, dgB, longB_length]
theorem proofTo_length (ls : List LeafD) (h p : Nat) (x : LeafD) : ∀ k, (proofTo ls h p x k).length = x.nm.size + 19 + 11 * k
  | 0 => by simp only [proofTo, List.length_append, leafB_length, List.length_cons, List.length_nil]; simp; omega
  | k + 1 => by rw [proofTo, List.length_append, sideB_length, proofTo_length ls h p x k]; omega

abbrev PrS (w : World) (b o A : Nat) (h : Int) (v : Value) (nm : ByteArray) (bal salt : Int) (w' : World) : Prop :=
  w'.cell? ⟨A, 0, none⟩ = some (.int .i64 h) ∧ w'.cell? ⟨A, 1, none⟩ = some v ∧ w'.cell? ⟨b, o, none⟩ = some (.string nm) ∧ w'.cell? ⟨b, o + 1, none⟩ = some (.int .u64 bal) ∧ w'.cell? ⟨b, o + 2, none⟩ = some (.int .u64 salt) ∧
    (A < w'.heap.size ∧ b < w'.heap.size) ∧ Below w.heap.size w w'
theorem PrS.keep {w W w4 : World} {b o A : Nat} {h : Int} {v : Value} {nm : ByteArray} {bal salt : Int} (hS : PrS w b o A h v nm bal salt W) (hw : w.heap.size ≤ A) (hb : Below W.heap.size W w4) : PrS w b o A h v nm bal salt w4 := by
  obtain ⟨h0, h0', h1, h2, h3, ⟨z0, z1⟩, h6⟩ := hS
  have := hb.size
  exact ⟨keepB hb z0 h0, keepB hb z0 h0', keepB hb z1 h1, keepB hb z1 h2, keepB hb z1 h3, ⟨by omega, by omega⟩, h6.trans (hb.mono (by omega))⟩

set_option maxRecDepth 100000 in
set_option maxHeartbeats 1000000 in
theorem proof_any (h b off cap p : Nat) (ls : List LeafD) (x : LeafD) (w : World) (hn : ls.length ≤ 1048576) (hh : h ≤ 6) (hl : LeavesAt w b off ls) (hx : ls[p]? = some x) (hp : p < 2 ^ h) :
    Calls Tryz.prog 11 #[treeV (h : Int) (some ⟨b, off, none⟩) ls.length cap, .int .i64 (p : Int)] w fun e w' => e = .returned (strV (proofTo ls h p x h)) ∧ Below w.heap.size w w' := by
  have hlt : p < ls.length := (List.getElem?_eq_some_iff.1 hx).1
  have hx' : ls[p] = x := (List.getElem?_eq_some_iff.1 hx).2
  obtain ⟨c0, c1, c2⟩ := hl.cells p hlt
  rw [hx'] at c0 c1 c2
  have hok := hl.ok x (List.mem_of_getElem? hx)
  have hbl := hl.lt
  have h64 : p < 64 := Nat.lt_of_lt_of_le hp (Nat.pow_le_pow_right (by omega) hh : 2 ^ h ≤ 2 ^ 6)
  obtain ⟨T, hT⟩ : ∃ T : ByteArray, T = ⟨(leafB x.nm.data.toList x.bal x.salt).toArray⟩ := ⟨_, rfl⟩
  have sT : T.size ≤ 100 := by
    have h8 : x.nm.size ≤ 8 := hok.1
    rw [hT]
    have e1 : (⟨(leafB x.nm.data.toList x.bal x.salt).toArray⟩ : ByteArray).size = (leafB x.nm.data.toList x.bal x.salt).length := by simp [ByteArray.size]
    rw [e1, leafB_length]
    have e2 : x.nm.data.toList.length = x.nm.size := by simp
    omega
  have HT : ∀ w, Hid (Calls Tryz.prog 16 #[.agg #[.string x.nm, .int .u64 x.bal, .int .u64 x.salt]] w fun e w' => e = .returned (.string T) ∧ Below w.heap.size w w') := fun w => by
    have := leaftext_any x.nm x.bal x.salt w hok.1 hok.2.1 hok.2.2.1 hok.2.2.2.1 hok.2.2.2.2
    rw [hT]; exact this
  obtain ⟨p1, hp1⟩ : ∃ p1 : ByteArray, p1 = ⟨#[UInt8.ofNat h, UInt8.ofNat p]⟩ := ⟨_, rfl⟩
  have hcv : ∀ b w, w.cell? ⟨b, 0, none⟩ = some (.int .u8 (h : Int)) → w.cell? ⟨b, 1, none⟩ = some (.int .u8 (p : Int)) → (convert 51 9 (.slice (some ⟨b, 0, none⟩) 2 2)).run Tryz.prog w = .ok (.string p1) w := by
    intro b w h0 h1
    have e : (p : Int) = ((UInt8.ofNat p).toNat : Int) := by rw [UInt8.toNat_ofNat_of_lt' (show p < 256 by omega)]
    have e' : (h : Int) = ((UInt8.ofNat h).toNat : Int) := by rw [UInt8.toNat_ofNat_of_lt' (show h < 256 by omega)]
    have hh := run_convert_bytes_back (P := Tryz.prog) w 51 9 5 ⟨b, 0, none⟩ 2 [UInt8.ofNat h, UInt8.ofNat p] Tryz.underlying51 Tryz.underlying5 Tryz.underlying9 (by
      intro j hj
      match j, hj with
      | 0, _ => rw [addr_add]; rw [h0]; exact congrArg (fun y => some (Value.int .u8 y)) e'
      | 1, _ => rw [addr_add]; rw [h1]; exact congrArg (fun y => some (Value.int .u8 y)) e)
    rw [hp1]; simpa using hh
  have hsa := str_add (P := Tryz.prog) p1 T (by rw [hp1, show (⟨#[UInt8.ofNat h, UInt8.ofNat p]⟩ : ByteArray).size = 2 from rfl]; omega)
  have hF : p1 ++ T = ⟨(proofTo ls h p x 0).toArray⟩ := bytes_ext (by rw [ByteArray.data_append, hp1, hT]; simp [proofTo])
  have hwr : IntKind.u8.wrap (h : Int) = (h : Int) := by rw [IntKind.wrap_u8]; omega
  have hwr2 : IntKind.u8.wrap (p : Int) = (p : Int) := by rw [IntKind.wrap_u8]; omega
  have HF := hide hF
  have HL := hide hl
  have HO := hide hok
  obtain ⟨nm, bal, salt⟩ := x
  simp only at c0 c1 c2 HT
  unfold treeV
  have HX := hide hx
  have HPp := hide hp
  clear hF hp1 hT sT hl hok hx hx' hp
  go_enter Tryz.func11, Tryz.ntmps11
  go_upto_region 1 with fail
  generalize hW : (w.alloc (Obj.cells #[Value.int IntKind.i64 (h : Int), Value.slice (some ⟨b, off, none⟩) ls.length cap] 31)) = W
  have hS : PrS w b (off + p * 3) w.heap.size (h : Int) (.slice (some ⟨b, off, none⟩) ls.length cap) nm bal salt W := by
    rw [← hW]
    have hA : Below w.heap.size w (w.alloc (Obj.cells #[Value.int IntKind.i64 (h : Int), Value.slice (some ⟨b, off, none⟩) ls.length cap] 31)) := (Below.refl _ _).alloc (Nat.le_refl _) _
    exact ⟨by simp, by simp, keepB hA hbl c0, keepB hA hbl c1, keepB hA hbl c2, ⟨by simp, by simp; omega⟩, hA⟩
  have hSd : PrS w b (off + p * 3) w.heap.size (h : Int) (.slice (some ⟨b, off, none⟩) ls.length cap) nm bal salt W.drew := ⟨hS.1, hS.2.1, hS.2.2.1, hS.2.2.2.1, hS.2.2.2.2.1, hS.2.2.2.2.2.1, hS.2.2.2.2.2.2.drew⟩
  have hsB : w.heap.size ≤ w.heap.size := Nat.le_refl _
  clear hW hS c0 c1 c2
  go_cut [5] (fun s5 wx => s5 = .string (p1 ++ T) ∧ PrS w b (off + p * 3) w.heap.size (h : Int) (.slice (some ⟨b, off, none⟩) ls.length cap) nm bal salt wx)
  case first =>
    go_region_held (fun w' => w'.cell? ⟨w.heap.size, 0, none⟩ = some (.int .i64 (h : Int)) ∧ w'.cell? ⟨w.heap.size, 1, none⟩ = some (.slice (some ⟨b, off, none⟩) ls.length cap) ∧ w'.cell? ⟨b, off + p * 3, none⟩ = some (.string nm) ∧ w'.cell? ⟨b, off + p * 3 + 1, none⟩ = some (.int .u64 bal) ∧ w'.cell? ⟨b, off + p * 3 + 2, none⟩ = some (.int .u64 salt) ∧
        (w.heap.size < w'.heap.size ∧ b < w'.heap.size) ∧ Below w.heap.size w w')
      (first | with_reducible exact hS4 | with_reducible exact hSd | with_reducible assumption | with_reducible exact PrS.keep hSd hsB ((Below.refl _ _).alloc (Nat.le_refl _) _) | with_reducible exact PrS.keep hS4 hsB ((Below.refl _ _).alloc (Nat.le_refl _) _))
      (first | (go_at_call 16; refine (unhide (HT _)).mono ?_; rintro e w4 ⟨rfl, hb4⟩; have hS4 := PrS.keep (by with_reducible first | exact hSd | exact PrS.keep hSd hsB ((Below.refl _ _).alloc (Nat.le_refl _) _)) hsB hb4; have k4 := (bcell hb4).1; have z4 := hb4.size; try simp [Nat.add_one_le_iff] at z4))
    all_goals
      go_wp2_with fail
      go_meet
      refine ⟨rfl, ?_⟩
      with_reducible assumption
  case rest =>
  obtain ⟨rfl, hS⟩ := hcut
  clear hSd hcv hsa HT hwr hwr2
  rw [unhide HF]
  go_wp2_with fail
  have hA := hS.2.2.2.2.2.2
  have q0 := hS.1
  have q1 := hS.2.1
  have q2 := hS.2.2.2.2.2.1.1
  clear hS
  have hsz := fun k => proofTo_length ls h p ⟨nm, bal, salt⟩ k
  generalize hpt : proofTo ls h p ⟨nm, bal, salt⟩ = pt at *
  have hstep : ∀ k, pt (k + 1) = pt k ++ sideB (sideT ls k (sib (p / 2 ^ k))) := by intro k; rw [← hpt]; rfl
  have Hstep := hide hstep
  have Hpt := hide hpt
  have Hsz := hide hsz
  have h8 : nm.size ≤ 8 := (unhide HO).1
  clear hstep hsz hpt HF HO HX
  go_loopw [1, 5, 6] (fun sp ss sl wr => ∃ (k : Nat) (s : ByteArray), k ≤ h ∧ sl = .int .i64 k ∧ sp = .int .i64 ((p / 2 ^ k : Nat) : Int) ∧ ss = .string s ∧ Hid (s.data.toList = pt k) ∧ wr.cell? ⟨w.heap.size, 0, none⟩ = some (.int .i64 (h : Int)) ∧ wr.cell? ⟨w.heap.size, 1, none⟩ = some (.slice (some ⟨b, off, none⟩) ls.length cap) ∧ w.heap.size < wr.heap.size ∧ Hid (Below w.heap.size w wr))
    (fun _ _ sl _ => h - (intOf sl).toNat)
  case atStart => exact ⟨0, _, Nat.zero_le _, rfl, by simp, rfl, rfl, q0, q1, q2, hA⟩
  case round =>
    obtain ⟨k, s, hk, rfl, rfl, rfl, Hs, q0, q1, q2, HA⟩ := hrel
    clear hA
    by_cases hlt : k < h
    · have hss : s.size = nm.size + 19 + 11 * k := by
        have e := unhide Hsz k
        rw [← unhide Hs] at e
        simpa using e
      have hss' : s.size ≤ 200 := by omega
      have hq : p / 2 ^ k ≤ 63 := Nat.le_trans (Nat.div_le_self _ _) (by omega)
      have hqk : p / 2 ^ k * 2 ^ k ≤ 63 := Nat.le_trans (Nat.div_mul_le_self _ _) (by omega)
      have hk32 : 2 ^ k ≤ 32 := (Nat.pow_le_pow_right (by omega) (by omega : k ≤ 5) : 2 ^ k ≤ 2 ^ 5)
      have hdd : p / 2 ^ (k + 1) = p / 2 ^ k / 2 := by rw [Nat.pow_succ, Nat.div_div_eq_div_mul]
      have Hdd := hide hdd
      have Hss := hide hss
      have hst := unhide Hstep k
      generalize hqd : p / 2 ^ k = q at *
      have hsb : (sib q + 1) * 2 ^ k ≤ 256 := by
        have : sib q + 1 ≤ q + 2 := by unfold sib; split <;> omega
        have h2 : (sib q + 1) * 2 ^ k ≤ (q + 2) * 2 ^ k := Nat.mul_le_mul_right _ this
        have h3 : (q + 2) * 2 ^ k = q * 2 ^ k + 2 * 2 ^ k := Nat.add_mul _ _ _
        omega
      have HC : ∀ w', Below w.heap.size w w' → Hid (Calls Tryz.prog 14 #[treeV (h : Int) (some ⟨b, off, none⟩) ls.length cap, .int .i64 (k : Int), .int .i64 ((sib q : Nat) : Int)] w' fun e w'' => e = .returned (sideV (sideT ls k (sib q)).1 (sideT ls k (sib q)).2) ∧ Below w'.heap.size w' w'') :=
        fun w' hb => side_any (h : Int) _ cap ls hn k (sib q) w' (LeavesOf.below (Or.inr ⟨b, off, rfl, unhide HL⟩) hb) hsb (by omega)
      have hr := sideT_range ls (unhide HL).ok k (sib q)
      have hsq : ((sib q : Nat) : Int) = if q % 2 = 1 then (q : Int) - 1 else (q : Int) + 1 := by unfold sib; split <;> omega
      rw [hsq] at HC
      have Hst : Hid (∀ T : ByteArray, T.data.toList = sideB ((sideT ls k (sib q)).1, (sideT ls k (sib q)).2) → (s ++ T).data.toList = pt (k + 1)) := by
        intro T hT
        rw [hst, ByteArray.data_append, Array.toList_append, unhide Hs, hT]
      generalize sideT ls k (sib q) = x at *
      obtain ⟨d, n⟩ := x
      simp only at hr HC Hst
      obtain ⟨l0, l1, l2, T, hd, hT, hTl, HT⟩ := sideText d n hr.1 hr.2
      simp only [hd] at HC
      unfold treeV at HC
      have hsa := str_add (P := Tryz.prog) s T (by omega)
      have HF := hide (unhide Hst T hTl)
      clear hT hTl hd hr hsq hst Hst hsb hdd hss hqd hk32 hqk Hs
      by_cases hodd : q % 2 = 1
      · have hodd' : ((q : Int) % 2 == 1) = true := by simp; omega
        have hq1 : 1 ≤ q := by omega
        simp only [hodd, if_true] at HC
        clear hodd
        go_wp2_with fail
        refine (unhide (HC _ (unhide HA))).mono ?_
        rintro e w1 ⟨rfl, hb1⟩
        have q0' := keepB hb1 q2 q0
        have q1' := keepB hb1 q2 q1
        have q2' : w.heap.size < w1.heap.size := by have := hb1.size; omega
        have HA1 := hide ((unhide HA).trans (hb1.mono (by omega)))
        clear hb1 HC q0 q1 q2 HA
        go_wp2_with fail
        refine (unhide (HT _)).mono ?_
        rintro e w2 ⟨rfl, hb2⟩
        have z2 : w.heap.size < (w1.alloc (Obj.cells #[Value.int IntKind.u8 l0, Value.int IntKind.u8 l1, Value.int IntKind.u8 l2, Value.int IntKind.u64 n] 49)).heap.size := by simp; omega
        have q0'' := keepB hb2 z2 (keepB ((Below.refl w1.heap.size w1).alloc (Nat.le_refl _) _) q2' q0')
        have q1'' := keepB hb2 z2 (keepB ((Below.refl w1.heap.size w1).alloc (Nat.le_refl _) _) q2' q1')
        have q2'' : w.heap.size < w2.heap.size := by have := hb2.size; omega
        have HA2 := hide (((unhide HA1).alloc (by omega) _).trans (hb2.mono (by omega)))
        clear hb2 z2 q0' q1' q2' HA1
        go_wp2
        go_roundw
        case rel => exact ⟨k + 1, s ++ T, by omega, by go_num, by rw [unhide Hdd]; go_num, rfl, HF, q0'', q1'', q2'', HA2⟩
        case measure => simp [intOf]; omega
      · have hodd' : ((q : Int) % 2 == 1) = false := by simp; omega
        simp only [hodd, if_false] at HC
        clear hodd
        go_wp2_with fail
        refine (unhide (HC _ (unhide HA))).mono ?_
        rintro e w1 ⟨rfl, hb1⟩
        have q0' := keepB hb1 q2 q0
        have q1' := keepB hb1 q2 q1
        have q2' : w.heap.size < w1.heap.size := by have := hb1.size; omega
        have HA1 := hide ((unhide HA).trans (hb1.mono (by omega)))
        clear hb1 HC q0 q1 q2 HA
        go_wp2_with fail
        refine (unhide (HT _)).mono ?_
        rintro e w2 ⟨rfl, hb2⟩
        have z2 : w.heap.size < (w1.alloc (Obj.cells #[Value.int IntKind.u8 l0, Value.int IntKind.u8 l1, Value.int IntKind.u8 l2, Value.int IntKind.u64 n] 49)).heap.size := by simp; omega
        have q0'' := keepB hb2 z2 (keepB ((Below.refl w1.heap.size w1).alloc (Nat.le_refl _) _) q2' q0')
        have q1'' := keepB hb2 z2 (keepB ((Below.refl w1.heap.size w1).alloc (Nat.le_refl _) _) q2' q1')
        have q2'' : w.heap.size < w2.heap.size := by have := hb2.size; omega
        have HA2 := hide (((unhide HA1).alloc (by omega) _).trans (hb2.mono (by omega)))
        clear hb2 z2 q0' q1' q2' HA1
        go_wp2
        go_roundw
        case rel => exact ⟨k + 1, s ++ T, by omega, by go_num, by rw [unhide Hdd]; go_num, rfl, HF, q0'', q1'', q2'', HA2⟩
        case measure => simp [intOf]; omega
    · have hkh : k = h := by omega
      subst hkh
      go_wp2
      go_ret
      refine ⟨?_, unhide HA⟩
      rw [bytes_ext (unhide Hs), unhide Hpt]
      rfl

end Go.Proofs.YtbjobbkgelipmaaGreat
