/-
  The walk of tithe's readReport: a head that fits.
-/
import Derived.Test.YtbjobbkgelipmaaGreatRdRep
import Derived.Test.YtbjobbkgelipmaaGreatMB
import Derived.Deep.DeepCutAuto
namespace Go.Proofs.YtbjobbkgelipmaaGreat
open Go.RowKit

def repZs : Array Value := #[.int .i64 0, .int .u8 0, .int .u8 0, .int .u8 0, .int .u64 0]

set_option maxHeartbeats 1000000 in
set_option maxRecDepth 100000 in
theorem rdrep_good (b cap : Nat) (l : List UInt8) (w : World) (hb : b < w.heap.size) (hB : BytesAt w b 0 l) (hg : repHead l) (hc : 12 ≤ cap) (hm : cap ≤ 9223372036854775807) :
    Calls Tryz.prog 60 #[.slice (some ⟨b, 0, none⟩) 12 cap] w fun e w' => e = .returned (.tuple #[ownRepV (repH l : Int) ((repRoot l).1.1.toNat : Int) ((repRoot l).1.2.1.toNat : Int) ((repRoot l).1.2.2.toNat : Int) (repRoot l).2, .bool (leMax (repRoot l).2)]) ∧ Below w.heap.size w w' := by
  have hl := hg.1
  have hne : b ≠ w.heap.size := by omega
  have h6 : repH l ≤ 6 := hg.2
  have c0 : w.cell? ⟨b, 0, none⟩ = some (.int .u8 (repH l : Int)) := by
    have := hB 0 (by omega)
    rw [this]; unfold repH; rw [List.getD_eq_getElem?_getD, List.getElem?_eq_getElem (by omega)]; rfl
  have HC : ∀ w', Below w.heap.size w w' → Hid (Calls Tryz.prog 76 #[.slice (some ⟨b, 1, none⟩) 11 (cap - 1)] w' fun e w'' => e = .returned (sideV (repRoot l).1 (repRoot l).2) ∧ Below w'.heap.size w' w'') := fun w' hbw => by
    have hBw : BytesAt w' b 0 l := fun j hj => (hbw.cell (p := ⟨b, 0 + j, none⟩) hb).trans (hB j hj)
    have h := rdside_any b (0 + 1) 11 (cap - 1) (l.drop 1) w' (by rw [List.length_drop]; omega) (by omega) (by omega) (by omega) (by have := hbw.size; omega) hBw.drop
    have e : sideAt (l.drop 1) 0 = repRoot l := by
      unfold repRoot sideAt
      simp only [List.getD_eq_getElem?_getD, List.getElem?_drop, List.drop_drop]
    rw [e] at h
    exact h
  generalize hrr : repRoot l = rr at *
  obtain ⟨⟨y0, y1, y2⟩, n⟩ := rr
  unfold sideV at HC
  simp only at HC ⊢
  generalize (y0.toNat : Int) = d0 at *
  generalize (y1.toNat : Int) = d1 at *
  generalize (y2.toNat : Int) = d2 at *
  generalize hh : repH l = h at *
  have hwr : IntKind.i64.wrap (h : Int) = (h : Int) := by rw [IntKind.wrap_i64]; omega
  have hh6 : ¬ (6 : Int) < (h : Int) := by omega
  have cb : ∀ w', Below w.heap.size w w' → w'.cell? ⟨b, 0, none⟩ = some (.int .u8 (h : Int)) := fun w' hbw => (hbw.cell (p := ⟨b, 0, none⟩) hb).trans c0
  have HCB := hide cb
  have hle : leMax n = decide (n ≤ 4611686018427387904) := rfl
  rw [hle]
  generalize hbb : decide (n ≤ 4611686018427387904) = bb
  have lc : cap ≠ 1 := by omega
  clear hB hg hl hh h6 hrr cb hle
  go_enter Tryz.func60, Tryz.ntmps60
  go_wp2_with fail
  generalize hW0 : (w.alloc (Obj.cells #[Value.int IntKind.i64 0, Value.int IntKind.u8 0, Value.int IntKind.u8 0, Value.int IntKind.u8 0, Value.int IntKind.u64 0] 108)) = W0
  have hR0 : RB w repZs 108 W0 := by rw [← hW0]; exact RB.new w _ _
  clear hW0 c0
  have hSd : W0.drew.cell? ⟨b, 0, none⟩ = some (.int .u8 (h : Int)) ∧ RB w repZs 108 W0.drew := ⟨unhide HCB _ hR0.drew.below, hR0.drew⟩
  have hz : w.heap.size < W0.heap.size := hR0.lt
  go_cut [4] (fun s4 wx => ∃ A, s4 = .pointer (some ⟨A, 0, none⟩) ∧ Hid (MB w repZs 108 A #[.int .i64 (h : Int), .int .u8 d0, .int .u8 d1, .int .u8 d2, .int .u64 n] 108 wx))
  case first =>
    go_region_held3 (fun w' => w'.cell? ⟨b, 0, none⟩ = some (.int .u8 (h : Int)) ∧ RB w repZs 108 w')
      (first
        | with_reducible exact hSd
        | with_reducible exact hS4
        | with_reducible exact ⟨unhide HCB _ (hS4.2.alloc _).below, hS4.2.alloc _⟩
        | with_reducible exact ⟨unhide HCB _ (hR0.alloc _).drew.below, (hR0.alloc _).drew⟩
        | with_reducible exact ⟨unhide HCB _ (((((hM4.set _ _).set _ _).set _ _).set _ _).set _ _).rb.below, (((((hM4.set _ _).set _ _).set _ _).set _ _).set _ _).rb⟩
        | fail)
      (first
        | (go_at_call 76; refine (unhide (HC _ hSd.2.below)).mono ?_; rintro e w4 ⟨rfl, hb4⟩; have hR4 := hSd.2.later hb4; have hS4 := And.intro (unhide HCB _ hR4.below) hR4; have oA := True.intro)
        | (go_at_call 76; refine (unhide (HC _ (hR0.alloc _).drew.below)).mono ?_; rintro e w4 ⟨rfl, hb4⟩; have hM4 : MB w repZs 108 W0.heap.size _ _ w4 := (MB.new hR0 _ _).drew.later hb4; have hS4 := And.intro (unhide HCB _ hM4.rb.below) hM4.rb; have u0 : w4.cell? ⟨W0.heap.size, 0, none⟩ = some (.int .i64 0) := hM4.cell 0; have u1 : w4.cell? ⟨W0.heap.size, 1, none⟩ = some (.int .u8 0) := hM4.cell 1; have u2 : w4.cell? ⟨W0.heap.size, 2, none⟩ = some (.int .u8 0) := hM4.cell 2; have u3 : w4.cell? ⟨W0.heap.size, 3, none⟩ = some (.int .u8 0) := hM4.cell 3; have u4 : w4.cell? ⟨W0.heap.size, 4, none⟩ = some (.int .u64 0) := hM4.cell 4; have v0 : ∀ i, w4.frozen? ⟨W0.heap.size, i, none⟩ = false := hM4.free))
    all_goals (go_wp2_with fail; go_meet; first | exact ⟨_, rfl, hide (MB.new hS4.2 _ _)⟩ | exact ⟨_, rfl, hide (((((hM4.set 0 (.int .i64 (h : Int))).set 1 (.int .u8 d0)).set 2 (.int .u8 d1)).set 3 (.int .u8 d2)).set 4 (.int .u64 n))⟩)
  case rest =>
  obtain ⟨A, rfl, HM⟩ := hcut
  clear hSd hR0 hz HC HCB hh6
  have hM := (unhide HM).drew
  have hA : A ≠ w.heap.size := by have := hM.gt; omega
  have a0 : wc.cell? ⟨A, 0, none⟩ = some (.int .i64 (h : Int)) := hM.cell 0
  have a1 : wc.cell? ⟨A, 1, none⟩ = some (.int .u8 d0) := hM.cell 1
  have a2 : wc.cell? ⟨A, 2, none⟩ = some (.int .u8 d1) := hM.cell 2
  have a3 : wc.cell? ⟨A, 3, none⟩ = some (.int .u8 d2) := hM.cell 3
  have a4 : wc.cell? ⟨A, 4, none⟩ = some (.int .u64 n) := hM.cell 4
  have r0 : wc.cell? ⟨w.heap.size, 0, none⟩ = some (.int .i64 0) := hM.rb.cell 0
  have r1 : wc.cell? ⟨w.heap.size, 1, none⟩ = some (.int .u8 0) := hM.rb.cell 1
  have r2 : wc.cell? ⟨w.heap.size, 2, none⟩ = some (.int .u8 0) := hM.rb.cell 2
  have r3 : wc.cell? ⟨w.heap.size, 3, none⟩ = some (.int .u8 0) := hM.rb.cell 3
  have r4 : wc.cell? ⟨w.heap.size, 4, none⟩ = some (.int .u64 0) := hM.rb.cell 4
  have rf : ∀ i, wc.frozen? ⟨w.heap.size, i, none⟩ = false := hM.rb.free
  clear hM
  go_wp2_with fail
  go_region
  go_wp2
  refine bodyPost_ret (v := .tuple #[ownRepV (h : Int) d0 d1 d2 n, .bool bb]) ?_ rfl ⟨rfl, ?_⟩
  · simp [results, Tryz.results60, go_sem, ownRepV, r0, r1, r2, r3, r4]
  · exact (((((((unhide HM).setR 0 _).setR 1 _).setR 2 _).setR 3 _).setR 4 _).drew).rb.below

end Go.Proofs.YtbjobbkgelipmaaGreat
