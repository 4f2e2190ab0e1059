/-
  The walk of tithe's readProof: the height fits.
-/
import Derived.Deep.RegionHeld3
import Derived.Deep.DeepCutAuto
import Derived.Test.YtbjobbkgelipmaaGreatBkan
import Derived.Test.YtbjobbkgelipmaaGreatBkad
namespace Go.Proofs.YtbjobbkgelipmaaGreat
open Go.RowKit

def proofZs : Array Value := #[.int .i64 0, .string ⟨#[]⟩, .int .u64 0, .int .u64 0, .slice none 0 0]
/-- What readProof owes where the height fits. -/
def RdPost (h : Nat) (l : List UInt8) (w : World) (e : Ending) (w' : World) : Prop :=
  Below w.heap.size w w' ∧ (¬ accHead h l → e = .returned (.tuple #[proofZ, .bool false])) ∧
  (accHead h l → ∃ g, e = .returned (.tuple #[proofV (bAt l 1 : Int) ⟨(accName l).toArray⟩ (accBal l) (accSalt l) (some ⟨g, 0, none⟩) h h, .bool (decide (greatB (accBal l) (sidesOf (l.drop (19 + bAt l 2)) h) ≤ maxS))]) ∧ g < w'.heap.size ∧ SidesAt w' g (sidesOf (l.drop (19 + bAt l 2)) h))

theorem SidesAt.set {W : World} {g B : Nat} {ys : List (Dg × Int)} (h : SidesAt W g ys) (hne : g ≠ B) (i : Nat) (v : Value) : SidesAt (W.setCell ⟨B, i, none⟩ v) g ys := by
  have e : ∀ o, (W.setCell ⟨B, i, none⟩ v).cell? ⟨g, o, none⟩ = W.cell? ⟨g, o, none⟩ := fun o => World.cell?_of_block (w := W) (Below.heap_setCell W _ _ _ (by simpa using hne))
  intro j hj
  obtain ⟨h0, h1, h2, h3⟩ := h j hj
  exact ⟨(e _).trans h0, (e _).trans h1, (e _).trans h2, (e _).trans h3⟩
/-- A leaf's cells, and the room of the result. -/
abbrev LB (w : World) (A : Nat) (nm : ByteArray) (bal salt : Int) (w' : World) : Prop :=
  (w'.cell? ⟨A, 0, none⟩ = some (.string nm) ∧ w'.cell? ⟨A, 1, none⟩ = some (.int .u64 bal) ∧ w'.cell? ⟨A, 2, none⟩ = some (.int .u64 salt)) ∧ MB w proofZs 118 A #[.string nm, .int .u64 bal, .int .u64 salt] 115 w'
theorem LB.of {w w' : World} {A : Nat} {nm : ByteArray} {bal salt : Int} (h : MB w proofZs 118 A #[.string nm, .int .u64 bal, .int .u64 salt] 115 w') : LB w A nm bal salt w' := ⟨⟨h.cell 0, h.cell 1, h.cell 2⟩, h⟩
theorem LB.later {w W w4 : World} {A : Nat} {nm : ByteArray} {bal salt : Int} (h : LB w A nm bal salt W) (hb : Below W.heap.size W w4) : LB w A nm bal salt w4 := LB.of (h.2.later hb)
theorem LB.setB {w W : World} {A B : Nat} {nm : ByteArray} {bal salt : Int} (h : LB w A nm bal salt W) (hB : w.heap.size < B) (hne : A ≠ B) (i : Nat) (v : Value) : LB w A nm bal salt (W.setCell ⟨B, i, none⟩ v) :=
  LB.of ⟨(Below.heap_setCell _ _ _ _ (by show A ≠ B; exact hne)).trans h.2.blk, h.2.gt, h.2.rb.set hB i v⟩
/-- A proof's cells, and its sides. -/
structure PB (w : World) (B g : Nat) (pl : Int) (nm : ByteArray) (bal salt : Int) (h : Nat) (ys : List (Dg × Int)) (zs : Array Value) (w' : World) : Prop where
  mb : MB w zs 118 B #[.int .i64 pl, .string nm, .int .u64 bal, .int .u64 salt, .slice (some ⟨g, 0, none⟩) h h] 118 w'
  lt : g < w'.heap.size
  gt : w.heap.size < g
  ne : g ≠ B
  sides : SidesAt w' g ys
theorem PB.later {w W w4 : World} {B g h : Nat} {pl bal salt : Int} {nm : ByteArray} {ys : List (Dg × Int)} {zs : Array Value} (p : PB w B g pl nm bal salt h ys zs W) (hb : Below W.heap.size W w4) : PB w B g pl nm bal salt h ys zs w4 :=
  ⟨p.mb.later hb, by have := hb.size; have := p.lt; omega, p.gt, p.ne, p.sides.below hb p.lt⟩
theorem PB.drew {w W : World} {B g h : Nat} {pl bal salt : Int} {nm : ByteArray} {ys : List (Dg × Int)} {zs : Array Value} (p : PB w B g pl nm bal salt h ys zs W) : PB w B g pl nm bal salt h ys zs W.drew :=
  ⟨p.mb.drew, p.lt, p.gt, p.ne, p.sides⟩
theorem PB.setR {w W : World} {B g h : Nat} {pl bal salt : Int} {nm : ByteArray} {ys : List (Dg × Int)} {zs : Array Value} (p : PB w B g pl nm bal salt h ys zs W) (i : Nat) (v : Value) : PB w B g pl nm bal salt h ys (zs.setIfInBounds i v) (W.setCell ⟨w.heap.size, i, none⟩ v) :=
  ⟨p.mb.setR i v, by simpa using p.lt, p.gt, p.ne, p.sides.set (by have := p.gt; omega) i v⟩
abbrev PC (w : World) (B g : Nat) (pl : Int) (nm : ByteArray) (bal salt : Int) (h : Nat) (ys : List (Dg × Int)) (w' : World) : Prop :=
  (w'.cell? ⟨B, 0, none⟩ = some (.int .i64 pl) ∧ w'.cell? ⟨B, 1, none⟩ = some (.string nm) ∧ w'.cell? ⟨B, 2, none⟩ = some (.int .u64 bal) ∧ w'.cell? ⟨B, 3, none⟩ = some (.int .u64 salt) ∧ w'.cell? ⟨B, 4, none⟩ = some (.slice (some ⟨g, 0, none⟩) h h)) ∧ ∃ zs, PB w B g pl nm bal salt h ys zs w'
theorem PC.of {w w' : World} {B g h : Nat} {pl bal salt : Int} {nm : ByteArray} {ys : List (Dg × Int)} {zs : Array Value} (p : PB w B g pl nm bal salt h ys zs w') : PC w B g pl nm bal salt h ys w' :=
  ⟨⟨p.mb.cell 0, p.mb.cell 1, p.mb.cell 2, p.mb.cell 3, p.mb.cell 4⟩, zs, p⟩

theorem PB.newA {w w4 : World} {A g h : Nat} {nm : ByteArray} {pl bal salt : Int} {ys : List (Dg × Int)} (hS : LB w A nm bal salt w4) (hg : g < w4.heap.size) (hw : w.heap.size < g) (hs : SidesAt w4 g ys) :
    PB w w4.heap.size g pl nm bal salt h ys proofZs (w4.alloc (.cells #[.int .i64 pl, .string nm, .int .u64 bal, .int .u64 salt, .slice (some ⟨g, 0, none⟩) h h] 118)) :=
  ⟨MB.new hS.2.rb _ _, by rw [World.size_alloc]; omega, hw, by omega, hs.below ((Below.refl _ _).alloc (Nat.le_refl _) _) hg⟩
theorem PB.newB {w w4 : World} {B g h : Nat} {nm : ByteArray} {pl bal salt : Int} {ys : List (Dg × Int)} (hP : MB w proofZs 118 B #[.int .i64 0, .string ⟨#[]⟩, .int .u64 0, .int .u64 0, .slice none 0 0] 118 w4) (hg : g < w4.heap.size) (hw : w.heap.size < g) (hne : g ≠ B) (hs : SidesAt w4 g ys) :
    PB w B g pl nm bal salt h ys proofZs (((((w4.setCell ⟨B, 0, none⟩ (.int .i64 pl)).setCell ⟨B, 1, none⟩ (.string nm)).setCell ⟨B, 2, none⟩ (.int .u64 bal)).setCell ⟨B, 3, none⟩ (.int .u64 salt)).setCell ⟨B, 4, none⟩ (.slice (some ⟨g, 0, none⟩) h h)) :=
  ⟨((((hP.set 0 _).set 1 _).set 2 _).set 3 _).set 4 _, by simpa using hg, hw, hne, ((((hs.set hne _ _).set hne _ _).set hne _ _).set hne _ _).set hne _ _⟩

set_option maxHeartbeats 8000000 in
set_option maxRecDepth 100000 in
theorem rdpr_good (b len cap h : Nat) (l : List UInt8) (w : World) (hl : l.length = len) (hlen : 3 ≤ len) (hcap : len ≤ cap) (hc0 : h = 0 → len < cap) (hm : cap ≤ 9223372036854775807) (hh : h ≤ 6) (hb : b < w.heap.size) (hB : BytesAt w b 0 l) (hb0 : bAt l 0 = h) :
    Calls Tryz.prog 77 #[.slice (some ⟨b, 0, none⟩) len cap, .int .i64 (h : Int)] w (RdPost h l w) := by
  obtain ⟨b1, hb1⟩ : ∃ x, bAt l 1 = x := ⟨_, rfl⟩
  obtain ⟨b2, hb2⟩ : ∃ x, bAt l 2 = x := ⟨_, rfl⟩
  have hcell : ∀ k (hk : k < 3), w.cell? ⟨b, k, none⟩ = some (.int .u8 (bAt l k : Int)) := fun k hk => by
    have := hB k (by omega)
    rw [Nat.zero_add] at this
    rw [this]; unfold bAt; rw [List.getD_eq_getElem?_getD, List.getElem?_eq_getElem (by omega)]; rfl
  have c0 := hcell 0 (by omega)
  have c1 := hcell 1 (by omega)
  have c2 := hcell 2 (by omega)
  rw [hb0] at c0
  rw [hb1] at c1
  rw [hb2] at c2
  have r1 : b1 ≤ 255 := by have := UInt8.toNat_lt (l.getD 1 0); unfold bAt at hb1; omega
  have r2 : b2 ≤ 255 := by have := UInt8.toNat_lt (l.getD 2 0); unfold bAt at hb2; omega
  have HALL := hide (And.intro hB (And.intro hl (And.intro hb0 (And.intro hb1 hb2))))
  have HC0 := hide hc0
  clear hB hl hb0 hb1 hb2 hcell hc0
  have hl3 : ¬ (len : Int) < 3 := by omega
  have hl0 : 0 < len := by omega
  have hl1 : (1 : Int) < (len : Int) := by omega
  have hl2 : (2 : Int) < (len : Int) := by omega
  have hw1 : IntKind.i64.wrap (b1 : Int) = (b1 : Int) := by rw [IntKind.wrap_i64]; omega
  have hw2 : IntKind.i64.wrap (b2 : Int) = (b2 : Int) := by rw [IntKind.wrap_i64]; omega
  have hw3 : IntKind.i64.wrap (3 + (b2 : Int)) = 3 + (b2 : Int) := by rw [IntKind.wrap_i64]; omega
  have hnb : b ≠ w.heap.size := by omega
  have hne' : ((h : Int) != (h : Int)) = false := by simp
  go_enter Tryz.func77, Tryz.ntmps77
  go_wp2_with fail
  generalize hW0 : (w.alloc (Obj.cells #[Value.int IntKind.i64 0, Value.string ⟨#[]⟩, Value.int IntKind.u64 0, Value.int IntKind.u64 0, Value.slice none 0 0] 118)) = W0
  have hR00 : RB w proofZs 118 W0 := by rw [← hW0]; exact RB.new w _ _
  have HR00 := hide hR00
  have hR0 := hR00.drew
  clear hR00
  have hSd : W0.drew.cell? ⟨b, 1, none⟩ = some (.int .u8 (b1 : Int)) ∧ W0.drew.cell? ⟨b, 2, none⟩ = some (.int .u8 (b2 : Int)) := ⟨keepB hR0.below hb c1, keepB hR0.below hb c2⟩
  clear hW0 c0 c1 c2
  go_region_held3 (fun w' => w'.cell? ⟨b, 1, none⟩ = some (.int .u8 (b1 : Int)) ∧ w'.cell? ⟨b, 2, none⟩ = some (.int .u8 (b2 : Int))) (first | with_reducible exact hSd | fail) (fail)
  have k2 : W0.cell? ⟨b, 2, none⟩ = some (.int .u8 (b2 : Int)) := hSd.2
  clear hSd hw3
  rw [show (3 : Int) + (b2 : Int) = ((3 + b2 : Nat) : Int) by omega]
  obtain ⟨ne, hne3⟩ : ∃ ne, 3 + b2 = ne := ⟨_, rfl⟩
  rw [hne3]
  have HNE := hide hne3
  have n1 : 3 ≤ ne := by omega
  have n2 : ne ≤ 258 := by omega
  clear hne3
  go_upto_region 4 with fail
  go_cut [42] (fun s42 wx => s42 = .bool (decide (2 ^ h ≤ b1 ∨ ¬ (1 ≤ b2 ∧ b2 ≤ 8))) ∧ wx = W0.drew)
  case first =>
    have hIs := fun w => hide (isname_any b2 w)
    generalize hbb : decide (1 ≤ b2 ∧ b2 ≤ 8) = bb at *
    have H7 : h = 0 ∨ h = 1 ∨ h = 2 ∨ h = 3 ∨ h = 4 ∨ h = 5 ∨ h = 6 := by omega
    obtain ⟨P, hP⟩ : ∃ P : Int, P = 2 ^ h := ⟨_, rfl⟩
    have hPn : P = ((2 ^ h : Nat) : Int) := by rw [hP]; simp
    by_cases hp : P ≤ (b1 : Int)
    · have HD : Hid (decide (2 ^ h ≤ b1 ∨ ¬ (1 ≤ b2 ∧ b2 ≤ 8)) = true) := hide (decide_eq_true (Or.inl (by omega)))
      clear hh hlen hcap hm hPn hbb
      rcases H7 with rfl | rfl | rfl | rfl | rfl | rfl | rfl
      all_goals (simp at hP; subst hP; go_wp2_with fail; go_meet; exact ⟨by rw [unhide HD], rfl⟩)
    · have HD : Hid (decide (2 ^ h ≤ b1 ∨ ¬ (1 ≤ b2 ∧ b2 ≤ 8)) = !bb) := by
        rw [← hbb, ← decide_not]
        exact hide (decide_eq_decide.2 ⟨fun h => h.resolve_left (by omega), Or.inr⟩)
      clear hh hlen hcap hm hPn hbb
      rcases H7 with rfl | rfl | rfl | rfl | rfl | rfl | rfl
      all_goals (simp at hP; subst hP; go_wp2_with fail; refine (unhide (hIs _)).mono ?_; rintro e w' ⟨rfl, rfl⟩; go_wp2_with fail; go_meet; exact ⟨by rw [unhide HD], rfl⟩)
  case rest =>
  obtain ⟨rfl, rfl⟩ := hcut
  by_cases hbad : 2 ^ h ≤ b1 ∨ ¬ (1 ≤ b2 ∧ b2 ≤ 8)
  · rw [decide_eq_true hbad]
    have HN : Hid (¬ accHead h l) := fun ha => by
      obtain ⟨_, _, a1, a2, a3, _⟩ := ha
      rw [(unhide HALL).2.2.2.1] at a1
      rw [(unhide HALL).2.2.2.2] at a2 a3
      omega
    have u0 : W0.cell? ⟨w.heap.size, 0, none⟩ = some (.int .i64 0) := hR0.cell 0
    have u1 : W0.cell? ⟨w.heap.size, 1, none⟩ = some (.string ⟨#[]⟩) := hR0.cell 1
    have u2 : W0.cell? ⟨w.heap.size, 2, none⟩ = some (.int .u64 0) := hR0.cell 2
    have u3 : W0.cell? ⟨w.heap.size, 3, none⟩ = some (.int .u64 0) := hR0.cell 3
    have u4 : W0.cell? ⟨w.heap.size, 4, none⟩ = some (.slice none 0 0) := hR0.cell 4
    have uf : ∀ i, W0.frozen? ⟨w.heap.size, i, none⟩ = false := hR0.free
    have HR0 := hide hR0
    clear hbad hR0 hh
    go_wp2
    refine bodyPost_ret (v := .tuple #[proofZ, .bool false]) ?_ rfl ⟨?_, fun _ => rfl, fun ha => absurd ha (unhide HN)⟩
    · simp [results, Tryz.results77, go_sem, proofZ, u0, u1, u2, u3, u4]
    · exact ((((((unhide HR0).setR 0 _).setR 1 _).setR 2 _).setR 3 _).setR 4 _).below
  · rw [decide_eq_false hbad]
    have hg1 : ¬ 2 ^ h ≤ b1 := fun h => hbad (Or.inl h)
    have hg2 : 1 ≤ b2 ∧ b2 ≤ 8 := Classical.byContradiction fun h => hbad (Or.inr h)
    have HG1 := hide hg1
    obtain ⟨hg2, hg3⟩ := hg2
    clear hbad hg1
    have u0 : W0.cell? ⟨w.heap.size, 0, none⟩ = some (.int .i64 0) := hR0.cell 0
    have u1 : W0.cell? ⟨w.heap.size, 1, none⟩ = some (.string ⟨#[]⟩) := hR0.cell 1
    have u2 : W0.cell? ⟨w.heap.size, 2, none⟩ = some (.int .u64 0) := hR0.cell 2
    have u3 : W0.cell? ⟨w.heap.size, 3, none⟩ = some (.int .u64 0) := hR0.cell 3
    have u4 : W0.cell? ⟨w.heap.size, 4, none⟩ = some (.slice none 0 0) := hR0.cell 4
    have uf : ∀ i, W0.frozen? ⟨w.heap.size, i, none⟩ = false := hR0.free
    have HR0 := hide hR0
    clear hR0
    have hne3 : 3 + b2 = ne := unhide HNE
    by_cases hL : len = 19 + b2 + 11 * h
    · have hL' : ((len : Int) != (ne : Int) + 16 + (h : Int) * 11) = false := by simp [bne]; omega
      have HA : Hid (accHead h l) := by
        obtain ⟨_, a1, a2, a3, a4⟩ := unhide HALL
        refine ⟨by omega, a2, ?_, ?_, ?_, ?_⟩
        · rw [a3]; exact Nat.lt_of_not_le (unhide HG1)
        · omega
        · omega
        · omega
      have HLL := hide hL
      have HN3 := hide hne3
      clear u0 u1 u2 u3 u4 uf k2 hL hne3
      go_upto_region 8 with fail
      have hL := unhide HLL
      have hne3 := unhide HN3
      have i1 : (3 : Int) ≤ (ne : Int) := by omega
      have i3 : (ne : Int) ≤ (len : Int) := by omega
      have i4 : (ne : Int) + 16 ≤ (len : Int) := by omega
      have i5 : (ne : Int) ≤ (cap : Int) := by omega
      obtain ⟨n8, hn8⟩ : ∃ n8 : Nat, n8 = ne + 8 := ⟨_, rfl⟩
      have hw8 : IntKind.i64.wrap ((ne : Int) + 8) = (n8 : Int) := by rw [IntKind.wrap_i64]; omega
      have i6 : (n8 : Int) ≤ (len : Int) := by omega
      have i7 : (0 : Int) ≤ (n8 : Int) := by omega
      have i8 : (n8 : Int) ≤ (cap : Int) := by omega
      have i9 : cap ≠ n8 := by omega
      have HN8 := hide hn8
      clear hn8
      have i10 : cap ≠ ne := by omega
      obtain ⟨n16, hn16⟩ : ∃ n16 : Nat, n16 = ne + 16 := ⟨_, rfl⟩
      have hw16 : IntKind.i64.wrap ((ne : Int) + 16) = (n16 : Int) := by rw [IntKind.wrap_i64]; omega
      have j6 : (n16 : Int) ≤ (len : Int) := by omega
      have j7 : (0 : Int) ≤ (n16 : Int) := by omega
      have j8 : (n16 : Int) ≤ (cap : Int) := by omega
      have j9 : cap ≠ n16 := by
        by_cases hz : h = 0
        · have := unhide HC0 hz; omega
        · omega
      have HN16 := hide hn16
      have HJ := hide (And.intro hw16 (And.intro j6 (And.intro j7 (And.intro j8 j9))))
      clear hn16 hw16 j6 j7 j8 j9
      have hn8 := unhide HN8
      obtain ⟨nm, hnm⟩ : ∃ nm : ByteArray, ⟨(accName l).toArray⟩ = nm := ⟨_, rfl⟩
      obtain ⟨bal, hbl⟩ : ∃ x, accBal l = x := ⟨_, rfl⟩
      obtain ⟨salt, hsl⟩ : ∃ x, accSalt l = x := ⟨_, rfl⟩
      have hBw : ∀ w', Below w.heap.size w w' → BytesAt w' b 0 l := fun w' hbw j hj => (hbw.cell (p := ⟨b, 0 + j, none⟩) hb).trans ((unhide HALL).1 j hj)
      have hCV : ∀ w', Below w.heap.size w w' → (convert 51 9 (.slice (some ⟨b, 3, none⟩) (ne - 3) (cap - 3))).run Tryz.prog w' = .ok (.string nm) w' := fun w' hbw => by
        obtain ⟨_, a1, a2, a3, a4⟩ := unhide HALL
        have hlen2 : (accName l).length = b2 := by unfold accName; rw [List.length_take, List.length_drop]; omega
        have h := run_convert_bytes_back (P := Tryz.prog) w' 51 9 5 ⟨b, 3, none⟩ (cap - 3) (accName l) Tryz.underlying51 Tryz.underlying5 Tryz.underlying9 (fun j hj => by
          rw [addr_add]
          have h1 := hBw w' hbw (3 + j) (by omega)
          rw [Nat.zero_add] at h1
          rw [h1]
          simp [accName])
        rw [hlen2, hnm, show b2 = ne - 3 by omega] at h
        exact h
      have hN1 : ∀ w', Below w.heap.size w w' → Hid (Calls Tryz.prog 92 #[.slice (some ⟨b, ne, none⟩) (len - ne) (cap - ne)] w' fun e w'' => e = .returned (.int .u64 bal) ∧ w'' = w') := fun w' hbw => by
        obtain ⟨_, a1, a2, a3, a4⟩ := unhide HALL
        have h := rdnum_any b (0 + ne) (len - ne) (cap - ne) (l.drop ne) w' (by rw [List.length_drop]; omega) (by omega) (by omega) (by unfold maxLen; omega) (hBw w' hbw).drop
        rw [Nat.zero_add] at h
        unfold accBal at hbl
        rw [a4, hne3] at hbl
        rw [hbl] at h
        exact h
      have hN2 : ∀ w', Below w.heap.size w w' → Hid (Calls Tryz.prog 92 #[.slice (some ⟨b, n8, none⟩) (len - n8) (cap - n8)] w' fun e w'' => e = .returned (.int .u64 salt) ∧ w'' = w') := fun w' hbw => by
        obtain ⟨_, a1, a2, a3, a4⟩ := unhide HALL
        have h := rdnum_any b (0 + n8) (len - n8) (cap - n8) (l.drop n8) w' (by rw [List.length_drop]; omega) (by omega) (by omega) (by unfold maxLen; omega) (hBw w' hbw).drop
        rw [Nat.zero_add] at h
        unfold accSalt at hsl
        rw [a4, show 11 + b2 = n8 by omega] at hsl
        rw [hsl] at h
        exact h
      have HBw := hide hBw
      have HCV := hide hCV
      have HVS := hide (And.intro hnm (And.intro hbl hsl))
      clear hBw hnm hbl hsl hL hne3 hn8
      have hR1 : RB w proofZs 118 W0.drew.drew := (unhide HR0).drew
      have hSd := And.intro (hCV _ hR1.below) hR1
      clear hCV
      go_cut [8] (fun s8 wx => s8 = .pointer (some ⟨W0.heap.size, 0, none⟩) ∧ wx = (W0.alloc (Obj.cells #[Value.string nm, Value.int IntKind.u64 bal, Value.int IntKind.u64 salt] 115)).drew.drew)
      case first =>
        have hR2 := unhide HR00
        go_region_held (fun w' => (convert 51 9 (.slice (some ⟨b, 3, none⟩) (ne - 3) (cap - 3))).run Tryz.prog w' = .ok (.string nm) w' ∧ RB w proofZs 118 w')
          (first
            | with_reducible exact hSd
            | with_reducible exact ⟨unhide HCV _ (hR2.alloc _).drew.drew.below, (hR2.alloc _).drew.drew⟩
            | fail)
          (first
            | (go_at_call 92; (with_reducible refine (unhide (hN1 _ hR1.below)).mono ?_); rintro e w4 ⟨rfl, rfl⟩; clear hN1)
            | (go_at_call 92; (with_reducible refine (unhide (hN1 _ (hR2.alloc _).drew.drew.below)).mono ?_); rintro e w4 ⟨rfl, rfl⟩; clear hN1)
            | (go_at_call 92; (with_reducible refine (unhide (hN2 _ hR1.below)).mono ?_); rintro e w4 ⟨rfl, rfl⟩; clear hN2)
            | (go_at_call 92; (with_reducible refine (unhide (hN2 _ (hR2.alloc _).drew.drew.below)).mono ?_); rintro e w4 ⟨rfl, rfl⟩; clear hN2))
        all_goals (go_wp2_with fail; go_meet; exact ⟨rfl, rfl⟩)
      case rest =>
      obtain ⟨rfl, rfl⟩ := hcut
      clear hSd hR1 hN1 hN2 i6 i7 i8 i9 hw8
      obtain ⟨hw16, j6, j7, j8, j9⟩ := unhide HJ
      obtain ⟨ys, hys⟩ : ∃ ys, sidesOf (l.drop n16) h = ys := ⟨_, rfl⟩
      have hyl : ys.length = h := by rw [← hys]; exact sidesOf_len _ _
      have hRS : ∀ w', Below w.heap.size w w' → Hid (Calls Tryz.prog 93 #[.slice (some ⟨b, n16, none⟩) (len - n16) (cap - n16), .int .i64 (h : Int)] w' fun e w'' => e = .returned (.slice (some ⟨w'.heap.size, 0, none⟩) h h) ∧ w'.heap.size < w''.heap.size ∧ SidesAt w'' w'.heap.size ys ∧ Below w'.heap.size w' w'') := fun w' hbw => by
        obtain ⟨_, a1, a2, a3, a4⟩ := unhide HALL
        have hL := unhide HLL
        have hne3 := unhide HN3
        have h16 := unhide HN16
        have hr := rdsides_any b (0 + n16) (len - n16) (cap - n16) h (l.drop n16) w' (by rw [List.length_drop]; omega) (by omega) hh (by omega) (by omega) (by have := hbw.size; omega) (unhide HBw w' hbw).drop
        rw [Nat.zero_add, hys] at hr
        exact hr
      generalize hW1 : (W0.alloc (Obj.cells #[Value.string nm, Value.int IntKind.u64 bal, Value.int IntKind.u64 salt] 115)).drew.drew = W1
      have hM1 : MB w proofZs 118 W0.heap.size #[.string nm, .int .u64 bal, .int .u64 salt] 115 W1 := by rw [← hW1]; exact (MB.new (unhide HR00) _ _).drew.drew
      have HM1 := hide hM1
      have HYS := hide (And.intro hys hyl)
      generalize hA : W0.heap.size = A at *
      clear hW1 hys hyl hA HCV HBw HR00 HR0
      have hSd : LB w A nm bal salt W1.drew := LB.of hM1.drew
      have hAB : A ≠ W1.heap.size := by have := hM1.lt; omega
      have hwB : w.heap.size < W1.heap.size := by have := hM1.lt; have := hM1.gt; omega
      clear hM1
      go_upto_region 9 with fail
      go_cut [9] (fun s9 wx => ∃ B g, s9 = .pointer (some ⟨B, 0, none⟩) ∧ Hid (PB w B g (b1 : Int) nm bal salt h ys proofZs wx))
      case first =>
        have hM2 := unhide HM1
        go_region_held3 (fun w' => (w'.cell? ⟨A, 0, none⟩ = some (.string nm) ∧ w'.cell? ⟨A, 1, none⟩ = some (.int .u64 bal) ∧ w'.cell? ⟨A, 2, none⟩ = some (.int .u64 salt)) ∧ MB w proofZs 118 A #[.string nm, .int .u64 bal, .int .u64 salt] 115 w')
          (first
            | with_reducible exact hSd
            | with_reducible exact hS4
            | with_reducible exact LB.later hS4 ((Below.refl _ _).alloc (Nat.le_refl _) _)
            | with_reducible exact LB.of (MB.later hM2 ((Below.refl _ _).alloc (Nat.le_refl _) _)).drew
            | with_reducible exact ((((LB.setB hS4 hwB hAB _ _).setB hwB hAB _ _).setB hwB hAB _ _).setB hwB hAB _ _).setB hwB hAB _ _
            | fail)
          (first
            | (go_at_call 93; (with_reducible refine (unhide (hRS _ hSd.2.rb.below)).mono ?_); rintro e w4 ⟨rfl, hz4, hs4, hb4⟩; have hS4 := LB.later hSd hb4; have oA := True.intro)
            | (go_at_call 93; (with_reducible refine (unhide (hRS _ (MB.later hM2 ((Below.refl _ _).alloc (Nat.le_refl _) _)).drew.rb.below)).mono ?_); rintro e w4 ⟨rfl, hz4, hs4, hb4⟩; have hP4 : MB w proofZs 118 W1.heap.size _ _ w4 := (MB.new hM2.rb _ _).drew.later hb4; have hS4 := LB.later (LB.of (MB.later hM2 ((Below.refl _ _).alloc (Nat.le_refl _) _)).drew) hb4; have u0 : w4.cell? ⟨W1.heap.size, 0, none⟩ = some (.int .i64 0) := hP4.cell 0; have u1 : w4.cell? ⟨W1.heap.size, 1, none⟩ = some (.string ⟨#[]⟩) := hP4.cell 1; have u2 : w4.cell? ⟨W1.heap.size, 2, none⟩ = some (.int .u64 0) := hP4.cell 2; have u3 : w4.cell? ⟨W1.heap.size, 3, none⟩ = some (.int .u64 0) := hP4.cell 3; have u4 : w4.cell? ⟨W1.heap.size, 4, none⟩ = some (.slice none 0 0) := hP4.cell 4; have uf : ∀ i, w4.frozen? ⟨W1.heap.size, i, none⟩ = false := hP4.free))
        all_goals (go_wp2_with fail; go_meet; first | exact ⟨_, _, rfl, hide (PB.newA hS4 hz4 hwB hs4)⟩ | exact ⟨_, _, rfl, hide (PB.newB hP4 (by rw [World.size_drew, World.size_alloc] at hz4; exact hz4) (Nat.lt_succ_of_lt hwB) (Nat.succ_ne_self _) (by rw [World.size_drew, World.size_alloc] at hs4; exact hs4))⟩)
      case rest =>
      obtain ⟨B, g, rfl, HP⟩ := hcut
      have hGr : ∀ w', PC w B g (b1 : Int) nm bal salt h ys w' → Hid (Calls Tryz.prog 94 #[.agg #[.int .i64 (b1 : Int), .string nm, .int .u64 bal, .int .u64 salt, .slice (some ⟨g, 0, none⟩) h h]] w' fun e w'' => e = .returned (.int .u64 (greatB bal ys)) ∧ Below w'.heap.size w' w'') := fun w' hp => by
        obtain ⟨_, zs, hp⟩ := hp
        have hg := great_any (b1 : Int) nm bal salt g h ys w' (by rw [(unhide HYS).2]; exact hh) hp.lt hp.sides
        rw [(unhide HYS).2] at hg
        exact hg
      obtain ⟨G, hG⟩ : ∃ G, greatB bal ys = G := ⟨_, rfl⟩
      rw [hG] at hGr
      obtain ⟨gb, hgb⟩ : ∃ gb, decide (G ≤ (4611686018427387904 : Int)) = gb := ⟨_, rfl⟩
      have HG := hide hG
      have hSd : PC w B g (b1 : Int) nm bal salt h ys wc.drew := PC.of (unhide HP).drew
      clear hAB hwB hRS hw16 j6 j7 j8 j9 HM1 hG i1 i3 i4 i5 i10
      go_upto_region 10 with fail
      go_region_held3 (fun w' => (w'.cell? ⟨B, 0, none⟩ = some (.int .i64 (b1 : Int)) ∧ w'.cell? ⟨B, 1, none⟩ = some (.string nm) ∧ w'.cell? ⟨B, 2, none⟩ = some (.int .u64 bal) ∧ w'.cell? ⟨B, 3, none⟩ = some (.int .u64 salt) ∧ w'.cell? ⟨B, 4, none⟩ = some (.slice (some ⟨g, 0, none⟩) h h)) ∧ ∃ zs, PB w B g (b1 : Int) nm bal salt h ys zs w')
        (first
          | with_reducible exact hSd
          | with_reducible exact hS4
          | with_reducible exact PC.of (((((hP4.setR _ _).setR _ _).setR _ _).setR _ _).setR _ _)
          | fail)
        (first
          | (go_at_call 94; (with_reducible refine (unhide (hGr _ hSd)).mono ?_); rintro e w4 ⟨rfl, hb4⟩; have hP4 := (unhide HP).drew.later hb4; have hS4 := PC.of hP4; have u0 : w4.cell? ⟨w.heap.size, 0, none⟩ = some (.int .i64 0) := hP4.mb.rb.cell 0; have u1 : w4.cell? ⟨w.heap.size, 1, none⟩ = some (.string ⟨#[]⟩) := hP4.mb.rb.cell 1; have u2 : w4.cell? ⟨w.heap.size, 2, none⟩ = some (.int .u64 0) := hP4.mb.rb.cell 2; have u3 : w4.cell? ⟨w.heap.size, 3, none⟩ = some (.int .u64 0) := hP4.mb.rb.cell 3; have u4 : w4.cell? ⟨w.heap.size, 4, none⟩ = some (.slice none 0 0) := hP4.mb.rb.cell 4; have uf : ∀ i, w4.frozen? ⟨w.heap.size, i, none⟩ = false := hP4.mb.rb.free))
      have hPE := ((((hP4.setR 0 (.int .i64 (b1 : Int))).setR 1 (.string nm)).setR 2 (.int .u64 bal)).setR 3 (.int .u64 salt)).setR 4 (.slice (some ⟨g, 0, none⟩) h h)
      have HPE := hide hPE
      clear hPE hP4 hS4 hSd
      go_wp2
      have e1 := (unhide HALL).2.2.2.1
      have e2 := (unhide HALL).2.2.2.2
      obtain ⟨v1, v2, v3⟩ := unhide HVS
      have y1 := (unhide HYS).1
      have e16 : n16 = 19 + bAt l 2 := by have := unhide HN16; have := unhide HN3; omega
      rw [e16] at y1
      refine bodyPost_ret (v := .tuple #[proofV (b1 : Int) nm bal salt (some ⟨g, 0, none⟩) h h, .bool gb]) ?_ rfl ⟨(unhide HPE).mb.rb.below, fun hn => absurd (unhide HA) hn, fun _ => ⟨g, ?_, (unhide HPE).lt, ?_⟩⟩
      · simp [results, Tryz.results77, go_sem, proofV, u0, u1, u2, u3, u4]
      · rw [y1, e1, v1, v2, v3, unhide HG, ← hgb]
        rfl
      · rw [y1]
        exact (unhide HPE).sides
    · have hL' : ((len : Int) != (ne : Int) + 16 + (h : Int) * 11) = true := by simp; omega
      have HN : Hid (¬ accHead h l) := fun ha => by
        obtain ⟨_, _, _, _, _, a6⟩ := ha
        rw [(unhide HALL).2.2.2.2, (unhide HALL).2.1] at a6
        omega
      go_wp2
      refine bodyPost_ret (v := .tuple #[proofZ, .bool false]) ?_ rfl ⟨?_, fun _ => rfl, fun ha => absurd ha (unhide HN)⟩
      · simp [results, Tryz.results77, go_sem, proofZ, u0, u1, u2, u3, u4]
      · exact ((((((unhide HR0).setR 0 _).setR 1 _).setR 2 _).setR 3 _).setR 4 _).below

end Go.Proofs.YtbjobbkgelipmaaGreat
