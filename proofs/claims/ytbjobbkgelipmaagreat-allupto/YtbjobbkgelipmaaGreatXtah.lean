/-
  The walk of tithe's readAllAccepted.
-/
import Derived.Test.YtbjobbkgelipmaaGreatIter
import Derived.Test.YtbjobbkgelipmaaGreatIter2
import Derived.Sort.OwnSorted
import Derived.Lib.OwnBridge
import Derived.Test.YtbjobbkgelipmaaGreatXtaf
import Derived.Test.YtbjobbkgelipmaaGreatXtag
import Derived.Test.YtbjobbkgelipmaaGreatXtae
namespace Go.Proofs.YtbjobbkgelipmaaGreat
open Go.RowKit

theorem Tryz.infoProof : (Tryz.prog.info? 118).map (fun i => (i.zero, i.size, i.bytes)) = some (some (.agg #[.int .i64 0, .string ⟨#[]⟩, .int .u64 0, .int .u64 0, .slice none 0 0]), 5, 64) := by kernel_rfl

/-- What readProof answers. -/
def PrfSay (h : Nat) (S : List UInt8) (w' : World) (e : Ending) (w'' : World) : Prop := Below w'.heap.size w' w'' ∧
      ((¬ prfOk h S ∧ ∃ (pl : Int) (nm : ByteArray) (bal salt : Int) (a : Option Addr) (k c : Nat), e = .returned (.tuple #[proofV pl nm bal salt a k c, .bool false])) ∨
       (prfOk h S ∧ ∃ g, e = .returned (.tuple #[proofV (bAt S 1 : Int) ⟨(accName S).toArray⟩ (accBal S) (accSalt S) (some ⟨g, 0, none⟩) h h, .bool true]) ∧ g < w''.heap.size ∧ SidesAt w'' g (sidesOf (S.drop (19 + bAt S 2)) h)))

/-- Lists of bytes in a row, of which each reads as a proof. -/
structure PrfArgs (w : World) (h : Nat) (Ls : List (List UInt8)) (b off : Nat) (vs : Nat → Option Addr × Nat × Nat) : Prop where
  lt : b < w.heap.size
  cell : ∀ i, i < Ls.length → w.cell? ⟨b, off + i, none⟩ = some (.slice (vs i).1 (vs i).2.1 (vs i).2.2)
  read : ∀ i (hi : i < Ls.length), ∀ w', Below w.heap.size w w' → Calls Tryz.prog 77 #[.slice (vs i).1 (vs i).2.1 (vs i).2.2, .int .i64 (h : Int)] w' (PrfSay h Ls[i] w')

/-- A proof's five cells. -/
def pvals (h : Nat) (r : List UInt8 × Nat) : List Value := [.int .i64 (bAt r.1 1 : Int), .string ⟨(accName r.1).toArray⟩, .int .u64 (accBal r.1), .int .u64 (accSalt r.1), .slice (some ⟨r.2, 0, none⟩) h h]
theorem flat_get {α β : Type} (f : α → List β) (hf : ∀ r, (f r).length = 5) : ∀ (rows : List α) (k j : Nat) (hk : k < rows.length), j < 5 → (rows.flatMap f)[k * 5 + j]? = (f rows[k])[j]?
  | r :: rows, 0, j, _, hj => by
    rw [List.flatMap_cons, List.getElem?_append_left (by rw [hf]; omega)]
    simp
  | r :: rows, k + 1, j, hk, hj => by
    rw [List.flatMap_cons, List.getElem?_append_right (by rw [hf]; omega), hf, show (k + 1) * 5 + j - 5 = k * 5 + j by omega]
    have := flat_get f hf rows k j (by simpa using hk) hj
    simpa using this

/-- What has been read so far. -/
structure RA (w : World) (h : Nat) (Ls : List (List UInt8)) (m : Nat) (v : Value) (W : World) : Prop where
  below : Below w.heap.size w W
  row : ∃ rows : List (List UInt8 × Nat), rows.map Prod.fst = Ls.take m ∧ W.ownsRow w.heap.size 118 5 v m (rows.flatMap (pvals h)) ∧ ∀ r ∈ rows, r.2 < W.heap.size ∧ SidesAt W r.2 (sidesOf (r.1.drop (19 + bAt r.1 2)) h)
  fst : m = 0 → ∀ g, v.ownBlock = some g → ∀ j, W.cell? ⟨g, j, none⟩ = none
  sl : ∃ g c, v = .slice (some ⟨g, 0, none⟩) m c

theorem RA.len {w : World} {h : Nat} {Ls : List (List UInt8)} {m : Nat} {v : Value} {W : World} (_r : RA w h Ls m v W) {rows : List (List UInt8 × Nat)} (hr : W.ownsRow w.heap.size 118 5 v m (rows.flatMap (pvals h))) : rows.length = m := by
  have := hr.1
  have e : ∀ rows : List (List UInt8 × Nat), (rows.flatMap (pvals h)).length = rows.length * 5 := fun rows => by
    induction rows with
    | nil => rfl
    | cons a t ih => rw [List.flatMap_cons, List.length_append, ih]; simp [pvals]; omega
  rw [e] at this
  omega

theorem RA.cell {w : World} {h m : Nat} {v : Value} {W : World} {g c : Nat} {rows : List (List UInt8 × Nat)} (hv : v = .slice (.some ⟨g, 0, none⟩) m c) (hl : rows.length = m) (hr : W.ownsRow w.heap.size 118 5 v m (rows.flatMap (pvals h))) (k j : Nat) (hk : k < rows.length) (hj : j < 5) : W.cell? ⟨g, k * 5 + j, none⟩ = (pvals h rows[k])[j]? := by
  subst hv
  rcases hr.2 with ⟨e, _⟩ | ⟨g', cap, cur, hv, _, hg, _, _, hs, hx⟩
  · cases e
  · simp only [Value.slice.injEq, Option.some.injEq, Addr.mk.injEq] at hv
    obtain ⟨⟨rfl, _⟩, _, rfl⟩ := hv
    rw [block_cell hg, ← flat_get (pvals h) (fun r => rfl) rows k j hk hj, ← hx, List.getElem?_take, if_pos (by omega)]
    simp

theorem RA.prfs {w : World} {h : Nat} {Ls : List (List UInt8)} {v : Value} {W : World} (r : RA w h Ls Ls.length v W) : ∃ g c, v = .slice (some ⟨g, 0, none⟩) Ls.length c ∧ g < W.heap.size ∧ w.heap.size ≤ g ∧ PrfsAt W g h Ls := by
  obtain ⟨g, c, hv⟩ := r.sl
  obtain ⟨rows, h1, h2, h3⟩ := r.row
  have hl := r.len h2
  rw [List.take_length] at h1
  have hlt := h2.lt g (by rw [hv]; rfl)
  refine ⟨g, c, hv, hlt.2, hlt.1, fun k hk => ?_⟩
  have hk' : k < rows.length := by omega
  have e : Ls[k] = rows[k].1 := by
    have := congrArg (fun l : List (List UInt8) => l[k]?) h1
    simp only [List.getElem?_map, List.getElem?_eq_getElem hk', List.getElem?_eq_getElem hk, Option.map_some, Option.some.injEq] at this
    exact this.symm
  have hc := RA.cell hv hl h2 k
  rw [e]
  exact ⟨rows[k].2, h3 _ (List.getElem_mem hk'), hc 0 hk' (by omega), hc 1 hk' (by omega), hc 2 hk' (by omega), hc 3 hk' (by omega), hc 4 hk' (by omega)⟩

theorem RA.apart {w : World} {h : Nat} {Ls : List (List UInt8)} {m : Nat} {v : Value} {W : World} (r : RA w h Ls m v W) {g sb : Nat} {ys : List (Dg × Int)} (hg : v.ownBlock = Option.some g) (hS : SidesAt W sb ys) (hy : 0 < ys.length) : sb ≠ g := by
  rintro rfl
  have h0 := (hS 0 hy).1
  simp only [Nat.zero_mul] at h0
  by_cases hm : m = 0
  · rw [r.fst hm sb hg 0] at h0
    cases h0
  · obtain ⟨g, c, hv⟩ := r.sl
    have : g = sb := by rw [hv] at hg; exact Option.some.inj hg
    subst this
    obtain ⟨rows, h1, h2, h3⟩ := r.row
    have hl := r.len h2
    have hc := RA.cell hv hl h2 0 0 (by omega) (by omega)
    simp only [Nat.zero_mul, Nat.add_zero] at hc
    rw [hc] at h0
    simp [pvals] at h0

theorem RA.later {w : World} {h : Nat} {Ls : List (List UInt8)} {m : Nat} {v : Value} {W W' : World} (r : RA w h Ls m v W) (hb : Below W.heap.size W W') : RA w h Ls m v W' := by
  obtain ⟨rows, h1, h2, h3⟩ := r.row
  obtain ⟨g, c, hv⟩ := r.sl
  have hlt := h2.lt g (by rw [hv]; rfl)
  refine ⟨r.below.trans (hb.mono r.below.size), ⟨rows, h1, ?_, fun q hq => ⟨Nat.lt_of_lt_of_le (h3 q hq).1 hb.size, (h3 q hq).2.below hb (h3 q hq).1⟩⟩, fun hm g' hg' j => ?_, r.sl⟩
  · rcases h2.2 with ⟨e, _⟩ | ⟨g', cap, cur, e1, e2, e3, e4⟩
    · rw [hv] at e; cases e
    · exact ⟨h2.1, .inr ⟨g', cap, cur, e1, e2, (hb.block _ (Array.getElem?_eq_some_iff.1 e3).1).trans e3, e4⟩⟩
  · have e : g = g' := by rw [hv] at hg'; exact Option.some.inj hg'
    subst e
    rw [hb.cell (p := ⟨g, j, none⟩) hlt.2]
    exact r.fst hm g (by rw [hv]; rfl) j

/-- One proof more. -/
theorem RA.snoc {w : World} {h : Nat} {Ls : List (List UInt8)} {m : Nat} {v v' : Value} {W W' : World} {rows : List (List UInt8 × Nat)} {sb : Nat} {l : List UInt8} (r : RA w h Ls m v W) (hm : Ls[m]? = some l) (h1 : rows.map Prod.fst = Ls.take m) (h2 : W.ownsRow w.heap.size 118 5 v m (rows.flatMap (pvals h))) (h3 : ∀ r ∈ rows, r.2 < W.heap.size ∧ SidesAt W r.2 (sidesOf (r.1.drop (19 + bAt r.1 2)) h))
    (hsb : sb < W.heap.size ∧ SidesAt W sb (sidesOf (l.drop (19 + bAt l 2)) h)) (h2' : W'.ownsRow w.heap.size 118 5 v' (m + 1) (rows.flatMap (pvals h) ++ pvals h (l, sb))) (hg : W.grownBy W' v.ownBlock) : RA w h Ls (m + 1) v' W' := by
  obtain ⟨g, c, hv⟩ := r.sl
  have hgb : v.ownBlock = Option.some g := by rw [hv]; rfl
  have hlt := h2.lt g hgb
  have hside : ∀ q : List UInt8 × Nat, (q.2 < W.heap.size ∧ SidesAt W q.2 (sidesOf (q.1.drop (19 + bAt q.1 2)) h)) → q.2 < W'.heap.size ∧ SidesAt W' q.2 (sidesOf (q.1.drop (19 + bAt q.1 2)) h) := fun q hq => by
    refine ⟨Nat.lt_of_lt_of_le hq.1 hg.size, fun k hk => ?_⟩
    have hne : q.2 ≠ g := r.apart hgb hq.2 (by omega)
    have ec : ∀ o, W'.cell? ⟨q.2, o, none⟩ = W.cell? ⟨q.2, o, none⟩ := fun o => World.cell?_of_block (w := W) (hg.block q.2 hq.1 (fun e => by rw [hgb] at e; exact hne (Option.some.inj e)))
    rw [ec, ec, ec, ec]
    exact hq.2 k hk
  refine ⟨?_, ⟨rows ++ [(l, sb)], ?_, ?_, ?_⟩, fun e => by omega, ?_⟩
  · exact r.below.grown hg r.below.size (fun b hb => by rw [hgb] at hb; cases hb; exact hlt.1)
  · rw [List.map_append, h1, List.take_add_one, hm]; rfl
  · rw [List.flatMap_append]; simpa using h2'
  · intro q hq
    rcases List.mem_append.1 hq with hq | hq
    · exact hside q (h3 q hq)
    · rw [List.mem_singleton] at hq
      subst hq
      exact hside (l, sb) hsb
  · rcases h2'.2 with ⟨_, e⟩ | ⟨g', cap, cur, e1, _⟩
    · omega
    · exact ⟨g', cap, e1⟩

/-- What readAllAccepted owes. -/
def RdAllP (R : List UInt8) (Ls : List (List UInt8)) (w : World) (e : Ending) (w' : World) : Prop := Below w.heap.size w w' ∧
  (((∃ l ∈ Ls, ¬ verOk R l) ∧ e = .returned (.tuple #[.slice none 0 0, .bool false])) ∨
   ((∀ l ∈ Ls, verOk R l) ∧ ∃ g c, e = .returned (.tuple #[.slice (some ⟨g, 0, none⟩) Ls.length c, .bool true]) ∧ g < w'.heap.size ∧ w.heap.size ≤ g ∧ PrfsAt w' g (repH R) Ls))

set_option maxHeartbeats 2000000 in
set_option maxRecDepth 100000 in
theorem rdall_any (R : List UInt8) (Ls : List (List UInt8)) (a : Option Addr) (cap : Nat) (vs : Nat → Option Addr × Nat × Nat) (w : World) (hok : repOk R) (hn : Ls.length ≤ 1048576) (hA : 0 < Ls.length → ∃ b off, a = some ⟨b, off, none⟩ ∧ PrfArgs w (repH R) Ls b off vs) :
    Calls Tryz.prog 81 #[ownRepV (repH R : Int) ((repRoot R).1.1.toNat : Int) ((repRoot R).1.2.1.toNat : Int) ((repRoot R).1.2.2.toNat : Int) (repRoot R).2, .slice a Ls.length cap] w (RdAllP R Ls w) := by
  obtain ⟨i0, hi, hz0, hz1, hz2⟩ := info_parts Tryz.infoProof
  have HA := hide hA
  have HOK := hide hok
  clear hA hok
  obtain ⟨n, hnn⟩ : ∃ n, Ls.length = n := ⟨_, rfl⟩
  rw [hnn]
  rw [hnn] at hn
  obtain ⟨h, hh⟩ : ∃ h, (repH R : Int) = h := ⟨_, rfl⟩
  obtain ⟨d0, hd0⟩ : ∃ h, ((repRoot R).1.1.toNat : Int) = h := ⟨_, rfl⟩
  obtain ⟨d1, hd1⟩ : ∃ h, ((repRoot R).1.2.1.toNat : Int) = h := ⟨_, rfl⟩
  obtain ⟨d2, hd2⟩ : ∃ h, ((repRoot R).1.2.2.toNat : Int) = h := ⟨_, rfl⟩
  obtain ⟨x, hx⟩ : ∃ h, (repRoot R).2 = h := ⟨_, rfl⟩
  have HV := hide (And.intro hh (And.intro hd0 (And.intro hd1 (And.intro hd2 hx))))
  rw [hh, hd0, hd1, hd2, hx]
  clear hh hd0 hd1 hd2 hx
  unfold ownRepV
  go_enter Tryz.func81, Tryz.ntmps81
  go_wp2_with fail
  have HS : Hid (RA w (repH R) Ls 0 (.slice (some ⟨w.heap.size + 1, 0, none⟩) 0 0) ((w.alloc (repC h d0 d1 d2 x)).alloc (Obj.cells #[] 118)) ∧ ((w.alloc (repC h d0 d1 d2 x)).alloc (Obj.cells #[] 118)).heap[w.heap.size]? = some (repC h d0 d1 d2 x)) := by
    have hb : Below w.heap.size w ((w.alloc (repC h d0 d1 d2 x)).alloc (Obj.cells #[] 118)) := ((Below.refl _ _).alloc (Nat.le_refl _) _).alloc (by simp) _
    have hg := heap_new1 w (repC h d0 d1 d2 x) (Obj.cells #[] 118)
    refine ⟨⟨hb, ⟨[], rfl, ⟨rfl, .inr ⟨w.heap.size + 1, 0, #[], rfl, by omega, hg, Nat.le_refl _, by unfold maxLen; omega, rfl, rfl⟩⟩, fun r hr => by cases hr⟩, fun _ g e j => ?_, _, _, rfl⟩, heap_next (heap_alloc_new w _)⟩
    cases e
    rw [block_cell hg]
    rfl
  unfold repC at HS
  go_loopw [14, 6, 8, 9, 10] (fun i v _ _ _ wr => ∃ m : Nat, m ≤ n ∧ i = .int .i64 m ∧ RA w (repH R) Ls m v wr ∧ (∀ k (hk : k < Ls.length), k < m → verOk R Ls[k]) ∧ wr.heap[w.heap.size]? = some (repC h d0 d1 d2 x)) (fun i _ _ _ _ _ => n - (intOf i).toNat)
  case atStart => exact ⟨0, Nat.zero_le _, rfl, (unhide HS).1, fun _ _ h => by omega, (unhide HS).2⟩
  case round =>
    obtain ⟨m, hm, rfl, hRA, hall, hrep⟩ := hrel
    clear HS
    by_cases hm' : m < n
    · have hml : m < Ls.length := by rw [hnn]; exact hm'
      obtain ⟨b, off, rfl, args⟩ := unhide HA (by omega)
      have hcl := (hRA.below.cell (p := ⟨b, off + m, none⟩) args.lt).trans (args.cell m hml)
      have hRD : ∀ w', Below wr.heap.size wr w' → Calls Tryz.prog 77 #[.slice (vs m).1 (vs m).2.1 (vs m).2.2, .int .i64 (repH R : Int)] w' (PrfSay (repH R) Ls[m] w') := fun w' hb => args.read m hml w' (hRA.below.trans (hb.mono hRA.below.size))
      obtain ⟨⟨va, vn, vc⟩, hvs⟩ : ∃ q, vs m = q := ⟨_, rfl⟩
      rw [hvs] at hcl hRD
      simp only at hcl hRD
      have a0 : wr.cell? ⟨w.heap.size, 0, none⟩ = some (.int .i64 h) := block_cell hrep
      have a1 : wr.cell? ⟨w.heap.size, 1, none⟩ = some (.int .u8 d0) := block_cell hrep
      have a2 : wr.cell? ⟨w.heap.size, 2, none⟩ = some (.int .u8 d1) := block_cell hrep
      have a3 : wr.cell? ⟨w.heap.size, 3, none⟩ = some (.int .u8 d2) := block_cell hrep
      have a4 : wr.cell? ⟨w.heap.size, 4, none⟩ = some (.int .u64 x) := block_cell hrep
      have im : (m : Int) < (n : Int) := by omega
      have HX := hide (And.intro hRA (And.intro hall hrep))
      by_cases hy : verOk R Ls[m]
      · have hC := rdacc_yes (.slice va vn vc) wr hy hRD
        rw [(unhide HV).1, (unhide HV).2.1, (unhide HV).2.2.1, (unhide HV).2.2.2.1, (unhide HV).2.2.2.2] at hC
        have HC := hide hC
        have HY := hide hy
        unfold ownRepV at HC
        clear hC hRD args hRA hall hrep hy HA HOK
        go_wp2_with fail
        refine (unhide HC).mono ?_
        rintro e w2 ⟨⟨g, rfl, hg, hsd⟩, hb2⟩
        have hb3 := hb2.trans (((Below.refl w2.heap.size w2).alloc (Nat.le_refl _) (proofC (bAt Ls[m] 1 : Int) ⟨(accName Ls[m]).toArray⟩ (accBal Ls[m]) (accSalt Ls[m]) (some ⟨g, 0, none⟩) (repH R) (repH R))).mono hb2.size)
        have hn3 := heap_alloc_new w2 (proofC (bAt Ls[m] 1 : Int) ⟨(accName Ls[m]).toArray⟩ (accBal Ls[m]) (accSalt Ls[m]) (some ⟨g, 0, none⟩) (repH R) (repH R))
        have hs3 : g < (w2.alloc (proofC (bAt Ls[m] 1 : Int) ⟨(accName Ls[m]).toArray⟩ (accBal Ls[m]) (accSalt Ls[m]) (some ⟨g, 0, none⟩) (repH R) (repH R))).heap.size ∧ SidesAt (w2.alloc (proofC (bAt Ls[m] 1 : Int) ⟨(accName Ls[m]).toArray⟩ (accBal Ls[m]) (accSalt Ls[m]) (some ⟨g, 0, none⟩) (repH R) (repH R))) g (sidesOf (Ls[m].drop (19 + bAt Ls[m] 2)) (repH R)) := ⟨by simp; omega, hsd.below ((Below.refl w2.heap.size w2).alloc (Nat.le_refl _) _) hg⟩
        have HX3 := hide (And.intro ((unhide HX).1.later hb3) (And.intro ((hb3.block _ (Array.getElem?_eq_some_iff.1 (unhide HX).2.2).1).trans (unhide HX).2.2) hs3))
        clear hb2 hb3 hsd hs3 HC a0 a1 a2 a3 a4
        unfold proofV
        unfold proofC at *
        obtain ⟨pn, hpn⟩ : ∃ p : Int, (bAt Ls[m] 1 : Int) = p := ⟨_, rfl⟩
        obtain ⟨nm, hnm⟩ : ∃ p : ByteArray, (⟨(accName Ls[m]).toArray⟩ : ByteArray) = p := ⟨_, rfl⟩
        obtain ⟨bal, hbl⟩ : ∃ p : Int, accBal Ls[m] = p := ⟨_, rfl⟩
        obtain ⟨salt, hsl⟩ : ∃ p : Int, accSalt Ls[m] = p := ⟨_, rfl⟩
        obtain ⟨H, hH⟩ : ∃ p : Nat, repH R = p := ⟨_, rfl⟩
        have HN := hide (And.intro hpn (And.intro hnm (And.intro hbl hsl)))
        have HHH := hide hH
        rw [hpn, hnm, hbl, hsl, hH]
        rw [hpn, hnm, hbl, hsl, hH] at HX3 hn3
        clear hpn hnm hbl hsl hH
        go_upto_region 6 with fail
        generalize (w2.alloc (Obj.cells #[Value.int IntKind.i64 pn, Value.string nm, Value.int IntKind.u64 bal, Value.int IntKind.u64 salt, Value.slice (some ⟨g, 0, none⟩) H H] 118)) = W3 at *
        generalize w2.heap.size = X at *
        have e0 : W3.cell? ⟨X, 0, none⟩ = some (.int .i64 pn) := block_cell hn3
        have e1 : W3.cell? ⟨X, 1, none⟩ = some (.string nm) := block_cell hn3
        have e2 : W3.cell? ⟨X, 2, none⟩ = some (.int .u64 bal) := block_cell hn3
        have e3 : W3.cell? ⟨X, 3, none⟩ = some (.int .u64 salt) := block_cell hn3
        have e4 : W3.cell? ⟨X, 4, none⟩ = some (.slice (some ⟨g, 0, none⟩) H H) := block_cell hn3
        clear hn3 hcl
        have hR3 := (unhide HX3).1
        obtain ⟨rows, hr1, hr2, hr3⟩ := hR3.row
        have HR := hide (And.intro hr1 (And.intro hr2 hr3))
        have hbz : w.heap.size ≤ W3.heap.size := hR3.below.size
        clear hR3 hr1 hr2 hr3
        go_wp2_with (at_builtin; refine wpList_append_own _ rfl (.tmp 26) (.tmp 28) 156 rfl w.heap.size 118 i0 _ 5 64 Tryz.underlying156 hi hz0 hz1 hz2 rfl (by decide) _ _ _ rfl ((unhide HR).2.1.alloc _) ⟨W3.heap.size, 0, none⟩ 1 1 [.int .i64 pn, .string nm, .int .u64 bal, .int .u64 salt, .slice (some ⟨g, 0, none⟩) H H] rfl rfl ?c1 ?c2 ?c3 ?c4 ?c5 ?_)
        case c1 =>
          intro j u hu
          match j, hu with
          | 0, hu => simp at hu; subst hu; simp [addr_add]
          | 1, hu => simp at hu; subst hu; simp [addr_add]
          | 2, hu => simp at hu; subst hu; simp [addr_add]
          | 3, hu => simp at hu; subst hu; simp [addr_add]
          | 4, hu => simp at hu; subst hu; simp [addr_add]
        case c2 => intro u hu; simp at hu; rcases hu with rfl | rfl | rfl | rfl | rfl <;> rfl
        case c3 => unfold maxLen; omega
        case c4 => omega
        case c5 => simp; omega
        intro v' w4 hown4 hgrow4 _
        have hb4 : Below W3.heap.size W3 (W3.alloc (Obj.cells #[Value.int IntKind.i64 pn, Value.string nm, Value.int IntKind.u64 bal, Value.int IntKind.u64 salt, Value.slice (some ⟨g, 0, none⟩) H H] 118)) := (Below.refl _ _).alloc (Nat.le_refl _) _
        have hRA4 : RA w H Ls (m + 1) v' w4 := by
          obtain ⟨hr1, hr2, hr3⟩ := unhide HR
          refine ((unhide HX3).1.later hb4).snoc (l := Ls[m]) (sb := g) (List.getElem?_eq_getElem hml) hr1 (hr2.alloc _) (fun r hr => ⟨Nat.lt_of_lt_of_le (hr3 r hr).1 hb4.size, (hr3 r hr).2.below hb4 (hr3 r hr).1⟩) ⟨Nat.lt_of_lt_of_le (unhide HX3).2.2.1 hb4.size, (unhide HX3).2.2.2.below hb4 (unhide HX3).2.2.1⟩ ?_ hgrow4
          have := unhide HN
          unfold pvals
          rw [this.1, this.2.1, this.2.2.1, this.2.2.2]
          exact hown4
        have hrep4 : w4.heap[w.heap.size]? = some (repC h d0 d1 d2 x) := by
          have h3 := (hb4.block _ (Array.getElem?_eq_some_iff.1 (unhide HX3).2.1).1).trans (unhide HX3).2.1
          refine (hgrow4.block _ (Array.getElem?_eq_some_iff.1 h3).1 (fun e => ?_)).trans h3
          rcases (unhide HR).2.1.2 with ⟨e2, _⟩ | ⟨g', cap', cur, e2, _, e3, _⟩
          · rw [e2] at e; cases e
          · rw [e2] at e
            cases e
            have := e3.symm.trans (unhide HX3).2.1
            simp [repC] at this
        have hall4 : ∀ k (hk : k < Ls.length), k < m + 1 → verOk R Ls[k] := fun k hk hkm => by
          by_cases e : k = m
          · subst e; exact unhide HY
          · exact (unhide HX).2.1 k hk (by omega)
        have HF := hide (And.intro hRA4 (And.intro hall4 hrep4))
        clear hRA4 hall4 hrep4 hb4 hown4 hgrow4 e0 e1 e2 e3 e4 HR HX3 HX HN HY
        go_wp2
        go_roundw
        case rel =>
          refine ⟨m + 1, by omega, by go_num, ?_, (unhide HF).2.1, (unhide HF).2.2⟩
          rw [unhide HHH]
          exact (unhide HF).1
        case measure => simp [intOf]; omega
      · have hC := rdacc_bad (.slice va vn vc) wr (unhide HOK) hy hRD
        rw [(unhide HV).1, (unhide HV).2.1, (unhide HV).2.2.1, (unhide HV).2.2.2.1, (unhide HV).2.2.2.2] at hC
        have HC := hide hC
        have HY : Hid (∃ l ∈ Ls, ¬ verOk R l) := ⟨Ls[m], List.getElem_mem hml, hy⟩
        unfold ownRepV proofZ at HC
        clear hC hRD args hRA hall hrep hy HA HOK
        go_wp2_with fail
        refine (unhide HC).mono ?_
        rintro e w2 ⟨rfl, hb2⟩
        have hb3 := hb2.trans (((Below.refl w2.heap.size w2).alloc (Nat.le_refl _) (Obj.cells #[Value.int IntKind.i64 0, Value.string ⟨#[]⟩, Value.int IntKind.u64 0, Value.int IntKind.u64 0, Value.slice none 0 0] 118)).mono hb2.size)
        have HB3 := hide ((unhide HX).1.below.trans (hb3.mono (unhide HX).1.below.size))
        clear hb2 hb3 HC a0 a1 a2 a3 a4 HX
        go_wp2
        go_ret2
        exact ⟨unhide HB3, .inl ⟨unhide HY, rfl⟩⟩
    · have hmm : m = n := by omega
      subst hmm
      obtain ⟨g6, c6, rfl⟩ := hRA.sl
      have HX : Hid (RdAllP R Ls w (.returned (.tuple #[.slice (some ⟨g6, 0, none⟩) m c6, .bool true])) wr) := by
        subst hnn
        obtain ⟨g, c, e1, e2, e3, e4⟩ := hRA.prfs
        cases e1
        refine ⟨hRA.below, .inr ⟨fun l hl => ?_, g6, c6, rfl, e2, e3, e4⟩⟩
        obtain ⟨k, hk, rfl⟩ := List.getElem_of_mem hl
        exact hall k hk hk
      clear hRA hall hrep HA HOK
      go_wp2
      go_ret2
      exact unhide HX

end Go.Proofs.YtbjobbkgelipmaaGreat

/-
  The walk of tithe's nameTwice.
-/
namespace Go.Proofs.YtbjobbkgelipmaaGreat
open Go.RowKit Go.Sort Go.Shelf

theorem Tryz.infoString : (Tryz.prog.info? 9).map (fun i => (i.zero, i.size, i.bytes)) = some (some (.string ⟨#[]⟩), 1, 16) := by kernel_rfl

/-- A sorted list keeps all its elements when runs are cut iff no two are the same. -/
theorem compact_len (s : List (List UInt8)) (hs : s.Pairwise (· ≤ ·)) : (Lib.compactUpTo s.toArray s.length).length < s.length ↔ ¬ s.Nodup := by
  have hle : (Lib.compactUpTo s.toArray s.length).length ≤ s.length := by
    unfold Lib.compactUpTo
    rw [List.length_map]
    exact Nat.le_trans (List.length_filter_le _ _) (by simp)
  have key : (Lib.compactUpTo s.toArray s.length).length = s.length ↔ ∀ j, j < s.length → Lib.keeps s.toArray j = true := by
    unfold Lib.compactUpTo
    rw [List.length_map]
    constructor
    · intro h j hj
      have h2 := List.length_filter_eq_length_iff.1 (h.trans (List.length_range (n := s.length)).symm)
      exact h2 j (List.mem_range.2 hj)
    · intro h
      rw [List.filter_eq_self.2 (fun j hj => h j (List.mem_range.1 hj)), List.length_range]
  have g : ∀ j (hj : j < s.length), s.toArray[j]! = s[j] := fun j hj => by simp [getElem!_pos, hj]
  have nd : s.Nodup ↔ ∀ j, j < s.length → Lib.keeps s.toArray j = true := by
    constructor
    · intro h j hj
      by_cases h0 : j = 0
      · subst h0; exact Lib.keeps_lt_one _ 0 (by omega)
      · refine Lib.keeps_pos fun e => ?_
        rw [g j hj, g (j - 1) (by omega)] at e
        have := (List.nodup_iff_pairwise_ne.1 h |> List.pairwise_iff_getElem.1) (j - 1) j (by omega) hj (by omega)
        exact this e.symm
    · intro h
      refine List.nodup_iff_pairwise_ne.2 (List.pairwise_iff_getElem.2 fun i j hi hj hij e => ?_)
      have hk := h (i + 1) (by omega)
      have hp := List.pairwise_iff_getElem.1 hs
      have h1 : s[i] ≤ s[i + 1] := hp i (i + 1) hi (by omega) (by omega)
      have h2 : s[i + 1] ≤ s[j] := by
        by_cases e2 : i + 1 = j
        · subst e2; exact List.le_refl _
        · exact hp (i + 1) j (by omega) hj (by omega)
      have h3 : s[i] = s[i + 1] := List.le_antisymm h1 (by rw [e]; exact h2)
      simp only [Lib.keeps, decide_eq_true_eq] at hk
      rcases hk with hk | hk
      · omega
      · rw [g (i + 1) (by omega), g (i + 1 - 1) (by omega)] at hk
        exact hk (by simpa using h3.symm)
  rw [nd, ← key]
  omega
theorem sort_pw (ss : List (List UInt8)) : (ss.mergeSort fun x y => decide (x ≤ y)).Pairwise (· ≤ ·) := by
  have := List.pairwise_mergeSort (le := fun x y : List UInt8 => decide (x ≤ y)) (fun a b c h1 h2 => by
    simp only [decide_eq_true_eq] at *
    exact List.le_trans h1 h2) (fun a b => by
    simp only [Bool.or_eq_true, decide_eq_true_eq]
    exact List.le_total a b) ss
  exact this.imp fun {a b} hab => by simpa using hab

/-- The names written so far. -/
def NamesTo (W : World) (G n : Nat) (ns : List (List UInt8)) : Prop := W.rowIs G 9 n fun j => .string ⟨(ns.getD j []).toArray⟩

theorem namesTo_new {N : Nat} {W : World} {G n : Nat} (hW : W.ownsRow N 9 1 (.slice (some ⟨G, 0, none⟩) n n) n (madeCells #[Value.string ⟨#[]⟩] n).toList) : NamesTo W G n [] := by
  rcases hW.2 with ⟨e, _⟩ | ⟨g, cap, cur, hv, hN, hg, h1, h2, h3, h4⟩
  · cases e
  · simp only [Value.slice.injEq, Option.some.injEq, Addr.mk.injEq] at hv
    obtain ⟨⟨rfl, _⟩, _, rfl⟩ := hv
    refine ⟨cur, hg, by omega, fun i hi => ?_⟩
    have e1 : (cur.toList.take (n * 1))[i]? = cur[i]? := by rw [List.getElem?_take, if_pos (by omega)]; simp
    rw [← e1, h4]
    have : (madeCells #[Value.string ⟨#[]⟩] n).toList[i]? = some (#[Value.string ⟨#[]⟩][i % 1]!) := by
      simp [madeCells, hi]
    rw [this, Nat.mod_one]
    rfl
theorem NamesTo.below {W W' : World} {G n : Nat} {ns : List (List UInt8)} (h : NamesTo W G n ns) (hb : Below W.heap.size W W') : NamesTo W' G n ns := by
  obtain ⟨c, h1, h2⟩ := h
  exact ⟨c, (hb.block _ (Array.getElem?_eq_some_iff.1 h1).1).trans h1, h2⟩
theorem NamesTo.snoc {W : World} {G n m : Nat} {ns : List (List UInt8)} {x : List UInt8} (h : NamesTo W G n (ns.take m)) (hx : ns[m]? = some x) (hm : m < n) : NamesTo (W.setCell ⟨G, m, none⟩ (.string ⟨x.toArray⟩)) G n (ns.take (m + 1)) := by
  obtain ⟨c, h1, h2, h3⟩ := h
  refine ⟨_, heap_setCell_same W G m _ _ _ h1, by simpa using h2, fun i hi => ?_⟩
  have hl : m < ns.length := by
    by_cases e : m < ns.length
    · exact e
    · rw [List.getElem?_eq_none (by omega)] at hx; cases hx
  by_cases e : i = m
  · subst e
    rw [Array.getElem?_setIfInBounds_self_of_lt (by omega)]
    have : (ns.take (i + 1)).getD i [] = x := by
      rw [List.getD_eq_getElem?_getD, List.getElem?_take, if_pos (by omega), hx]; rfl
    exact congrArg (fun t : List UInt8 => some (Value.string ⟨t.toArray⟩)) this.symm
  · rw [Array.getElem?_setIfInBounds_ne (Ne.symm e), h3 i hi]
    have : (ns.take (m + 1)).getD i [] = (ns.take m).getD i [] := by
      rw [List.getD_eq_getElem?_getD, List.getD_eq_getElem?_getD, List.getElem?_take, List.getElem?_take]
      by_cases e2 : i < m
      · rw [if_pos (by omega), if_pos e2]
      · rw [if_neg (by omega), if_neg e2]
    exact congrArg (fun t : List UInt8 => some (Value.string ⟨t.toArray⟩)) this.symm
theorem NamesTo.holds {W : World} {G n : Nat} {ns : List (List UInt8)} (h : NamesTo W G n ns) (hl : ns.length = n) : Holds encStr W G 0 ns.toArray := fun j hj => by
  have hj' : j < ns.length := by simpa using hj
  obtain ⟨c, h1, h2, h3⟩ := h
  rw [Nat.zero_add]
  refine ⟨?_, block_free h1⟩
  rw [block_cell h1, h3 j (by omega)]
  have e1 : ns.getD j [] = ns[j] := by rw [List.getD_eq_getElem?_getD, List.getElem?_eq_getElem hj']; rfl
  have e2 : ns.toArray[j]! = ns[j] := by simp [getElem!_pos, hj']
  exact congrArg (fun t : List UInt8 => some (Value.string ⟨t.toArray⟩)) (e1.trans e2.symm)

set_option maxHeartbeats 2000000 in
set_option maxRecDepth 100000 in
theorem twice_any {w : World} {g h : Nat} (Ls : List (List UInt8)) (cap : Nat) (hg : g < w.heap.size) (hP : PrfsAt w g h Ls) (hn : Ls.length ≤ 1048576) :
    Calls Tryz.prog 82 #[.slice (some ⟨g, 0, none⟩) Ls.length cap] w fun e w' => e = .returned (.bool (decide ¬ (Ls.map accName).Nodup)) ∧ Below w.heap.size w w' := by
  obtain ⟨i0, hi, hz0, hz1, hz2⟩ := info_parts Tryz.infoString
  have HP := hide hP
  clear hP
  obtain ⟨n, hnn⟩ : ∃ n, Ls.length = n := ⟨_, rfl⟩
  rw [hnn]
  rw [hnn] at hn
  go_enter Tryz.func82, Tryz.ntmps82
  go_wp2_with (at_make; refine wpList_make_full _ rfl _ _ 36 rfl w.heap.size 9 i0 _ 1 Tryz.underlying36 hi hz0 hz1 _ _ _ _ n rfl rfl rfl rfl (by rw [hz2]; omega) (by unfold maxLen; omega) (Nat.le_refl _) ?_)
  intro w1 hown1 hgrow1
  have hB1 : Below w.heap.size w w1 := (Below.refl _ _).grown hgrow1 (Nat.le_refl _) (fun b hb => by cases hb)
  have HS := hide (And.intro hB1 (namesTo_new hown1))
  clear hB1 hown1 hgrow1 hz0 hz1 hz2 hi
  go_wp2_with fail
  go_loopw [11, 4, 5] (fun i _ _ wr => ∃ m : Nat, m ≤ n ∧ i = .int .i64 m ∧ NamesTo wr w.heap.size n ((Ls.map accName).take m) ∧ Below w.heap.size w wr) (fun i _ _ _ => n - (intOf i).toNat)
  case atStart => exact ⟨0, Nat.zero_le _, rfl, (unhide HS).2, (unhide HS).1⟩
  case round =>
    obtain ⟨m, hm, rfl, hN, hB⟩ := hrel
    clear HS
    by_cases hm' : m < n
    · have hml : m < Ls.length := by rw [hnn]; exact hm'
      obtain ⟨sb, _, c0, c1, c2, c3, c4⟩ := ((unhide HP).below hB hg) m hml
      have hb3 : Below wr.heap.size wr (wr.alloc (Obj.cells #[Value.int IntKind.i64 (bAt Ls[m] 1 : Int), Value.string ⟨(accName Ls[m]).toArray⟩, Value.int IntKind.u64 (accBal Ls[m]), Value.int IntKind.u64 (accSalt Ls[m]), Value.slice (some ⟨sb, 0, none⟩) h h] 118)) := (Below.refl _ _).alloc (Nat.le_refl _) _
      have hx3 := heap_alloc_new wr (Obj.cells #[Value.int IntKind.i64 (bAt Ls[m] 1 : Int), Value.string ⟨(accName Ls[m]).toArray⟩, Value.int IntKind.u64 (accBal Ls[m]), Value.int IntKind.u64 (accSalt Ls[m]), Value.slice (some ⟨sb, 0, none⟩) h h] 118)
      have hn3 := hN.below hb3
      have hn4 := hn3.snoc (x := accName Ls[m]) (by rw [List.getElem?_map, List.getElem?_eq_getElem hml]; rfl) hm'
      have hB4 : Below w.heap.size w ((wr.alloc (Obj.cells #[Value.int IntKind.i64 (bAt Ls[m] 1 : Int), Value.string ⟨(accName Ls[m]).toArray⟩, Value.int IntKind.u64 (accBal Ls[m]), Value.int IntKind.u64 (accSalt Ls[m]), Value.slice (some ⟨sb, 0, none⟩) h h] 118)).setCell ⟨w.heap.size, m, none⟩ (.string ⟨(accName Ls[m]).toArray⟩)) := (hB.trans (hb3.mono hB.size)).setCell (by show w.heap.size ≤ w.heap.size; omega) _
      have HF := hide (And.intro hn4 hB4)
      have HN3 := hide hn3
      generalize (bAt Ls[m] 1 : Int) = pn at *
      generalize (⟨(accName Ls[m]).toArray⟩ : ByteArray) = nm at *
      generalize accBal Ls[m] = bal at *
      generalize accSalt Ls[m] = salt at *
      have im : (m : Int) < (n : Int) := by omega
      clear hN hB hb3 hn3 hn4 hB4
      go_upto_region 5 with fail
      generalize (wr.alloc (Obj.cells #[Value.int IntKind.i64 pn, Value.string nm, Value.int IntKind.u64 bal, Value.int IntKind.u64 salt, Value.slice (some ⟨sb, 0, none⟩) h h] 118)) = W3 at *
      have e1 : W3.cell? ⟨wr.heap.size, 1, none⟩ = some (.string nm) := block_cell hx3
      obtain ⟨cs, q1, q2, q3⟩ := unhide HN3
      have e2 : W3.cell? ⟨w.heap.size, m, none⟩ = some (cs[m]'(by omega)) := by rw [block_cell q1]; exact Array.getElem?_eq_getElem _
      have e3 : ∀ j, W3.frozen? ⟨w.heap.size, j, none⟩ = false := fun j => block_free q1
      clear hx3 q1 q3 HN3 c0 c1 c2 c3 c4
      go_wp2
      go_roundw
      case rel => exact ⟨m + 1, by omega, by go_num, (unhide HF).1, (unhide HF).2⟩
      case measure => simp [intOf]; omega
    · have hmm : m = n := by omega
      subst hmm
      have hl : (Ls.map accName).length = m := by rw [List.length_map, hnn]
      rw [List.take_of_length_le (by omega)] at hN
      have hH := hN.holds hl
      have hGl : w.heap.size < wr.heap.size := by obtain ⟨c, q, _⟩ := hN; exact (Array.getElem?_eq_some_iff.1 q).1
      generalize hns : Ls.map accName = ns at *
      have hso : Calls Tryz.prog 89 #[.slice (some ⟨w.heap.size, 0, none⟩) ns.length m] wr fun e w' => e = .returned (.tuple #[]) ∧ ∃ k os, w' = grow (putRow encStr (Sort.ahead wr k) w.heap.size 0 (ns.mergeSort fun x y => decide (x ≤ y)).toArray) os := AnyM.slices_Sort_string Tryz.sortL w.heap.size 0 m ns wr hH hGl (by omega)
      have hsl : (ns.mergeSort fun x y => decide (x ≤ y)).length = m := by rw [List.length_mergeSort]; exact hl
      have hpw := sort_pw ns
      have hpm : (ns.mergeSort fun x y => decide (x ≤ y)).Nodup ↔ ns.Nodup := (List.mergeSort_perm ns _).nodup_iff
      generalize (ns.mergeSort fun x y => decide (x ≤ y)) = st at *
      have hss : st.toArray.size = m := by simp [hsl]
      have hnd : decide ((Lib.compactUpTo st.toArray m).length < m) = decide ¬ (Ls.map accName).Nodup := by
        refine decide_eq_decide.2 ?_
        have h1 := compact_len _ hpw
        rw [hsl] at h1
        rw [hns, h1]
        exact not_congr hpm
      have hcp : ∀ k os, Calls Tryz.prog 97 #[.slice (some ⟨w.heap.size, 0, none⟩) st.toArray.size m] (grow (putRow encStr (Sort.ahead wr k) w.heap.size 0 st.toArray) os) fun e w' => e = .returned (.slice (some ⟨w.heap.size, 0, none⟩) (Lib.compactUpTo st.toArray st.toArray.size).length m) ∧ ∃ q, w' = putRow encStr (Sort.ahead (grow (putRow encStr (Sort.ahead wr k) w.heap.size 0 st.toArray) os) q) w.heap.size 0 (Lib.compactUpTo st.toArray st.toArray.size ++ List.replicate (st.toArray.size - (Lib.compactUpTo st.toArray st.toArray.size).length) []).toArray := fun k os =>
        Any.slices_Compact_string_arr Tryz.compactL w.heap.size 0 m st.toArray _ (holds_grow _ _ _ _ _ _ (by simpa [Sort.ahead] using hGl) (holds_putRow _ _ _ _ _ _ (holds_ahead _ _ k _ _ _ hH) (by simp [hsl, hl]))) (by omega) (by omega)
      have hbl : ∀ k os q (d : Array (List UInt8)), Below w.heap.size w (putRow encStr (Sort.ahead (grow (putRow encStr (Sort.ahead wr k) w.heap.size 0 st.toArray) os) q) w.heap.size 0 d) := fun k os q d => Lib.below_putRow (hB.grown (grownBy_sorted _) hB.size (fun j hj => by cases hj; exact Nat.le_refl _)) (Nat.le_refl _)
      rw [hl] at hso
      rw [hss] at hcp
      generalize hcl : (Lib.compactUpTo st.toArray m) = ct at *
      have HSO := hide hso
      have HCP := hide hcp
      have HND := hide hnd
      have HBL := hide hbl
      clear hso hcp hnd hbl hN hB hH hGl hl hsl hns HP hpw hpm hss hcl
      go_wp2_with fail
      refine (unhide HSO).mono ?_
      rintro e w2 ⟨rfl, k, os, rfl⟩
      have HC := hide (unhide HCP k os)
      have HB2 := hide (unhide HBL k os)
      generalize (grow (putRow encStr (Sort.ahead wr k) w.heap.size 0 st.toArray) os) = W2 at *
      clear HSO HCP HBL
      go_wp2_with fail
      refine (unhide HC).mono ?_
      rintro e w3 ⟨rfl, q, rfl⟩
      have HB3 := hide (unhide HB2 q)
      clear HC HB2
      go_wp2
      go_ret
      refine ⟨?_, unhide HB3 _⟩
      rw [← unhide HND]
      rfl

end Go.Proofs.YtbjobbkgelipmaaGreat

/-
  The walk of tithe's Extract.
-/
namespace Go.Proofs.YtbjobbkgelipmaaGreat
open Go.RowKit

theorem PrfArgs.later {w w' : World} {h : Nat} {Ls : List (List UInt8)} {b off : Nat} {vs : Nat → Option Addr × Nat × Nat} (p : PrfArgs w h Ls b off vs) (hb : Below w.heap.size w w') : PrfArgs w' h Ls b off vs :=
  ⟨Nat.lt_of_lt_of_le p.lt hb.size, fun i hi => (hb.cell (p := ⟨b, off + i, none⟩) p.lt).trans (p.cell i hi), fun i hi w2 hb2 => p.read i hi w2 (hb.trans (hb2.mono hb.size))⟩
theorem TwoAt.mono {N M : Nat} {W : World} {v u : Value} {x y : List UInt8} (t : TwoAt N W v u x y) (h : M ≤ N) : TwoAt M W v u x y := by
  rcases t with t | ⟨t1, t2, t3⟩
  · exact .inl t
  · exact .inr ⟨t1.mono h, t2.mono h, t3⟩

/-- What Extract owes. -/
def ExtP (R : List UInt8) (Ls : List (List UInt8)) (w : World) (e : Ending) (w' : World) : Prop :=
  (∃ v u x y er, e = .returned (.tuple #[v, u, .int .i64 er]) ∧ ExtAns R Ls x y er ∧ TwoAt w.heap.size w' v u x y) ∧ Below w.heap.size w w'

set_option maxHeartbeats 2000000 in
set_option maxRecDepth 100000 in
theorem extract_any (R : List UInt8) (Ls : List (List UInt8)) (v1 : Value) (a : Option Addr) (cap : Nat) (vs : Nat → Option Addr × Nat × Nat) (w : World) (hn : Ls.length ≤ 1048576)
    (hR : Calls Tryz.prog 60 #[v1] w fun e w' => RepSay R e ∧ Below w.heap.size w w') (hA : repOk R → 0 < Ls.length → ∃ b off, a = some ⟨b, off, none⟩ ∧ PrfArgs w (repH R) Ls b off vs) :
    Calls Tryz.prog 64 #[v1, .slice a Ls.length cap] w (ExtP R Ls w) := by
  have HR := hide hR
  have HA := hide hA
  have HN := hide hn
  clear hR hA hn
  obtain ⟨n, hnn⟩ : ∃ n, Ls.length = n := ⟨_, rfl⟩
  rw [hnn]
  go_enter Tryz.func64, Tryz.ntmps64
  go_wp2_with fail
  refine (unhide HR).mono ?_
  rintro e w1 ⟨hs, hb1⟩
  rcases hs with ⟨hok, rfl⟩ | ⟨hno, h, d0, d1, d2, x, rfl⟩
  · have hb2 : Below w.heap.size w (w1.alloc (repC (repH R : Int) ((repRoot R).1.1.toNat : Int) ((repRoot R).1.2.1.toNat : Int) ((repRoot R).1.2.2.toNat : Int) (repRoot R).2)) := hb1.alloc hb1.size _
    have hx2 := heap_alloc_new w1 (repC (repH R : Int) ((repRoot R).1.1.toNat : Int) ((repRoot R).1.2.1.toNat : Int) ((repRoot R).1.2.2.toNat : Int) (repRoot R).2)
    have hC := rdall_any R Ls a cap vs (w1.alloc (repC (repH R : Int) ((repRoot R).1.1.toNat : Int) ((repRoot R).1.2.1.toNat : Int) ((repRoot R).1.2.2.toNat : Int) (repRoot R).2)) hok (unhide HN) (fun h0 => by
      obtain ⟨b, off, e, p⟩ := unhide HA hok h0
      exact ⟨b, off, e, p.later hb2⟩)
    rw [hnn] at hC
    have HOK := hide hok
    unfold ownRepV repC at *
    obtain ⟨H, hH⟩ : ∃ p : Nat, repH R = p := ⟨_, rfl⟩
    rw [hH] at hC hb2 hx2 ⊢
    have HHH := hide hH
    generalize ((repRoot R).1.1.toNat : Int) = d0 at *
    generalize ((repRoot R).1.2.1.toNat : Int) = d1 at *
    generalize ((repRoot R).1.2.2.toNat : Int) = d2 at *
    generalize (repRoot R).2 = rx at *
    clear hH hok hb1 HR HA
    go_upto_region 2 with fail
    generalize (w1.alloc (Obj.cells #[Value.int IntKind.i64 (H : Int), Value.int IntKind.u8 d0, Value.int IntKind.u8 d1, Value.int IntKind.u8 d2, Value.int IntKind.u64 rx] 108)) = W2 at *
    generalize w1.heap.size = X at *
    have a0 : W2.cell? ⟨X, 0, none⟩ = some (.int .i64 (H : Int)) := block_cell hx2
    have a1 : W2.cell? ⟨X, 1, none⟩ = some (.int .u8 d0) := block_cell hx2
    have a2 : W2.cell? ⟨X, 2, none⟩ = some (.int .u8 d1) := block_cell hx2
    have a3 : W2.cell? ⟨X, 3, none⟩ = some (.int .u8 d2) := block_cell hx2
    have a4 : W2.cell? ⟨X, 4, none⟩ = some (.int .u64 rx) := block_cell hx2
    have hXl := (Array.getElem?_eq_some_iff.1 hx2).1
    have HC := hide hC
    have HB2 := hide hb2
    clear hC hb2 hx2
    go_wp2_with fail
    refine (unhide HC).mono ?_
    rintro e w3 ⟨hb3, hcs⟩
    have hB3 := (unhide HB2).trans (hb3.mono (unhide HB2).size)
    have b0 := keepB hb3 hXl a0
    have hX3 : X < w3.heap.size := Nat.lt_of_lt_of_le hXl hb3.size
    clear a0 a1 a2 a3 a4 HC hb3
    rcases hcs with ⟨hbad, rfl⟩ | ⟨hall, g, c, rfl, hg, hgX, hP⟩
    · have HF : Hid (ExtP R Ls w (.returned (.tuple #[.slice none 0 0, .slice none 0 0, .int .i64 9])) w3) := ⟨⟨_, _, [], [], 9, rfl, .inr (.inl ⟨unhide HOK, hbad, rfl, rfl, rfl⟩), .inl ⟨rfl, rfl, rfl, rfl⟩⟩, hB3⟩
      clear hbad hB3 b0
      go_wp2
      go_ret3
      exact unhide HF
    · have HT := hide (twice_any (h := repH R) Ls c hg hP (unhide HN))
      have HX3 := hide (And.intro hall (And.intro hP (And.intro hg hB3)))
      rw [hnn] at HT ⊢
      generalize hbb : decide (¬ (Ls.map accName).Nodup) = bb at *
      clear hall hP hg hgX hB3
      go_wp2_with fail
      refine (unhide HT).mono ?_
      rintro e w4 ⟨rfl, hb4⟩
      have b4 := keepB hb4 hX3 b0
      have hB4 := (unhide HX3).2.2.2.trans (hb4.mono (unhide HX3).2.2.2.size)
      cases bb with
      | true =>
        have HF : Hid (ExtP R Ls w (.returned (.tuple #[.slice none 0 0, .slice none 0 0, .int .i64 3])) w4) := ⟨⟨_, _, [], [], 3, rfl, .inr (.inr (.inl ⟨unhide HOK, (unhide HX3).1, of_decide_eq_true hbb, rfl, rfl, rfl⟩)), .inl ⟨rfl, rfl, rfl, rfl⟩⟩, hB4⟩
        clear hB4 hb4 b0 b4 HT
        go_wp2
        go_ret3
        exact unhide HF
      | false =>
        have hnd : (Ls.map accName).Nodup := Classical.byContradiction fun h => by rw [decide_eq_true h] at hbb; cases hbb
        obtain ⟨hall, hP, hg, _⟩ := unhide HX3
        have hT := two_any (h := repH R) (repRoot R) Ls c (Nat.lt_of_lt_of_le hg hb4.size) (hP.below hb4 hg) (unhide HOK).1.2 (by have := unhide HN; omega) (fun l hl => (hall l hl).2.1) (fun l hl => (hall l hl).2.2)
        rw [hnn] at hT
        have HT2 := hide hT
        have hHH := unhide HHH
        have HF : Hid (∀ v u x y w5, ExtR (repH R) (Ls.map (dataOf (repH R) (repRoot R))) x y → TwoAt w4.heap.size w5 v u x y → Below w4.heap.size w4 w5 → ExtP R Ls w (.returned (.tuple #[v, u, .int .i64 0])) w5) := fun v u x y w5 h1 h2 h3 => ⟨⟨v, u, x, y, 0, rfl, .inr (.inr (.inr ⟨unhide HOK, hall, hnd, h1, rfl⟩)), h2.mono hB4.size⟩, hB4.trans (h3.mono hB4.size)⟩
        rw [hHH] at HT2
        clear hT hall hP hg hnd hB4 hb4 b0 HT HX3
        go_wp2_with fail
        refine (unhide HT2).mono ?_
        rintro e w5 ⟨⟨v, u, x, y, rfl, hE, hTw⟩, hb5⟩
        rw [← hHH] at hE
        have HG := hide (unhide HF v u x y w5 hE hTw hb5)
        clear hE hTw hb5 HF HT2
        go_wp2
        go_ret3
        exact unhide HG
  · have hb2 : Below w.heap.size w (w1.alloc (repC h d0 d1 d2 x)) := hb1.alloc hb1.size _
    have HF : Hid (ExtP R Ls w (.returned (.tuple #[.slice none 0 0, .slice none 0 0, .int .i64 8])) (w1.alloc (repC h d0 d1 d2 x))) := ⟨⟨_, _, [], [], 8, rfl, .inl ⟨hno, rfl, rfl, rfl⟩, .inl ⟨rfl, rfl, rfl, rfl⟩⟩, hb2⟩
    unfold ownRepV
    unfold repC at HF
    clear hb1 hb2 hno HR HA
    go_wp2
    go_ret3
    exact unhide HF

end Go.Proofs.YtbjobbkgelipmaaGreat

/-
  extracted: what both Extracts answer; how long their texts are.
-/
namespace Go.Proofs.YtbjobbkgelipmaaGreat
open Go.RowKit

theorem accUp_small {h : Nat} {l : List UInt8} (hh : accHead h l) : ∀ {k : Nat} {ts : List (List UInt8)} {now : Dg × Int}, accUp l k = some (ts, now) → ∀ t ∈ ts, t.length ≤ 26
  | 0, ts, now, e => by
    simp only [accUp, Option.some.injEq, Prod.mk.injEq] at e
    obtain ⟨rfl, _⟩ := e
    intro t ht
    simp at ht
    subst ht
    rw [accText0_len h l hh]
    have := hh.2.2.2.2.1
    omega
  | k + 1, ts, now, e => by
    simp only [accUp] at e
    split at e
    · cases e
    · rename_i ts0 now0 hu
      split at e
      · cases e
      · simp only [Option.some.injEq, Prod.mk.injEq] at e
        obtain ⟨rfl, _⟩ := e
        intro t ht
        rcases List.mem_append.1 ht with ht | ht
        · exact accUp_small hh hu t ht
        · simp at ht
          subst ht
          unfold upText
          split <;> simp [sideB_length]
theorem accOk_small {h : Nat} {root : Dg × Int} {l : List UInt8} {ts : List (List UInt8)} (hh : accHead h l) (e : accOk h root l = some ts) : ∀ t ∈ ts, t.length ≤ 26 := by
  unfold accOk at e
  split at e
  · cases e
  · unfold accTexts at e
    split at e
    · rename_i ts' now hu
      split at e
      · have e' : ts' = ts := Option.some.inj e
        subst e'
        exact accUp_small hh hu
      · cases e
    · cases e
theorem ExtAns.small {R : List UInt8} {Ls : List (List UInt8)} {x y : List UInt8} {e : Int} (a : ExtAns R Ls x y e) : x.length ≤ 26 ∧ y.length ≤ 26 := by
  rcases a with ⟨_, rfl, rfl, _⟩ | ⟨_, _, rfl, rfl, _⟩ | ⟨_, _, _, rfl, rfl, _⟩ | ⟨_, hv, _, hx, _⟩
  · simp
  · simp
  · simp
  · rcases hx with ⟨lv, pl, _, _, hf, _⟩ | ⟨rfl, rfl, _⟩
    · have key : ∀ t ∈ textsAt lv pl (Ls.map (dataOf (repH R) (repRoot R))), t.length ≤ 26 := fun t ht => by
        unfold textsAt at ht
        obtain ⟨d, hd, rfl⟩ := List.mem_map.1 ht
        obtain ⟨l, hl, rfl⟩ := List.mem_map.1 (List.mem_filter.1 hd).1
        obtain ⟨_, h1, h2⟩ := hv l hl
        obtain ⟨ts, hts⟩ := Option.isSome_iff_exists.1 h2
        unfold dataOf
        rw [hts]
        simp only [Option.getD_some]
        by_cases hj : lv < ts.length
        · rw [List.getD_eq_getElem?_getD, List.getElem?_eq_getElem hj]
          exact accOk_small h1 hts _ (List.getElem_mem hj)
        · rw [List.getD_eq_getElem?_getD, List.getElem?_eq_none (by omega)]
          exact Nat.zero_le _
      obtain ⟨_, h1, h2⟩ := firstTwo_some hf
      exact ⟨key x h1, key y h2⟩
    · simp

theorem TwoAt.own {N : Nat} {W : World} {v u : Value} {x y : List UInt8} (t : TwoAt N W v u x y) : W.ownsRow N 5 1 v x.length (byteVals x) ∧ W.ownsRow N 5 1 u y.length (byteVals y) ∧ ((v.ownBlock = none ∧ u.ownBlock = none) ∨ v.ownBlock ≠ u.ownBlock) := by
  rcases t with ⟨rfl, rfl, rfl, rfl⟩ | ⟨t1, t2, t3⟩
  · exact ⟨⟨rfl, .inl ⟨rfl, rfl⟩⟩, ⟨rfl, .inl ⟨rfl, rfl⟩⟩, .inl ⟨rfl, rfl⟩⟩
  · exact ⟨t1.owns, t2.owns, .inr t3⟩

/-- tithe's Extract, of lists that are lent. -/
theorem XM.ext {w W : World} {A Q : Nat} {s : ByteArray} {la : Option Addr} {lc : Nat} {v : Value} {Bs : List ByteArray} {b : Nat → Nat} (x : XM w W A Q s la lc v Bs Bs.length b) (hss : s.size ≤ 140737488351232) (hsz : ∀ j, (txB Bs j).size ≤ 1048576) (hn : Bs.length ≤ 1048576) {W' : World} (hb : Below W.heap.size W W') :
    Calls Tryz.prog 64 #[.slice (some ⟨A, 0, none⟩) s.size (s.size + 8), .slice (some ⟨Q, 0, none⟩) Bs.length (Bs.length + 8)] W' (ExtP s.data.toList (Bs.map fun s => s.data.toList) W') := by
  have y := x.later hb
  have ls : s.data.toList.length = s.size := by simp
  have hAl : A < W'.heap.size := y.rep.lt
  have hL : (Bs.map fun s => s.data.toList).length = Bs.length := List.length_map ..
  have hrow : ∀ j, j < Bs.length → BytesAt W' (b j) 0 (txB Bs j).data.toList := fun j hj => lentV_bytes (txB Bs j) W' (b j) (y.row j hj)
  have h := extract_any s.data.toList (Bs.map fun s => s.data.toList) (.slice (some ⟨A, 0, none⟩) s.data.toList.length (s.size + 8)) (some ⟨Q, 0, none⟩) (Bs.length + 8) (fun j => (some ⟨b j, 0, none⟩, (txB Bs j).size, (txB Bs j).size + 8)) W' (by rw [hL]; exact hn)
    (rdrep_all s.data.toList A (s.size + 8) W' (by omega) (by omega) hAl (lentV_bytes s W' A y.rep))
    (fun hok h0 => ⟨Q, 0, rfl, y.list.lt, fun i hi => ?_, fun i hi w2 hb2 => ?_⟩)
  · rw [ls, hL] at h
    exact h
  · rw [hL] at hi
    rw [Nat.zero_add, y.list.cell (by omega), if_pos hi]
    rfl
  · rw [hL] at hi
    have lt : (txB Bs i).data.toList.length = (txB Bs i).size := by simp
    have e1 : (Bs.map fun s => s.data.toList)[i] = (txB Bs i).data.toList := by rw [List.getElem_map, txB_at hi]
    have hlt := (y.row i hi).lt
    have := rdpr_all (b i) ((txB Bs i).size + 8) (repH s.data.toList) (txB Bs i).data.toList w2 (by omega) (fun _ => by omega) (by have := hsz i; omega) hok.1.2 (Nat.lt_of_lt_of_le hlt hb2.size) (fun j hj => (hb2.cell (p := ⟨b i, 0 + j, none⟩) hlt).trans (hrow i hi j hj))
    rw [e1]
    rw [lt] at this
    exact this

/-- One of the lists that were lent is kept. -/
theorem XM.keepOne {w W0 W : World} {A Q : Nat} {s : ByteArray} {la : Option Addr} {lc : Nat} {v : Value} {Bs : List ByteArray} {k : Nat} {b : Nat → Nat} (x : XM w W0 A Q s la lc v Bs k b) {B nn : Nat} {c : Nat → Nat} {ps : Value} {pl : List Nat} {q m : Nat} (hq : q < k) (ks : KS W0 B nn w.heap.size c ps pl (fun g => ∃ i, q ≤ i ∧ i < k ∧ g = b i) m W) (hB : B < w.heap.size) (hsz : (txB Bs q).size ≤ 1048576) (hl : (m + 4) * 8 ≤ 140737488355328) :
    (∃ Vb vcap, v = .slice (some ⟨Vb, 0, none⟩) k vcap ∧ W.cell? ⟨Vb, q, none⟩ = some (.slice (some ⟨b q, 0, none⟩) ((txB Bs q).size + 8) ((txB Bs q).size + 8))) ∧
    Calls Tryz.prog 33 #[.pointer (some ⟨B, 0, none⟩), .slice (some ⟨b q, 0, none⟩) ((txB Bs q).size + 8) ((txB Bs q).size + 8)] W fun e W' => e = .returned (.tuple #[]) ∧ KS W0 B nn w.heap.size c ps pl (fun g => ∃ i, q + 1 ≤ i ∧ i < k ∧ g = b i) (m + 4) W' := by
  have hA := x.hA
  have hQ := x.hQ
  constructor
  · obtain ⟨Vb, vcap, eV, hVB, hVl⟩ := x.own.form (by omega)
    have hown := x.own
    rw [eV] at hown
    have cV := hown.cellAt q (by omega)
    rw [List.getElem?_map, List.getElem?_range hq] at cV
    obtain ⟨cur, hVt⟩ := own_type hown (g := Vb) rfl
    exact ⟨Vb, vcap, eV, ks.cellV (by omega) hVt (by decide) (by decide) cV⟩
  · have hrow := row_own (base := A) (x.row q hq) (by have := x.bQ q hq; omega) (by unfold maxLen; omega)
    refine (ks.step hB hrow (by omega) (fun g hg => ⟨q, Nat.le_refl _, hq, (Option.some.inj hg).symm⟩) (by omega) hl).mono ?_
    rintro e W' ⟨he, hk⟩
    refine ⟨he, hk.less fun g hg => ?_⟩
    obtain ⟨i, h1, h2, rfl⟩ := hg
    refine ⟨⟨i, by omega, h2, rfl⟩, fun e => ?_⟩
    have e1 : b i = b q := Option.some.inj e
    have := x.inc q i (by omega) h2
    omega

end Go.Proofs.YtbjobbkgelipmaaGreat
