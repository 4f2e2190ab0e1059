/-
  titheref's book: the walk of Open.
-/
import Derived.Sort.KeysCollected
import Derived.Laws.BitsAllLaws
import Derived.Lib.MinMax
import Derived.OwnWalk
import Derived.Test.YtbjobbkgelipmaaGreatBkaf
import Derived.Test.YtbjobbkgelipmaaGreatBkae
import Derived.Test.YtbjobbkgelipmaaGreatBkaa
import Derived.Test.YtbjobbkgelipmaaGreatBkac
namespace Go.Proofs.YtbjobbkgelipmaaGreat
open Go.RowKit Go.Maps Go.WideShapes Go.WideMaps Go.MapKept Go.ChangeMaps Go.WideAt

set_option maxHeartbeats 400000 in
set_option maxRecDepth 100000 in
theorem refopen_no {N : Nat} {w : World} {Rb : Nat} {h seed : Int} {E : List Acct} {lv : Value} {th : Int} {tv : Value} {told : Bool} (r : RefT N w Rb h seed (refA E) lv th tv told) (s : ByteArray) (hE : E.length ≤ 2000000000000) (hno : openE E s.data.toList ≠ 0) :
    Calls Tryz.prog 20 #[.pointer (some ⟨Rb, 0, none⟩), .string s] w fun e w' => e = .returned (.int .i64 (openE E s.data.toList)) ∧ w' = w := by
  have hF := find_any r s.data.toList (by rw [refA_len]; omega)
  have es : strV s.data.toList = .string s := rfl
  rw [es] at hF
  have hsz : s.data.toList.length = s.size := by simp
  unfold openE at hno ⊢
  rw [hsz] at hno ⊢
  by_cases h1 : 1 ≤ s.size
  · by_cases h8 : s.size ≤ 8
    · rw [if_pos ⟨h1, h8⟩] at hno ⊢
      rcases find_look E s.data.toList with ⟨k1, k2⟩ | ⟨i, hi, k1, k2, k3⟩
      · rw [k2] at hno
        exact absurd rfl hno
      · rw [k1] at hF
        rw [k2]
        have HF := hide hF
        have j1 : ¬ (s.size : Int) < 1 := by omega
        have j2 : ¬ (8 : Int) < (s.size : Int) := by omega
        have j3 : (0 : Int) ≤ (i : Int) := by omega
        clear r hF hno k2
        go_enter Tryz.func20, Tryz.ntmps20
        go_wp2_with fail
        refine (unhide HF).mono ?_
        rintro e w1 ⟨rfl, rfl⟩
        go_wp2
        go_ret
        exact ⟨rfl, rfl⟩
    · rw [if_neg (fun h => h8 h.2)]
      have j1 : ¬ (s.size : Int) < 1 := by omega
      have j2 : (8 : Int) < (s.size : Int) := by omega
      clear r hF hno
      go_enter Tryz.func20, Tryz.ntmps20
      go_wp2
      go_ret
      exact ⟨rfl, rfl⟩
  · rw [if_neg (fun h => h1 h.1)]
    have j1 : (s.size : Int) < 1 := by omega
    clear r hF hno
    go_enter Tryz.func20, Tryz.ntmps20
    go_wp2
    go_ret
    exact ⟨rfl, rfl⟩

set_option maxHeartbeats 2000000 in
set_option maxRecDepth 100000 in
theorem refopen_yes {N : Nat} {w : World} {Rb : Nat} {h seed : Int} {E : List Acct} {lv : Value} {th : Int} {tv : Value} {told : Bool} (r : RefT N w Rb h seed (refA E) lv th tv told) (s : ByteArray) (A : Nat) (hE : E.length ≤ 2000000000000) (hN : N ≤ w.heap.size) (hyes : openE E s.data.toList = 0) :
    Calls Tryz.prog 20 #[.pointer (some ⟨Rb, 0, none⟩), .string s] w fun e w' => e = .returned (.int .i64 0) ∧ (∃ lv', RefT N w' Rb h seed (refA (insE ⟨s.data.toList, A, 0⟩ E)) lv' th tv told ∧ ∀ g, lv'.ownBlock = some g → w.heap.size ≤ g) ∧ Kept [Rb] w w' := by
  have hF := find_any r s.data.toList (by rw [refA_len]; omega)
  have es : strV s.data.toList = .string s := rfl
  rw [es] at hF
  have hsz : s.data.toList.length = s.size := by simp
  unfold openE at hyes
  rw [hsz] at hyes
  have hn18 : 1 ≤ s.size ∧ s.size ≤ 8 := Classical.byContradiction fun h => by rw [if_neg h] at hyes; cases hyes
  rw [if_pos hn18] at hyes
  have hk : lookE E s.data.toList = none := by
    cases hk : lookE E s.data.toList with
    | none => rfl
    | some a => rw [hk] at hyes; cases hyes
  have k1 : findI (refA E) s.data.toList = -1 := by
    rcases find_look E s.data.toList with ⟨k1, _⟩ | ⟨i, hi, _, k2, _⟩
    · exact k1
    · rw [hk] at k2; cases k2
  rw [k1] at hF
  obtain ⟨i0', hi', hz0, hz1, hz2⟩ := info_parts Tryz.infoAcct
  have hins : ∀ k, k ≤ E.length → (∀ j (hj : j < E.length), j < k → bytesBefore E[j].name s.data.toList = true) → (∀ hk : k < E.length, bytesBefore E[k].name s.data.toList = false) → refA (insE ⟨s.data.toList, A, 0⟩ E) = (refA E).take k ++ [(s.data.toList, 0)] ++ (refA E).drop k := fun k hk1 h1 h2 => by
    rw [ins_take ⟨s.data.toList, A, 0⟩ E k hk1 h1 h2 (lookE_none hk)]
    simp [refA]
  have HINS := hide hins
  have HF := hide hF
  obtain ⟨a, c, rfl, hc, c2, hg⟩ := r.found
  have HR := hide r
  have j1 : ¬ (s.size : Int) < 1 := by omega
  have j2 : ¬ (8 : Int) < (s.size : Int) := by omega
  have hcells := r.cells
  clear hyes hk hins hF hn18 hsz k1 r
  cases a with
  | none =>
    obtain ⟨hnil, hn0, hc0⟩ := hcells.1 rfl
    have hE0 : E = [] := by simpa [refA] using hnil
    subst hE0
    simp only [List.length_nil] at c2 HR hn0 hc0
    subst hc0
    have HIns := hide (unhide HINS 0 (Nat.le_refl _) (fun j hj => by simp at hj) (fun h => by simp at h))
    clear hg hcells hnil HINS hn0
    go_enter Tryz.func20, Tryz.ntmps20
    go_wp2_with fail
    refine (unhide HF).mono ?_
    rintro e w1 ⟨rfl, rfl⟩
    clear HF
    go_wp2
    go_loop [5] (fun at_ => at_ = .int .i64 0) (fun at_ => 0)
    case atStart => rfl
    case round =>
      subst hrel

      go_wp2_with (at_builtin; refine wpList_append_may _ rfl (.tmp 40) (.tmp 46) 94 rfl w1.heap.size 98 i0' _ 2 24 Tryz.underlying94 hi' hz0 hz1 hz2 rfl (by decide) _ 0 [] rfl ⟨rfl, .inl ⟨rfl, rfl⟩⟩ none 0 0 [] rfl (fun _ => ⟨rfl, rfl⟩) rfl (fun ad e => by cases e) (fun u hu => by cases hu) (by unfold maxLen; omega) (by omega) (Nat.le_refl _) ?_)
      intro v1 w2 hown2 hg2
      have hRl := (Array.getElem?_eq_some_iff.1 (unhide HR).blk).1
      have hRb2 : w2.heap[Rb]? = w1.heap[Rb]? := hg2.block _ hRl (by intro e; cases e)
      have HV1 : Hid (∀ g, v1.ownBlock = some g → w1.heap.size ≤ g) := hide fun g hg => (hown2.lt g hg).1
      have HO2 := hide hown2
      have HG2 := hide hg2
      have HRB := hide hRb2
      have hsz2 := hg2.size
      clear hown2 hg2 hRb2 c2
      go_wp2_with (at_builtin; refine wpList_append_own _ rfl (.tmp 48) (.tmp 51) 94 rfl w1.heap.size 98 i0' _ 2 24 Tryz.underlying94 hi' hz0 hz1 hz2 rfl (by decide) _ _ _ rfl ((unhide HO2).alloc _) ⟨w2.heap.size, 0, none⟩ 1 1 [.string s, .int .u64 0] rfl rfl ?b1n ?b2n ?b3n ?b4n ?b5n ?_)
      case b1n =>
        intro j u hu
        match j, hu with
        | 0, hu => simp at hu; subst hu; simp [addr_add]
        | 1, hu => simp at hu; subst hu; simp [addr_add]
      case b2n => intro u hu; simp at hu; rcases hu with rfl | rfl <;> rfl
      case b3n => unfold maxLen; omega
      case b4n => omega
      case b5n => simp; omega
      intro v2 w3 hown3 hg3 _
      have hA3 : Below w2.heap.size w2 (w2.alloc (Obj.cells #[Value.string s, Value.int IntKind.u64 0] 98)) := (Below.refl _ _).alloc (Nat.le_refl _) _
      have hsz3 := hg3.size
      have hszA : (w2.alloc (Obj.cells #[Value.string s, Value.int IntKind.u64 0] 98)).heap.size = w2.heap.size + 1 := World.size_alloc _ _
      have h3 : ∀ k, k < w1.heap.size → w3.heap[k]? = w2.heap[k]? := fun k hk => (hg3.block k (by omega) (fun e => by have := unhide HV1 _ e.symm; omega)).trans (hA3.block k (by omega))
      have HRB3 := hide ((h3 _ hRl).trans (unhide HRB))
      have c2' : w3.cell? ⟨Rb, 2, none⟩ = some (.slice none 0 0) := block_cell ((unhide HRB3).trans (unhide HR).blk)
      have HV2 : Hid (∀ g, v2.ownBlock = some g → w1.heap.size ≤ g) := hide fun g hg => (hown3.lt g hg).1
      have HK3 : Hid (Kept [Rb] w1 w3) := hide ((((Kept.refl [Rb] w1).grown (unhide HG2) (fun g e => by cases e)).trans (Kept.of_below hA3)).grown hg3 (unhide HV1))
      have HO3 := hide hown3
      clear hown3 hg3 HO2 HG2 HRB HV1 h3
      go_wp2_with (at_builtin; refine wpList_append_may _ rfl (.tmp 54) (.tmp 60) 94 rfl w1.heap.size 98 i0' _ 2 24 Tryz.underlying94 hi' hz0 hz1 hz2 rfl (by decide) _ _ _ rfl (unhide HO3) none 0 0 [] rfl (fun _ => ⟨rfl, rfl⟩) rfl (fun ad e => by cases e) (fun u hu => by cases hu) (by unfold maxLen; omega) (by omega) (by omega) ?_)
      intro v3 w4 hown4 hg4
      obtain ⟨a3, e3, rfl⟩ := own_slice hown4
      have hRb4 : w4.heap[Rb]? = w1.heap[Rb]? := (hg4.block _ (by omega) (fun e => by have := unhide HV2 _ e.symm; omega)).trans (unhide HRB3)
      have hins := unhide HIns
      have hlen4 : 1 = (refA (insE ⟨s.data.toList, A, 0⟩ [])).length := rfl
      have hvals4 : [.string s, .int .u64 0] = acctVals (refA (insE ⟨s.data.toList, A, 0⟩ [])) := rfl
      have hrw4 : ∀ v n xs, w4.ownsRow w1.heap.size 98 2 v n xs → n = 1 → xs = [.string s, .int .u64 0] → w4.ownsRow N 98 2 v (refA (insE ⟨s.data.toList, A, 0⟩ [])).length (acctVals (refA (insE ⟨s.data.toList, A, 0⟩ []))) := fun v n xs ho hn hx => by
        rw [← hlen4, ← hvals4, ← hn, ← hx]
        exact own_lower2 ho hN
      have hown4' := hrw4 _ _ _ hown4 (by omega) (by simp)
      have hdone := (unhide HR).row hRb4 hown4'
      have hv4 := fun gg hgg => (hown4.lt gg hgg).1
      have hK4 := fun v => ((unhide HK3).grown hg4 (unhide HV2)).trans (Kept.setCell (S := [Rb]) (b := Rb) (i := 2) (by simp) v)
      have c4' : w4.cell? ⟨Rb, 2, none⟩ = some (.slice none 0 0) := block_cell (hRb4.trans (unhide HR).blk)
      have f4' : w4.frozen? ⟨Rb, 2, none⟩ = false := block_free (hRb4.trans (unhide HR).blk)
      have HD := hide (And.intro hdone (And.intro hv4 hK4))
      clear hown4 hg4 hown4' hdone hv4 hK4 hvals4 hlen4 hRb4 HO3 HRB3 HR HIns HV2 HK3 hins hrw4
      go_wp2
      go_ret
      exact ⟨rfl, ⟨_, (unhide HD).1, (unhide HD).2.1⟩, (unhide HD).2.2 _⟩
  | some ad =>
    obtain ⟨g, rfl, hNg, hgl, _, hcs⟩ := hcells.2 _ rfl
    rw [refA_len] at hcs
    have HCS := hide hcs
    have HG := hide fun k hk => (hg k hk)
    clear hg hcs hcells
    go_enter Tryz.func20, Tryz.ntmps20
    go_wp2_with fail
    refine (unhide HF).mono ?_
    rintro e w1 ⟨rfl, rfl⟩
    clear HF
    go_wp2
    go_loop [5] (fun at_ => ∃ k : Nat, k ≤ E.length ∧ at_ = .int .i64 k ∧ ∀ j (hj : j < E.length), j < k → bytesBefore E[j].name s.data.toList = true) (fun at_ => E.length - (intOf at_).toNat)
    case atStart => exact ⟨0, Nat.zero_le _, rfl, fun j _ hj => by omega⟩
    case round =>
      obtain ⟨k, hk, rfl, hbef⟩ := hrel
      have HBef := hide hbef
      clear hbef
      by_cases hlt : k < E.length
      · obtain ⟨g', eg, _, _, ck, _, _⟩ := unhide HG k hlt
        cases eg
        have ik : (k : Int) < (E.length : Int) := by omega
        have ek : strV E[k].name = .string ⟨E[k].name.toArray⟩ := rfl
        rw [ek] at ck
        have hless : Op.bytesLess E[k].name s.toList = bytesBefore E[k].name s.data.toList := by
          rw [less_before, ByteArray.toList_eq]
        cases hb : bytesBefore E[k].name s.data.toList with
        | true =>
          rw [hb] at hless
          have HB := hide hb
          generalize hnm : E[k].name = nm at *
          clear hb
          go_wp2
          refine ⟨⟨k + 1, by omega, by go_num, fun j hj hjk => ?_⟩, by simp [intOf]; omega⟩
          by_cases e : j = k
          · subst e
            rw [hnm]
            exact unhide HB
          · exact unhide HBef j hj (by omega)
        | false =>
          rw [hb] at hless
          have HIns := hide (unhide HINS k hk (unhide HBef) (fun _ => hb))
          have hck : ¬ c = k := by omega
          have ik2 : (k : Int) ≤ (E.length : Int) := by omega
          have ik3 : (k : Int) ≤ (c : Int) := by omega
          clear HINS HBef
          generalize E[k].name = nm at *
          clear hb
          have HT1 : Hid (((acctVals (refA E)).take (k * 2)).length = k * 2) := hide (by rw [List.length_take, acctVals_len, refA_len]; omega)
          have HT2 : Hid (∀ ad, some (⟨g, 0, none⟩ : Addr) = some ad → ∀ j u, ((acctVals (refA E)).take (k * 2))[j]? = some u → w1.cell? (ad.add j) = some u) := hide (by
            intro ad ea j u hu
            cases ea
            rw [List.getElem?_take] at hu
            split at hu
            · rw [addr_add, Nat.zero_add, unhide HCS j (by omega)]; exact hu
            · cases hu)
          have HT3 : Hid (∀ u ∈ (acctVals (refA E)).take (k * 2), u.oneCell' = true) := hide (fun u hu => acctVals_one _ u (List.mem_of_mem_take hu))
          go_wp2_with (at_builtin; refine wpList_append_may _ rfl (.tmp 40) (.tmp 46) 94 rfl w1.heap.size 98 i0' _ 2 24 Tryz.underlying94 hi' hz0 hz1 hz2 rfl (by decide) _ 0 [] rfl ⟨rfl, .inl ⟨rfl, rfl⟩⟩ (some ⟨g, 0, none⟩) k c ((acctVals (refA E)).take (k * 2)) rfl (fun e => by cases e) (unhide HT1) (unhide HT2) (unhide HT3) (by unfold maxLen; omega) (by omega) (Nat.le_refl _) ?_)
          intro v1 w2 hown2 hg2
          have hRl := (Array.getElem?_eq_some_iff.1 (unhide HR).blk).1
          have hRb2 : w2.heap[Rb]? = w1.heap[Rb]? := hg2.block _ hRl (by intro e; cases e)
          have hgc2 : w2.heap[g]? = w1.heap[g]? := hg2.block _ hgl (by intro e; cases e)
          have HV1 : Hid (∀ g, v1.ownBlock = some g → w1.heap.size ≤ g) := hide fun g hg => (hown2.lt g hg).1
          have HO2 := hide hown2
          have HG2 := hide hg2
          have HRB := hide hRb2
          have HGC := hide hgc2
          have hsz2 := hg2.size
          clear hown2 hg2 hRb2 hgc2 c2
          go_wp2_with (at_builtin; refine wpList_append_own _ rfl (.tmp 48) (.tmp 51) 94 rfl w1.heap.size 98 i0' _ 2 24 Tryz.underlying94 hi' hz0 hz1 hz2 rfl (by decide) _ _ _ rfl ((unhide HO2).alloc _) ⟨w2.heap.size, 0, none⟩ 1 1 [.string s, .int .u64 0] rfl rfl ?b1x ?b2x ?b3x ?b4x ?b5x ?_)
          case b1x =>
            intro j u hu
            match j, hu with
            | 0, hu => simp at hu; subst hu; simp [addr_add]
            | 1, hu => simp at hu; subst hu; simp [addr_add]
          case b2x => intro u hu; simp at hu; rcases hu with rfl | rfl <;> rfl
          case b3x => unfold maxLen; omega
          case b4x => omega
          case b5x => simp; omega
          intro v2 w3 hown3 hg3 _
          have hA3 : Below w2.heap.size w2 (w2.alloc (Obj.cells #[Value.string s, Value.int IntKind.u64 0] 98)) := (Below.refl _ _).alloc (Nat.le_refl _) _
          have hsz3 := hg3.size
          have hszA : (w2.alloc (Obj.cells #[Value.string s, Value.int IntKind.u64 0] 98)).heap.size = w2.heap.size + 1 := World.size_alloc _ _
          have h3 : ∀ k, k < w1.heap.size → w3.heap[k]? = w2.heap[k]? := fun k hk => (hg3.block k (by omega) (fun e => by have := unhide HV1 _ e.symm; omega)).trans (hA3.block k (by omega))
          have HRB3 := hide ((h3 _ hRl).trans (unhide HRB))
          have HGC3 := hide ((h3 _ hgl).trans (unhide HGC))
          have c2' : w3.cell? ⟨Rb, 2, none⟩ = some (.slice (some ⟨g, 0, none⟩) E.length c) := block_cell ((unhide HRB3).trans (unhide HR).blk)
          have HV2 : Hid (∀ g, v2.ownBlock = some g → w1.heap.size ≤ g) := hide fun g hg => (hown3.lt g hg).1
          have HK3 : Hid (Kept [Rb] w1 w3) := hide ((((Kept.refl [Rb] w1).grown (unhide HG2) (fun g e => by cases e)).trans (Kept.of_below hA3)).grown hg3 (unhide HV1))
          have HO3 := hide hown3
          have HX1 : Hid (((acctVals (refA E)).drop (k * 2)).length = (E.length - k) * 2) := hide (by rw [List.length_drop, acctVals_len, refA_len]; omega)
          have HX2 : Hid (∀ ad, (some ⟨g, k * 2, none⟩ : Option Addr) = some ad → ∀ j u, ((acctVals (refA E)).drop (k * 2))[j]? = some u → w3.cell? (ad.add j) = some u) := hide (by
            intro ad ea j u hu
            rw [List.getElem?_drop] at hu
            have hjl : k * 2 + j < (acctVals (refA E)).length := (List.getElem?_eq_some_iff.1 hu).1
            rw [acctVals_len, refA_len] at hjl
            first
              | omega
              | (have := unhide HKE; omega)
              | (cases ea
                 rw [addr_add]
                 rw [World.cell?_of_block (a := ⟨g, k * 2 + j, none⟩) (unhide HGC3), unhide HCS _ (by omega)]
                 exact hu))
          have HX3 : Hid (∀ u ∈ (acctVals (refA E)).drop (k * 2), u.oneCell' = true) := hide (fun u hu => acctVals_one _ u (List.mem_of_mem_drop hu))
          clear hown3 hg3 HO2 HG2 HRB HGC HV1 h3
          go_wp2_with (at_builtin; refine wpList_append_may _ rfl (.tmp 54) (.tmp 60) 94 rfl w1.heap.size 98 i0' _ 2 24 Tryz.underlying94 hi' hz0 hz1 hz2 rfl (by decide) _ _ _ rfl (unhide HO3) (some ⟨g, k * 2, none⟩) (E.length - k) (c - k) ((acctVals (refA E)).drop (k * 2)) rfl (fun e => by cases e) (unhide HX1) (unhide HX2) (unhide HX3) (by unfold maxLen; omega) (by omega) (by omega) ?_)
          intro v3 w4 hown4 hg4
          obtain ⟨a3, e3, rfl⟩ := own_slice hown4
          have hRb4 : w4.heap[Rb]? = w1.heap[Rb]? := (hg4.block _ (by omega) (fun e => by have := unhide HV2 _ e.symm; omega)).trans (unhide HRB3)
          have hins := unhide HIns
          have hlen4 : k + 1 + (E.length - k) = (refA (insE ⟨s.data.toList, A, 0⟩ E)).length := by
            rw [hins]
            simp only [List.length_append, List.length_take, List.length_drop, refA_len, List.length_cons, List.length_nil]
            omega
          have hvals4 : (acctVals (refA E)).take (k * 2) ++ [.string s, .int .u64 0] ++ (acctVals (refA E)).drop (k * 2) = acctVals (refA (insE ⟨s.data.toList, A, 0⟩ E)) := by
            rw [hins, acctVals_append, acctVals_append, acctVals_take, acctVals_drop _ _ (by rw [refA_len]; omega)]
            rfl
          have hrw4 : ∀ v n xs, w4.ownsRow w1.heap.size 98 2 v n xs → n = k + 1 + (E.length - k) → xs = (acctVals (refA E)).take (k * 2) ++ [.string s, .int .u64 0] ++ (acctVals (refA E)).drop (k * 2) → w4.ownsRow N 98 2 v (refA (insE ⟨s.data.toList, A, 0⟩ E)).length (acctVals (refA (insE ⟨s.data.toList, A, 0⟩ E))) := fun v n xs ho hn hx => by
            rw [← hlen4, ← hvals4, ← hn, ← hx]
            exact own_lower2 ho hN
          have hown4' := hrw4 _ _ _ hown4 (by omega) (by simp)
          have hdone := (unhide HR).row hRb4 hown4'
          have hv4 := fun gg hgg => (hown4.lt gg hgg).1
          have hK4 := fun v => ((unhide HK3).grown hg4 (unhide HV2)).trans (Kept.setCell (S := [Rb]) (b := Rb) (i := 2) (by simp) v)
          have c4' : w4.cell? ⟨Rb, 2, none⟩ = some (.slice (some ⟨g, 0, none⟩) E.length c) := block_cell (hRb4.trans (unhide HR).blk)
          have f4' : w4.frozen? ⟨Rb, 2, none⟩ = false := block_free (hRb4.trans (unhide HR).blk)
          have HD := hide (And.intro hdone (And.intro hv4 hK4))
          clear hown4 hg4 hown4' hdone hv4 hK4 hvals4 hlen4 hRb4 HO3 HRB3 HGC3 HR HIns HCS HV2 HK3 hins hrw4
          go_wp2
          go_ret
          exact ⟨rfl, ⟨_, (unhide HD).1, (unhide HD).2.1⟩, (unhide HD).2.2 _⟩
      · have HKE : Hid (k = E.length) := hide (by omega)
        have ik : ¬ (k : Int) < (E.length : Int) := by omega
        have HIns := hide (unhide HINS k hk (unhide HBef) (fun h => absurd h hlt))
        have ik2 : (k : Int) ≤ (E.length : Int) := by omega
        have ik3 : (k : Int) ≤ (c : Int) := by omega
        clear HINS HBef
        by_cases hck : c = k
        · have hck2 : k = c := hck.symm
          clear hck
          subst hck2
          clear hc
          have HT1 : Hid (((acctVals (refA E)).take (k * 2)).length = k * 2) := hide (by rw [List.length_take, acctVals_len, refA_len]; omega)
          have HT2 : Hid (∀ ad, some (⟨g, 0, none⟩ : Addr) = some ad → ∀ j u, ((acctVals (refA E)).take (k * 2))[j]? = some u → w1.cell? (ad.add j) = some u) := hide (by
            intro ad ea j u hu
            cases ea
            rw [List.getElem?_take] at hu
            split at hu
            · rw [addr_add, Nat.zero_add, unhide HCS j (by omega)]; exact hu
            · cases hu)
          have HT3 : Hid (∀ u ∈ (acctVals (refA E)).take (k * 2), u.oneCell' = true) := hide (fun u hu => acctVals_one _ u (List.mem_of_mem_take hu))
          go_wp2_with (at_builtin; refine wpList_append_may _ rfl (.tmp 40) (.tmp 46) 94 rfl w1.heap.size 98 i0' _ 2 24 Tryz.underlying94 hi' hz0 hz1 hz2 rfl (by decide) _ 0 [] rfl ⟨rfl, .inl ⟨rfl, rfl⟩⟩ (some ⟨g, 0, none⟩) k k ((acctVals (refA E)).take (k * 2)) rfl (fun e => by cases e) (unhide HT1) (unhide HT2) (unhide HT3) (by unfold maxLen; omega) (by omega) (Nat.le_refl _) ?_)
          intro v1 w2 hown2 hg2
          have hRl := (Array.getElem?_eq_some_iff.1 (unhide HR).blk).1
          have hRb2 : w2.heap[Rb]? = w1.heap[Rb]? := hg2.block _ hRl (by intro e; cases e)
          have hgc2 : w2.heap[g]? = w1.heap[g]? := hg2.block _ hgl (by intro e; cases e)
          have HV1 : Hid (∀ g, v1.ownBlock = some g → w1.heap.size ≤ g) := hide fun g hg => (hown2.lt g hg).1
          have HO2 := hide hown2
          have HG2 := hide hg2
          have HRB := hide hRb2
          have HGC := hide hgc2
          have hsz2 := hg2.size
          clear hown2 hg2 hRb2 hgc2 c2
          go_wp2_with (at_builtin; refine wpList_append_own _ rfl (.tmp 48) (.tmp 51) 94 rfl w1.heap.size 98 i0' _ 2 24 Tryz.underlying94 hi' hz0 hz1 hz2 rfl (by decide) _ _ _ rfl ((unhide HO2).alloc _) ⟨w2.heap.size, 0, none⟩ 1 1 [.string s, .int .u64 0] rfl rfl ?b1y ?b2y ?b3y ?b4y ?b5y ?_)
          case b1y =>
            intro j u hu
            match j, hu with
            | 0, hu => simp at hu; subst hu; simp [addr_add]
            | 1, hu => simp at hu; subst hu; simp [addr_add]
          case b2y => intro u hu; simp at hu; rcases hu with rfl | rfl <;> rfl
          case b3y => unfold maxLen; omega
          case b4y => omega
          case b5y => simp; omega
          intro v2 w3 hown3 hg3 _
          have hA3 : Below w2.heap.size w2 (w2.alloc (Obj.cells #[Value.string s, Value.int IntKind.u64 0] 98)) := (Below.refl _ _).alloc (Nat.le_refl _) _
          have hsz3 := hg3.size
          have hszA : (w2.alloc (Obj.cells #[Value.string s, Value.int IntKind.u64 0] 98)).heap.size = w2.heap.size + 1 := World.size_alloc _ _
          have h3 : ∀ k, k < w1.heap.size → w3.heap[k]? = w2.heap[k]? := fun k hk => (hg3.block k (by omega) (fun e => by have := unhide HV1 _ e.symm; omega)).trans (hA3.block k (by omega))
          have HRB3 := hide ((h3 _ hRl).trans (unhide HRB))
          have HGC3 := hide ((h3 _ hgl).trans (unhide HGC))
          have c2' : w3.cell? ⟨Rb, 2, none⟩ = some (.slice (some ⟨g, 0, none⟩) E.length k) := block_cell ((unhide HRB3).trans (unhide HR).blk)
          have HV2 : Hid (∀ g, v2.ownBlock = some g → w1.heap.size ≤ g) := hide fun g hg => (hown3.lt g hg).1
          have HK3 : Hid (Kept [Rb] w1 w3) := hide ((((Kept.refl [Rb] w1).grown (unhide HG2) (fun g e => by cases e)).trans (Kept.of_below hA3)).grown hg3 (unhide HV1))
          have HO3 := hide hown3
          have HX1 : Hid (((acctVals (refA E)).drop (k * 2)).length = (E.length - k) * 2) := hide (by rw [List.length_drop, acctVals_len, refA_len]; omega)
          have HX2 : Hid (∀ ad, (some ⟨g, 0, none⟩ : Option Addr) = some ad → ∀ j u, ((acctVals (refA E)).drop (k * 2))[j]? = some u → w3.cell? (ad.add j) = some u) := hide (by
            intro ad ea j u hu
            rw [List.getElem?_drop] at hu
            have hjl : k * 2 + j < (acctVals (refA E)).length := (List.getElem?_eq_some_iff.1 hu).1
            rw [acctVals_len, refA_len] at hjl
            first
              | omega
              | (have := unhide HKE; omega)
              | (cases ea
                 rw [addr_add]
                 rw [World.cell?_of_block (a := ⟨g, k * 2 + j, none⟩) (unhide HGC3), unhide HCS _ (by omega)]
                 exact hu))
          have HX3 : Hid (∀ u ∈ (acctVals (refA E)).drop (k * 2), u.oneCell' = true) := hide (fun u hu => acctVals_one _ u (List.mem_of_mem_drop hu))
          clear hown3 hg3 HO2 HG2 HRB HGC HV1 h3
          go_wp2_with (at_builtin; refine wpList_append_may _ rfl (.tmp 54) (.tmp 60) 94 rfl w1.heap.size 98 i0' _ 2 24 Tryz.underlying94 hi' hz0 hz1 hz2 rfl (by decide) _ _ _ rfl (unhide HO3) (some ⟨g, 0, none⟩) (E.length - k) 0 ((acctVals (refA E)).drop (k * 2)) rfl (fun e => by cases e) (unhide HX1) (unhide HX2) (unhide HX3) (by unfold maxLen; omega) (by omega) (by omega) ?_)
          intro v3 w4 hown4 hg4
          obtain ⟨a3, e3, rfl⟩ := own_slice hown4
          have hRb4 : w4.heap[Rb]? = w1.heap[Rb]? := (hg4.block _ (by omega) (fun e => by have := unhide HV2 _ e.symm; omega)).trans (unhide HRB3)
          have hins := unhide HIns
          have hlen4 : k + 1 + (E.length - k) = (refA (insE ⟨s.data.toList, A, 0⟩ E)).length := by
            rw [hins]
            simp only [List.length_append, List.length_take, List.length_drop, refA_len, List.length_cons, List.length_nil]
            omega
          have hvals4 : (acctVals (refA E)).take (k * 2) ++ [.string s, .int .u64 0] ++ (acctVals (refA E)).drop (k * 2) = acctVals (refA (insE ⟨s.data.toList, A, 0⟩ E)) := by
            rw [hins, acctVals_append, acctVals_append, acctVals_take, acctVals_drop _ _ (by rw [refA_len]; omega)]
            rfl
          have hrw4 : ∀ v n xs, w4.ownsRow w1.heap.size 98 2 v n xs → n = k + 1 + (E.length - k) → xs = (acctVals (refA E)).take (k * 2) ++ [.string s, .int .u64 0] ++ (acctVals (refA E)).drop (k * 2) → w4.ownsRow N 98 2 v (refA (insE ⟨s.data.toList, A, 0⟩ E)).length (acctVals (refA (insE ⟨s.data.toList, A, 0⟩ E))) := fun v n xs ho hn hx => by
            rw [← hlen4, ← hvals4, ← hn, ← hx]
            exact own_lower2 ho hN
          have hown4' := hrw4 _ _ _ hown4 (by omega) (by simp)
          have hdone := (unhide HR).row hRb4 hown4'
          have hv4 := fun gg hgg => (hown4.lt gg hgg).1
          have hK4 := fun v => ((unhide HK3).grown hg4 (unhide HV2)).trans (Kept.setCell (S := [Rb]) (b := Rb) (i := 2) (by simp) v)
          have c4' : w4.cell? ⟨Rb, 2, none⟩ = some (.slice (some ⟨g, 0, none⟩) E.length k) := block_cell (hRb4.trans (unhide HR).blk)
          have f4' : w4.frozen? ⟨Rb, 2, none⟩ = false := block_free (hRb4.trans (unhide HR).blk)
          have HD := hide (And.intro hdone (And.intro hv4 hK4))
          clear hown4 hg4 hown4' hdone hv4 hK4 hvals4 hlen4 hRb4 HO3 HRB3 HGC3 HR HIns HCS HV2 HK3 hins hrw4
          go_wp2
          go_ret
          exact ⟨rfl, ⟨_, (unhide HD).1, (unhide HD).2.1⟩, (unhide HD).2.2 _⟩
        · have HT1 : Hid (((acctVals (refA E)).take (k * 2)).length = k * 2) := hide (by rw [List.length_take, acctVals_len, refA_len]; omega)
          have HT2 : Hid (∀ ad, some (⟨g, 0, none⟩ : Addr) = some ad → ∀ j u, ((acctVals (refA E)).take (k * 2))[j]? = some u → w1.cell? (ad.add j) = some u) := hide (by
            intro ad ea j u hu
            cases ea
            rw [List.getElem?_take] at hu
            split at hu
            · rw [addr_add, Nat.zero_add, unhide HCS j (by omega)]; exact hu
            · cases hu)
          have HT3 : Hid (∀ u ∈ (acctVals (refA E)).take (k * 2), u.oneCell' = true) := hide (fun u hu => acctVals_one _ u (List.mem_of_mem_take hu))
          go_wp2_with (at_builtin; refine wpList_append_may _ rfl (.tmp 40) (.tmp 46) 94 rfl w1.heap.size 98 i0' _ 2 24 Tryz.underlying94 hi' hz0 hz1 hz2 rfl (by decide) _ 0 [] rfl ⟨rfl, .inl ⟨rfl, rfl⟩⟩ (some ⟨g, 0, none⟩) k c ((acctVals (refA E)).take (k * 2)) rfl (fun e => by cases e) (unhide HT1) (unhide HT2) (unhide HT3) (by unfold maxLen; omega) (by omega) (Nat.le_refl _) ?_)
          intro v1 w2 hown2 hg2
          have hRl := (Array.getElem?_eq_some_iff.1 (unhide HR).blk).1
          have hRb2 : w2.heap[Rb]? = w1.heap[Rb]? := hg2.block _ hRl (by intro e; cases e)
          have hgc2 : w2.heap[g]? = w1.heap[g]? := hg2.block _ hgl (by intro e; cases e)
          have HV1 : Hid (∀ g, v1.ownBlock = some g → w1.heap.size ≤ g) := hide fun g hg => (hown2.lt g hg).1
          have HO2 := hide hown2
          have HG2 := hide hg2
          have HRB := hide hRb2
          have HGC := hide hgc2
          have hsz2 := hg2.size
          clear hown2 hg2 hRb2 hgc2 c2
          go_wp2_with (at_builtin; refine wpList_append_own _ rfl (.tmp 48) (.tmp 51) 94 rfl w1.heap.size 98 i0' _ 2 24 Tryz.underlying94 hi' hz0 hz1 hz2 rfl (by decide) _ _ _ rfl ((unhide HO2).alloc _) ⟨w2.heap.size, 0, none⟩ 1 1 [.string s, .int .u64 0] rfl rfl ?b1z ?b2z ?b3z ?b4z ?b5z ?_)
          case b1z =>
            intro j u hu
            match j, hu with
            | 0, hu => simp at hu; subst hu; simp [addr_add]
            | 1, hu => simp at hu; subst hu; simp [addr_add]
          case b2z => intro u hu; simp at hu; rcases hu with rfl | rfl <;> rfl
          case b3z => unfold maxLen; omega
          case b4z => omega
          case b5z => simp; omega
          intro v2 w3 hown3 hg3 _
          have hA3 : Below w2.heap.size w2 (w2.alloc (Obj.cells #[Value.string s, Value.int IntKind.u64 0] 98)) := (Below.refl _ _).alloc (Nat.le_refl _) _
          have hsz3 := hg3.size
          have hszA : (w2.alloc (Obj.cells #[Value.string s, Value.int IntKind.u64 0] 98)).heap.size = w2.heap.size + 1 := World.size_alloc _ _
          have h3 : ∀ k, k < w1.heap.size → w3.heap[k]? = w2.heap[k]? := fun k hk => (hg3.block k (by omega) (fun e => by have := unhide HV1 _ e.symm; omega)).trans (hA3.block k (by omega))
          have HRB3 := hide ((h3 _ hRl).trans (unhide HRB))
          have HGC3 := hide ((h3 _ hgl).trans (unhide HGC))
          have c2' : w3.cell? ⟨Rb, 2, none⟩ = some (.slice (some ⟨g, 0, none⟩) E.length c) := block_cell ((unhide HRB3).trans (unhide HR).blk)
          have HV2 : Hid (∀ g, v2.ownBlock = some g → w1.heap.size ≤ g) := hide fun g hg => (hown3.lt g hg).1
          have HK3 : Hid (Kept [Rb] w1 w3) := hide ((((Kept.refl [Rb] w1).grown (unhide HG2) (fun g e => by cases e)).trans (Kept.of_below hA3)).grown hg3 (unhide HV1))
          have HO3 := hide hown3
          have HX1 : Hid (((acctVals (refA E)).drop (k * 2)).length = (E.length - k) * 2) := hide (by rw [List.length_drop, acctVals_len, refA_len]; omega)
          have HX2 : Hid (∀ ad, (some ⟨g, k * 2, none⟩ : Option Addr) = some ad → ∀ j u, ((acctVals (refA E)).drop (k * 2))[j]? = some u → w3.cell? (ad.add j) = some u) := hide (by
            intro ad ea j u hu
            rw [List.getElem?_drop] at hu
            have hjl : k * 2 + j < (acctVals (refA E)).length := (List.getElem?_eq_some_iff.1 hu).1
            rw [acctVals_len, refA_len] at hjl
            first
              | omega
              | (have := unhide HKE; omega)
              | (cases ea
                 rw [addr_add]
                 rw [World.cell?_of_block (a := ⟨g, k * 2 + j, none⟩) (unhide HGC3), unhide HCS _ (by omega)]
                 exact hu))
          have HX3 : Hid (∀ u ∈ (acctVals (refA E)).drop (k * 2), u.oneCell' = true) := hide (fun u hu => acctVals_one _ u (List.mem_of_mem_drop hu))
          clear hown3 hg3 HO2 HG2 HRB HGC HV1 h3
          go_wp2_with (at_builtin; refine wpList_append_may _ rfl (.tmp 54) (.tmp 60) 94 rfl w1.heap.size 98 i0' _ 2 24 Tryz.underlying94 hi' hz0 hz1 hz2 rfl (by decide) _ _ _ rfl (unhide HO3) (some ⟨g, k * 2, none⟩) (E.length - k) (c - k) ((acctVals (refA E)).drop (k * 2)) rfl (fun e => by cases e) (unhide HX1) (unhide HX2) (unhide HX3) (by unfold maxLen; omega) (by omega) (by omega) ?_)
          intro v3 w4 hown4 hg4
          obtain ⟨a3, e3, rfl⟩ := own_slice hown4
          have hRb4 : w4.heap[Rb]? = w1.heap[Rb]? := (hg4.block _ (by omega) (fun e => by have := unhide HV2 _ e.symm; omega)).trans (unhide HRB3)
          have hins := unhide HIns
          have hlen4 : k + 1 + (E.length - k) = (refA (insE ⟨s.data.toList, A, 0⟩ E)).length := by
            rw [hins]
            simp only [List.length_append, List.length_take, List.length_drop, refA_len, List.length_cons, List.length_nil]
            omega
          have hvals4 : (acctVals (refA E)).take (k * 2) ++ [.string s, .int .u64 0] ++ (acctVals (refA E)).drop (k * 2) = acctVals (refA (insE ⟨s.data.toList, A, 0⟩ E)) := by
            rw [hins, acctVals_append, acctVals_append, acctVals_take, acctVals_drop _ _ (by rw [refA_len]; omega)]
            rfl
          have hrw4 : ∀ v n xs, w4.ownsRow w1.heap.size 98 2 v n xs → n = k + 1 + (E.length - k) → xs = (acctVals (refA E)).take (k * 2) ++ [.string s, .int .u64 0] ++ (acctVals (refA E)).drop (k * 2) → w4.ownsRow N 98 2 v (refA (insE ⟨s.data.toList, A, 0⟩ E)).length (acctVals (refA (insE ⟨s.data.toList, A, 0⟩ E))) := fun v n xs ho hn hx => by
            rw [← hlen4, ← hvals4, ← hn, ← hx]
            exact own_lower2 ho hN
          have hown4' := hrw4 _ _ _ hown4 (by omega) (by simp)
          have hdone := (unhide HR).row hRb4 hown4'
          have hv4 := fun gg hgg => (hown4.lt gg hgg).1
          have hK4 := fun v => ((unhide HK3).grown hg4 (unhide HV2)).trans (Kept.setCell (S := [Rb]) (b := Rb) (i := 2) (by simp) v)
          have c4' : w4.cell? ⟨Rb, 2, none⟩ = some (.slice (some ⟨g, 0, none⟩) E.length c) := block_cell (hRb4.trans (unhide HR).blk)
          have f4' : w4.frozen? ⟨Rb, 2, none⟩ = false := block_free (hRb4.trans (unhide HR).blk)
          have HD := hide (And.intro hdone (And.intro hv4 hK4))
          clear hown4 hg4 hown4' hdone hv4 hK4 hvals4 hlen4 hRb4 HO3 HRB3 HGC3 HR HIns HCS HV2 HK3 hins hrw4
          go_wp2
          go_ret
          exact ⟨rfl, ⟨_, (unhide HD).1, (unhide HD).2.1⟩, (unhide HD).2.2 _⟩

end Go.Proofs.YtbjobbkgelipmaaGreat

/-
  A book's names, sorted: plain lists.
-/
namespace Go.Proofs.YtbjobbkgelipmaaGreat
open Go.RowKit Go.Maps Go.Sort

theorem before_lt : ∀ (a b : List UInt8), bytesBefore a b = true → a < b
  | [], [], h => by cases h
  | [], b :: s, _ => List.nil_lt_cons _ _
  | a :: r, [], h => by cases h
  | a :: r, b :: s, h => by
    rw [List.cons_lt_cons_iff]
    simp only [bytesBefore, Bool.or_eq_true, Bool.and_eq_true, decide_eq_true_eq, beq_iff_eq] at h
    rcases h with h | ⟨h1, h2⟩
    · exact .inl h
    · exact .inr ⟨h1, before_lt r s h2⟩
theorem strKeys_datE (E : List Acct) : strKeys (datE E) = E.map Acct.name := by
  unfold datE strKeys
  simp only
  rw [List.map_map]
  rfl
theorem names_rise {w : World} {B M : Nat} {h seed tot : Int} {last : Option Addr} {E : List Acct} (hb : BookT w B M h seed last tot E) : (E.map Acct.name).Pairwise (fun a b => bytesBefore a b = true) := by
  obtain ⟨es, e, hs, _⟩ := hb.own.canon Tryz.lawS
  unfold datE at e
  cases e
  rw [List.pairwise_map] at hs ⊢
  exact hs.imp fun {a b} hab => hab
theorem sorted_names {w : World} {B M : Nat} {h seed tot : Int} {last : Option Addr} {E : List Acct} (hb : BookT w B M h seed last tot E) {ss : List (List UInt8)} (hp : ss.Perm (strKeys (datE E))) : ss.mergeSort (fun x y => decide (x ≤ y)) = E.map Acct.name := by
  have hle : ∀ a b : List UInt8, bytesBefore a b = true → a ≤ b := fun a b hab => List.le_of_lt (before_lt a b hab)
  refine List.Perm.eq_of_pairwise (le := fun a b => a ≤ b) (fun a b _ _ h1 h2 => List.le_antisymm h1 h2) ?_ ((names_rise hb).imp fun {a b} hab => hle a b hab) ?_
  · have := List.pairwise_mergeSort (le := fun x y : List UInt8 => decide (x ≤ y)) (fun a b c h1 h2 => by
      simp only [decide_eq_true_eq] at *
      exact List.le_trans h1 h2) (fun a b => by
      simp only [Bool.or_eq_true, decide_eq_true_eq]
      exact List.le_total a b) ss
    exact this.imp fun {a b} hab => by simpa using hab
  · rw [← strKeys_datE]
    exact (List.mergeSort_perm _ _).trans hp

end Go.Proofs.YtbjobbkgelipmaaGreat

/-
  The walk of tithe's saltOf.
-/
namespace Go.Proofs.YtbjobbkgelipmaaGreat
open Go.RowKit

def mixI (x d m : Int) : Int := IntKind.u64.wrap (bits .xor .u64 x (x / d) * m)
def saltA (seed : Int) (p : Nat) : Int := IntKind.u64.wrap (seed + IntKind.u64.wrap (11400714819323198485 * ((p : Int) + 1)))
def saltC (seed : Int) (p : Nat) : Int := mixI (mixI (saltA seed p) 1073741824 13787848793156543929) 134217728 10723151780598845931
/-- The salt of a place. -/
def saltI (seed : Int) (p : Nat) : Int := bits .xor .u64 (saltC seed p) (saltC seed p / 2147483648)
theorem wrap_range (x : Int) : 0 ≤ IntKind.u64.wrap x ∧ IntKind.u64.wrap x < 18446744073709551616 := by rw [IntKind.wrap_u64]; omega
theorem saltI_range (seed : Int) (p : Nat) : 0 ≤ saltI seed p ∧ saltI seed p < 18446744073709551616 := by
  unfold saltI
  have h := wrap_range (bits .xor .u64 (mixI (saltA seed p) 1073741824 13787848793156543929) (mixI (saltA seed p) 1073741824 13787848793156543929 / 134217728) * 10723151780598845931)
  have hc : saltC seed p = IntKind.u64.wrap (bits .xor .u64 (mixI (saltA seed p) 1073741824 13787848793156543929) (mixI (saltA seed p) 1073741824 13787848793156543929 / 134217728) * 10723151780598845931) := rfl
  rw [← hc] at h
  generalize saltC seed p = c at *
  obtain ⟨m, hm⟩ : ∃ m : Nat, c = (m : Int) := ⟨_, (Int.toNat_of_nonneg h.1).symm⟩
  subst hm
  have e : (m : Int) / 2147483648 = ((m / 2147483648 : Nat) : Int) := by omega
  rw [e, u64_xor_nat _ _ (by omega) (by omega)]
  have : m ^^^ (m / 2147483648) < 2 ^ 64 := Nat.xor_lt_two_pow (by omega) (by omega)
  omega

set_option maxRecDepth 100000 in
set_option maxHeartbeats 400000 in
theorem salt_any (seed : Int) (p : Nat) (w : World) (hp : p < 256) :
    Calls Tryz.prog 71 #[.int .u64 seed, .int .i64 (p : Int)] w fun e w' => e = .returned (.int .u64 (saltI seed p)) ∧ w' = w := by
  go_enter Tryz.func71, Tryz.ntmps71
  go_wp2
  go_ret
  exact ⟨rfl, rfl⟩

end Go.Proofs.YtbjobbkgelipmaaGreat

/-
  The walks of tithe's readers: readNumber.
-/
namespace Go.Proofs.YtbjobbkgelipmaaGreat
open Go.RowKit

theorem or_step (l : List UInt8) (k : Nat) (hk : k < 8) (hl : k < l.length) :
    bits .or .u64 (IntKind.u64.wrap (numB (l.take k) * 256)) (IntKind.u64.wrap (l[k].toNat : Int)) = numB (l.take (k + 1)) := by
  rw [List.take_succ_eq_append_getElem hl, numB_snoc]
  have h1 := numB_range_len k (l.take k) (by rw [List.length_take]; omega)
  have h2 : (256 : Int) ^ k ≤ 256 ^ 7 := pow256_le (by omega)
  have h3 : (256 : Int) ^ 7 = 72057594037927936 := by decide
  have h4 := l[k].toNat_lt
  obtain ⟨m, hm⟩ : ∃ m : Nat, numB (l.take k) = (m : Int) := ⟨_, (Int.toNat_of_nonneg h1.1).symm⟩
  rw [hm] at h1 ⊢
  have e1 : IntKind.u64.wrap ((m : Int) * 256) = ((2 ^ 8 * m : Nat) : Int) := by rw [IntKind.wrap_u64]; omega
  have e2 : IntKind.u64.wrap (l[k].toNat : Int) = (l[k].toNat : Int) := by rw [IntKind.wrap_u64]; omega
  rw [e1, e2, u64_or_nat _ _ (by omega) (by omega), ← Nat.two_pow_add_eq_or_of_lt (i := 8) (by omega)]
  omega

set_option maxHeartbeats 400000 in
set_option maxRecDepth 100000 in
theorem rdnum_any (b o len cap : Nat) (l : List UInt8) (w : World) (hl : 8 ≤ l.length) (hc : 8 ≤ cap) (_hlen : 8 ≤ len) (hm : cap ≤ maxLen) (hB : BytesAt w b o l) :
    Calls Tryz.prog 92 #[.slice (some ⟨b, o, none⟩) len cap] w fun e w' => e = .returned (.int .u64 (numB (l.take 8))) ∧ w' = w := by
  unfold maxLen at hm
  have HB := hide hB
  clear hB
  go_enter Tryz.func92, Tryz.ntmps92
  go_wp2
  go_loop [3, 9] (fun n i => ∃ k : Nat, k ≤ 8 ∧ i = .int .i64 k ∧ n = .int .u64 (numB (l.take k))) (fun _ i => 8 - (intOf i).toNat)
  case atStart => exact ⟨0, by omega, rfl, rfl⟩
  case round =>
    obtain ⟨k, hk, rfl, rfl⟩ := hrel
    by_cases hlt : k < 8
    · have hcell := unhide HB k (by omega)
      have hkl : k < l.length := by omega
      generalize hN : numB (l.take k) = N
      have HN := hide hN
      clear hN
      go_wp2
      refine ⟨⟨k + 1, by omega, by go_num, ?_⟩, by simp [intOf]; omega⟩
      rw [← unhide HN]
      exact congrArg _ (or_step l k hlt hkl)
    · have hk8 : k = 8 := by omega
      subst hk8
      go_wp2
      go_ret
      exact ⟨rfl, rfl⟩

end Go.Proofs.YtbjobbkgelipmaaGreat

/-
  The walk of tithe's readSide.
-/
namespace Go.Proofs.YtbjobbkgelipmaaGreat
open Go.RowKit

theorem BytesAt.drop {w : World} {b o k : Nat} {l : List UInt8} (h : BytesAt w b o l) : BytesAt w b (o + k) (l.drop k) := by
  intro j hj
  have h1 := h (k + j) (by rw [List.length_drop] at hj; omega)
  rw [Nat.add_assoc, h1, List.getElem_drop]

set_option maxHeartbeats 400000 in
set_option maxRecDepth 100000 in
theorem rdside_any (b o len cap : Nat) (l : List UInt8) (w : World) (hl : 11 ≤ l.length) (hc : len ≤ cap) (hlen : 11 ≤ len) (hm : cap ≤ 9223372036854775807) (hb : b < w.heap.size) (hB : BytesAt w b o l) :
    Calls Tryz.prog 76 #[.slice (some ⟨b, o, none⟩) len cap] w fun e w' => e = .returned (sideV (sideAt l 0).1 (sideAt l 0).2) ∧ Below w.heap.size w w' := by
  obtain ⟨W, hW⟩ : ∃ W, W = (w.alloc (Obj.cells #[Value.int IntKind.u8 0, Value.int IntKind.u8 0, Value.int IntKind.u8 0, Value.int IntKind.u64 0] 106)).drew := ⟨_, rfl⟩
  obtain ⟨d0, hd0⟩ : ∃ d : Int, ((l.getD 0 0).toNat : Int) = d := ⟨_, rfl⟩
  obtain ⟨d1, hd1⟩ : ∃ d : Int, ((l.getD 1 0).toNat : Int) = d := ⟨_, rfl⟩
  obtain ⟨d2, hd2⟩ : ∃ d : Int, ((l.getD 2 0).toNat : Int) = d := ⟨_, rfl⟩
  have hcell : ∀ k (h : k < 3), w.cell? ⟨b, o + k, none⟩ = some (.int .u8 ((l.getD k 0).toNat : Int)) := fun k h => by
    rw [hB k (by omega), List.getD_eq_getElem?_getD, List.getElem?_eq_getElem (by omega)]; rfl
  have c0 := hcell 0 (by omega)
  have c1 := hcell 1 (by omega)
  have c2 := hcell 2 (by omega)
  rw [hd0, Nat.add_zero] at c0
  rw [hd1] at c1
  rw [hd2] at c2
  obtain ⟨n, hn⟩ : ∃ n : Int, n = numB ((l.drop 3).take 8) := ⟨_, rfl⟩
  have HN : Hid (Calls Tryz.prog 92 #[.slice (some ⟨b, o + 3, none⟩) (len - 3) (cap - 3)] W fun e w' => e = .returned (.int .u64 n) ∧ w' = W) := by
    rw [hn]
    have hBW : BytesAt W b o l := by rw [hW]; intro j hj; exact ((Below.refl w.heap.size w).alloc (Nat.le_refl _) _).drew.cell (p := ⟨b, o + j, none⟩) hb |>.trans (hB j hj)
    exact rdnum_any b (o + 3) (len - 3) (cap - 3) (l.drop 3) W (by rw [List.length_drop]; omega) (by omega) (by omega) (by unfold maxLen; omega) hBW.drop
  have HD : Hid (sideV (sideAt l 0).1 (sideAt l 0).2 = .agg #[.int .u8 d0, .int .u8 d1, .int .u8 d2, .int .u64 n]) := by
    rw [← hd0, ← hd1, ← hd2, hn]; rfl
  have HL := hide hl
  have lc : cap ≠ 3 := by omega
  subst hW
  clear hn hd0 hd1 hd2 hcell hB hl
  have hne : b ≠ w.heap.size := by omega
  have l0 : 0 < len := by omega
  have l1 : (1 : Int) < (len : Int) := by omega
  have l2 : (2 : Int) < (len : Int) := by omega
  have l3 : 3 ≤ len := by omega
  have l4 : (3 : Int) ≤ (len : Int) := by omega
  go_enter Tryz.func76, Tryz.ntmps76
  go_wp2_with fail
  refine region_tail 14 (by kernel_rfl) (by kernel_rfl) ?_
  simp only [List.take_succ_cons, List.take_zero, List.drop_succ_cons, List.drop_zero]
  repeat still_step
  still_call (unhide HN)
  repeat still_step
  refine wpStill_nil ?_
  clear HN
  go_wp2
  refine bodyPost_ret (v := sideV (sideAt l 0).1 (sideAt l 0).2) ?_ rfl ⟨rfl, ?_⟩
  · rw [unhide HD]
    simp [results, Tryz.results76, go_sem]
  · exact ((Below.refl _ _).alloc (Nat.le_refl _) _).drew

end Go.Proofs.YtbjobbkgelipmaaGreat

/-
  The walk of tithe's greatestSum.
-/
namespace Go.Proofs.YtbjobbkgelipmaaGreat
open Go.RowKit

/-- Sides that lie in memory. -/
def SidesAt (w : World) (b : Nat) (ys : List (Dg × Int)) : Prop := ∀ i (h : i < ys.length),
  w.cell? ⟨b, i * 4, none⟩ = some (.int .u8 ((ys[i]).1.1.toNat : Int)) ∧ w.cell? ⟨b, i * 4 + 1, none⟩ = some (.int .u8 ((ys[i]).1.2.1.toNat : Int)) ∧ w.cell? ⟨b, i * 4 + 2, none⟩ = some (.int .u8 ((ys[i]).1.2.2.toNat : Int)) ∧ w.cell? ⟨b, i * 4 + 3, none⟩ = some (.int .u64 (ys[i]).2)
theorem SidesAt.below {w w' : World} {b B : Nat} {ys : List (Dg × Int)} (h : SidesAt w b ys) (hb : Below B w w') (hlt : b < B) : SidesAt w' b ys := by
  intro i hi
  have e : ∀ o, w'.cell? ⟨b, o, none⟩ = w.cell? ⟨b, o, none⟩ := fun o => hb.cell (p := ⟨b, o, none⟩) hlt
  obtain ⟨h0, h1, h2, h3⟩ := h i hi
  exact ⟨(e _).trans h0, (e _).trans h1, (e _).trans h2, (e _).trans h3⟩

def greatB (bal : Int) (ys : List (Dg × Int)) : Int := ys.foldl (fun g y => max g y.2) bal
theorem greatB_snoc (bal : Int) (ys : List (Dg × Int)) (y : Dg × Int) : greatB bal (ys ++ [y]) = max (greatB bal ys) y.2 := by simp [greatB]
theorem greatB_le : ∀ (ys : List (Dg × Int)) (bal m : Int), greatB bal ys ≤ m ↔ bal ≤ m ∧ ∀ y ∈ ys, y.2 ≤ m
  | [], bal, m => by simp [greatB]
  | y :: ys, bal, m => by
    have h := greatB_le ys (max bal y.2) m
    have e : greatB bal (y :: ys) = greatB (max bal y.2) ys := rfl
    rw [e, h]
    simp only [List.mem_cons, forall_eq_or_imp]
    constructor
    · rintro ⟨a, b⟩; exact ⟨by omega, by omega, b⟩
    · rintro ⟨a, b, c⟩; exact ⟨by omega, c⟩

set_option maxHeartbeats 400000 in
set_option maxRecDepth 100000 in
theorem great_any (pl : Int) (nm : ByteArray) (bal salt : Int) (sb cap : Nat) (ys : List (Dg × Int)) (w : World) (hm : ys.length ≤ 6) (hlt : sb < w.heap.size) (hS : SidesAt w sb ys) :
    Calls Tryz.prog 94 #[proofV pl nm bal salt (some ⟨sb, 0, none⟩) ys.length cap] w fun e w' => e = .returned (.int .u64 (greatB bal ys)) ∧ Below w.heap.size w w' := by
  have HS := hide hS
  clear hS
  unfold proofV
  go_enter Tryz.func94, Tryz.ntmps94
  go_wp2
  go_loopw [3, 12] (fun g i wr => ∃ k : Nat, k ≤ ys.length ∧ i = .int .i64 k ∧ g = .int .u64 (greatB bal (ys.take k)) ∧ w.heap.size < wr.heap.size ∧ Below w.heap.size w wr) (fun _ i _ => ys.length - (intOf i).toNat)
  case atStart => exact ⟨0, Nat.zero_le _, rfl, by simp [greatB], by simp, (Below.refl _ _).alloc (Nat.le_refl _) _⟩
  case round =>
    obtain ⟨k, hk, rfl, rfl, hz, hbel⟩ := hrel
    have Hbel := hide hbel
    clear hbel
    by_cases hk' : k < ys.length
    · obtain ⟨c0, c1, c2, c3⟩ := ((unhide HS).below (unhide Hbel) hlt) k hk'
      have Hsn : Hid (greatB bal (ys.take (k + 1)) = max (greatB bal (ys.take k)) (ys[k]).2) := by
        rw [List.take_succ_eq_append_getElem hk']; exact greatB_snoc _ _ _
      generalize ys[k] = y at *
      obtain ⟨⟨y0, y1, y2⟩, n⟩ := y
      simp only at c0 c1 c2 c3
      generalize (y0.toNat : Int) = e0 at *
      generalize (y1.toNat : Int) = e1 at *
      generalize (y2.toNat : Int) = e2 at *
      generalize greatB bal (ys.take k) = G at *
      go_wp2
      go_roundw
      case rel =>
        refine ⟨k + 1, by omega, by go_num, ?_, by simp; omega, (unhide Hbel).alloc (unhide Hbel).size _⟩
        rw [unhide Hsn]
      case measure => simp [intOf]; omega
    · have hkk : k = ys.length := by omega
      subst hkk
      rw [List.take_length]
      generalize hG : greatB bal ys = G
      have HG := hide hG
      clear hG
      go_wp2
      go_ret
      exact ⟨by rw [unhide HG]; rfl, unhide Hbel⟩

end Go.Proofs.YtbjobbkgelipmaaGreat

/-
  The walk of tithe's readSides.
-/
namespace Go.Proofs.YtbjobbkgelipmaaGreat
open Go.RowKit

def sidesOf (l : List UInt8) (n : Nat) : List (Dg × Int) := (List.range n).map fun i => sideAt l (11 * i)
theorem sidesOf_len (l : List UInt8) (n : Nat) : (sidesOf l n).length = n := by simp [sidesOf]
theorem sidesOf_get (l : List UInt8) (n i : Nat) (h : i < (sidesOf l n).length) : (sidesOf l n)[i] = sideAt l (11 * i) := by simp [sidesOf]
theorem sideAt_drop (l : List UInt8) (a b : Nat) : sideAt (l.drop a) b = sideAt l (a + b) := by
  unfold sideAt
  simp only [List.getD_eq_getElem?_getD, List.getElem?_drop, List.drop_drop]
  simp only [Nat.add_assoc]

/-- Room for sides; the first ones are there. -/
def Room (W : World) (b n : Nat) (ys : List (Dg × Int)) : Prop := (∀ o, o < n * 4 → (W.cell? ⟨b, o, none⟩).isSome = true ∧ W.frozen? ⟨b, o, none⟩ = false) ∧ SidesAt W b ys
theorem Room.below {w w' : World} {b n : Nat} {ys : List (Dg × Int)} (h : Room w b n ys) (hb : Below w.heap.size w w') (hlt : b < w.heap.size) : Room w' b n ys := by
  refine ⟨fun o ho => ?_, h.2.below hb hlt⟩
  rw [(bcell hb).1 _ _ hlt, (bcell hb).2 _ _ hlt]
  exact h.1 o ho
theorem isSome_set {W : World} {a q : Addr} {v : Value} (h : (W.cell? q).isSome = true) : ((W.setCell a v).cell? q).isSome = true := by
  obtain ⟨v', hv⟩ := Option.isSome_iff_exists.1 h
  obtain ⟨v'', hv'⟩ := cell?_setCell_some (w := W) (p := a) (x := v) (q := q) (v := v') hv
  rw [hv']; rfl
theorem Room.set {W : World} {b n i : Nat} {ys : List (Dg × Int)} (h : Room W b n ys) (hi : ys.length = i) (hn : i < n) (d0 d1 d2 : UInt8) (x : Int) :
    Room ((((W.setCell ⟨b, i * 4, none⟩ (.int .u8 (d0.toNat : Int))).setCell ⟨b, i * 4 + 1, none⟩ (.int .u8 (d1.toNat : Int))).setCell ⟨b, i * 4 + 2, none⟩ (.int .u8 (d2.toNat : Int))).setCell ⟨b, i * 4 + 3, none⟩ (.int .u64 x)) b n (ys ++ [((d0, d1, d2), x)]) := by
  refine ⟨fun o ho => ⟨isSome_set (isSome_set (isSome_set (isSome_set (h.1 o ho).1))), ?_⟩, ?_⟩
  · rw [World.frozen?_setCell, World.frozen?_setCell, World.frozen?_setCell, World.frozen?_setCell]; exact (h.1 o ho).2
  · have ne : ∀ (W : World) (p q : Nat) (v : Value), p ≠ q → (W.setCell ⟨b, p, none⟩ v).cell? ⟨b, q, none⟩ = W.cell? ⟨b, q, none⟩ := fun W p q v hpq => by apply World.cell?_setCell_other; intro e; apply hpq; cases e; rfl
    have sm : ∀ (W : World) (p : Nat) (v : Value), (W.cell? ⟨b, p, none⟩).isSome = true → (W.setCell ⟨b, p, none⟩ v).cell? ⟨b, p, none⟩ = some v := fun W p v hp => World.cell?_setCell_same' W _ v hp
    intro j hj
    rw [List.length_append, List.length_singleton] at hj
    by_cases hji : j < ys.length
    · obtain ⟨h0, h1, h2, h3⟩ := h.2 j hji
      rw [List.getElem_append_left hji]
      rw [ne _ _ _ _ (by omega), ne _ _ _ _ (by omega), ne _ _ _ _ (by omega), ne _ _ _ _ (by omega), ne _ _ _ _ (by omega), ne _ _ _ _ (by omega), ne _ _ _ _ (by omega), ne _ _ _ _ (by omega), ne _ _ _ _ (by omega), ne _ _ _ _ (by omega), ne _ _ _ _ (by omega), ne _ _ _ _ (by omega), ne _ _ _ _ (by omega), ne _ _ _ _ (by omega), ne _ _ _ _ (by omega), ne _ _ _ _ (by omega)]
      exact ⟨h0, h1, h2, h3⟩
    · have hjj : j = ys.length := by omega
      subst hjj
      rw [List.getElem_append_right (Nat.le_refl _)]
      simp only [Nat.sub_self, List.getElem_cons_zero]
      rw [← hi] at *
      refine ⟨?_, ?_, ?_, ?_⟩
      · rw [ne _ _ _ _ (by omega), ne _ _ _ _ (by omega), ne _ _ _ _ (by omega)]
        exact sm _ _ _ (h.1 _ (by omega)).1
      · rw [ne _ _ _ _ (by omega), ne _ _ _ _ (by omega)]
        exact sm _ _ _ (isSome_set (h.1 _ (by omega)).1)
      · rw [ne _ _ _ _ (by omega)]
        exact sm _ _ _ (isSome_set (isSome_set (h.1 _ (by omega)).1))
      · exact sm _ _ _ (isSome_set (isSome_set (isSome_set (h.1 _ (by omega)).1)))

theorem Tryz.infoSide : (Tryz.prog.info? 106).map (fun i => (i.zero, i.size, i.bytes)) = some (some (.agg #[.int .u8 0, .int .u8 0, .int .u8 0, .int .u64 0]), 4, 16) := by kernel_rfl

theorem room_new {W : World} {b n : Nat} {xs : List Value} {e : TypeId} {base : Nat} (h : W.ownsRow base e 4 (.slice (some ⟨b, 0, none⟩) n n) n xs) : Room W b n [] := by
  refine ⟨fun o ho => ?_, fun i hi => by cases hi⟩
  rcases h.2 with ⟨h, _⟩ | ⟨g, cap, cur, hv, _, hg, h1, h2, h3, h4⟩
  · cases h
  · simp only [Value.slice.injEq, Option.some.injEq, Addr.mk.injEq] at hv
    obtain ⟨⟨rfl, _⟩, _, rfl⟩ := hv
    rw [block_cell hg]
    refine ⟨?_, block_free hg⟩
    rw [Array.getElem?_eq_getElem (by omega)]
    rfl

set_option maxHeartbeats 400000 in
set_option maxRecDepth 100000 in
theorem rdsides_any (b o len cap n : Nat) (l : List UInt8) (w : World) (hl : l.length = len) (hn : 11 * n ≤ len) (hn6 : n ≤ 6) (hc : len ≤ cap) (hm : cap ≤ 9223372036854775807) (hb : b < w.heap.size) (hB : BytesAt w b o l) :
    Calls Tryz.prog 93 #[.slice (some ⟨b, o, none⟩) len cap, .int .i64 (n : Int)] w fun e w' => e = .returned (.slice (some ⟨w.heap.size, 0, none⟩) n n) ∧ w.heap.size < w'.heap.size ∧ SidesAt w' w.heap.size (sidesOf l n) ∧ Below w.heap.size w w' := by
  obtain ⟨i0, hi, hz0, hz1, hz2⟩ := info_parts Tryz.infoSide
  have HB := hide hB
  have HL := hide hl
  clear hB hl
  go_enter Tryz.func93, Tryz.ntmps93
  go_wp2_with (at_make; refine wpList_make_full _ rfl _ _ 116 rfl w.heap.size 106 i0 _ 4 Tryz.underlying116 hi hz0 hz1 _ _ _ _ n rfl rfl rfl rfl (by rw [hz2]; omega) (by unfold maxLen; omega) (Nat.le_refl _) ?_)
  intro w1 hown1 hgrow1
  have hB1 : Below w.heap.size w w1 := (Below.refl _ _).grown hgrow1 (Nat.le_refl _) (fun b hb => by cases hb)
  have hR1 := room_new hown1
  have hz1' : w.heap.size < w1.heap.size := (hown1.lt w.heap.size rfl).2
  have HS := hide (And.intro hB1 hR1)
  clear hB1 hR1 hown1 hgrow1
  go_wp2_with fail
  go_loopw [11, 6] (fun i _ wr => ∃ k : Nat, k ≤ n ∧ i = .int .i64 k ∧ Room wr w.heap.size n (sidesOf l k) ∧ w.heap.size < wr.heap.size ∧ Below w.heap.size w wr) (fun i _ _ => n - (intOf i).toNat)
  case atStart => exact ⟨0, Nat.zero_le _, rfl, (unhide HS).2, hz1', (unhide HS).1⟩
  case round =>
    obtain ⟨k, hk, rfl, hR, hz, hbel⟩ := hrel
    have HR := hide (And.intro hR hbel)
    clear hR hbel HS
    by_cases hk' : k < n
    · have Hsd : Hid (Calls Tryz.prog 76 #[.slice (some ⟨b, o + k * 11, none⟩) (len - k * 11) (cap - k * 11)] wr fun e w' => e = .returned (sideV (sideAt l (11 * k)).1 (sideAt l (11 * k)).2) ∧ Below wr.heap.size wr w') := by
        have hBr : BytesAt wr b o l := fun j hj => ((unhide HR).2.cell (p := ⟨b, o + j, none⟩) hb).trans (unhide HB j hj)
        have h := rdside_any b (o + k * 11) (len - k * 11) (cap - k * 11) (l.drop (k * 11)) wr (by rw [List.length_drop, unhide HL]; omega) (by omega) (by omega) (by omega) (by omega) hBr.drop
        rw [sideAt_drop, Nat.add_zero, Nat.mul_comm k 11] at h
        rw [Nat.mul_comm k 11]
        exact h
      obtain ⟨⟨⟨s0, s1, s2⟩, x⟩, hx⟩ : ∃ y, sideAt l (11 * k) = y := ⟨_, rfl⟩
      rw [hx] at Hsd
      have HX := hide hx
      clear hx
      go_wp2_with fail
      refine (unhide Hsd).mono ?_
      rintro e w2 ⟨rfl, hb2⟩
      have hR2 := (unhide HR).1.below hb2 hz
      have hB2 := (unhide HR).2.trans (hb2.mono (by omega))
      have hz2' : w.heap.size < w2.heap.size := by have := hb2.size; omega
      have HR3 := hide (And.intro (hR2.set (sidesOf_len l k) hk' s0 s1 s2 x) hB2)
      obtain ⟨r0, g0⟩ := Option.isSome_iff_exists.1 (hR2.1 (k * 4) (by omega)).1
      obtain ⟨r1, g1⟩ := Option.isSome_iff_exists.1 (hR2.1 (k * 4 + 1) (by omega)).1
      obtain ⟨r2, g2⟩ := Option.isSome_iff_exists.1 (hR2.1 (k * 4 + 2) (by omega)).1
      obtain ⟨r3, g3⟩ := Option.isSome_iff_exists.1 (hR2.1 (k * 4 + 3) (by omega)).1
      have f0 := (hR2.1 (k * 4) (by omega)).2
      have f1 := (hR2.1 (k * 4 + 1) (by omega)).2
      have f2 := (hR2.1 (k * 4 + 2) (by omega)).2
      have f3 := (hR2.1 (k * 4 + 3) (by omega)).2
      clear hR2 hB2 hb2 Hsd HR
      unfold sideV
      simp only
      generalize (s0.toNat : Int) = t0 at *
      generalize (s1.toNat : Int) = t1 at *
      generalize (s2.toNat : Int) = t2 at *
      go_wp2
      refine ⟨⟨k + 1, by omega, by go_num, ?_, by simpa using hz2', ((((unhide HR3).2.setCell (by simp) _).setCell (by simp) _).setCell (by simp) _).setCell (by simp) _⟩, by simp [intOf]; omega⟩
      have e : sidesOf l (k + 1) = sidesOf l k ++ [((s0, s1, s2), x)] := by
        rw [← unhide HX]
        simp [sidesOf, List.range_succ]
      rw [e]
      exact (unhide HR3).1
    · have hkk : k = n := by omega
      subst hkk
      go_wp2
      go_ret
      exact ⟨rfl, hz, (unhide HR).1.2, (unhide HR).2⟩

end Go.Proofs.YtbjobbkgelipmaaGreat
