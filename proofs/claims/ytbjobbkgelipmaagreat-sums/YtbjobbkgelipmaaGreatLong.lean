/-
  The walk of titheref.long: a number's eight bytes.
-/
import Derived.Test.YtbjobbkgelipmaaGreatStill
import Derived.Laws.IdiomStrings
namespace Go.Proofs.YtbjobbkgelipmaaGreat
open Go.RowKit

/-- The j-th of a number's eight bytes, the highest first. -/
def longAt (n : Int) (j : Nat) : UInt8 := lowByte (n / 2 ^ (8 * (7 - j)))
def longB (n : Int) : List UInt8 := (List.range 8).map (longAt n)
theorem longB_length (n : Int) : (longB n).length = 8 := by simp [longB]
theorem longB_take_snoc (n : Int) (j : Nat) (h : j < 8) : (longB n).take (j + 1) = (longB n).take j ++ [longAt n j] := by
  have hl : j < (longB n).length := by rw [longB_length]; exact h
  rw [List.take_succ_eq_append_getElem hl]
  simp [longB]

def byteVals (l : List UInt8) : List Value := l.map fun b => Value.int .u8 (b.toNat : Int)
theorem byteVals_snoc (l : List UInt8) (c : UInt8) : byteVals (l ++ [c]) = byteVals l ++ [.int .u8 (c.toNat : Int)] := by simp [byteVals]

theorem addr_add (b o j : Nat) : (⟨b, o, none⟩ : Addr).add j = ⟨b, o + j, none⟩ := by unfold Addr.add; split <;> simp_all

theorem long_step (n : Int) (k : Nat) (z : Int) (v v' : Value) (w wr w1 : World) (hlt : k < 8) (hz : z = 7 - (k : Int)) (hown : wr.ownsRow w.heap.size 5 1 v k (byteVals ((longB n).take k))) (hbel : Below w.heap.size w wr)
    (hown1 : w1.ownsRow w.heap.size 5 1 v' (k + 1) (byteVals ((longB n).take k) ++ [.int .u8 (n / 2 ^ (8 * z).toNat % 256)]))
    (hg : (wr.alloc (Obj.cells #[Value.int IntKind.u8 (n / 2 ^ (8 * z).toNat % 256)] 5)).grownBy w1 v.ownBlock) :
    w1.ownsRow w.heap.size 5 1 v' (k + 1) (byteVals ((longB n).take (k + 1))) ∧ Below w.heap.size w w1 := by
  have hsz := hbel.size
  refine ⟨?_, ?_⟩
  · rw [longB_take_snoc n k hlt, byteVals_snoc]
    have e : ((longAt n k).toNat : Int) = n / 2 ^ (8 * z).toNat % 256 := by
      unfold longAt
      rw [lowByte_toNat, show (8 * z).toNat = 8 * (7 - k) by omega]
    rw [e]; exact hown1
  · refine (hbel.alloc hsz _).grown hg (by simp; omega) ?_
    intro b hb
    rcases hown.2 with ⟨rfl, _⟩ | ⟨g, cap, cur, rfl, hg, _⟩
    · cases hb
    · cases hb; exact hg

theorem long_end (n : Int) (v : Value) (w : World) (base : Nat) (hown : w.ownsRow base 5 1 v 8 (byteVals ((longB n).take 8))) :
    ∃ b cap, v = .slice (some ⟨b, 0, none⟩) 8 cap ∧ ∀ j (hj : j < (longB n).length), w.cell? ((⟨b, 0, none⟩ : Addr).add j) = some (.int .u8 ((longB n)[j].toNat : Int)) := by
  rw [List.take_of_length_le (by rw [longB_length]; exact Nat.le_refl _)] at hown
  rcases hown.2 with ⟨_, h⟩ | ⟨g, cap, cur, rfl, _, hb, _, _, _, hx⟩
  · cases h
  · refine ⟨g, cap, rfl, fun j hj => ?_⟩
    have h1 : (byteVals (longB n))[j]? = some (.int .u8 ((longB n)[j].toNat : Int)) := by simp [byteVals, List.getElem?_eq_getElem hj]
    rw [← hx, List.getElem?_take] at h1
    split at h1
    · rw [addr_add, Nat.zero_add]
      simp only [World.cell?, hb]
      simpa using h1
    · cases h1

set_option maxRecDepth 100000 in
set_option maxHeartbeats 400000 in
theorem long_any (n : Int) (w : World) (_h0 : 0 ≤ n) (h1 : n < 18446744073709551616) :
    Calls Tryz.prog 38 #[.int .u64 n] w fun e w' => e = .returned (.string ⟨(longB n).toArray⟩) ∧ Below w.heap.size w w' := by
  obtain ⟨i0, hi, hz0, hz1, hz2⟩ := info_parts Tryz.infoByte
  have H1 := hide h1
  clear h1
  go_enter Tryz.func38, Tryz.ntmps38
  go_wp2
  go_loopw [3, 4] (fun v i wr => ∃ (k : Nat) (z : Int), k ≤ 8 ∧ z = 7 - (k : Int) ∧ i = .int .i64 z ∧ wr.ownsRow w.heap.size 5 1 v k (byteVals ((longB n).take k)) ∧ Below w.heap.size w wr) (fun _ i _ => (intOf i + 1).toNat)
  case atStart => exact ⟨0, 7, Nat.zero_le _, rfl, rfl, World.ownsRow_nil _ _ _ _, Below.refl _ _⟩
  case round =>
    obtain ⟨k, z, hk, hz, rfl, hown, hbel⟩ := hrel
    have Hown := hide hown
    have Hbel := hide hbel
    have hsz := hbel.size
    clear hown hbel
    by_cases hlt : k < 8
    · have hz0' : 0 ≤ z := by omega
      have hz7 : z ≤ 7 := by omega
      have Hz := hide hz
      clear hz
      go_wp2_with (at_builtin; refine wpList_append_own _ rfl (.tmp 9) (.tmp 15) 51 rfl w.heap.size 5 i0 (.int .u8 0) 1 1 Tryz.underlying51 hi hz0 hz1 hz2 rfl (by decide) _ _ _ rfl ((unhide Hown).alloc _) ⟨wr.heap.size, 0, none⟩ 1 1 [_] rfl rfl (cell_one_new _ _ _) ?c2 ?c3 ?c4 ?c5 ?_)
      case c2 => intro u hu; simp at hu; subst hu; rfl
      case c3 => unfold maxLen; omega
      case c4 => omega
      case c5 => simp; omega
      intro v' w1 hown1 hgrow1 _
      have R := hide (long_step n k z _ _ _ _ _ hlt (unhide Hz) (unhide Hown) (unhide Hbel) hown1 hgrow1)
      clear hown1 hgrow1 Hown Hbel
      go_wp2
      go_roundw
      case rel => exact ⟨k + 1, z - 1, by omega, by have := unhide Hz; omega, rfl, (unhide R).1, (unhide R).2⟩
      case measure => simp [intOf]; omega
    · have hk8 : k = 8 := by omega
      subst hk8
      obtain ⟨b, cap, hv, hc⟩ := long_end n _ _ _ (unhide Hown)
      subst hv
      have hcv := run_convert_bytes_back (P := Tryz.prog) wr 51 9 5 ⟨b, 0, none⟩ cap (longB n) Tryz.underlying51 Tryz.underlying5 Tryz.underlying9 hc
      rw [longB_length] at hcv
      clear hc Hown
      go_wp2
      go_ret
      exact ⟨rfl, unhide Hbel⟩

end Go.Proofs.YtbjobbkgelipmaaGreat
