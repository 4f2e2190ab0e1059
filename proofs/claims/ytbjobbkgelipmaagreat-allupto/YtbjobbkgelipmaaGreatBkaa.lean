/-
  Plain facts: the digest as a function of a list of bytes, in the walk's spelling. Nothing of the program.
-/
import Derived.WalkKit
import Derived.WalkSpells
import Derived.WalkLawsBesides
import Derived.Laws.Closers25b
import Derived.Test.YtbjobbkgelipmaaGreatRows
import Derived.Deep.OwnRows
import Derived.Lib.LazyBuf
import Derived.Deep.QuietTactic
import Derived.BigQuiet
import Derived.Laws.IdiomStrings
import Derived.Deep.RegionHeld3
import Derived.Deep.DeepMust
import Derived.ChangeKeysEq
import Derived.ArgAppend
namespace Go.Proofs.YtbjobbkgelipmaaGreat
open Go.RowKit

theorem hide {p : Prop} (h : p) : Hid p := h
theorem unhide {p : Prop} (h : Hid p) : p := h

def mixStep (n : Int) (c : UInt8) : Int := bits BinOp.xor IntKind.u32 n ((c.toNat : Int) % 4294967296) * 16777619 % 4294967296
def fnv (l : List UInt8) : Int := l.foldl mixStep 2166136261
theorem mixStep_range (n : Int) (c : UInt8) : 0 ≤ mixStep n c ∧ mixStep n c < 4294967296 := by unfold mixStep; omega
theorem fnv_snoc (l : List UInt8) (c : UInt8) : fnv (l ++ [c]) = mixStep (fnv l) c := by simp [fnv]
theorem fnv_range (l : List UInt8) : 0 ≤ fnv l ∧ fnv l < 4294967296 := by
  rcases List.eq_nil_or_concat l with rfl | ⟨l', c, rfl⟩
  · decide
  · rw [List.concat_eq_append, fnv_snoc]; exact mixStep_range _ _

/-- A number's lowest byte. -/
def lowByte (x : Int) : UInt8 := UInt8.ofNat (x % 256).toNat
theorem lowByte_toNat (x : Int) : ((lowByte x).toNat : Int) = x % 256 := by
  unfold lowByte
  have h : (x % 256).toNat < 256 := by omega
  rw [UInt8.toNat_ofNat_of_lt' (by simpa using h)]
  omega

def lastMix (x : Int) : Int := bits BinOp.xor IntKind.u32 x (x / 65536) * 2246822507 % 4294967296
def lastOf (x : Int) : Int := bits BinOp.xor IntKind.u32 (lastMix x) (lastMix x / 8192)
theorem lastOf_range (x : Int) : 0 ≤ lastOf x ∧ lastOf x < 4294967296 := by
  unfold lastOf
  have h1 := bits_lo_u32 .xor (lastMix x) (lastMix x / 8192)
  have h2 := bits_hi_u32 .xor (lastMix x) (lastMix x / 8192)
  omega

/-- The digest: three bytes. -/
def dgOf (x : Int) : UInt8 × UInt8 × UInt8 := (lowByte (lastOf x), lowByte (lastOf x / 256), lowByte (lastOf x / 65536))
def dg (l : List UInt8) : UInt8 × UInt8 × UInt8 := dgOf (fnv l)
def digV (d : UInt8 × UInt8 × UInt8) : Value := .agg #[.int .u8 (d.1.toNat : Int), .int .u8 (d.2.1.toNat : Int), .int .u8 (d.2.2.toNat : Int)]
theorem digV_of (x : Int) : digV (dgOf x) = .agg #[.int .u8 (lastOf x % 256), .int .u8 (lastOf x / 256 % 256), .int .u8 (lastOf x / 65536 % 256)] := by
  simp only [digV, dgOf, lowByte_toNat]

theorem take_snoc (s : ByteArray) (k : Nat) (h : k < s.size) : s.data.toList.take (k + 1) = s.data.toList.take k ++ [s[k]] := by
  rw [List.take_succ_eq_append_getElem (by simpa using h)]; rfl
theorem take_all (s : ByteArray) : s.data.toList.take s.size = s.data.toList := List.take_of_length_le (by simp)

end Go.Proofs.YtbjobbkgelipmaaGreat

/-
  The walks of the two digests: titheref.Sum, tithe.Sum.
-/
namespace Go.Proofs.YtbjobbkgelipmaaGreat
open Go.RowKit

theorem refsum_end (x : Int) : (Value.agg #[.int .u8 (lastOf x % 256), .int .u8 ((lastOf x).tdiv 256 % 256), .int .u8 ((lastOf x).tdiv 65536 % 256)]) = digV (dgOf x) := by
  have h := lastOf_range x
  rw [digV_of, Int.tdiv_eq_ediv_of_nonneg h.1, Int.tdiv_eq_ediv_of_nonneg h.1]

set_option maxHeartbeats 400000 in
theorem refsum_any (s : ByteArray) (w : World) (hs : s.size ≤ maxLen) :
    Calls Tryz.prog 37 #[.string s] w fun e w' => e = .returned (digV (dg s.data.toList)) ∧ Below w.heap.size w w' := by
  unfold maxLen at hs
  go_enter Tryz.func37, Tryz.ntmps37
  go_wp2
  go_loop [3, 4] (fun x i => ∃ (k : Nat), k ≤ s.size ∧ i = .int .i64 k ∧ x = .int .u32 (fnv (s.data.toList.take k))) (fun _ i => s.size - (intOf i).toNat)
  case atStart => exact ⟨0, Nat.zero_le _, rfl, rfl⟩
  case round =>
    obtain ⟨k, hk, rfl, rfl⟩ := hrel
    have hr := fnv_range (s.data.toList.take k)
    by_cases hlt : k < s.size
    · have HS : Hid (fnv (s.data.toList.take (k + 1)) = mixStep (fnv (s.data.toList.take k)) s[k]) := by rw [take_snoc s k hlt]; exact fnv_snoc _ _
      go_wp2
      go_round
      case rel => exact ⟨k + 1, by omega, by go_num, by rw [HS.out]; rfl⟩
      case measure => simp [intOf]; omega
    · have hk' : k = s.size := by omega
      subst hk'
      rw [take_all]
      have hr := fnv_range s.data.toList
      generalize hx : fnv s.data.toList = x at *
      have HX := hide hx
      have HE := hide (refsum_end x)
      clear hx
      go_wp2
      have hv : digV (dg s.data.toList) = digV (dgOf x) := by rw [← unhide HX]; rfl
      refine bodyPost_ret (v := digV (dg s.data.toList)) ?_ rfl ⟨rfl, ((Below.refl _ _).alloc (Nat.le_refl _) _)⟩
      rw [hv, ← unhide HE]
      simp [results, Tryz.results37, go_sem, lastOf, lastMix]

/-- Bytes that lie in memory, from an address on. -/
def BytesAt (w : World) (b off : Nat) (l : List UInt8) : Prop := ∀ j (h : j < l.length), w.cell? ⟨b, off + j, none⟩ = some (.int .u8 (l[j].toNat : Int))

theorem BytesAt.below {w w' : World} {b off : Nat} {l : List UInt8} (h : BytesAt w b off l) (hb : Below w.heap.size w w') (hlt : b < w.heap.size) : BytesAt w' b off l :=
  fun j hj => (hb.cell (p := ⟨b, off + j, none⟩) hlt).trans (h j hj)

theorem take_snoc_list (l : List UInt8) (k : Nat) (h : k < l.length) : l.take (k + 1) = l.take k ++ [l[k]] := List.take_succ_eq_append_getElem h

set_option maxHeartbeats 400000 in
/-- tithe.Sum, of bytes that lie in memory. -/
theorem sum_any (b off n cap : Nat) (l : List UInt8) (w : World) (hn : l.length = n) (hm : n ≤ maxLen) (hlt : b < w.heap.size) (hl : BytesAt w b off l) :
    Calls Tryz.prog 40 #[.slice (some ⟨b, off, none⟩) n cap] w fun e w' => e = .returned (digV (dg l)) ∧ Below w.heap.size w w' := by
  unfold maxLen at hm
  subst hn
  go_enter Tryz.func40, Tryz.ntmps40
  go_wp2
  go_loop [3, 8] (fun x i => ∃ (k : Nat), k ≤ l.length ∧ i = .int .i64 k ∧ x = .int .u32 (fnv (l.take k))) (fun _ i => l.length - (intOf i).toNat)
  case atStart => exact ⟨0, Nat.zero_le _, rfl, rfl⟩
  case round =>
    obtain ⟨k, hk, rfl, rfl⟩ := hrel
    have hr := fnv_range (l.take k)
    by_cases hlt' : k < l.length
    · have HS : Hid (fnv (l.take (k + 1)) = mixStep (fnv (l.take k)) l[k]) := by rw [take_snoc_list l k hlt']; exact fnv_snoc _ _
      have hc := hl k hlt'
      have hne : b ≠ w.heap.size := by omega
      go_wp2
      go_round
      case rel => exact ⟨k + 1, by omega, by go_num, by rw [HS.out]; rfl⟩
      case measure => simp [intOf]; omega
    · have hk' : k = l.length := by omega
      subst hk'
      rw [List.take_length]
      have hr := fnv_range l
      generalize hx : fnv l = x at *
      have HX := hide hx
      clear hx
      clear hl
      go_wp2
      have hv : digV (dg l) = digV (dgOf x) := by rw [← unhide HX]; rfl
      refine bodyPost_ret (v := digV (dg l)) ?_ rfl ⟨rfl, ((Below.refl _ _).alloc (Nat.le_refl _) _)⟩
      rw [hv, digV_of]
      simp [results, Tryz.results40, go_sem, lastOf, lastMix]

end Go.Proofs.YtbjobbkgelipmaaGreat

/-
  The walks of lent and still: what is handed in, with its spare room.
-/
namespace Go.Proofs.YtbjobbkgelipmaaGreat
open Go.RowKit

/-- The operation copy(d, s) at the walk, its run known by an equation. -/
theorem wpList_copy_by {P : Program} {w w' : World} {ops : Array Oper} {rest : List Oper} {o : Oper} {a : Act} {Q : Exit → Act → World → Prop} (hgd : o.guard = none) (d s : Operand) (t t' : TypeId)
    (ho : o.op = .call { callee := .builtin .copy, args := #[d, s], argTypes := #[t, t'] }) {x y r : Value} (hd : a.eval d = x) (hs : a.eval s = y)
    (hr : (Builtin.copy_ #[t, t'] o.type #[x, y]).run P w = .ok r w') (h : wpList P ops Q rest (a.put o.dst r) w') : wpList P ops Q (o :: rest) a w := by
  refine wpList_plain hgd fun K hK => ?_
  unfold Oper.wp
  simp [execOp, ho, resolve, invoke, builtin, hd, hs, hr, Result.andThen]
  exact hK _ _ h

theorem Tryz.infoByte : (Tryz.prog.info? 5).map (fun i => (i.zero, i.size, i.bytes)) = some (some (.int .u8 0), 1, 1) := by kernel_rfl
theorem Tryz.sizeByte (w : World) : (Go.sizeOf 5).run Tryz.prog w = .ok 1 w := by
  obtain ⟨i0, hi, hz0, hz1, hz2⟩ := info_parts Tryz.infoByte
  simp [Go.sizeOf, typeInfo, hi, hz1]

/-- The j-th byte of what is lent: the string's, and behind it 201. -/
def lentB (s : List UInt8) (j : Nat) : UInt8 := s.getD j 201
def lentV (s : List UInt8) (j : Nat) : Value := .int .u8 ((lentB s j).toNat : Int)

theorem lent_start (s : ByteArray) (w : World) (f : Nat → Value) (b : Nat) (h : w.rowIs b 5 (s.size + 8) f) :
    (w.setCells b 0 (s.data.toList.map fun x => Value.int .u8 (x.toNat : Int))).rowIs b 5 (s.size + 8) (fun j => if j < s.size then lentV s.data.toList j else f j) := by
  refine (rowIs_setCells _ 0 w f h).congr (fun j hj => ?_)
  have hl : (s.data.toList.map fun x => Value.int .u8 (x.toNat : Int)).length = s.size := by rw [List.length_map, ← Lib.size_eq]
  rw [hl]
  by_cases h1 : j < s.size
  · rw [if_pos ⟨Nat.zero_le _, by omega⟩, if_pos h1]
    have h2 : j < s.data.toList.length := by simpa using h1
    simp [lentV, lentB, List.getElem?_map, List.getElem?_eq_getElem h2]
  · rw [if_neg (by omega), if_neg h1]

theorem lent_step (s : List UInt8) (w : World) (b n k : Nat) (f : Nat → Value) (hk : s.length ≤ k)
    (h : w.rowIs b 5 n (fun j => if j < k then lentV s j else f j)) :
    (w.setCell ⟨b, k, none⟩ (.int .u8 201)).rowIs b 5 n (fun j => if j < k + 1 then lentV s j else f j) := by
  refine (h.set k (.int .u8 201)).congr (fun j hj => ?_)
  by_cases h1 : j = k
  · subst h1
    have : s.getD j 201 = 201 := by simp [List.getD, List.getElem?_eq_none hk]
    rw [if_pos rfl, if_pos (by omega)]
    show Value.int .u8 201 = .int .u8 ((s.getD j 201).toNat : Int)
    rw [this]; rfl
  · rw [if_neg h1]
    by_cases h2 : j < k
    · rw [if_pos h2, if_pos (by omega)]
    · rw [if_neg h2, if_neg (by omega)]

set_option maxHeartbeats 400000 in
theorem lent_any (s : ByteArray) (w : World) (hs : s.size ≤ 140737488351232) :
    Calls Tryz.prog 39 #[.string s] w fun e w' => e = .returned (.slice (some ⟨w.heap.size, 0, none⟩) (s.size + 8) (s.size + 8)) ∧
      w'.rowIs w.heap.size 5 (s.size + 8) (lentV s.data.toList) ∧ Below w.heap.size w w' := by
  have hrow := World.rowIs_made w (.int .u8 0) (s.size + 8) 5
  have hcp := run_copy_string (P := Tryz.prog) (w.alloc (.cells (madeCells #[.int .u8 0] (s.size + 8)) 5)) 51 9 3 5 w.heap.size 0 (s.size + 8) (s.size + 8) s Tryz.underlying51 Tryz.sizeByte (by omega)
    (fun j hj => by rw [Nat.zero_add, hrow.cell (by omega)]; rfl) (fun j _ => by rw [Nat.zero_add]; exact hrow.frozen j)
  have hst := lent_start s _ _ _ hrow
  have hbel : Below w.heap.size w ((w.alloc (.cells (madeCells #[.int .u8 0] (s.size + 8)) 5)).setCells w.heap.size 0 (s.data.toList.map fun x => Value.int .u8 (x.toNat : Int))) :=
    below_setCells (Nat.le_refl _) _ _ _ ((Below.refl _ _).alloc (Nat.le_refl _) _)
  generalize hw1 : (w.alloc (.cells (madeCells #[.int .u8 0] (s.size + 8)) 5)).setCells w.heap.size 0 (s.data.toList.map fun x => Value.int .u8 (x.toNat : Int)) = w1 at *
  have hmk := run_make_row' (P := Tryz.prog) 51 5 (.int .u8 0) 1 Tryz.underlying51 Tryz.infoByte rfl .i64 .i64 (s.size + 8) (by omega) (by omega)
  rw [show ((s.size + 8 : Nat) : Int) = (s.size : Int) + 8 from by omega] at hmk
  have HR := hide hst
  have HB := hide hbel
  clear hst hw1 hrow hbel
  go_enter Tryz.func39, Tryz.ntmps39
  go_wp2
  go_loopw [4] (fun i wr => ∃ k : Nat, s.size ≤ k ∧ k ≤ s.size + 8 ∧ i = .int .i64 k ∧ wr.rowIs w.heap.size 5 (s.size + 8) (fun j => if j < k then lentV s.data.toList j else Value.int .u8 0) ∧ Below w.heap.size w wr)
    (fun i _ => s.size + 8 - (intOf i).toNat)
  case atStart => exact ⟨s.size, Nat.le_refl _, by omega, rfl, unhide HR, unhide HB⟩
  case round =>
    obtain ⟨k, hk1, hk2, rfl, hrow, hbel⟩ := hrel
    clear HR HB hcp hmk
    by_cases hlt : k < s.size + 8
    · have hc := hrow.cell hlt
      have hf := hrow.frozen k
      have HR := hide (lent_step s.data.toList _ _ _ _ _ (by simpa using hk1) hrow)
      have HB := hide (hbel.setCell (p := ⟨w.heap.size, k, none⟩) (Nat.le_refl _) (.int .u8 201))
      clear hrow hbel
      go_wp2
      go_roundw
      case rel => exact ⟨k + 1, by omega, by omega, by go_num, unhide HR, unhide HB⟩
      case measure => simp [intOf]; omega
    · have HR := hide (hrow.congr (g := lentV s.data.toList) (fun j hj => by rw [if_pos (by omega)]))
      have HB := hide hbel
      clear hrow hbel
      go_wp2
      go_ret
      exact ⟨rfl, unhide HR, unhide HB⟩

end Go.Proofs.YtbjobbkgelipmaaGreat

/-
  The walk of still: what was lent reads as it was.
-/
namespace Go.Proofs.YtbjobbkgelipmaaGreat
open Go.RowKit

theorem lentV_in (s : ByteArray) (k : Nat) (h : k < s.size) : lentV s.data.toList k = .int .u8 (s[k].toNat : Int) := by
  have h2 : k < s.data.toList.length := by simpa using h
  simp only [lentV, lentB, List.getD, List.getElem?_eq_getElem h2]
  rfl
theorem lentV_out (s : ByteArray) (k : Nat) (h : ¬ k < s.size) : lentV s.data.toList k = .int .u8 201 := by
  have h2 : s.data.toList.length ≤ k := by simp; omega
  simp only [lentV, lentB, List.getD, List.getElem?_eq_none h2]
  rfl

set_option maxHeartbeats 400000 in
theorem still_any (b : Nat) (s : ByteArray) (w : World) (hs : s.size ≤ 140737488351232) (h : ∀ j, j < s.size + 8 → w.cell? ⟨b, j, none⟩ = some (lentV s.data.toList j)) :
    Calls Tryz.prog 41 #[.slice (some ⟨b, 0, none⟩) (s.size + 8) (s.size + 8), .string s] w fun e w' => e = .returned (.bool true) ∧ ∃ n, w' = w.drewN n := by
  have H := hide h
  clear h
  go_enter Tryz.func41, Tryz.ntmps41
  go_wp2
  go_loopw [5] (fun i wr => ∃ k n : Nat, k ≤ s.size + 8 ∧ i = .int .i64 k ∧ wr = w.drewN n) (fun i _ => s.size + 8 - (intOf i).toNat)
  case atStart => exact ⟨0, 0, Nat.zero_le _, rfl, rfl⟩
  case round =>
    obtain ⟨k, n, hk, rfl, rfl⟩ := hrel
    by_cases hlt : k < s.size + 8
    · have hc := unhide H k hlt
      by_cases hin : k < s.size
      · rw [lentV_in s k hin] at hc
        have hd : decide (s.size ≤ k) = false := by simp; omega
        go_wp2
        go_quiet (fail)
        go_wp2
        go_roundw
        case rel => exact ⟨k + 1, n + nq, by omega, by go_num, rfl⟩
        case measure => simp [intOf]; omega
      · rw [lentV_out s k hin] at hc
        have hd : decide ((k : Int) < (s.size : Int)) = false := by simp; omega
        have hd2 : (s.size : Int) ≤ (k : Int) := by omega
        go_wp2
        go_quiet (fail)
        go_wp2
        go_roundw
        case rel => exact ⟨k + 1, n + nq, by omega, by go_num, rfl⟩
        case measure => simp [intOf]; omega
    · go_wp2
      go_ret
      exact ⟨rfl, n, rfl⟩

end Go.Proofs.YtbjobbkgelipmaaGreat

/-
  The walk of titheref.long: a number's eight bytes.
-/
namespace Go.Proofs.YtbjobbkgelipmaaGreat
open Go.RowKit

/-- The j-th of a number's eight bytes, the highest first. -/
def longAt (n : Int) (j : Nat) : UInt8 := lowByte (n / 2 ^ (8 * (7 - j)))
def longB (n : Int) : List UInt8 := (List.range 8).map (longAt n)
theorem longB_length (n : Int) : (longB n).length = 8 := by simp [longB]
theorem longB_take_snoc (n : Int) (j : Nat) (h : j < 8) : (longB n).take (j + 1) = (longB n).take j ++ [longAt n j] := by
  have hl : j < (longB n).length := by rw [longB_length]; exact h
  rw [List.take_succ_eq_append_getElem hl]
  simp [longB]

def byteVals (l : List UInt8) : List Value := l.map fun b => Value.int .u8 (b.toNat : Int)
theorem byteVals_snoc (l : List UInt8) (c : UInt8) : byteVals (l ++ [c]) = byteVals l ++ [.int .u8 (c.toNat : Int)] := by simp [byteVals]

theorem addr_add (b o j : Nat) : (⟨b, o, none⟩ : Addr).add j = ⟨b, o + j, none⟩ := by unfold Addr.add; split <;> simp_all

theorem long_step (n : Int) (k : Nat) (z : Int) (v v' : Value) (w wr w1 : World) (hlt : k < 8) (hz : z = 7 - (k : Int)) (hown : wr.ownsRow w.heap.size 5 1 v k (byteVals ((longB n).take k))) (hbel : Below w.heap.size w wr)
    (hown1 : w1.ownsRow w.heap.size 5 1 v' (k + 1) (byteVals ((longB n).take k) ++ [.int .u8 (n / 2 ^ (8 * z).toNat % 256)]))
    (hg : (wr.alloc (Obj.cells #[Value.int IntKind.u8 (n / 2 ^ (8 * z).toNat % 256)] 5)).grownBy w1 v.ownBlock) :
    w1.ownsRow w.heap.size 5 1 v' (k + 1) (byteVals ((longB n).take (k + 1))) ∧ Below w.heap.size w w1 := by
  have hsz := hbel.size
  refine ⟨?_, ?_⟩
  · rw [longB_take_snoc n k hlt, byteVals_snoc]
    have e : ((longAt n k).toNat : Int) = n / 2 ^ (8 * z).toNat % 256 := by
      unfold longAt
      rw [lowByte_toNat, show (8 * z).toNat = 8 * (7 - k) by omega]
    rw [e]; exact hown1
  · refine (hbel.alloc hsz _).grown hg (by simp; omega) ?_
    intro b hb
    rcases hown.2 with ⟨rfl, _⟩ | ⟨g, cap, cur, rfl, hg, _⟩
    · cases hb
    · cases hb; exact hg

theorem long_end (n : Int) (v : Value) (w : World) (base : Nat) (hown : w.ownsRow base 5 1 v 8 (byteVals ((longB n).take 8))) :
    ∃ b cap, v = .slice (some ⟨b, 0, none⟩) 8 cap ∧ ∀ j (hj : j < (longB n).length), w.cell? ((⟨b, 0, none⟩ : Addr).add j) = some (.int .u8 ((longB n)[j].toNat : Int)) := by
  rw [List.take_of_length_le (by rw [longB_length]; exact Nat.le_refl _)] at hown
  rcases hown.2 with ⟨_, h⟩ | ⟨g, cap, cur, rfl, _, hb, _, _, _, hx⟩
  · cases h
  · refine ⟨g, cap, rfl, fun j hj => ?_⟩
    have h1 : (byteVals (longB n))[j]? = some (.int .u8 ((longB n)[j].toNat : Int)) := by simp [byteVals, List.getElem?_eq_getElem hj]
    rw [← hx, List.getElem?_take] at h1
    split at h1
    · rw [addr_add, Nat.zero_add]
      simp only [World.cell?, hb]
      simpa using h1
    · cases h1

set_option maxRecDepth 100000 in
set_option maxHeartbeats 400000 in
theorem long_any (n : Int) (w : World) (_h0 : 0 ≤ n) (h1 : n < 18446744073709551616) :
    Calls Tryz.prog 38 #[.int .u64 n] w fun e w' => e = .returned (.string ⟨(longB n).toArray⟩) ∧ Below w.heap.size w w' := by
  obtain ⟨i0, hi, hz0, hz1, hz2⟩ := info_parts Tryz.infoByte
  have H1 := hide h1
  clear h1
  go_enter Tryz.func38, Tryz.ntmps38
  go_wp2
  go_loopw [3, 4] (fun v i wr => ∃ (k : Nat) (z : Int), k ≤ 8 ∧ z = 7 - (k : Int) ∧ i = .int .i64 z ∧ wr.ownsRow w.heap.size 5 1 v k (byteVals ((longB n).take k)) ∧ Below w.heap.size w wr) (fun _ i _ => (intOf i + 1).toNat)
  case atStart => exact ⟨0, 7, Nat.zero_le _, rfl, rfl, World.ownsRow_nil _ _ _ _, Below.refl _ _⟩
  case round =>
    obtain ⟨k, z, hk, hz, rfl, hown, hbel⟩ := hrel
    have Hown := hide hown
    have Hbel := hide hbel
    have hsz := hbel.size
    clear hown hbel
    by_cases hlt : k < 8
    · have hz0' : 0 ≤ z := by omega
      have hz7 : z ≤ 7 := by omega
      have Hz := hide hz
      clear hz
      go_wp2_with (at_builtin; refine wpList_append_own _ rfl (.tmp 9) (.tmp 15) 51 rfl w.heap.size 5 i0 (.int .u8 0) 1 1 Tryz.underlying51 hi hz0 hz1 hz2 rfl (by decide) _ _ _ rfl ((unhide Hown).alloc _) ⟨wr.heap.size, 0, none⟩ 1 1 [_] rfl rfl (cell_one_new _ _ _) ?c2 ?c3 ?c4 ?c5 ?_)
      case c2 => intro u hu; simp at hu; subst hu; rfl
      case c3 => unfold maxLen; omega
      case c4 => omega
      case c5 => simp; omega
      intro v' w1 hown1 hgrow1 _
      have R := hide (long_step n k z _ _ _ _ _ hlt (unhide Hz) (unhide Hown) (unhide Hbel) hown1 hgrow1)
      clear hown1 hgrow1 Hown Hbel
      go_wp2
      go_roundw
      case rel => exact ⟨k + 1, z - 1, by omega, by have := unhide Hz; omega, rfl, (unhide R).1, (unhide R).2⟩
      case measure => simp [intOf]; omega
    · have hk8 : k = 8 := by omega
      subst hk8
      obtain ⟨b, cap, hv, hc⟩ := long_end n _ _ _ (unhide Hown)
      subst hv
      have hcv := run_convert_bytes_back (P := Tryz.prog) wr 51 9 5 ⟨b, 0, none⟩ cap (longB n) Tryz.underlying51 Tryz.underlying5 Tryz.underlying9 hc
      rw [longB_length] at hcv
      clear hc Hown
      go_wp2
      go_ret
      exact ⟨rfl, unhide Hbel⟩

end Go.Proofs.YtbjobbkgelipmaaGreat

/-
  The walks of titheref's texts: Side.text, Leaf.Text.
-/
namespace Go.Proofs.YtbjobbkgelipmaaGreat
open Go.RowKit

abbrev Dg := UInt8 × UInt8 × UInt8
def dgB (d : Dg) : List UInt8 := [d.1, d.2.1, d.2.2]
def sideV (d : Dg) (n : Int) : Value := .agg #[.int .u8 (d.1.toNat : Int), .int .u8 (d.2.1.toNat : Int), .int .u8 (d.2.2.toNat : Int), .int .u64 n]
def strV (l : List UInt8) : Value := .string ⟨l.toArray⟩

theorem bcell {W w1 : World} (hb : Below W.heap.size W w1) : (∀ b o, b < W.heap.size → w1.cell? ⟨b, o, none⟩ = W.cell? ⟨b, o, none⟩) ∧ (∀ b o, b < W.heap.size → w1.frozen? ⟨b, o, none⟩ = W.frozen? ⟨b, o, none⟩) :=
  ⟨fun b o h => hb.cell (p := ⟨b, o, none⟩) h, fun b o h => hb.frozen (p := ⟨b, o, none⟩) h⟩

theorem convert3 (b : Nat) (x y z : UInt8) (w : World) (h0 : w.cell? ⟨b, 0, none⟩ = some (.int .u8 (x.toNat : Int))) (h1 : w.cell? ⟨b, 1, none⟩ = some (.int .u8 (y.toNat : Int))) (h2 : w.cell? ⟨b, 2, none⟩ = some (.int .u8 (z.toNat : Int))) :
    (convert 51 9 (.slice (some ⟨b, 0, none⟩) 3 3)).run Tryz.prog w = .ok (.string ⟨#[x, y, z]⟩) w := by
  have h := run_convert_bytes_back (P := Tryz.prog) w 51 9 5 ⟨b, 0, none⟩ 3 [x, y, z] Tryz.underlying51 Tryz.underlying5 Tryz.underlying9 (by
    intro j hj
    match j, hj with
    | 0, _ => rw [addr_add]; exact h0
    | 1, _ => rw [addr_add]; exact h1
    | 2, _ => rw [addr_add]; exact h2)
  simpa using h

theorem str_add {P : Program} (a b : ByteArray) (h : a.size + b.size ≤ 9223372036854775807) (w : World) : (Op.stringOp .add a b).run P w = .ok (.string (a ++ b)) w := run_string_add_sum w a b h

theorem keepB {W w1 : World} {b o : Nat} {v : Value} (hb : Below W.heap.size W w1) (hlt : b < W.heap.size) (h : W.cell? ⟨b, o, none⟩ = some v) : w1.cell? ⟨b, o, none⟩ = some v := ((bcell hb).1 _ _ hlt).trans h

theorem keep4 {w W w4 : World} {B : Nat} {v0 v1 v2 v3 : Value} (hB : w.heap.size ≤ B) (h : W.cell? ⟨B, 0, none⟩ = some v0 ∧ W.cell? ⟨B, 1, none⟩ = some v1 ∧ W.cell? ⟨B, 2, none⟩ = some v2 ∧ W.cell? ⟨B, 3, none⟩ = some v3 ∧ B < W.heap.size ∧ Below w.heap.size w W) (hb : Below W.heap.size W w4) :
    w4.cell? ⟨B, 0, none⟩ = some v0 ∧ w4.cell? ⟨B, 1, none⟩ = some v1 ∧ w4.cell? ⟨B, 2, none⟩ = some v2 ∧ w4.cell? ⟨B, 3, none⟩ = some v3 ∧ B < w4.heap.size ∧ Below w.heap.size w w4 := by
  obtain ⟨h0, h1, h2, h3, h4, h5⟩ := h
  have := hb.size
  exact ⟨keepB hb h4 h0, keepB hb h4 h1, keepB hb h4 h2, keepB hb h4 h3, by omega, h5.trans (hb.mono (by omega))⟩

set_option maxRecDepth 100000 in
set_option maxHeartbeats 400000 in
theorem sidetext_any (d : Dg) (n : Int) (w : World) (h0 : 0 ≤ n) (h1 : n < 18446744073709551616) :
    Calls Tryz.prog 15 #[sideV d n] w fun e w' => e = .returned (strV (dgB d ++ longB n)) ∧ Below w.heap.size w w' := by
  have H1 := hide h1
  clear h1
  unfold sideV
  obtain ⟨x, y, z⟩ := d
  have hcv := convert3 w.heap.size x y z
  obtain ⟨L, hLd⟩ : ∃ L : ByteArray, L = ⟨(longB n).toArray⟩ := ⟨_, rfl⟩
  have HL : ∀ w, Hid (Calls Tryz.prog 38 #[.int .u64 n] w fun e w' => e = .returned (.string L) ∧ Below w.heap.size w w') := fun w => by rw [hLd]; exact long_any n w h0 (unhide H1)
  have hsa := str_add (P := Tryz.prog) ⟨#[x, y, z]⟩ L (by rw [hLd]; simp [ByteArray.size, longB_length])
  have HLd := hide hLd
  clear hLd
  go_enter Tryz.func15, Tryz.ntmps15
  go_wp2_with fail
  go_region_held3 (fun w' => w'.cell? ⟨w.heap.size, 0, none⟩ = some (.int .u8 (x.toNat : Int)) ∧ w'.cell? ⟨w.heap.size, 1, none⟩ = some (.int .u8 (y.toNat : Int)) ∧ w'.cell? ⟨w.heap.size, 2, none⟩ = some (.int .u8 (z.toNat : Int)) ∧ w'.cell? ⟨w.heap.size, 3, none⟩ = some (.int .u64 n) ∧ w.heap.size < w'.heap.size ∧ Below w.heap.size w w')
    (first | assumption | exact ⟨by simp, by simp, by simp, by simp, by simp, ((Below.refl _ _).alloc (Nat.le_refl _) _).drew⟩ | exact keep4 (Nat.le_refl _) (by assumption) hb4)
    (first | (go_at_call 38; refine (unhide (HL _)).mono ?_; rintro e w4 ⟨rfl, hb4⟩))
  go_wp2
  go_ret
  refine ⟨?_, by rename_i hS; exact hS.2.2.2.2.2⟩
  rw [unhide HLd]
  rfl

end Go.Proofs.YtbjobbkgelipmaaGreat

/-
  The walk of free and step, at a step that digests (Kind 1).
-/
namespace Go.Proofs.YtbjobbkgelipmaaGreat
open Go.RowKit

/-- A step of a script, as a value. -/
def opV (k n h sd : Int) (s t : ByteArray) (la : Option Addr) (ll lc : Nat) (a : Int) : Value :=
  .agg #[.int .i64 k, .int .i64 n, .int .i64 h, .int .u64 sd, .string s, .string t, .slice la ll lc, .int .u64 a]

theorem Tryz.underlyingDg : Tryz.prog.underlying 47 = some (.array 3 5) := by kernel_rfl
theorem Tryz.cellsByte : Tryz.prog.cellsOf 5 = 1 := by kernel_rfl
theorem Tryz.plainByte : Tryz.prog.plainKey 5 = true := by kernel_rfl
set_option maxRecDepth 100000 in
theorem eql_digest (w : World) (a0 a1 a2 b0 b1 b2 : Int) :
    (Op.equalIn 10000 47 (.agg #[.int .u8 a0, .int .u8 a1, .int .u8 a2]) (.agg #[.int .u8 b0, .int .u8 b1, .int .u8 b2])).run Tryz.prog w = .ok (a0 == b0 && (a1 == b1 && a2 == b2)) w := by
  obtain ⟨i0, hi, hz0, hz1, hz2⟩ := info_parts Tryz.infoByte
  have h := run_equalIn_array (P := Tryz.prog) w 9999 #[.int .u8 a0, .int .u8 a1, .int .u8 a2] #[.int .u8 b0, .int .u8 b1, .int .u8 b2] Tryz.underlyingDg hi
  have e : (9999 + 1 : Nat) = 10000 := rfl
  rw [e] at h
  rw [h, Tryz.cellsByte]
  have hq : ∀ (x y : Int) (w : World), (Op.equalIn 9999 5 (.int .u8 x) (.int .u8 y)).run Tryz.prog w = .ok (x == y) w := fun x y w => run_equalIn_int w 9998 5 .u8 .u8 x y Tryz.underlying5
  have hp : ∀ (l : Array Value) (k : Nat) (v : Value) (w : World), l[k]? = some v → (part 5 l k).run Tryz.prog w = .ok v w := fun l k v w hx => run_part_plain w Tryz.plainByte hx
  simp only [List.range_succ, List.range_zero, List.nil_append, List.cons_append, Op.eqItems, Sem.run_bind]
  rw [hp _ (0 * 1) (.int .u8 a0) w rfl]
  simp only [Result.andThen_ok]
  rw [hp _ (0 * 1) (.int .u8 b0) w rfl]
  simp only [Result.andThen_ok, hq]
  cases h0 : (a0 == b0)
  · simp
  · simp only [Bool.not_true, Bool.false_eq_true, if_false, Sem.run_bind]
    rw [hp _ (1 * 1) (.int .u8 a1) w rfl]
    simp only [Result.andThen_ok]
    rw [hp _ (1 * 1) (.int .u8 b1) w rfl]
    simp only [Result.andThen_ok, hq]
    cases h1 : (a1 == b1)
    · simp
    · simp only [Bool.not_true, Bool.false_eq_true, if_false, Sem.run_bind]
      rw [hp _ (2 * 1) (.int .u8 a2) w rfl]
      simp only [Result.andThen_ok]
      rw [hp _ (2 * 1) (.int .u8 b2) w rfl]
      simp only [Result.andThen_ok, hq]
      cases h2 : (a2 == b2) <;> simp

theorem lentV_bytes (s : ByteArray) (w : World) (b : Nat) (h : w.rowIs b 5 (s.size + 8) (lentV s.data.toList)) : BytesAt w b 0 s.data.toList := by
  intro j hj
  have hj' : j < s.size := by simpa using hj
  rw [Nat.zero_add, h.cell (by omega), lentV_in s j hj']
  rfl

set_option maxHeartbeats 400000 in
set_option maxRecDepth 100000 in
theorem free_sum (wp : Value) (n h sd : Int) (s t : ByteArray) (la : Option Addr) (ll lc : Nat) (a : Int) (w : World) (hs : s.size ≤ 140737488351232) :
    Calls Tryz.prog 17 #[wp, opV 1 n h sd s t la ll lc a] w fun e w' => e = .returned (.bool true) ∧ Below w.heap.size w w' := by
  unfold opV
  go_enter Tryz.func17, Tryz.ntmps17
  go_wp2_with fail
  refine (lent_any s _ hs).mono ?_
  rintro e w1 ⟨rfl, hrow, hb⟩
  have hz1 : w.heap.size + 1 < w1.heap.size := by have := hrow.lt; simpa using this
  have hc1 : w1.cell? ⟨w.heap.size, 4, none⟩ = some (.string s) := by
    rw [(bcell hb).1 _ _ (by simp)]; simp [go_sem]
  have Hb := hide (((Below.refl w.heap.size w).alloc (Nat.le_refl _) _).trans (hb.mono (by simp)))
  simp only [World.size_alloc] at hrow ⊢
  have hrw : w1.rowIs (w.heap.size + 1) 5 (s.size + 8) (lentV s.data.toList) := hrow
  have Hrow := hide hrw
  clear hb hrow hrw
  go_wp2_with fail
  refine (sum_any (w.heap.size + 1) 0 s.size (s.size + 8) s.data.toList w1 (by simp) (by unfold maxLen; omega) hz1 (lentV_bytes s w1 _ (unhide Hrow))).mono ?_
  rintro e w2 ⟨rfl, hb⟩
  have hz2 : w1.heap.size ≤ w2.heap.size := hb.size
  have hc2 : w2.cell? ⟨w.heap.size, 4, none⟩ = some (.string s) := by rw [(bcell hb).1 _ _ (by omega)]; exact hc1
  have Hrow2 : Hid (w2.rowIs (w.heap.size + 1) 5 (s.size + 8) (lentV s.data.toList)) := (unhide Hrow).of_block (hb.block _ hz1)
  have Hb2 := hide ((unhide Hb).trans (hb.mono (by omega)))
  have hz3 : w.heap.size < w2.heap.size := by omega
  have hz4 : w.heap.size + 1 < w2.heap.size := by omega
  clear hb hc1 Hrow Hb
  obtain ⟨d0, d1, d2, hD⟩ : ∃ d0 d1 d2 : Int, digV (dg s.data.toList) = .agg #[.int .u8 d0, .int .u8 d1, .int .u8 d2] := ⟨_, _, _, rfl⟩
  rw [hD]
  have HD := hide hD
  clear hD
  go_wp2_with fail
  refine (still_any (w.heap.size + 1) s _ hs (fun j hj => ?_)).mono ?_
  · rw [World.cell?_alloc_lt _ _ _ (by simp; omega)]
    exact (unhide Hrow2).cell hj
  rintro e w3 ⟨rfl, n3, rfl⟩
  go_wp2_with fail
  have hq := eql_digest
  generalize hW3 : (w2.alloc (Obj.cells #[Value.int IntKind.u8 d0, Value.int IntKind.u8 d1, Value.int IntKind.u8 d2] 47)).drewN n3 = w3
  have hs3 : w3.heap.size = w2.heap.size + 1 := by rw [← hW3]; simp
  have g0 : w3.cell? ⟨w2.heap.size, 0, none⟩ = some (Value.int IntKind.u8 d0) := by rw [← hW3]; simp
  have g1 : w3.cell? ⟨w2.heap.size, 1, none⟩ = some (Value.int IntKind.u8 d1) := by rw [← hW3]; simp
  have g2 : w3.cell? ⟨w2.heap.size, 2, none⟩ = some (Value.int IntKind.u8 d2) := by rw [← hW3]; simp
  have g4 : w3.cell? ⟨w.heap.size, 4, none⟩ = some (.string s) := by rw [← hW3]; simp; rw [World.cell?_alloc_lt _ _ _ (by simpa using hz3)]; exact hc2
  have Hb3 : Hid (Below w.heap.size w w3) := by rw [← hW3]; exact below_drewN ((unhide Hb2).alloc (by omega) _) n3
  have hz5 : w2.heap.size < w3.heap.size := by omega
  have hz6 : w.heap.size < w3.heap.size := by omega
  clear hW3 hs3 hc2 Hrow2 Hb2
  go_region_held3 (fun w' => w'.cell? ⟨w2.heap.size, 0, none⟩ = some (Value.int IntKind.u8 d0) ∧ w'.cell? ⟨w2.heap.size, 1, none⟩ = some (Value.int IntKind.u8 d1) ∧ w'.cell? ⟨w2.heap.size, 2, none⟩ = some (Value.int IntKind.u8 d2) ∧ w'.cell? ⟨w.heap.size, 4, none⟩ = some (.string s))
    (first | exact ⟨q0, q1, q2, q4⟩ | exact ⟨g0, g1, g2, g4⟩)
    (first | (go_at_call 37; refine (refsum_any s _ (by unfold maxLen; omega)).mono ?_; rintro e w4 ⟨rfl, hb4⟩; rw [unhide HD]; obtain ⟨k1, k2⟩ := bcell hb4; have q0 := (k1 _ 0 (by simpa using hz5)).trans (by simpa using g0); have q1 := (k1 _ 1 (by simpa using hz5)).trans (by simpa using g1); have q2 := (k1 _ 2 (by simpa using hz5)).trans (by simpa using g2); have q4 := (k1 _ 4 (by simpa using hz6)).trans (by simpa using g4); have Hb4 := hide hb4; clear hb4 k1 k2))
  go_wp2
  go_ret
  exact ⟨rfl, (unhide Hb3).drew.trans ((unhide Hb4).mono (B' := w.heap.size) (Nat.le_of_lt hz6))⟩

end Go.Proofs.YtbjobbkgelipmaaGreat

/-
  The walk of step, looks and UpTo where steps that digest alone are played.
-/
namespace Go.Proofs.YtbjobbkgelipmaaGreat
open Go.RowKit

set_option maxHeartbeats 400000 in
set_option maxRecDepth 100000 in
theorem step_sum (wp : Value) (n h sd : Int) (s t : ByteArray) (la : Option Addr) (ll lc : Nat) (a : Int) (w : World) (hs : s.size ≤ 140737488351232) :
    Calls Tryz.prog 12 #[wp, opV 1 n h sd s t la ll lc a] w fun e w' => e = .returned (.bool true) ∧ Below w.heap.size w w' := by
  unfold opV
  go_enter Tryz.func12, Tryz.ntmps12
  go_wp2_with fail
  have hF := free_sum wp n h sd s t la ll lc a
  unfold opV at hF
  refine (hF _ hs).mono ?_
  rintro e w1 ⟨rfl, hb⟩
  have Hb := hide (((Below.refl w.heap.size w).alloc (Nat.le_refl _) _).trans (hb.mono (by simp)))
  clear hb hF
  go_wp2
  go_ret
  exact ⟨rfl, unhide Hb⟩

set_option maxHeartbeats 400000 in
theorem looks_none (b : Nat) (w : World) (h : w.cell? ⟨b, 1, none⟩ = some (.slice none 0 0)) :
    Calls Tryz.prog 13 #[.pointer (some ⟨b, 0, none⟩)] w fun e w' => e = .returned (.bool true) ∧ w' = w := by
  go_enter Tryz.func13, Tryz.ntmps13
  go_wp2
  go_loop [3] (fun i => i = .int .i64 0) (fun _ => 0)
  case atStart => rfl
  case round =>
    subst hrel
    go_wp2
    go_ret
    exact ⟨rfl, rfl⟩

/-- A step of a script. -/
structure OpD where
  k : Int
  n : Int
  h : Int
  sd : Int
  s : ByteArray
  t : ByteArray
  la : Option Addr
  ll : Nat
  lc : Nat
  a : Int

/-- A step's cells. -/
def OpCells (w : World) (b o : Nat) (x : OpD) : Prop :=
  w.cell? ⟨b, o, none⟩ = some (.int .i64 x.k) ∧ w.cell? ⟨b, o + 1, none⟩ = some (.int .i64 x.n) ∧ w.cell? ⟨b, o + 2, none⟩ = some (.int .i64 x.h) ∧ w.cell? ⟨b, o + 3, none⟩ = some (.int .u64 x.sd) ∧
  w.cell? ⟨b, o + 4, none⟩ = some (.string x.s) ∧ w.cell? ⟨b, o + 5, none⟩ = some (.string x.t) ∧ w.cell? ⟨b, o + 6, none⟩ = some (.slice x.la x.ll x.lc) ∧ w.cell? ⟨b, o + 7, none⟩ = some (.int .u64 x.a)

theorem OpCells.below {w w' : World} {B b o : Nat} {x : OpD} (h : OpCells w b o x) (hb : Below B w w') (hlt : b < B) : OpCells w' b o x := by
  obtain ⟨h0, h1, h2, h3, h4, h5, h6, h7⟩ := h
  have e : ∀ o, w'.cell? ⟨b, o, none⟩ = w.cell? ⟨b, o, none⟩ := fun o => hb.cell (p := ⟨b, o, none⟩) hlt
  exact ⟨(e _).trans h0, (e _).trans h1, (e _).trans h2, (e _).trans h3, (e _).trans h4, (e _).trans h5, (e _).trans h6, (e _).trans h7⟩

/-- A script that lies in memory. -/
structure ScriptAt (w : World) (b off : Nat) (xs : List OpD) : Prop where
  lt : b < w.heap.size
  cells : ∀ i (h : i < xs.length), OpCells w b (off + i * 8) xs[i]
  small : ∀ x ∈ xs, x.s.size ≤ 140737488351232 ∧ x.t.size ≤ 140737488351232

set_option maxHeartbeats 400000 in
set_option maxRecDepth 100000 in
theorem upto_sums (b off cap : Nat) (xs : List OpD) (w : World) (hm : xs.length ≤ maxLen) (hS : ScriptAt w b off xs) :
    Calls Tryz.prog 9 #[.slice (some ⟨b, off, none⟩) xs.length cap, .int .i64 1, .int .i64 1] w fun e w' => e = .returned (.int .i64 (-1)) ∧ Below w.heap.size w w' := by
  unfold maxLen at hm
  have HS := hide hS
  have hlt := hS.lt
  clear hS
  go_enter Tryz.func9, Tryz.ntmps9
  go_wp2
  go_loopw [8] (fun i wr => ∃ k : Nat, k ≤ xs.length ∧ i = .int .i64 k ∧ wr.cell? ⟨w.heap.size, 1, none⟩ = some (.slice none 0 0) ∧ w.heap.size < wr.heap.size ∧ Below w.heap.size w wr) (fun i _ => xs.length - (intOf i).toNat)
  case atStart => exact ⟨0, Nat.zero_le _, rfl, by simp, by simp, (Below.refl _ _).alloc (Nat.le_refl _) _⟩
  case round =>
    obtain ⟨k, hk, rfl, hh, hz, hbel⟩ := hrel
    have Hbel := hide hbel
    clear hbel
    by_cases hlt' : k < xs.length
    · obtain ⟨h0, h1, h2, h3, h4, h5, h6, h7⟩ := ((unhide HS).cells k hlt').below (unhide Hbel) hlt
      have hsm := (unhide HS).small _ (List.getElem_mem hlt')
      generalize xs[k] = x at *
      obtain ⟨xk, xn, xh, xsd, xs', xt, xla, xll, xlc, xa⟩ := x
      simp only at h0 h1 h2 h3 h4 h5 h6 h7 hsm
      obtain ⟨hsm1, hsm2⟩ := hsm
      rcases Int.lt_trichotomy xk 1 with hk1 | rfl | hk1
      · clear h1 h2 h3 h4 h5 h6 h7 hsm1 hsm2
        go_wp2
        go_roundw
        case rel => exact ⟨k + 1, by omega, by go_num, hh, hz, unhide Hbel⟩
        case measure => simp [intOf]; omega
      · have hst := step_sum (.pointer (some ⟨w.heap.size, 0, none⟩)) xn xh xsd xs' xt xla xll xlc xa
        unfold opV at hst
        have Hst : Hid _ := hide hst
        clear hst hsm2
        go_wp2_with fail
        refine (unhide Hst _ hsm1).mono ?_
        rintro e w1 ⟨rfl, hb⟩
        have hz1 : w.heap.size < w1.heap.size := by have := hb.size; omega
        have hh1 : w1.cell? ⟨w.heap.size, 1, none⟩ = some (.slice none 0 0) := keepB hb hz hh
        have Hb1 := hide ((unhide Hbel).trans (hb.mono (by omega)))
        clear hb Hbel hh hz Hst h0 h1 h2 h3 h4 h5 h6 h7
        go_wp2_with fail
        refine (looks_none _ _ hh1).mono ?_
        rintro e w2 ⟨rfl, rfl⟩
        go_wp2
        go_roundw
        case rel => exact ⟨k + 1, by omega, by go_num, hh1, hz1, unhide Hb1⟩
        case measure => simp [intOf]; omega
      · have hk1' : ¬ xk < 1 := by omega
        clear h1 h2 h3 h4 h5 h6 h7 hsm1 hsm2
        go_wp2
        go_roundw
        case rel => exact ⟨k + 1, by omega, by go_num, hh, hz, unhide Hbel⟩
        case measure => simp [intOf]; omega
    · clear hh
      go_wp2
      go_ret
      exact ⟨rfl, unhide Hbel⟩

set_option maxHeartbeats 400000 in
theorem upto_none (a0 : Option Addr) (cap : Nat) (least last : Int) (w : World) :
    Calls Tryz.prog 9 #[.slice a0 0 cap, .int .i64 least, .int .i64 last] w fun e w' => e = .returned (.int .i64 (-1)) ∧ Below w.heap.size w w' := by
  go_enter Tryz.func9, Tryz.ntmps9
  go_wp2
  go_loop [8] (fun i => i = .int .i64 0) (fun _ => 0)
  case atStart => rfl
  case round =>
    subst hrel
    go_wp2
    go_ret
    exact ⟨rfl, (Below.refl _ _).alloc (Nat.le_refl _) _⟩

end Go.Proofs.YtbjobbkgelipmaaGreat

/-
  Lists that came out or were handed in: what the world keeps of them, and the walks of sign, marked, looks.
-/
namespace Go.Proofs.YtbjobbkgelipmaaGreat
open Go.RowKit

/-- What a mark looks like in the i-th byte of a list. -/
def signI (m i : Int) : Int := wrap64 (m + wrap64 (i * wrap64 (1 + wrap64 (m.tdiv 256)))) % 256
def markV (m : Int) (n : Nat) : List Value := (List.range n).map fun (i : Nat) => .int .u8 (signI m (i : Int))
theorem markV_length (m : Int) (n : Nat) : (markV m n).length = n := by simp [markV]
theorem markV_at (m : Int) (n i : Nat) (h : i < n) : (markV m n)[i]? = some (.int .u8 (signI m (i : Int))) := by simp [markV, h]
theorem markV_succ (m : Int) (n : Nat) : markV m (n + 1) = markV m n ++ [.int .u8 (signI m (n : Int))] := by simp [markV, List.range_succ]

set_option maxHeartbeats 400000 in
theorem sign_any (m i : Int) (w : World) :
    Calls Tryz.prog 57 #[.int .i64 m, .int .i64 i] w fun e w' => e = .returned (.int .u8 (signI m i)) ∧ w' = w := by
  go_enter Tryz.func57, Tryz.ntmps57
  go_wp2
  go_ret
  exact ⟨rfl, rfl⟩

/-- A list that is kept: the block of its record, the list, its length, its mark. -/
structure HoldD where
  p : Nat
  v : Value
  n : Nat
  m : Int

/-- A list that still reads as it was written. -/
structure HoldOk (w : World) (B : Nat) (x : HoldD) : Prop where
  above : B < x.p
  cell : w.heap[x.p]? = some (.cells #[x.v, .int .i64 x.m] 113 (0, 0))
  own : w.ownsRow (B + 1) 5 1 x.v x.n (markV x.m x.n)
  small : x.n ≤ 140737488355328

def ptrV (p : Nat) : Value := .pointer (some ⟨p, 0, none⟩)

/-- The world of the script: its record at block B, all its lists. -/
structure Inv (w : World) (B : Nat) (ps hv : Value) (hs : List HoldD) : Prop where
  cell : w.heap[B]? = some (.cells #[ps, hv] 43 (0, 0))
  own : w.ownsRow (B + 1) 71 1 hv hs.length (hs.map fun x => ptrV x.p)
  ok : ∀ x ∈ hs, HoldOk w B x

theorem block_cell {w : World} {b i : Nat} {cs : Array Value} {t : TypeId} {fr : Nat × Nat} (h : w.heap[b]? = some (.cells cs t fr)) : w.cell? ⟨b, i, none⟩ = cs[i]? := by
  simp [World.cell?, h]
theorem block_free {w : World} {b i : Nat} {cs : Array Value} {t : TypeId} (h : w.heap[b]? = some (.cells cs t (0, 0))) : w.frozen? ⟨b, i, none⟩ = false := by
  simp [World.frozen?, h]

theorem HoldOk.shape {w : World} {B : Nat} {x : HoldD} (h : HoldOk w B x) : ∃ a cap, x.v = .slice a x.n cap ∧ (0 < x.n → ∃ g, a = some ⟨g, 0, none⟩ ∧ ∀ i, i < x.n → w.cell? ⟨g, i, none⟩ = some (.int .u8 (signI x.m (i : Int)))) := by
  rcases h.own.2 with ⟨hv, hn⟩ | ⟨g, cap, cur, hv, _, hh, _, _, _, htake⟩
  · exact ⟨none, 0, by rw [hv, hn], fun h0 => by omega⟩
  · refine ⟨some ⟨g, 0, none⟩, cap, hv, fun _ => ⟨g, rfl, fun i hi => ?_⟩⟩
    have h1 := markV_at x.m x.n i hi
    rw [← htake, List.getElem?_take] at h1
    split at h1
    · rw [block_cell hh]; simpa using h1
    · cases h1

set_option maxHeartbeats 400000 in
theorem marked_at (p : Nat) (a : Option Addr) (n cap : Nat) (m : Int) (w : World) (hn : n ≤ 140737488355328) (h0 : w.cell? ⟨p, 0, none⟩ = some (.slice a n cap)) (h1 : w.cell? ⟨p, 1, none⟩ = some (.int .i64 m))
    (hg : 0 < n → ∃ g, a = some ⟨g, 0, none⟩ ∧ ∀ i, i < n → w.cell? ⟨g, i, none⟩ = some (.int .u8 (signI m (i : Int)))) :
    Calls Tryz.prog 36 #[.pointer (some ⟨p, 0, none⟩)] w fun e w' => e = .returned (.bool true) ∧ ∃ k, w' = w.drewN k := by
  have HG := hide hg
  clear hg
  go_enter Tryz.func36, Tryz.ntmps36
  go_wp2
  go_loopw [3] (fun i wr => ∃ k d : Nat, k ≤ n ∧ i = .int .i64 k ∧ wr = w.drewN d) (fun i _ => n - (intOf i).toNat)
  case atStart => exact ⟨0, 0, Nat.zero_le _, rfl, rfl⟩
  case round =>
    obtain ⟨k, d, hk, rfl, rfl⟩ := hrel
    by_cases hlt : k < n
    · obtain ⟨g, rfl, hc⟩ := unhide HG (by omega)
      have hck := hc k hlt
      clear hc
      generalize hsg : signI m (k : Int) = sg at hck
      have HS : ∀ w, Hid (Calls Tryz.prog 57 #[.int .i64 m, .int .i64 (k : Int)] w fun e w' => e = .returned (.int .u8 sg) ∧ w' = w) := fun w => by rw [← hsg]; exact sign_any m k w
      clear hsg
      go_wp2
      go_quiet ((go_at_call 57; exact (unhide (HS _)).mono fun _ _ h => ⟨h.1, _, h.2⟩))
      go_wp2
      go_roundw
      case rel => exact ⟨k + 1, d + nq, by omega, by go_num, rfl⟩
      case measure => simp [intOf]; omega
    · go_wp2
      go_ret
      exact ⟨rfl, d, rfl⟩

theorem marked_any {w : World} {B : Nat} {x : HoldD} (h : HoldOk w B x) (d : Nat) :
    Calls Tryz.prog 36 #[.pointer (some ⟨x.p, 0, none⟩)] (w.drewN d) fun e w' => e = .returned (.bool true) ∧ ∃ k, w' = w.drewN k := by
  obtain ⟨a, cap, hv, hg⟩ := h.shape
  have h0 : w.cell? ⟨x.p, 0, none⟩ = some x.v := by rw [block_cell h.cell]; rfl
  have h1 : w.cell? ⟨x.p, 1, none⟩ = some (.int .i64 x.m) := by rw [block_cell h.cell]; rfl
  rw [hv] at h0
  refine (marked_at x.p a x.n cap x.m (w.drewN d) h.small (by simpa using h0) (by simpa using h1) (fun hn => ?_)).mono fun e w' ⟨he, k, hk⟩ => ⟨he, d + k, by rw [hk]; simp⟩
  obtain ⟨g, hga, hc⟩ := hg hn
  exact ⟨g, hga, fun i hi => by simpa using hc i hi⟩

set_option maxHeartbeats 400000 in
theorem looks_any {w : World} {B : Nat} {ps hv : Value} {hs : List HoldD} (h : Inv w B ps hv hs) (hlen : hs.length ≤ 140737488355328) :
    Calls Tryz.prog 13 #[.pointer (some ⟨B, 0, none⟩)] w fun e w' => e = .returned (.bool true) ∧ ∃ k, w' = w.drewN k := by
  have c1 : w.cell? ⟨B, 1, none⟩ = some hv := by rw [block_cell h.cell]; rfl
  obtain ⟨a, cap, rfl, hg⟩ : ∃ a cap, hv = .slice a hs.length cap ∧ (0 < hs.length → ∃ g, a = some ⟨g, 0, none⟩ ∧ ∀ i (hi : i < hs.length), w.cell? ⟨g, i, none⟩ = some (ptrV hs[i].p)) := by
    rcases h.own.2 with ⟨hv', hn⟩ | ⟨g, cap, cur, hv', _, hh, _, _, _, htake⟩
    · exact ⟨none, 0, by rw [hv', hn], fun h0 => by omega⟩
    · refine ⟨some ⟨g, 0, none⟩, cap, hv', fun _ => ⟨g, rfl, fun i hi => ?_⟩⟩
      have h1 : (hs.map fun x => ptrV x.p)[i]? = some (ptrV hs[i].p) := by simp [hi]
      rw [← htake, List.getElem?_take] at h1
      split at h1
      · rw [block_cell hh]; simpa using h1
      · cases h1
  have HG := hide hg
  have HI := hide h.ok
  clear hg h
  go_enter Tryz.func13, Tryz.ntmps13
  go_wp2
  go_loopw [3] (fun i wr => ∃ k d : Nat, k ≤ hs.length ∧ i = .int .i64 k ∧ wr = w.drewN d) (fun i _ => hs.length - (intOf i).toNat)
  case atStart => exact ⟨0, 0, Nat.zero_le _, rfl, rfl⟩
  case round =>
    obtain ⟨k, d, hk, rfl, rfl⟩ := hrel
    by_cases hlt : k < hs.length
    · obtain ⟨g, rfl, hc⟩ := unhide HG (by omega)
      have hck := hc k hlt
      have HM := fun d => hide (marked_any (unhide HI _ (List.getElem_mem hlt)) d)
      clear hc
      unfold ptrV at hck
      generalize hs[k].p = p at *
      go_wp2_with fail
      refine (unhide (HM _)).mono ?_
      rintro e w2 ⟨rfl, d2, rfl⟩
      clear HM
      go_wp2
      go_roundw
      case rel => exact ⟨k + 1, d2, by omega, by go_num, rfl⟩
      case measure => simp [intOf]; omega
    · go_wp2
      go_ret
      exact ⟨rfl, d, rfl⟩

end Go.Proofs.YtbjobbkgelipmaaGreat

/-
  The walk of tithe's appendNumber.
-/
namespace Go.Proofs.YtbjobbkgelipmaaGreat
open Go.RowKit

/-- Blocks that are no bytes stay. -/
def KeepT (w w' : World) : Prop := ∀ (A : Nat) (cur : Array Value) (t : TypeId) (f : Nat × Nat), w.heap[A]? = some (.cells cur t f) → t ≠ 5 → w'.heap[A]? = some (.cells cur t f)
theorem KeepT.refl (w : World) : KeepT w w := fun _ _ _ _ h _ => h
theorem KeepT.trans {a b c : World} (h : KeepT a b) (h2 : KeepT b c) : KeepT a c := fun A cur t f hA ht => h2 A cur t f (h A cur t f hA ht) ht
theorem KeepT.below {a b : World} (h : Below a.heap.size a b) : KeepT a b := fun A _ _ _ hA _ => (h.block A (Array.getElem?_eq_some_iff.1 hA).1).trans hA
theorem KeepT.alloc {a b : World} (h : KeepT a b) (o : Obj) : KeepT a (b.alloc o) := h.trans (KeepT.below ((Below.refl _ _).alloc (Nat.le_refl _) _))
theorem KeepT.drew {a b : World} (h : KeepT a b) : KeepT a b.drew := h
theorem own_ne {w : World} {base n : Nat} {v : Value} {xs : List Value} (h : w.ownsRow base 5 1 v n xs) {A : Nat} {cur : Array Value} {t : TypeId} {f : Nat × Nat} (hA : w.heap[A]? = some (.cells cur t f)) (ht : t ≠ 5) : v.ownBlock ≠ some A := by
  rcases h.2 with ⟨rfl, _⟩ | ⟨g, cap, cur', rfl, _, hg, _⟩
  · intro h; cases h
  · intro h
    have e : some g = some A := h
    rw [Option.some.inj e, hA] at hg
    simp only [Option.some.injEq, Obj.cells.injEq] at hg
    exact ht hg.2.1
theorem KeepT.grown {a b c : World} {base n : Nat} {v : Value} {xs : List Value} (h : KeepT a b) (ho : b.ownsRow base 5 1 v n xs) (hg : b.grownBy c v.ownBlock) : KeepT a c := by
  intro A cur t f hA ht
  have h1 := h A cur t f hA ht
  rw [hg.block A (Array.getElem?_eq_some_iff.1 h1).1 (fun e => own_ne ho h1 ht e.symm)]
  exact h1

theorem appnum_step (x : Int) (k n base : Nat) (z : Int) (xs : List Value) (v v' : Value) (w wr w1 : World) (hlt : k < 8) (hz : z = 56 - 8 * (k : Int)) (hbase : base ≤ w.heap.size) (hown : wr.ownsRow base 5 1 v (n + k) (xs ++ byteVals ((longB x).take k))) (hbel : Below base w wr) (hkp : KeepT w wr)
    (hown1 : w1.ownsRow base 5 1 v' (n + k + 1) (xs ++ (byteVals ((longB x).take k) ++ [.int .u8 (x / 2 ^ z.toNat % 256)])))
    (hg : (wr.alloc (Obj.cells #[Value.int IntKind.u8 (x / 2 ^ z.toNat % 256)] 5)).grownBy w1 v.ownBlock) :
    w1.ownsRow base 5 1 v' (n + (k + 1)) (xs ++ byteVals ((longB x).take (k + 1))) ∧ Below base w w1 ∧ KeepT w w1 := by
  have hsz := hbel.size
  refine ⟨?_, ?_, (hkp.alloc _).grown (hown.alloc _) hg⟩
  · rw [longB_take_snoc x k hlt, byteVals_snoc]
    have e : ((longAt x k).toNat : Int) = x / 2 ^ z.toNat % 256 := by
      unfold longAt
      rw [lowByte_toNat, show z.toNat = 8 * (7 - k) by omega]
    rw [e]; exact hown1
  · refine (hbel.alloc (by omega) _).grown hg (by simp; omega) ?_
    intro b hb
    exact (hown.lt b hb).1

set_option maxRecDepth 100000 in
set_option maxHeartbeats 400000 in
theorem appnum_any (base n : Nat) (v0 : Value) (xs : List Value) (x : Int) (w : World) (_h0 : 0 ≤ x) (h1 : x < 18446744073709551616) (hown0 : w.ownsRow base 5 1 v0 n xs) (hbase : base ≤ w.heap.size) (hn : n + 8 ≤ 140737488355328) :
    Calls Tryz.prog 91 #[v0, .int .u64 x] w fun e w' => (∃ v', e = .returned v' ∧ w'.ownsRow base 5 1 v' (n + 8) (xs ++ byteVals (longB x))) ∧ Below base w w' ∧ KeepT w w' := by
  obtain ⟨i0, hi, hz0, hz1, hz2⟩ := info_parts Tryz.infoByte
  have H0 := hide hown0
  have H1 := hide h1
  clear h1 hown0
  go_enter Tryz.func91, Tryz.ntmps91
  go_wp2
  go_loopw [0, 5] (fun v i wr => ∃ (k : Nat) (z : Int), k ≤ 8 ∧ z = 56 - 8 * (k : Int) ∧ i = .int .i64 z ∧ wr.ownsRow base 5 1 v (n + k) (xs ++ byteVals ((longB x).take k)) ∧ Below base w wr ∧ KeepT w wr) (fun _ i _ => (intOf i + 8).toNat)
  case atStart => exact ⟨0, 56, Nat.zero_le _, rfl, rfl, by simpa [byteVals] using unhide H0, Below.refl _ _, KeepT.refl _⟩
  case round =>
    obtain ⟨k, z, hk, hz, rfl, hown, hbel, hkp⟩ := hrel
    have Hown := hide hown
    have Hbel := hide hbel
    have hsz := hbel.size
    have Hkp := hide hkp
    clear hown hbel hkp
    by_cases hlt : k < 8
    · have hz0' : 0 ≤ z := by omega
      have hz7 : z ≤ 56 := by omega
      have Hz := hide hz
      clear hz
      go_wp2_with (at_builtin; refine wpList_append_own _ rfl (.tmp 10) (.tmp 15) 51 rfl base 5 i0 (.int .u8 0) 1 1 Tryz.underlying51 hi hz0 hz1 hz2 rfl (by decide) _ _ _ rfl ((unhide Hown).alloc _) ⟨wr.heap.size, 0, none⟩ 1 1 [_] rfl rfl (cell_one_new _ _ _) ?c2 ?c3 ?c4 ?c5 ?_)
      case c2 => intro u hu; simp at hu; subst hu; rfl
      case c3 => unfold maxLen; omega
      case c4 => omega
      case c5 => simp; omega
      intro v' w1 hown1 hgrow1 _
      have R := hide (appnum_step x k n base z xs _ _ _ _ _ hlt (unhide Hz) hbase (unhide Hown) (unhide Hbel) (unhide Hkp) hown1 hgrow1)
      clear hown1 hgrow1 Hown Hbel Hkp
      go_wp2
      go_roundw
      case rel => exact ⟨k + 1, z - 8, by omega, by have := unhide Hz; omega, rfl, (unhide R).1, (unhide R).2.1, (unhide R).2.2⟩
      case measure => simp [intOf]; omega
    · have hk8 : k = 8 := by omega
      subst hk8
      have hzz : z = -8 := by omega
      subst hzz
      have e8 : (longB x).take 8 = longB x := List.take_of_length_le (by rw [longB_length]; exact Nat.le_refl _)
      rw [e8] at Hown
      go_wp2
      go_ret
      exact ⟨⟨_, rfl, unhide Hown⟩, unhide Hbel, unhide Hkp⟩

end Go.Proofs.YtbjobbkgelipmaaGreat
