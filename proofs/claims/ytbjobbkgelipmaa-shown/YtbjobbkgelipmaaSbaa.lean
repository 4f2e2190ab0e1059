/-
  Plain facts: the digest as a function of a list of bytes, in the walk's spelling. Nothing of the program.
-/
import Derived.WalkKit
import Derived.WalkSpells
import Derived.WalkLawsBesides
import Derived.Laws.Closers25b
import Derived.Test.YtbjobbkgelipmaaRows
import Derived.Deep.OwnRows
import Derived.Lib.LazyBuf
import Derived.Deep.QuietTactic
import Derived.BigQuiet
import Derived.Laws.IdiomStrings
import Derived.Deep.RegionHeld3
import Derived.StillTailTactics
import Derived.Lib.MinMax
import Derived.Deep.DeepMust
import Derived.ChangeKeysEq
import Derived.ArgAppend
import Derived.Maps.OwnSet
import Derived.Maps.OwnOps
import Derived.Maps.Ext
import Derived.OwnWalk
import Derived.Shelf.Pu.Clone
namespace Go.Proofs.Ytbjobbkgelipmaa
open Go.RowKit

theorem hide {p : Prop} (h : p) : Hid p := h
theorem unhide {p : Prop} (h : Hid p) : p := h

def mixStep (n : Int) (c : UInt8) : Int := bits BinOp.xor IntKind.u32 n ((c.toNat : Int) % 4294967296) * 16777619 % 4294967296
def fnv (l : List UInt8) : Int := l.foldl mixStep 2166136261
theorem mixStep_range (n : Int) (c : UInt8) : 0 ≤ mixStep n c ∧ mixStep n c < 4294967296 := by unfold mixStep; omega
theorem fnv_snoc (l : List UInt8) (c : UInt8) : fnv (l ++ [c]) = mixStep (fnv l) c := by simp [fnv]
theorem fnv_range (l : List UInt8) : 0 ≤ fnv l ∧ fnv l < 4294967296 := by
  rcases List.eq_nil_or_concat l with rfl | ⟨l', c, rfl⟩
  · decide
  · rw [List.concat_eq_append, fnv_snoc]; exact mixStep_range _ _

/-- A number's lowest byte. -/
def lowByte (x : Int) : UInt8 := UInt8.ofNat (x % 256).toNat
theorem lowByte_toNat (x : Int) : ((lowByte x).toNat : Int) = x % 256 := by
  unfold lowByte
  have h : (x % 256).toNat < 256 := by omega
  rw [UInt8.toNat_ofNat_of_lt' (by simpa using h)]
  omega

def lastMix (x : Int) : Int := bits BinOp.xor IntKind.u32 x (x / 65536) * 2246822507 % 4294967296
def lastOf (x : Int) : Int := bits BinOp.xor IntKind.u32 (lastMix x) (lastMix x / 8192)
theorem lastOf_range (x : Int) : 0 ≤ lastOf x ∧ lastOf x < 4294967296 := by
  unfold lastOf
  have h1 := bits_lo_u32 .xor (lastMix x) (lastMix x / 8192)
  have h2 := bits_hi_u32 .xor (lastMix x) (lastMix x / 8192)
  omega

/-- The digest: three bytes. -/
def dgOf (x : Int) : UInt8 × UInt8 × UInt8 := (lowByte (lastOf x), lowByte (lastOf x / 256), lowByte (lastOf x / 65536))
def dg (l : List UInt8) : UInt8 × UInt8 × UInt8 := dgOf (fnv l)
def digV (d : UInt8 × UInt8 × UInt8) : Value := .agg #[.int .u8 (d.1.toNat : Int), .int .u8 (d.2.1.toNat : Int), .int .u8 (d.2.2.toNat : Int)]
theorem digV_of (x : Int) : digV (dgOf x) = .agg #[.int .u8 (lastOf x % 256), .int .u8 (lastOf x / 256 % 256), .int .u8 (lastOf x / 65536 % 256)] := by
  simp only [digV, dgOf, lowByte_toNat]

theorem take_snoc (s : ByteArray) (k : Nat) (h : k < s.size) : s.data.toList.take (k + 1) = s.data.toList.take k ++ [s[k]] := by
  rw [List.take_succ_eq_append_getElem (by simpa using h)]; rfl
theorem take_all (s : ByteArray) : s.data.toList.take s.size = s.data.toList := List.take_of_length_le (by simp)

end Go.Proofs.Ytbjobbkgelipmaa

/-
  The walks of the two digests: titheref.Sum, tithe.Sum.
-/
namespace Go.Proofs.Ytbjobbkgelipmaa
open Go.RowKit

theorem refsum_end (x : Int) : (Value.agg #[.int .u8 (lastOf x % 256), .int .u8 ((lastOf x).tdiv 256 % 256), .int .u8 ((lastOf x).tdiv 65536 % 256)]) = digV (dgOf x) := by
  have h := lastOf_range x
  rw [digV_of, Int.tdiv_eq_ediv_of_nonneg h.1, Int.tdiv_eq_ediv_of_nonneg h.1]

/-- Bytes that lie in memory, from an address on. -/
def BytesAt (w : World) (b off : Nat) (l : List UInt8) : Prop := ∀ j (h : j < l.length), w.cell? ⟨b, off + j, none⟩ = some (.int .u8 (l[j].toNat : Int))

theorem BytesAt.below {w w' : World} {b off : Nat} {l : List UInt8} (h : BytesAt w b off l) (hb : Below w.heap.size w w') (hlt : b < w.heap.size) : BytesAt w' b off l :=
  fun j hj => (hb.cell (p := ⟨b, off + j, none⟩) hlt).trans (h j hj)

theorem take_snoc_list (l : List UInt8) (k : Nat) (h : k < l.length) : l.take (k + 1) = l.take k ++ [l[k]] := List.take_succ_eq_append_getElem h

set_option maxHeartbeats 400000 in
/-- tithe.Sum, of bytes that lie in memory. -/
theorem sum_any (b off n cap : Nat) (l : List UInt8) (w : World) (hn : l.length = n) (hm : n ≤ maxLen) (hlt : b < w.heap.size) (hl : BytesAt w b off l) :
    Calls Try.prog 22 #[.slice (some ⟨b, off, none⟩) n cap] w fun e w' => e = .returned (digV (dg l)) ∧ Below w.heap.size w w' := by
  unfold maxLen at hm
  subst hn
  go_enter Try.func22, Try.ntmps22
  go_wp2
  go_loop [3, 8] (fun x i => ∃ (k : Nat), k ≤ l.length ∧ i = .int .i64 k ∧ x = .int .u32 (fnv (l.take k))) (fun _ i => l.length - (intOf i).toNat)
  case atStart => exact ⟨0, Nat.zero_le _, rfl, rfl⟩
  case round =>
    obtain ⟨k, hk, rfl, rfl⟩ := hrel
    have hr := fnv_range (l.take k)
    by_cases hlt' : k < l.length
    · have HS : Hid (fnv (l.take (k + 1)) = mixStep (fnv (l.take k)) l[k]) := by rw [take_snoc_list l k hlt']; exact fnv_snoc _ _
      have hc := hl k hlt'
      have hne : b ≠ w.heap.size := by omega
      go_wp2
      go_round
      case rel => exact ⟨k + 1, by omega, by go_num, by rw [HS.out]; rfl⟩
      case measure => simp [intOf]; omega
    · have hk' : k = l.length := by omega
      subst hk'
      rw [List.take_length]
      have hr := fnv_range l
      generalize hx : fnv l = x at *
      have HX := hide hx
      clear hx
      clear hl
      go_wp2
      have hv : digV (dg l) = digV (dgOf x) := by rw [← unhide HX]; rfl
      refine bodyPost_ret (v := digV (dg l)) ?_ rfl ⟨rfl, ((Below.refl _ _).alloc (Nat.le_refl _) _)⟩
      rw [hv, digV_of]
      simp [results, Try.results22, go_sem, lastOf, lastMix]

end Go.Proofs.Ytbjobbkgelipmaa

/-
  The walks of lent and still: what is handed in, with its spare room.
-/
namespace Go.Proofs.Ytbjobbkgelipmaa
open Go.RowKit

/-- The operation copy(d, s) at the walk, its run known by an equation. -/
theorem wpList_copy_by {P : Program} {w w' : World} {ops : Array Oper} {rest : List Oper} {o : Oper} {a : Act} {Q : Exit → Act → World → Prop} (hgd : o.guard = none) (d s : Operand) (t t' : TypeId)
    (ho : o.op = .call { callee := .builtin .copy, args := #[d, s], argTypes := #[t, t'] }) {x y r : Value} (hd : a.eval d = x) (hs : a.eval s = y)
    (hr : (Builtin.copy_ #[t, t'] o.type #[x, y]).run P w = .ok r w') (h : wpList P ops Q rest (a.put o.dst r) w') : wpList P ops Q (o :: rest) a w := by
  refine wpList_plain hgd fun K hK => ?_
  unfold Oper.wp
  simp [execOp, ho, resolve, invoke, builtin, hd, hs, hr, Result.andThen]
  exact hK _ _ h

theorem Try.infoByte : (Try.prog.info? 5).map (fun i => (i.zero, i.size, i.bytes)) = some (some (.int .u8 0), 1, 1) := by kernel_rfl
theorem Try.sizeByte (w : World) : (Go.sizeOf 5).run Try.prog w = .ok 1 w := by
  obtain ⟨i0, hi, hz0, hz1, hz2⟩ := info_parts Try.infoByte
  simp [Go.sizeOf, typeInfo, hi, hz1]

/-- The j-th byte of what is lent: the string's, and behind it 201. -/
def lentB (s : List UInt8) (j : Nat) : UInt8 := s.getD j 201
def lentV (s : List UInt8) (j : Nat) : Value := .int .u8 ((lentB s j).toNat : Int)

theorem lent_start (s : ByteArray) (w : World) (f : Nat → Value) (b : Nat) (h : w.rowIs b 5 (s.size + 8) f) :
    (w.setCells b 0 (s.data.toList.map fun x => Value.int .u8 (x.toNat : Int))).rowIs b 5 (s.size + 8) (fun j => if j < s.size then lentV s.data.toList j else f j) := by
  refine (rowIs_setCells _ 0 w f h).congr (fun j hj => ?_)
  have hl : (s.data.toList.map fun x => Value.int .u8 (x.toNat : Int)).length = s.size := by rw [List.length_map, ← Lib.size_eq]
  rw [hl]
  by_cases h1 : j < s.size
  · rw [if_pos ⟨Nat.zero_le _, by omega⟩, if_pos h1]
    have h2 : j < s.data.toList.length := by simpa using h1
    simp [lentV, lentB, List.getElem?_map, List.getElem?_eq_getElem h2]
  · rw [if_neg (by omega), if_neg h1]

theorem lent_step (s : List UInt8) (w : World) (b n k : Nat) (f : Nat → Value) (hk : s.length ≤ k)
    (h : w.rowIs b 5 n (fun j => if j < k then lentV s j else f j)) :
    (w.setCell ⟨b, k, none⟩ (.int .u8 201)).rowIs b 5 n (fun j => if j < k + 1 then lentV s j else f j) := by
  refine (h.set k (.int .u8 201)).congr (fun j hj => ?_)
  by_cases h1 : j = k
  · subst h1
    have : s.getD j 201 = 201 := by simp [List.getD, List.getElem?_eq_none hk]
    rw [if_pos rfl, if_pos (by omega)]
    show Value.int .u8 201 = .int .u8 ((s.getD j 201).toNat : Int)
    rw [this]; rfl
  · rw [if_neg h1]
    by_cases h2 : j < k
    · rw [if_pos h2, if_pos (by omega)]
    · rw [if_neg h2, if_neg (by omega)]

end Go.Proofs.Ytbjobbkgelipmaa

/-
  The walk of still: what was lent reads as it was.
-/
namespace Go.Proofs.Ytbjobbkgelipmaa
open Go.RowKit

theorem lentV_in (s : ByteArray) (k : Nat) (h : k < s.size) : lentV s.data.toList k = .int .u8 (s[k].toNat : Int) := by
  have h2 : k < s.data.toList.length := by simpa using h
  simp only [lentV, lentB, List.getD, List.getElem?_eq_getElem h2]
  rfl
theorem lentV_out (s : ByteArray) (k : Nat) (h : ¬ k < s.size) : lentV s.data.toList k = .int .u8 201 := by
  have h2 : s.data.toList.length ≤ k := by simp; omega
  simp only [lentV, lentB, List.getD, List.getElem?_eq_none h2]
  rfl

end Go.Proofs.Ytbjobbkgelipmaa

/-
  The walk of titheref.long: a number's eight bytes.
-/
namespace Go.Proofs.Ytbjobbkgelipmaa
open Go.RowKit

/-- The j-th of a number's eight bytes, the highest first. -/
def longAt (n : Int) (j : Nat) : UInt8 := lowByte (n / 2 ^ (8 * (7 - j)))
def longB (n : Int) : List UInt8 := (List.range 8).map (longAt n)
theorem longB_length (n : Int) : (longB n).length = 8 := by simp [longB]
theorem longB_take_snoc (n : Int) (j : Nat) (h : j < 8) : (longB n).take (j + 1) = (longB n).take j ++ [longAt n j] := by
  have hl : j < (longB n).length := by rw [longB_length]; exact h
  rw [List.take_succ_eq_append_getElem hl]
  simp [longB]

def byteVals (l : List UInt8) : List Value := l.map fun b => Value.int .u8 (b.toNat : Int)
theorem byteVals_snoc (l : List UInt8) (c : UInt8) : byteVals (l ++ [c]) = byteVals l ++ [.int .u8 (c.toNat : Int)] := by simp [byteVals]

theorem addr_add (b o j : Nat) : (⟨b, o, none⟩ : Addr).add j = ⟨b, o + j, none⟩ := by unfold Addr.add; split <;> simp_all

theorem long_step (n : Int) (k : Nat) (z : Int) (v v' : Value) (w wr w1 : World) (hlt : k < 8) (hz : z = 7 - (k : Int)) (hown : wr.ownsRow w.heap.size 5 1 v k (byteVals ((longB n).take k))) (hbel : Below w.heap.size w wr)
    (hown1 : w1.ownsRow w.heap.size 5 1 v' (k + 1) (byteVals ((longB n).take k) ++ [.int .u8 (n / 2 ^ (8 * z).toNat % 256)]))
    (hg : (wr.alloc (Obj.cells #[Value.int IntKind.u8 (n / 2 ^ (8 * z).toNat % 256)] 5)).grownBy w1 v.ownBlock) :
    w1.ownsRow w.heap.size 5 1 v' (k + 1) (byteVals ((longB n).take (k + 1))) ∧ Below w.heap.size w w1 := by
  have hsz := hbel.size
  refine ⟨?_, ?_⟩
  · rw [longB_take_snoc n k hlt, byteVals_snoc]
    have e : ((longAt n k).toNat : Int) = n / 2 ^ (8 * z).toNat % 256 := by
      unfold longAt
      rw [lowByte_toNat, show (8 * z).toNat = 8 * (7 - k) by omega]
    rw [e]; exact hown1
  · refine (hbel.alloc hsz _).grown hg (by simp; omega) ?_
    intro b hb
    rcases hown.2 with ⟨rfl, _⟩ | ⟨g, cap, cur, rfl, hg, _⟩
    · cases hb
    · cases hb; exact hg

theorem long_end (n : Int) (v : Value) (w : World) (base : Nat) (hown : w.ownsRow base 5 1 v 8 (byteVals ((longB n).take 8))) :
    ∃ b cap, v = .slice (some ⟨b, 0, none⟩) 8 cap ∧ ∀ j (hj : j < (longB n).length), w.cell? ((⟨b, 0, none⟩ : Addr).add j) = some (.int .u8 ((longB n)[j].toNat : Int)) := by
  rw [List.take_of_length_le (by rw [longB_length]; exact Nat.le_refl _)] at hown
  rcases hown.2 with ⟨_, h⟩ | ⟨g, cap, cur, rfl, _, hb, _, _, _, hx⟩
  · cases h
  · refine ⟨g, cap, rfl, fun j hj => ?_⟩
    have h1 : (byteVals (longB n))[j]? = some (.int .u8 ((longB n)[j].toNat : Int)) := by simp [byteVals, List.getElem?_eq_getElem hj]
    rw [← hx, List.getElem?_take] at h1
    split at h1
    · rw [addr_add, Nat.zero_add]
      simp only [World.cell?, hb]
      simpa using h1
    · cases h1

end Go.Proofs.Ytbjobbkgelipmaa

/-
  The walks of titheref's texts: Side.text, Leaf.Text.
-/
namespace Go.Proofs.Ytbjobbkgelipmaa
open Go.RowKit

abbrev Dg := UInt8 × UInt8 × UInt8
def dgB (d : Dg) : List UInt8 := [d.1, d.2.1, d.2.2]
def sideV (d : Dg) (n : Int) : Value := .agg #[.int .u8 (d.1.toNat : Int), .int .u8 (d.2.1.toNat : Int), .int .u8 (d.2.2.toNat : Int), .int .u64 n]
def strV (l : List UInt8) : Value := .string ⟨l.toArray⟩

theorem bcell {W w1 : World} (hb : Below W.heap.size W w1) : (∀ b o, b < W.heap.size → w1.cell? ⟨b, o, none⟩ = W.cell? ⟨b, o, none⟩) ∧ (∀ b o, b < W.heap.size → w1.frozen? ⟨b, o, none⟩ = W.frozen? ⟨b, o, none⟩) :=
  ⟨fun b o h => hb.cell (p := ⟨b, o, none⟩) h, fun b o h => hb.frozen (p := ⟨b, o, none⟩) h⟩

theorem convert3 (b : Nat) (x y z : UInt8) (w : World) (h0 : w.cell? ⟨b, 0, none⟩ = some (.int .u8 (x.toNat : Int))) (h1 : w.cell? ⟨b, 1, none⟩ = some (.int .u8 (y.toNat : Int))) (h2 : w.cell? ⟨b, 2, none⟩ = some (.int .u8 (z.toNat : Int))) :
    (convert 43 9 (.slice (some ⟨b, 0, none⟩) 3 3)).run Try.prog w = .ok (.string ⟨#[x, y, z]⟩) w := by
  have h := run_convert_bytes_back (P := Try.prog) w 43 9 5 ⟨b, 0, none⟩ 3 [x, y, z] Try.underlying43 Try.underlying5 Try.underlying9 (by
    intro j hj
    match j, hj with
    | 0, _ => rw [addr_add]; exact h0
    | 1, _ => rw [addr_add]; exact h1
    | 2, _ => rw [addr_add]; exact h2)
  simpa using h

theorem str_add {P : Program} (a b : ByteArray) (h : a.size + b.size ≤ 9223372036854775807) (w : World) : (Op.stringOp .add a b).run P w = .ok (.string (a ++ b)) w := run_string_add_sum w a b h

theorem keepB {W w1 : World} {b o : Nat} {v : Value} (hb : Below W.heap.size W w1) (hlt : b < W.heap.size) (h : W.cell? ⟨b, o, none⟩ = some v) : w1.cell? ⟨b, o, none⟩ = some v := ((bcell hb).1 _ _ hlt).trans h

theorem keep4 {w W w4 : World} {B : Nat} {v0 v1 v2 v3 : Value} (hB : w.heap.size ≤ B) (h : W.cell? ⟨B, 0, none⟩ = some v0 ∧ W.cell? ⟨B, 1, none⟩ = some v1 ∧ W.cell? ⟨B, 2, none⟩ = some v2 ∧ W.cell? ⟨B, 3, none⟩ = some v3 ∧ B < W.heap.size ∧ Below w.heap.size w W) (hb : Below W.heap.size W w4) :
    w4.cell? ⟨B, 0, none⟩ = some v0 ∧ w4.cell? ⟨B, 1, none⟩ = some v1 ∧ w4.cell? ⟨B, 2, none⟩ = some v2 ∧ w4.cell? ⟨B, 3, none⟩ = some v3 ∧ B < w4.heap.size ∧ Below w.heap.size w w4 := by
  obtain ⟨h0, h1, h2, h3, h4, h5⟩ := h
  have := hb.size
  exact ⟨keepB hb h4 h0, keepB hb h4 h1, keepB hb h4 h2, keepB hb h4 h3, by omega, h5.trans (hb.mono (by omega))⟩

end Go.Proofs.Ytbjobbkgelipmaa

/-
  The walk of titheref's Leaf.Text.
-/
namespace Go.Proofs.Ytbjobbkgelipmaa
open Go.RowKit

def leafV (nm : ByteArray) (bal salt : Int) : Value := .agg #[.string nm, .int .u64 bal, .int .u64 salt]
/-- A leaf's text, behind its first byte. -/
def leafB (nm : List UInt8) (bal salt : Int) : List UInt8 := [UInt8.ofNat nm.length] ++ nm ++ longB bal ++ longB salt

theorem convert1 (x : Int) (h0 : 0 ≤ x) (h1 : x ≤ 255) (b : Nat) (w : World) (h : w.cell? ⟨b, 0, none⟩ = some (.int .u8 x)) :
    (convert 43 9 (.slice (some ⟨b, 0, none⟩) 1 1)).run Try.prog w = .ok (.string ⟨#[UInt8.ofNat x.toNat]⟩) w := by
  have e : x = ((UInt8.ofNat x.toNat).toNat : Int) := by
    rw [UInt8.toNat_ofNat_of_lt' (by simp; omega)]; omega
  have hh := run_convert_bytes_back (P := Try.prog) w 43 9 5 ⟨b, 0, none⟩ 1 [UInt8.ofNat x.toNat] Try.underlying43 Try.underlying5 Try.underlying9 (by
    intro j hj
    match j, hj with
    | 0, _ => rw [addr_add]; rw [h]; exact congrArg (fun y => some (Value.int .u8 y)) e)
  simpa using hh

theorem keep3 {w W w4 : World} {B : Nat} {v0 v1 v2 : Value} (hB : w.heap.size ≤ B) (h : W.cell? ⟨B, 0, none⟩ = some v0 ∧ W.cell? ⟨B, 1, none⟩ = some v1 ∧ W.cell? ⟨B, 2, none⟩ = some v2 ∧ B < W.heap.size ∧ Below w.heap.size w W) (hb : Below W.heap.size W w4) :
    w4.cell? ⟨B, 0, none⟩ = some v0 ∧ w4.cell? ⟨B, 1, none⟩ = some v1 ∧ w4.cell? ⟨B, 2, none⟩ = some v2 ∧ B < w4.heap.size ∧ Below w.heap.size w w4 := by
  obtain ⟨h0, h1, h2, h4, h5⟩ := h
  have := hb.size
  exact ⟨keepB hb h4 h0, keepB hb h4 h1, keepB hb h4 h2, by omega, h5.trans (hb.mono (by omega))⟩

theorem leaf_end (nm : ByteArray) (bal salt : Int) :
    Ending.returned (.string (⟨#[UInt8.ofNat nm.size]⟩ ++ nm ++ ⟨(longB bal).toArray⟩ ++ ⟨(longB salt).toArray⟩)) = .returned (strV (leafB nm.data.toList bal salt)) := by
  unfold strV leafB
  congr 2

end Go.Proofs.Ytbjobbkgelipmaa

/-
  The walk of titheref's Tree.Side.
-/
namespace Go.Proofs.Ytbjobbkgelipmaa
open Go.RowKit

/-- A leaf: its name, its balance, its salt. -/
structure LeafD where
  nm : ByteArray
  bal : Int
  salt : Int

def LeafD.ok (x : LeafD) : Prop := x.nm.size ≤ 8 ∧ 0 ≤ x.bal ∧ x.bal < 18446744073709551616 ∧ 0 ≤ x.salt ∧ x.salt < 18446744073709551616

/-- A side's text. -/
def sideB (x : Dg × Int) : List UInt8 := dgB x.1 ++ longB x.2

/-- What stands at a place of a level. -/
def sideT (ls : List LeafD) : Nat → Nat → Dg × Int
  | 0, p => match ls[p]? with
    | some x => (dg (0 :: leafB x.nm.data.toList x.bal x.salt), x.bal)
    | none => (dg [2, UInt8.ofNat p], 0)
  | h + 1, p => (dg (1 :: (sideB (sideT ls h (2 * p)) ++ sideB (sideT ls h (2 * p + 1)))), ((sideT ls h (2 * p)).2 + (sideT ls h (2 * p + 1)).2) % 18446744073709551616)

/-- Leaves that lie in memory. -/
structure LeavesAt (w : World) (b off : Nat) (ls : List LeafD) : Prop where
  lt : b < w.heap.size
  cells : ∀ i (h : i < ls.length), w.cell? ⟨b, off + i * 3, none⟩ = some (.string ls[i].nm) ∧ w.cell? ⟨b, off + i * 3 + 1, none⟩ = some (.int .u64 ls[i].bal) ∧ w.cell? ⟨b, off + i * 3 + 2, none⟩ = some (.int .u64 ls[i].salt)
  ok : ∀ x ∈ ls, x.ok

theorem LeavesAt.below {w w' : World} {B b off : Nat} {ls : List LeafD} (h : LeavesAt w b off ls) (hb : Below B w w') (hlt : b < B) : LeavesAt w' b off ls := by
  have e : ∀ o, w'.cell? ⟨b, o, none⟩ = w.cell? ⟨b, o, none⟩ := fun o => hb.cell (p := ⟨b, o, none⟩) hlt
  refine ⟨Nat.lt_of_lt_of_le h.lt hb.size, fun i hi => ?_, h.ok⟩
  obtain ⟨h0, h1, h2⟩ := h.cells i hi
  exact ⟨(e _).trans h0, (e _).trans h1, (e _).trans h2⟩

def treeV (H : Int) (la : Option Addr) (n cap : Nat) : Value := .agg #[.int .i64 H, .slice la n cap]

end Go.Proofs.Ytbjobbkgelipmaa

/-
  The walk of titheref's Tree.Side, at a leaf.
-/
namespace Go.Proofs.Ytbjobbkgelipmaa
open Go.RowKit

/-- Four cells that may be written. -/
def Res4 (w : World) (R : Nat) : Prop := ∀ i, i < 4 → (w.cell? ⟨R, i, none⟩).isSome = true ∧ w.frozen? ⟨R, i, none⟩ = false

theorem Res4.below {W w4 : World} {R : Nat} (h : Res4 W R) (hlt : R < W.heap.size) (hb : Below W.heap.size W w4) : Res4 w4 R := by
  intro i hi
  rw [(bcell hb).1 _ _ hlt, (bcell hb).2 _ _ hlt]
  exact h i hi

theorem Res4.set {W : World} {R : Nat} (h : Res4 W R) (a : Addr) (v : Value) : Res4 (W.setCell a v) R := by
  intro i hi
  refine ⟨?_, ?_⟩
  · obtain ⟨v', hv⟩ := Option.isSome_iff_exists.1 (h i hi).1
    obtain ⟨v'', hv'⟩ := cell?_setCell_some (w := W) (p := a) (x := v) (q := ⟨R, i, none⟩) (v := v') hv
    rw [hv']; rfl
  · rw [World.frozen?_setCell]; exact (h i hi).2

theorem Res4.cells {W : World} {R : Nat} (h : Res4 W R) : ∃ r0 r1 r2 r3, W.cell? ⟨R, 0, none⟩ = some r0 ∧ W.cell? ⟨R, 1, none⟩ = some r1 ∧ W.cell? ⟨R, 2, none⟩ = some r2 ∧ W.cell? ⟨R, 3, none⟩ = some r3 ∧
    W.frozen? ⟨R, 0, none⟩ = false ∧ W.frozen? ⟨R, 1, none⟩ = false ∧ W.frozen? ⟨R, 2, none⟩ = false ∧ W.frozen? ⟨R, 3, none⟩ = false := by
  obtain ⟨r0, h0⟩ := Option.isSome_iff_exists.1 (h 0 (by omega)).1
  obtain ⟨r1, h1⟩ := Option.isSome_iff_exists.1 (h 1 (by omega)).1
  obtain ⟨r2, h2⟩ := Option.isSome_iff_exists.1 (h 2 (by omega)).1
  obtain ⟨r3, h3⟩ := Option.isSome_iff_exists.1 (h 3 (by omega)).1
  exact ⟨r0, r1, r2, r3, h0, h1, h2, h3, (h 0 (by omega)).2, (h 1 (by omega)).2, (h 2 (by omega)).2, (h 3 (by omega)).2⟩

def set4 (W : World) (R : Nat) (a b c d : Value) : World := (((W.setCell ⟨R, 0, none⟩ a).setCell ⟨R, 1, none⟩ b).setCell ⟨R, 2, none⟩ c).setCell ⟨R, 3, none⟩ d

theorem cell_set4 (W : World) (R b' o : Nat) (a b c d v : Value) (hne : b' ≠ R) (h : W.cell? ⟨b', o, none⟩ = some v) : (set4 W R a b c d).cell? ⟨b', o, none⟩ = some v := by
  unfold set4
  have e : ∀ (W : World) (i : Nat) (x : Value), (W.setCell ⟨R, i, none⟩ x).cell? ⟨b', o, none⟩ = W.cell? ⟨b', o, none⟩ := fun W i x =>
    World.cell?_of_block (w := W) (Below.heap_setCell W _ _ _ (by simpa using hne))
  rw [e, e, e, e]; exact h
theorem Res4.set4 {W : World} {R R' : Nat} (h : Res4 W R) (a b c d : Value) : Res4 (set4 W R' a b c d) R := (((h.set _ _).set _ _).set _ _).set _ _
theorem below_set4 {w W : World} {R : Nat} (hb : Below w.heap.size w W) (hR : w.heap.size ≤ R) (a b c d : Value) : Below w.heap.size w (set4 W R a b c d) :=
  (((hb.setCell (by exact hR) _).setCell (by exact hR) _).setCell (by exact hR) _).setCell (by exact hR) _
theorem size_set4 (W : World) (R : Nat) (a b c d : Value) : (set4 W R a b c d).heap.size = W.heap.size := by simp [set4]

/-- What the region at a leaf leans on. -/
abbrev SideS (w : World) (b o B R : Nat) (vs : Value) (nm : ByteArray) (bal salt : Int) (w' : World) : Prop :=
  w'.cell? ⟨B, 1, none⟩ = some vs ∧ w'.cell? ⟨b, o, none⟩ = some (.string nm) ∧ w'.cell? ⟨b, o + 1, none⟩ = some (.int .u64 bal) ∧ w'.cell? ⟨b, o + 2, none⟩ = some (.int .u64 salt) ∧
    Res4 w' R ∧ (B < w'.heap.size ∧ b < w'.heap.size ∧ R < w'.heap.size) ∧ Below w.heap.size w w'

theorem SideS.keep {w W w4 : World} {b o B R : Nat} {vs : Value} {nm : ByteArray} {bal salt : Int} (hS : SideS w b o B R vs nm bal salt W) (hw : w.heap.size ≤ R) (hb : Below W.heap.size W w4) : SideS w b o B R vs nm bal salt w4 := by
  obtain ⟨h0, h1, h2, h3, h4, ⟨z0, z1, z2⟩, h6⟩ := hS
  have := hb.size
  exact ⟨keepB hb z0 h0, keepB hb z1 h1, keepB hb z1 h2, keepB hb z1 h3, h4.below z2 hb, ⟨by omega, by omega, by omega⟩, h6.trans (hb.mono (by omega))⟩

theorem SideS.store {w W : World} {b o B R : Nat} {vs : Value} {nm : ByteArray} {bal salt : Int} (hS : SideS w b o B R vs nm bal salt W) (hw : w.heap.size ≤ R) (hB : B ≠ R) (hbR : b ≠ R) (x0 x1 x2 x3 : Value) :
    SideS w b o B R vs nm bal salt ((((W.setCell ⟨R, 0, none⟩ x0).setCell ⟨R, 1, none⟩ x1).setCell ⟨R, 2, none⟩ x2).setCell ⟨R, 3, none⟩ x3) := by
  obtain ⟨h0, h1, h2, h3, h4, z, h6⟩ := hS
  have e := size_set4 W R x0 x1 x2 x3
  show SideS w b o B R vs nm bal salt (set4 W R x0 x1 x2 x3)
  exact ⟨cell_set4 _ _ _ _ _ _ _ _ _ hB h0, cell_set4 _ _ _ _ _ _ _ _ _ hbR h1, cell_set4 _ _ _ _ _ _ _ _ _ hbR h2, cell_set4 _ _ _ _ _ _ _ _ _ hbR h3, h4.set4 _ _ _ _, by rw [e]; exact z, below_set4 h6 hw _ _ _ _⟩

theorem leafB_length (nm : List UInt8) (bal salt : Int) : (leafB nm bal salt).length = nm.length + 17 := by
  simp only [leafB, List.length_append, longB_length, List.length_cons, List.length_nil]; omega

end Go.Proofs.Ytbjobbkgelipmaa

/-
  The walk of titheref's Tree.Side, at a node; and whole, by induction.
-/
namespace Go.Proofs.Ytbjobbkgelipmaa
open Go.RowKit

/-- What the region at a node leans on. -/
abbrev NodeS (w : World) (A B R : Nat) (a0 a1 a2 a3 b0 b1 b2 b3 : Int) (w' : World) : Prop :=
  w'.cell? ⟨A, 0, none⟩ = some (.int .u8 a0) ∧ w'.cell? ⟨A, 1, none⟩ = some (.int .u8 a1) ∧ w'.cell? ⟨A, 2, none⟩ = some (.int .u8 a2) ∧ w'.cell? ⟨A, 3, none⟩ = some (.int .u64 a3) ∧
  w'.cell? ⟨B, 0, none⟩ = some (.int .u8 b0) ∧ w'.cell? ⟨B, 1, none⟩ = some (.int .u8 b1) ∧ w'.cell? ⟨B, 2, none⟩ = some (.int .u8 b2) ∧ w'.cell? ⟨B, 3, none⟩ = some (.int .u64 b3) ∧
    Res4 w' R ∧ (A < w'.heap.size ∧ B < w'.heap.size ∧ R < w'.heap.size) ∧ Below w.heap.size w w'

theorem NodeS.keep {w W w4 : World} {A B R : Nat} {a0 a1 a2 a3 b0 b1 b2 b3 : Int} (hS : NodeS w A B R a0 a1 a2 a3 b0 b1 b2 b3 W) (hw : w.heap.size ≤ R) (hb : Below W.heap.size W w4) : NodeS w A B R a0 a1 a2 a3 b0 b1 b2 b3 w4 := by
  obtain ⟨h0, h1, h2, h3, g0, g1, g2, g3, h4, ⟨z0, z1, z2⟩, h6⟩ := hS
  have := hb.size
  exact ⟨keepB hb z0 h0, keepB hb z0 h1, keepB hb z0 h2, keepB hb z0 h3, keepB hb z1 g0, keepB hb z1 g1, keepB hb z1 g2, keepB hb z1 g3, h4.below z2 hb, ⟨by omega, by omega, by omega⟩, h6.trans (hb.mono (by omega))⟩

theorem NodeS.store {w W : World} {A B R : Nat} {a0 a1 a2 a3 b0 b1 b2 b3 : Int} (hS : NodeS w A B R a0 a1 a2 a3 b0 b1 b2 b3 W) (hw : w.heap.size ≤ R) (hA : A ≠ R) (hB : B ≠ R) (x0 x1 x2 x3 : Value) :
    NodeS w A B R a0 a1 a2 a3 b0 b1 b2 b3 ((((W.setCell ⟨R, 0, none⟩ x0).setCell ⟨R, 1, none⟩ x1).setCell ⟨R, 2, none⟩ x2).setCell ⟨R, 3, none⟩ x3) := by
  obtain ⟨h0, h1, h2, h3, g0, g1, g2, g3, h4, z, h6⟩ := hS
  have e := size_set4 W R x0 x1 x2 x3
  show NodeS w A B R a0 a1 a2 a3 b0 b1 b2 b3 (set4 W R x0 x1 x2 x3)
  exact ⟨cell_set4 _ _ _ _ _ _ _ _ _ hA h0, cell_set4 _ _ _ _ _ _ _ _ _ hA h1, cell_set4 _ _ _ _ _ _ _ _ _ hA h2, cell_set4 _ _ _ _ _ _ _ _ _ hA h3, cell_set4 _ _ _ _ _ _ _ _ _ hB g0, cell_set4 _ _ _ _ _ _ _ _ _ hB g1, cell_set4 _ _ _ _ _ _ _ _ _ hB g2, cell_set4 _ _ _ _ _ _ _ _ _ hB g3, h4.set4 _ _ _ _, by rw [e]; exact z, below_set4 h6 hw _ _ _ _⟩

end Go.Proofs.Ytbjobbkgelipmaa

/-
  The walks of titheref's readers: number, side, report.
-/
namespace Go.Proofs.Ytbjobbkgelipmaa
open Go.RowKit

/-- A number out of bytes, the highest first. -/
def numB (l : List UInt8) : Int := l.foldl (fun n c => n * 256 + (c.toNat : Int)) 0
theorem numB_snoc (l : List UInt8) (c : UInt8) : numB (l ++ [c]) = numB l * 256 + (c.toNat : Int) := by simp [numB]
theorem numB_range_len : ∀ (n : Nat) (l : List UInt8), l.length = n → 0 ≤ numB l ∧ numB l < 256 ^ n
  | 0, l, h => by rw [List.length_eq_zero_iff.1 h]; decide
  | n + 1, l, h => by
    rcases List.eq_nil_or_concat l with rfl | ⟨l', c, rfl⟩
    · cases h
    · rw [List.concat_eq_append] at h ⊢
      have ih := numB_range_len n l' (by simpa using h)
      rw [numB_snoc, Int.pow_succ]
      have := c.toNat_lt
      constructor <;> omega
theorem pow256_le {a b : Nat} (h : a ≤ b) : (256 : Int) ^ a ≤ 256 ^ b := by
  have h2 : ((256 ^ a : Nat) : Int) ≤ ((256 ^ b : Nat) : Int) := Int.ofNat_le.2 (Nat.pow_le_pow_right (by decide) h)
  simpa using h2
theorem numB_range (l : List UInt8) (h : l.length ≤ 8) : 0 ≤ numB l ∧ numB l < 18446744073709551616 := by
  have h1 := numB_range_len l.length l rfl
  have h2 : (256 : Int) ^ l.length ≤ 256 ^ 8 := pow256_le h
  have h3 : (256 : Int) ^ 8 = 18446744073709551616 := by decide
  omega
theorem num_step (l : List UInt8) (k : Nat) (c : UInt8) (hk : k < 8) (hc : l[k]? = some c) :
    IntKind.u64.wrap (IntKind.u64.wrap (numB (l.take k) * 256) + IntKind.u64.wrap (c.toNat : Int)) = numB (l.take (k + 1)) := by
  have hl : k < l.length := (List.getElem?_eq_some_iff.1 hc).1
  have hx : l[k] = c := (List.getElem?_eq_some_iff.1 hc).2
  rw [List.take_succ_eq_append_getElem hl, numB_snoc, hx]
  have h1 := numB_range_len k (l.take k) (by rw [List.length_take]; omega)
  have h2 : (256 : Int) ^ k ≤ 256 ^ 7 := pow256_le (by omega)
  have h3 : (256 : Int) ^ 7 = 72057594037927936 := by decide
  have h4 := c.toNat_lt
  rw [IntKind.wrap_u64, IntKind.wrap_u64, IntKind.wrap_u64]
  omega

/-- A side out of bytes, from a place on. -/
def sideAt (l : List UInt8) (a : Nat) : Dg × Int := ((l.getD a 0, l.getD (a + 1) 0, l.getD (a + 2) 0), numB ((l.drop (a + 3)).take 8))
theorem sideAt_range (l : List UInt8) (a : Nat) : 0 ≤ (sideAt l a).2 ∧ (sideAt l a).2 < 18446744073709551616 := numB_range _ (by rw [List.length_take]; omega)
theorem byte_getD (s : ByteArray) (k : Nat) (h : k < s.size) : s[k] = s.data.toList.getD k 0 := by
  have h2 : k < s.data.toList.length := by simpa using h
  simp only [List.getD, List.getElem?_eq_getElem h2]
  rfl

/-- A region that reads and then does one thing: the draw spelt as the walk spells it. -/
theorem region_tail {P : Program} {id : Nat} {Q : Exit → Act → World → Prop} {a : Act} {w : World} {l : List Oper} (n : Nat) (hm : P.follows .mixedOrders = true) (hB : Region.lexTailB .any l.toArray n = true)
    (h : wpStill P l.toArray w.drew (fun a' => wpList P l.toArray Q (l.drop n) a' w.drew) (l.take n) a) : (Code.region id l.toArray true).wp P Q a w := wp_region_still_tail n hm hB h

theorem index_at (s : ByteArray) (k : Nat) (h : k < s.size) (w : World) : (Instr.index 9 (.string s) (.int .i64 (k : Int))).run Try.prog w = .ok (.int .u8 ((s.data.toList.getD k 0).toNat : Int)) w := by
  rw [run_index_string _ _ _ _ _ Try.underlying9, ← byte_getD s k h]
  simp [h]

end Go.Proofs.Ytbjobbkgelipmaa

/-
  The walk of titheref's report.
-/
namespace Go.Proofs.Ytbjobbkgelipmaa
open Go.RowKit

/-- Do some bytes make a report's head: twelve of them, a height up to six? -/
def repHead (l : List UInt8) : Prop := l.length = 12 ∧ (l.getD 0 0).toNat ≤ 6
def repRoot (l : List UInt8) : Dg × Int := sideAt l 1
def repH (l : List UInt8) : Nat := (l.getD 0 0).toNat
def sideZ : Value := .agg #[.int .u8 0, .int .u8 0, .int .u8 0, .int .u64 0]
def leMax (n : Int) : Bool := decide (n ≤ 4611686018427387904)

/-- Four cells of a side. -/
abbrev Quad (w' : World) (A : Nat) (d0 d1 d2 n : Int) : Prop :=
  w'.cell? ⟨A, 0, none⟩ = some (.int .u8 d0) ∧ w'.cell? ⟨A, 1, none⟩ = some (.int .u8 d1) ∧ w'.cell? ⟨A, 2, none⟩ = some (.int .u8 d2) ∧ w'.cell? ⟨A, 3, none⟩ = some (.int .u64 n)
theorem Quad.store {W : World} {A R : Nat} {d0 d1 d2 n : Int} (h : Quad W A d0 d1 d2 n) (hA : A ≠ R) (x0 x1 x2 x3 : Value) :
    Quad ((((W.setCell ⟨R, 0, none⟩ x0).setCell ⟨R, 1, none⟩ x1).setCell ⟨R, 2, none⟩ x2).setCell ⟨R, 3, none⟩ x3) A d0 d1 d2 n :=
  ⟨cell_set4 _ _ _ _ _ _ _ _ _ hA h.1, cell_set4 _ _ _ _ _ _ _ _ _ hA h.2.1, cell_set4 _ _ _ _ _ _ _ _ _ hA h.2.2.1, cell_set4 _ _ _ _ _ _ _ _ _ hA h.2.2.2⟩
theorem Quad.drew {X : World} {A : Nat} {d0 d1 d2 n : Int} (h : Quad X A d0 d1 d2 n) : Quad X.drew A d0 d1 d2 n := ⟨h.1, h.2.1, h.2.2.1, h.2.2.2⟩
theorem Quad.storeD {W : World} {A R : Nat} {d0 d1 d2 n : Int} (h : Quad W A d0 d1 d2 n) (hA : A ≠ R) (x0 x1 x2 x3 : Value) :
    Quad ((((W.setCell ⟨R, 0, none⟩ x0).setCell ⟨R, 1, none⟩ x1).setCell ⟨R, 2, none⟩ x2).setCell ⟨R, 3, none⟩ x3).drew A d0 d1 d2 n := (h.store hA x0 x1 x2 x3).drew
theorem Quad.below {W w4 : World} {A : Nat} {d0 d1 d2 n : Int} (h : Quad W A d0 d1 d2 n) (hlt : A < W.heap.size) (hb : Below W.heap.size W w4) : Quad w4 A d0 d1 d2 n :=
  ⟨keepB hb hlt h.1, keepB hb hlt h.2.1, keepB hb hlt h.2.2.1, keepB hb hlt h.2.2.2⟩

end Go.Proofs.Ytbjobbkgelipmaa

/-
  What titheref's accepted answers, in plain words.
-/
namespace Go.Proofs.Ytbjobbkgelipmaa
open Go.RowKit

def bAt (l : List UInt8) (k : Nat) : Nat := (l.getD k 0).toNat
/-- The head of a proof's bytes fits a height. -/
def accHead (h : Nat) (l : List UInt8) : Prop := 3 ≤ l.length ∧ bAt l 0 = h ∧ bAt l 1 < 2 ^ h ∧ 1 ≤ bAt l 2 ∧ bAt l 2 ≤ 8 ∧ l.length = 19 + bAt l 2 + 11 * h
def accBal (l : List UInt8) : Int := numB ((l.drop (3 + bAt l 2)).take 8)
def accSalt (l : List UInt8) : Int := numB ((l.drop (11 + bAt l 2)).take 8)
def accName (l : List UInt8) : List UInt8 := (l.drop 3).take (bAt l 2)
def accText0 (l : List UInt8) : List UInt8 := 0 :: (l.drop 2).take (17 + bAt l 2)
def maxS : Int := 4611686018427387904
/-- The text one level further up. -/
def upText (place : Nat) (now x : Dg × Int) : List UInt8 := if place % 2 = 1 then 1 :: (sideB x ++ sideB now) else 1 :: (sideB now ++ sideB x)
/-- The way up: its texts, and what stands there now; or it must not go on. -/
def accUp (l : List UInt8) : Nat → Option (List (List UInt8) × (Dg × Int))
  | 0 => some ([accText0 l], (dg (accText0 l), accBal l))
  | k + 1 => match accUp l k with
    | none => none
    | some (ts, now) => if maxS < (sideAt l (19 + bAt l 2 + 11 * k)).2 ∨ maxS < now.2 + (sideAt l (19 + bAt l 2 + 11 * k)).2 then none
      else some (ts ++ [upText (bAt l 1 / 2 ^ k) now (sideAt l (19 + bAt l 2 + 11 * k))], (dg (upText (bAt l 1 / 2 ^ k) now (sideAt l (19 + bAt l 2 + 11 * k))), now.2 + (sideAt l (19 + bAt l 2 + 11 * k)).2))
/-- Is the proof accepted by a height and a root? Its texts, then. -/
def accTexts (h : Nat) (root : Dg × Int) (l : List UInt8) : Option (List (List UInt8)) :=
  match accUp l h with
  | some (ts, now) => if now = root then some ts else none
  | none => none

theorem accUp_none {l : List UInt8} : ∀ {k j : Nat}, accUp l k = none → accUp l (k + j) = none
  | k, 0, h => h
  | k, j + 1, h => by
    have := accUp_none (j := j) h
    rw [show k + (j + 1) = (k + j) + 1 by omega]
    simp only [accUp, this]
theorem accUp_le {l : List UInt8} (hb : accBal l ≤ maxS) (hb0 : 0 ≤ accBal l) : ∀ {k : Nat} {ts : List (List UInt8)} {now : Dg × Int}, accUp l k = some (ts, now) → 0 ≤ now.2 ∧ now.2 ≤ maxS ∧ ts.length = k + 1
  | 0, ts, now, h => by
    simp only [accUp, Option.some.injEq, Prod.mk.injEq] at h
    obtain ⟨rfl, rfl⟩ := h
    exact ⟨hb0, hb, rfl⟩
  | k + 1, ts, now, h => by
    simp only [accUp] at h
    split at h
    · cases h
    · rename_i ts' now' h'
      have ih := accUp_le hb hb0 h'
      split at h
      · cases h
      · rename_i hc
        simp only [Option.some.injEq, Prod.mk.injEq] at h
        obtain ⟨rfl, rfl⟩ := h
        have hx := sideAt_range l (19 + bAt l 2 + 11 * k)
        refine ⟨?_, ?_, ?_⟩
        · simp only; omega
        · simp only; omega
        · rw [List.length_append, ih.2.2]; rfl

theorem accUp_step {l : List UInt8} {j : Nat} {ts : List (List UInt8)} {now x : Dg × Int} (h : accUp l j = some (ts, now)) (hx : sideAt l (19 + bAt l 2 + 11 * j) = x) (hc : ¬ (maxS < x.2 ∨ maxS < now.2 + x.2)) :
    accUp l (j + 1) = some (ts ++ [upText (bAt l 1 / 2 ^ j) now x], (dg (upText (bAt l 1 / 2 ^ j) now x), now.2 + x.2)) := by
  simp only [accUp, h, hx]
  rw [if_neg hc]
theorem accUp_stop {l : List UInt8} {j h : Nat} {root : Dg × Int} {ts : List (List UInt8)} {now x : Dg × Int} (hu : accUp l j = some (ts, now)) (hx : sideAt l (19 + bAt l 2 + 11 * j) = x) (hc : maxS < x.2 ∨ maxS < now.2 + x.2) (hjh : j < h) :
    (if maxS < accBal l then Option.none else accTexts h root l) = Option.none := by
  have h1 : accUp l (j + 1) = none := by
    simp only [accUp, hu, hx]
    rw [if_pos hc]
  have h2 : accUp l h = none := by
    have := accUp_none (j := h - (j + 1)) h1
    rwa [show j + 1 + (h - (j + 1)) = h by omega] at this
  split
  · rfl
  · simp only [accTexts, h2]
theorem accTexts_end {l : List UInt8} {h : Nat} {root : Dg × Int} {ts : List (List UInt8)} {now : Dg × Int} (hu : accUp l h = some (ts, now)) (hb : ¬ maxS < accBal l) :
    (if maxS < accBal l then Option.none else accTexts h root l) = if now = root then some ts else Option.none := by
  rw [if_neg hb]
  simp only [accTexts, hu]

def proofV (place : Int) (nm : ByteArray) (bal salt : Int) (a : Option Addr) (n c : Nat) : Value := .agg #[.int .i64 place, .string nm, .int .u64 bal, .int .u64 salt, .slice a n c]
def proofZ : Value := .agg #[.int .i64 0, .string ⟨#[]⟩, .int .u64 0, .int .u64 0, .slice none 0 0]

end Go.Proofs.Ytbjobbkgelipmaa

/-
  The walks of tithe's add and take.
-/
namespace Go.Proofs.Ytbjobbkgelipmaa
open Go.RowKit

def capS (x : Int) : Int := min x 4611686018427387905
theorem capS_le (x y : Int) (h0 : 0 ≤ x) (h1 : 0 ≤ y) : (capS x + capS y ≤ maxS ↔ x + y ≤ maxS) ∧ 0 ≤ capS x ∧ capS x ≤ 4611686018427387905 := by
  unfold capS maxS; omega
theorem capS_id (x y : Int) (h0 : 0 ≤ x) (h1 : 0 ≤ y) (h : x + y ≤ maxS) : capS x + capS y = x + y := by
  unfold capS maxS at *; omega

set_option maxHeartbeats 400000 in
set_option maxRecDepth 100000 in
theorem add_any (x y : Int) (w : World) (h0 : 0 ≤ x) (h1 : 0 ≤ y) :
    Calls Try.prog 26 #[.int .u64 x, .int .u64 y] w fun e w' => e = .returned (.tuple #[.int .u64 (capS x + capS y), .bool (decide (x + y ≤ maxS))]) ∧ w' = w := by
  have e : decide (x + y ≤ maxS) = decide (capS x + capS y ≤ 4611686018427387904) := decide_eq_decide.2 (capS_le x y h0 h1).1.symm
  have hx := (capS_le x y h0 h1).2
  have hy := (capS_le y x h1 h0).2
  have hwr : IntKind.u64.wrap (capS x + capS y) = capS x + capS y := by rw [IntKind.wrap_u64]; omega
  rw [e]
  have hc1 : min x 4611686018427387905 = capS x := rfl
  have hc2 : min y 4611686018427387905 = capS y := rfl
  generalize hb : decide (capS x + capS y ≤ 4611686018427387904) = bb
  clear e hx hy h0 h1
  go_enter Try.func26, Try.ntmps26
  go_wp2
  go_ret2
  refine ⟨?_, rfl⟩
  simp

set_option maxHeartbeats 400000 in
set_option maxRecDepth 100000 in
theorem take_any (x y : Int) (w : World) (h0 : 0 ≤ x) (h1 : 0 ≤ y) (h2 : x < 18446744073709551616) (h3 : y < 18446744073709551616) :
    Calls Try.prog 27 #[.int .u64 x, .int .u64 y] w fun e w' => e = .returned (.tuple #[.int .u64 (max x y - y), .bool (decide (y ≤ x))]) ∧ w' = w := by
  have hwr : IntKind.u64.wrap (max x y - y) = max x y - y := by rw [IntKind.wrap_u64]; omega
  have e : (max x y == x) = decide (y ≤ x) := by
    rw [Bool.eq_iff_iff, beq_iff_eq, decide_eq_true_iff]; omega
  rw [← e]
  generalize hb : (max x y == x) = bb
  clear e h0 h1 h2 h3
  go_enter Try.func27, Try.ntmps27
  go_wp2
  go_ret2
  refine ⟨?_, rfl⟩
  simp

end Go.Proofs.Ytbjobbkgelipmaa

/-
  The walk of free and step, at a step that digests (Kind 1).
-/
namespace Go.Proofs.Ytbjobbkgelipmaa
open Go.RowKit

/-- A step of a script, as a value. -/
def opV (k n h sd : Int) (s t : ByteArray) (la : Option Addr) (ll lc : Nat) (a : Int) : Value :=
  .agg #[.int .i64 k, .int .i64 n, .int .i64 h, .int .u64 sd, .string s, .string t, .slice la ll lc, .int .u64 a]

theorem Try.underlyingDg : Try.prog.underlying 57 = some (.array 3 5) := by kernel_rfl
theorem Try.cellsByte : Try.prog.cellsOf 5 = 1 := by kernel_rfl
theorem Try.plainByte : Try.prog.plainKey 5 = true := by kernel_rfl
set_option maxRecDepth 100000 in
theorem eql_digest (w : World) (a0 a1 a2 b0 b1 b2 : Int) :
    (Op.equalIn 10000 57 (.agg #[.int .u8 a0, .int .u8 a1, .int .u8 a2]) (.agg #[.int .u8 b0, .int .u8 b1, .int .u8 b2])).run Try.prog w = .ok (a0 == b0 && (a1 == b1 && a2 == b2)) w := by
  obtain ⟨i0, hi, hz0, hz1, hz2⟩ := info_parts Try.infoByte
  have h := run_equalIn_array (P := Try.prog) w 9999 #[.int .u8 a0, .int .u8 a1, .int .u8 a2] #[.int .u8 b0, .int .u8 b1, .int .u8 b2] Try.underlyingDg hi
  have e : (9999 + 1 : Nat) = 10000 := rfl
  rw [e] at h
  rw [h, Try.cellsByte]
  have hq : ∀ (x y : Int) (w : World), (Op.equalIn 9999 5 (.int .u8 x) (.int .u8 y)).run Try.prog w = .ok (x == y) w := fun x y w => run_equalIn_int w 9998 5 .u8 .u8 x y Try.underlying5
  have hp : ∀ (l : Array Value) (k : Nat) (v : Value) (w : World), l[k]? = some v → (part 5 l k).run Try.prog w = .ok v w := fun l k v w hx => run_part_plain w Try.plainByte hx
  simp only [List.range_succ, List.range_zero, List.nil_append, List.cons_append, Op.eqItems, Sem.run_bind]
  rw [hp _ (0 * 1) (.int .u8 a0) w rfl]
  simp only [Result.andThen_ok]
  rw [hp _ (0 * 1) (.int .u8 b0) w rfl]
  simp only [Result.andThen_ok, hq]
  cases h0 : (a0 == b0)
  · simp
  · simp only [Bool.not_true, Bool.false_eq_true, if_false, Sem.run_bind]
    rw [hp _ (1 * 1) (.int .u8 a1) w rfl]
    simp only [Result.andThen_ok]
    rw [hp _ (1 * 1) (.int .u8 b1) w rfl]
    simp only [Result.andThen_ok, hq]
    cases h1 : (a1 == b1)
    · simp
    · simp only [Bool.not_true, Bool.false_eq_true, if_false, Sem.run_bind]
      rw [hp _ (2 * 1) (.int .u8 a2) w rfl]
      simp only [Result.andThen_ok]
      rw [hp _ (2 * 1) (.int .u8 b2) w rfl]
      simp only [Result.andThen_ok, hq]
      cases h2 : (a2 == b2) <;> simp

theorem lentV_bytes (s : ByteArray) (w : World) (b : Nat) (h : w.rowIs b 5 (s.size + 8) (lentV s.data.toList)) : BytesAt w b 0 s.data.toList := by
  intro j hj
  have hj' : j < s.size := by simpa using hj
  rw [Nat.zero_add, h.cell (by omega), lentV_in s j hj']
  rfl

end Go.Proofs.Ytbjobbkgelipmaa

/-
  The walk of step, looks and UpTo where steps that digest alone are played.
-/
namespace Go.Proofs.Ytbjobbkgelipmaa
open Go.RowKit

/-- A step of a script. -/
structure OpD where
  k : Int
  n : Int
  h : Int
  sd : Int
  s : ByteArray
  t : ByteArray
  la : Option Addr
  ll : Nat
  lc : Nat
  a : Int

/-- A step's cells. -/
def OpCells (w : World) (b o : Nat) (x : OpD) : Prop :=
  w.cell? ⟨b, o, none⟩ = some (.int .i64 x.k) ∧ w.cell? ⟨b, o + 1, none⟩ = some (.int .i64 x.n) ∧ w.cell? ⟨b, o + 2, none⟩ = some (.int .i64 x.h) ∧ w.cell? ⟨b, o + 3, none⟩ = some (.int .u64 x.sd) ∧
  w.cell? ⟨b, o + 4, none⟩ = some (.string x.s) ∧ w.cell? ⟨b, o + 5, none⟩ = some (.string x.t) ∧ w.cell? ⟨b, o + 6, none⟩ = some (.slice x.la x.ll x.lc) ∧ w.cell? ⟨b, o + 7, none⟩ = some (.int .u64 x.a)

theorem OpCells.below {w w' : World} {B b o : Nat} {x : OpD} (h : OpCells w b o x) (hb : Below B w w') (hlt : b < B) : OpCells w' b o x := by
  obtain ⟨h0, h1, h2, h3, h4, h5, h6, h7⟩ := h
  have e : ∀ o, w'.cell? ⟨b, o, none⟩ = w.cell? ⟨b, o, none⟩ := fun o => hb.cell (p := ⟨b, o, none⟩) hlt
  exact ⟨(e _).trans h0, (e _).trans h1, (e _).trans h2, (e _).trans h3, (e _).trans h4, (e _).trans h5, (e _).trans h6, (e _).trans h7⟩

/-- A script that lies in memory. -/
structure ScriptAt (w : World) (b off : Nat) (xs : List OpD) : Prop where
  lt : b < w.heap.size
  cells : ∀ i (h : i < xs.length), OpCells w b (off + i * 8) xs[i]
  small : ∀ x ∈ xs, x.s.size ≤ 140737488351232 ∧ x.t.size ≤ 140737488351232

end Go.Proofs.Ytbjobbkgelipmaa

/-
  Lists that came out or were handed in: what the world keeps of them, and the walks of sign, marked, looks.
-/
namespace Go.Proofs.Ytbjobbkgelipmaa
open Go.RowKit

/-- What a mark looks like in the i-th byte of a list. -/
def signI (m i : Int) : Int := wrap64 (m + wrap64 (i * wrap64 (1 + wrap64 (m.tdiv 256)))) % 256
def markV (m : Int) (n : Nat) : List Value := (List.range n).map fun (i : Nat) => .int .u8 (signI m (i : Int))
theorem markV_length (m : Int) (n : Nat) : (markV m n).length = n := by simp [markV]
theorem markV_at (m : Int) (n i : Nat) (h : i < n) : (markV m n)[i]? = some (.int .u8 (signI m (i : Int))) := by simp [markV, h]
theorem markV_succ (m : Int) (n : Nat) : markV m (n + 1) = markV m n ++ [.int .u8 (signI m (n : Int))] := by simp [markV, List.range_succ]

/-- A list that is kept: the block of its record, the list, its length, its mark. -/
structure HoldD where
  p : Nat
  v : Value
  n : Nat
  m : Int

def ptrV (p : Nat) : Value := .pointer (some ⟨p, 0, none⟩)

theorem block_cell {w : World} {b i : Nat} {cs : Array Value} {t : TypeId} {fr : Nat × Nat} (h : w.heap[b]? = some (.cells cs t fr)) : w.cell? ⟨b, i, none⟩ = cs[i]? := by
  simp [World.cell?, h]
theorem block_free {w : World} {b i : Nat} {cs : Array Value} {t : TypeId} (h : w.heap[b]? = some (.cells cs t (0, 0))) : w.frozen? ⟨b, i, none⟩ = false := by
  simp [World.frozen?, h]

end Go.Proofs.Ytbjobbkgelipmaa

/-
  A book in memory: its record, its map, its accounts.
-/
namespace Go.Proofs.Ytbjobbkgelipmaa
open Go.RowKit Go.Maps Go.WideMaps

/-- An account: its name, its block, its balance. -/
structure Acct where
  name : List UInt8
  blk : Nat
  bal : Int
/-- How an account's place reads. -/
def ptrElem : Value → Option (DataW Nat × List MemPlace)
  | .pointer none => some (.nil, [])
  | .pointer (some ⟨A, 0, none⟩) => some (.held A, [])
  | _ => none
theorem ptr_nil {v : Value} {ps : List MemPlace} (h : ptrElem v = some (.nil, ps)) : v = .pointer none := by
  unfold ptrElem at h
  split at h
  · rfl
  · simp at h
  · cases h
theorem ptr_held {v : Value} {A : Nat} {ps : List MemPlace} (h : ptrElem v = some (.held A, ps)) : v = .pointer (some ⟨A, 0, none⟩) := by
  unfold ptrElem at h
  split at h
  · simp at h
  · simp at h; rw [h.1]
  · cases h

def entOf (a : Acct) : Lit × DataW Nat := (.string a.name, .held a.blk)
def datE (E : List Acct) : DataW Nat := .map (E.map entOf)
def lookE (E : List Acct) (s : List UInt8) : Option Acct := E.find? (fun a => a.name == s)
def sumE (E : List Acct) : Int := (E.map Acct.bal).sum
def setE (E : List Acct) (s : List UInt8) (x : Int) : List Acct := E.map fun a => if a.name = s then { a with bal := x } else a

theorem datE_at (s : List UInt8) : ∀ E : List Acct, (datE E).atKey (.string s) .nil = match lookE E s with | none => .nil | some a => .held a.blk
  | [] => rfl
  | a :: E => by
    have ih := datE_at s E
    unfold datE lookE at *
    simp only [DataW.atKey, List.map_cons, List.find?_cons] at ih ⊢
    have e : (entOf a).1.sameKey (.string s) = (a.name == s) := rfl
    rw [e]
    cases h : (a.name == s)
    · simpa using ih
    · rfl
theorem lookE_name {E : List Acct} {s : List UInt8} {a : Acct} (h : lookE E s = some a) : a ∈ E ∧ a.name = s := by
  unfold lookE at h
  exact ⟨List.mem_of_find?_eq_some h, by simpa using List.find?_some h⟩
theorem lookE_none {E : List Acct} {s : List UInt8} (h : lookE E s = none) : ∀ a ∈ E, a.name ≠ s := by
  unfold lookE at h
  intro a ha e
  have := List.find?_eq_none.1 h a ha
  simp [e] at this
theorem datE_set (E : List Acct) (s : List UInt8) (x : Int) : datE (setE E s x) = datE E := by
  unfold datE setE
  rw [List.map_map]
  congr 1
  apply List.map_congr_left
  intro a _
  simp only [Function.comp]
  split <;> rfl
theorem len_set (E : List Acct) (s : List UInt8) (x : Int) : (setE E s x).length = E.length := by simp [setE]
theorem mem_set {E : List Acct} {s : List UInt8} {x : Int} {b : Acct} (h : b ∈ setE E s x) : ∃ a ∈ E, b.name = a.name ∧ b.blk = a.blk ∧ ((a.name = s ∧ b.bal = x) ∨ (a.name ≠ s ∧ b.bal = a.bal)) := by
  unfold setE at h
  obtain ⟨a, ha, rfl⟩ := List.mem_map.1 h
  refine ⟨a, ha, ?_⟩
  split
  · rename_i e; exact ⟨rfl, rfl, .inl ⟨e, rfl⟩⟩
  · rename_i e; exact ⟨rfl, rfl, .inr ⟨e, rfl⟩⟩
theorem set_apart {E : List Acct} {s : List UInt8} {x : Int} (h : E.Pairwise (fun a b => a.blk ≠ b.blk)) : (setE E s x).Pairwise (fun a b => a.blk ≠ b.blk) := by
  unfold setE
  rw [List.pairwise_map]
  refine h.imp fun {a b} hab => ?_
  split <;> split <;> exact hab
theorem set_same {E : List Acct} {s : List UInt8} {x : Int} (h : ∀ a ∈ E, a.name ≠ s) : setE E s x = E := by
  unfold setE
  conv => rhs; rw [← List.map_id E]
  apply List.map_congr_left
  intro a ha
  rw [if_neg (h a ha)]; rfl
theorem sum_set {s : List UInt8} {x : Int} : ∀ {E : List Acct} {a : Acct}, E.Pairwise (fun a b => a.name ≠ b.name) → lookE E s = some a → sumE (setE E s x) = sumE E - a.bal + x
  | [], a, _, h => by cases h
  | b :: E, a, hp, h => by
    rw [List.pairwise_cons] at hp
    unfold lookE at h
    rw [List.find?_cons] at h
    cases hb : (b.name == s)
    · rw [hb] at h
      have ih := sum_set (x := x) hp.2 (show lookE E s = some a from h)
      have hne : b.name ≠ s := by simpa using hb
      have e : setE (b :: E) s x = b :: setE E s x := by simp [setE, hne]
      rw [e]
      unfold sumE at *
      simp only [List.map_cons, List.sum_cons]
      omega
    · rw [hb] at h
      have hab : b = a := by simpa using h
      subst hab
      have hbs : b.name = s := by simpa using hb
      have e : setE (b :: E) s x = { b with bal := x } :: E := by
        have e2 := set_same (x := x) (E := E) (s := s) (fun c hc e => hp.1 c hc (by rw [hbs, e]))
        unfold setE at e2 ⊢
        rw [List.map_cons, e2, if_pos hbs]
      rw [e]
      unfold sumE
      simp only [List.map_cons, List.sum_cons]
      omega
theorem look_set {s : List UInt8} {x : Int} : ∀ {E : List Acct} {a : Acct}, lookE E s = some a → lookE (setE E s x) s = some { a with bal := x }
  | [], a, h => by cases h
  | b :: E, a, h => by
    unfold lookE at h
    rw [List.find?_cons] at h
    cases hb : (b.name == s)
    · rw [hb] at h
      have hne : b.name ≠ s := by simpa using hb
      have e : setE (b :: E) s x = b :: setE E s x := by simp [setE, hne]
      rw [e]
      unfold lookE
      rw [List.find?_cons, hb]
      exact look_set (show lookE E s = some a from h)
    · rw [hb] at h
      have hab : b = a := by simpa using h
      subst hab
      have hbs : b.name = s := by simpa using hb
      unfold setE lookE
      rw [List.map_cons, if_pos hbs, List.find?_cons]
      simp [hbs]
theorem look_set_ne {s t : List UInt8} {x : Int} (hst : t ≠ s) : ∀ {E : List Acct}, lookE (setE E s x) t = lookE E t
  | [] => rfl
  | b :: E => by
    have ih := look_set_ne (x := x) hst (E := E)
    unfold setE lookE at *
    rw [List.map_cons, List.find?_cons, List.find?_cons]
    by_cases hb : b.name = s
    · rw [if_pos hb]
      have : (b.name == t) = false := by simp [hb]; exact fun e => hst e.symm
      simp only [this]
      exact ih
    · rw [if_neg hb, ih]
theorem le_sum {E : List Acct} {a : Acct} (hp : ∀ b ∈ E, 0 ≤ b.bal) (h : a ∈ E) : a.bal ≤ sumE E := by
  induction E with
  | nil => cases h
  | cons b E ih =>
    unfold sumE
    simp only [List.map_cons, List.sum_cons]
    have hs : 0 ≤ (E.map Acct.bal).sum := by
      clear ih h
      induction E with
      | nil => simp
      | cons c E ih => simp only [List.map_cons, List.sum_cons]; have := ih (fun d hd => hp d (by simp at hd ⊢; rcases hd with rfl | hd <;> simp [*])); have := hp c (by simp); omega
    rcases List.mem_cons.1 h with rfl | h
    · omega
    · have := ih (fun d hd => hp d (List.mem_cons_of_mem _ hd)) h
      have hb := hp b (by simp)
      unfold sumE at this
      omega

/-- What lies in memory of a book, whatever its record says of the sum. -/
structure BookT (w : World) (B M : Nat) (h seed : Int) (last : Option Addr) (tot : Int) (E : List Acct) : Prop where
  blk : w.heap[B]? = some (.cells #[.int .i64 h, .int .u64 seed, .map (some M), .int .u64 tot, .pointer last] 64 (0, 0))
  own : w.ownsMap Try.prog 9 ptrElem M E.length (datE E)
  acc : ∀ a ∈ E, w.heap[a.blk]? = some (.cells #[.int .u64 a.bal] 70 (0, 0))
  apart : E.Pairwise (fun a b => a.blk ≠ b.blk)
  pos : ∀ a ∈ E, 0 ≤ a.bal
/-- What lies in memory of a book. -/
structure BookM (w : World) (B M : Nat) (h seed : Int) (last : Option Addr) (E : List Acct) : Prop extends BookT w B M h seed last (sumE E) E where
  sum : sumE E ≤ maxS
/-- The blocks of a book. -/
def blksE (B M : Nat) (E : List Acct) : List Nat := B :: M :: E.map Acct.blk

theorem Try.lawS : Keyed Try.prog 9 := string_keyed Try.underlying9
theorem Try.zeroAcc (w : World) : (zeroValue 68).run Try.prog w = .ok (.pointer none) w := by kernel_rfl
theorem Try.undAcc : Try.prog.underlying 61 = some (.map 9 68) := by kernel_rfl

def ptrOf : Option Acct → Value
  | none => .pointer none
  | some a => .pointer (some ⟨a.blk, 0, none⟩)
theorem BookT.look {w : World} {B M : Nat} {h seed tot : Int} {last : Option Addr} {E : List Acct} (hb : BookT w B M h seed last tot E) (s : ByteArray) (hs : s.size ≤ maxLen) :
    (Instr.lookup 61 (.map (some M)) (.string s) false).run Try.prog w = .ok (ptrOf (lookE E s.data.toList)) w := by
  obtain ⟨v, ps, hrun, hv⟩ := hb.own.lookup Try.lawS Try.undAcc (Try.zeroAcc w) (show ptrElem (.pointer none) = some (.nil, []) from rfl) (keyOf_string_mk Try.underlying9 hs)
  rw [hrun]
  rw [datE_at] at hv
  cases hl : lookE E s.data.toList with
  | none => rw [hl] at hv; rw [ptr_nil hv]; rfl
  | some a => rw [hl] at hv; rw [ptr_held hv]; rfl
theorem BookT.names {w : World} {B M : Nat} {h seed tot : Int} {last : Option Addr} {E : List Acct} (hb : BookT w B M h seed last tot E) : E.Pairwise (fun a b => a.name ≠ b.name) := by
  obtain ⟨es, e, hp⟩ := hb.own.tidy Try.lawS
  unfold datE at e
  cases e
  rw [List.pairwise_map] at hp
  exact hp.imp fun {a b} h e => h (by unfold entOf; rw [e])

end Go.Proofs.Ytbjobbkgelipmaa

/-
  The walks of tithe's Balance, Pay, Draw.
-/
namespace Go.Proofs.Ytbjobbkgelipmaa
open Go.RowKit Go.Maps

/-- Nothing has turned but some blocks, and new ones. -/
structure Kept (S : List Nat) (w w' : World) : Prop where
  os : w'.os = w.os
  tape : w'.tape = w.tape
  output : w'.output = w.output
  size : w.heap.size ≤ w'.heap.size
  block : ∀ k, k < w.heap.size → k ∉ S → w'.heap[k]? = w.heap[k]?
theorem Kept.refl (S : List Nat) (w : World) : Kept S w w := ⟨rfl, rfl, rfl, Nat.le_refl _, fun _ _ _ => rfl⟩
theorem Kept.below {S : List Nat} {w w' : World} (h : Kept S w w') {b : Nat} (hb : b ≤ w.heap.size) (hS : ∀ k ∈ S, b ≤ k) : Below b w w' :=
  ⟨h.os, h.tape, h.output, h.size, fun k hk => h.block k (by omega) (fun hs => by have := hS k hs; omega)⟩
theorem Kept.of_below {S : List Nat} {w w' : World} (h : Below w.heap.size w w') : Kept S w w' := ⟨h.os, h.tape, h.output, h.size, fun k hk _ => h.block k hk⟩
theorem Kept.trans {S : List Nat} {a b c : World} (h : Kept S a b) (k : Kept S b c) : Kept S a c :=
  ⟨k.os.trans h.os, k.tape.trans h.tape, k.output.trans h.output, Nat.le_trans h.size k.size, fun i hi hs => (k.block i (Nat.lt_of_lt_of_le hi h.size) hs).trans (h.block i hi hs)⟩
theorem Kept.mono {S T : List Nat} {a b : World} (h : Kept S a b) (hst : ∀ k ∈ S, k ∈ T) : Kept T a b := ⟨h.os, h.tape, h.output, h.size, fun k hk hn => h.block k hk (fun hs => hn (hst k hs))⟩
theorem Kept.setCell {S : List Nat} {w : World} {b i : Nat} (hb : b ∈ S) (v : Value) : Kept S w (w.setCell ⟨b, i, none⟩ v) :=
  ⟨rfl, rfl, rfl, by simp, fun k _ hs => Below.heap_setCell _ _ _ _ (fun e => hs (by have : k = b := e; rw [this]; exact hb))⟩

theorem BookM.cells {w : World} {B M : Nat} {h seed : Int} {last : Option Addr} {E : List Acct} (hb : BookM w B M h seed last E) : w.cell? ⟨B, 2, none⟩ = some (.map (some M)) ∧ w.cell? ⟨B, 3, none⟩ = some (.int .u64 (sumE E)) ∧ w.frozen? ⟨B, 3, none⟩ = false :=
  ⟨block_cell hb.blk, block_cell hb.blk, block_free hb.blk⟩

/-- What Balance answers. -/
def balE (E : List Acct) (s : List UInt8) : Option Int := (lookE E s).map Acct.bal

set_option maxHeartbeats 400000 in
set_option maxRecDepth 100000 in
theorem balance_any {w : World} {B M : Nat} {h seed : Int} {last : Option Addr} {E : List Acct} (hb : BookM w B M h seed last E) (s : ByteArray) (hs : s.size ≤ maxLen) :
    Calls Try.prog 23 #[.pointer (some ⟨B, 0, none⟩), .string s] w fun e w' => e = .returned (.tuple #[.int .u64 ((balE E s.data.toList).getD 0), .int .i64 (if (balE E s.data.toList).isSome then 0 else 4)]) ∧ w' = w := by
  have hl := hb.look s hs
  obtain ⟨c2, _, _⟩ := hb.cells
  unfold balE
  cases hk : lookE E s.data.toList with
  | none =>
    rw [hk] at hl
    unfold ptrOf at hl
    clear hb hk
    go_enter Try.func23, Try.ntmps23
    go_wp2
    go_ret2
    exact ⟨rfl, rfl⟩
  | some a =>
    rw [hk] at hl
    obtain ⟨nm, A, x⟩ := a
    have ca : w.cell? ⟨A, 0, none⟩ = some (.int .u64 x) := block_cell (hb.acc _ (lookE_name hk).1)
    replace hl : (Instr.lookup 61 (.map (some M)) (.string s) false).run Try.prog w = .ok (.pointer (some ⟨A, 0, none⟩)) w := hl
    clear hb hk
    go_enter Try.func23, Try.ntmps23
    go_wp2
    go_ret2
    exact ⟨rfl, rfl⟩

theorem pw_inj {α β : Type} {f : α → β} : ∀ {l : List α}, l.Pairwise (fun a b => f a ≠ f b) → ∀ {a b : α}, a ∈ l → b ∈ l → f a = f b → a = b
  | [], _, _, _, h, _, _ => by cases h
  | c :: l, hp, a, b, ha, hb, e => by
    rw [List.pairwise_cons] at hp
    rcases List.mem_cons.1 ha with ha' | ha' <;> rcases List.mem_cons.1 hb with hb' | hb'
    · rw [ha', hb']
    · rw [ha'] at e; exact absurd e (hp.1 _ hb')
    · rw [hb'] at e; exact absurd e.symm (hp.1 _ ha')
    · exact pw_inj hp.2 ha' hb' e

/-- The balance of an account turns. -/
theorem BookT.turn {w w' : World} {B M : Nat} {h seed tot t : Int} {last : Option Addr} {E : List Acct} (hb : BookT w B M h seed last tot E) {a : Acct} {s : List UInt8} {x : Int} (hk : lookE E s = some a) (hx : 0 ≤ x)
    (hB : w'.heap[B]? = some (.cells #[.int .i64 h, .int .u64 seed, .map (some M), .int .u64 t, .pointer last] 64 (0, 0)))
    (hA : w'.heap[a.blk]? = some (.cells #[.int .u64 x] 70 (0, 0))) (hK : Kept [B, a.blk] w w') : BookT w' B M h seed last t (setE E s x) := by
  obtain ⟨hmem, hnm⟩ := lookE_name hk
  have hBA : ∀ k, k ≠ B → k ≠ a.blk → k < w.heap.size → w'.heap[k]? = w.heap[k]? := fun k h1 h2 hl => hK.block k hl (by simp [h1, h2])
  refine ⟨hB, ?_, ?_, set_apart hb.apart, ?_⟩
  · rw [datE_set, len_set]
    obtain ⟨es, cl, he, r⟩ := hb.own
    refine ⟨es, cl, ?_, r⟩
    have h1 : M ≠ B := fun e => by rw [e, hb.blk] at he; cases he
    have h2 : M ≠ a.blk := fun e => by rw [e, hb.acc a hmem] at he; cases he
    rw [hBA M h1 h2 (Array.getElem?_eq_some_iff.1 he).1]
    exact he
  · intro b hbm
    obtain ⟨c, hc, e1, e2, e3⟩ := mem_set hbm
    rw [e2]
    rcases e3 with ⟨e4, e5⟩ | ⟨e4, e5⟩
    · have hca : c = a := pw_inj hb.names hc hmem (e4.trans hnm.symm)
      rw [hca, e5]; exact hA
    · rw [e5]
      have hcb := hb.acc c hc
      have h1 : c.blk ≠ B := fun e => by rw [e, hb.blk] at hcb; simp at hcb
      have h2 : c.blk ≠ a.blk := fun e => e4 (by rw [pw_inj hb.apart hc hmem e]; exact hnm)
      rw [hBA c.blk h1 h2 (Array.getElem?_eq_some_iff.1 hcb).1]
      exact hcb
  · intro b hbm
    obtain ⟨c, hc, _, _, e3⟩ := mem_set hbm
    rcases e3 with ⟨_, e5⟩ | ⟨_, e5⟩
    · rw [e5]; exact hx
    · rw [e5]; exact hb.pos c hc
theorem BookT.ne {w : World} {B M : Nat} {h seed tot : Int} {last : Option Addr} {E : List Acct} (hb : BookT w B M h seed last tot E) {a : Acct} (ha : a ∈ E) : a.blk ≠ B := fun e => by
  have := hb.acc a ha
  rw [e, hb.blk] at this; simp at this
/-- An account's cell is written. -/
theorem BookT.put {w : World} {B M : Nat} {h seed tot : Int} {last : Option Addr} {E : List Acct} (hb : BookT w B M h seed last tot E) {a : Acct} {s : List UInt8} {x : Int} (hk : lookE E s = some a) (hx : 0 ≤ x) : BookT (w.setCell ⟨a.blk, 0, none⟩ (.int .u64 x)) B M h seed last tot (setE E s x) := by
  have hne := hb.ne (lookE_name hk).1
  refine hb.turn hk hx ?_ (heap_setCell_same _ a.blk 0 #[.int .u64 a.bal] _ _ (hb.acc a (lookE_name hk).1)) (Kept.setCell (by simp) _)
  rw [Below.heap_setCell _ _ _ _ (by show B ≠ a.blk; exact fun e => hne e.symm)]
  exact hb.blk
/-- The record's sum is written. -/
theorem BookT.tell {w : World} {B M : Nat} {h seed tot : Int} {last : Option Addr} {E : List Acct} (hb : BookT w B M h seed last tot E) (t : Int) : BookT (w.setCell ⟨B, 3, none⟩ (.int .u64 t)) B M h seed last t E := by
  have e : ∀ k, k ≠ B → (w.setCell ⟨B, 3, none⟩ (.int .u64 t)).heap[k]? = w.heap[k]? := fun k hk => Below.heap_setCell _ _ _ _ hk
  refine ⟨heap_setCell_same _ B 3 _ _ _ hb.blk, ?_, fun a ha => (e _ (hb.ne ha)).trans (hb.acc a ha), hb.apart, hb.pos⟩
  obtain ⟨es, cl, he, r⟩ := hb.own
  exact ⟨es, cl, (e M (fun e => by rw [e, hb.blk] at he; cases he)).trans he, r⟩

/-- What Pay answers and does. -/
def payE (E : List Acct) (s : List UInt8) (n : Int) : Int × List Acct := match lookE E s with
  | none => (4, E)
  | some a => if sumE E + n ≤ maxS then (0, setE E s (a.bal + n)) else (5, E)

set_option maxHeartbeats 400000 in
set_option maxRecDepth 100000 in
theorem pay_any {w : World} {B M : Nat} {h seed : Int} {last : Option Addr} {E : List Acct} (hb : BookM w B M h seed last E) (s : ByteArray) (n : Int) (hs : s.size ≤ maxLen) (hn : 0 ≤ n) (hn2 : n < 18446744073709551616) :
    Calls Try.prog 13 #[.pointer (some ⟨B, 0, none⟩), .string s, .int .u64 n] w fun e w' => e = .returned (.int .i64 (payE E s.data.toList n).1) ∧ BookM w' B M h seed last (payE E s.data.toList n).2 ∧ Kept (blksE B M E) w w' := by
  have hl := hb.look s hs
  obtain ⟨c2, c3, f3⟩ := hb.cells
  unfold payE
  cases hk : lookE E s.data.toList with
  | none =>
    rw [hk] at hl
    replace hl : (Instr.lookup 61 (.map (some M)) (.string s) false).run Try.prog w = .ok (.pointer none) w := hl
    have HB := hide hb
    clear hb hk
    go_enter Try.func13, Try.ntmps13
    go_wp2
    go_ret
    exact ⟨rfl, unhide HB, Kept.refl _ _⟩
  | some a =>
    rw [hk] at hl
    have hacc := hb.acc _ (lookE_name hk).1
    have hpos := hb.pos _ (lookE_name hk).1
    have hle := le_sum hb.pos (lookE_name hk).1
    have hmax := hb.sum
    have HAd := fun w => hide (add_any (sumE E) n w (by omega) hn)
    have ca : w.cell? ⟨a.blk, 0, none⟩ = some (.int .u64 a.bal) := block_cell hacc
    have fa : w.frozen? ⟨a.blk, 0, none⟩ = false := block_free hacc
    have hne : a.blk ≠ B := fun e => by rw [e, hb.blk] at hacc; simp at hacc
    replace hl : (Instr.lookup 61 (.map (some M)) (.string s) false).run Try.prog w = .ok (.pointer (some ⟨a.blk, 0, none⟩)) w := hl
    by_cases hc : sumE E + n ≤ maxS
    · show Calls _ _ _ _ fun e w' => e = .returned (.int .i64 (if sumE E + n ≤ maxS then (0, setE E s.data.toList (a.bal + n)) else (5, E)).1) ∧ BookM w' B M h seed last (if sumE E + n ≤ maxS then (0, setE E s.data.toList (a.bal + n)) else (5, E)).2 ∧ _
      rw [if_pos hc]
      have hcap := capS_id (sumE E) n (by omega) hn hc
      rw [decide_eq_true hc, hcap] at HAd
      have hT : BookM ((w.setCell ⟨B, 3, none⟩ (.int .u64 (sumE E + n))).setCell ⟨a.blk, 0, none⟩ (.int .u64 (a.bal + n))) B M h seed last (setE E s.data.toList (a.bal + n)) := by
        have hsum := sum_set (x := a.bal + n) hb.names hk
        have hq := (hb.tell (sumE E + n)).put hk (x := a.bal + n) (by omega)
        have e : sumE E + n = sumE (setE E s.data.toList (a.bal + n)) := by omega
        refine ⟨?_, by omega⟩
        rw [← e]
        exact hq
      have hK : Kept (blksE B M E) w ((w.setCell ⟨B, 3, none⟩ (.int .u64 (sumE E + n))).setCell ⟨a.blk, 0, none⟩ (.int .u64 (a.bal + n))) :=
        (Kept.setCell (by simp [blksE]) _).trans (Kept.setCell (by simp only [blksE, List.mem_cons]; exact .inr (.inr (List.mem_map_of_mem (lookE_name hk).1))) _)
      have HE := hide (And.intro hT hK)
      have hwr : IntKind.u64.wrap (a.bal + n) = a.bal + n := by rw [IntKind.wrap_u64]; unfold maxS at hc hmax; omega
      generalize a.blk = A at *
      generalize a.bal = x at *
      generalize sumE E = S at *
      clear hb hk hT hK hacc hpos hle hmax hc hcap hn hn2
      go_enter Try.func13, Try.ntmps13
      go_wp2_with fail
      refine (unhide (HAd _)).mono ?_
      rintro e w1 ⟨rfl, rfl⟩
      clear HAd
      go_wp2
      go_ret
      exact ⟨rfl, unhide HE⟩
    · show Calls _ _ _ _ fun e w' => e = .returned (.int .i64 (if sumE E + n ≤ maxS then (0, setE E s.data.toList (a.bal + n)) else (5, E)).1) ∧ BookM w' B M h seed last (if sumE E + n ≤ maxS then (0, setE E s.data.toList (a.bal + n)) else (5, E)).2 ∧ _
      rw [if_neg hc]
      rw [decide_eq_false hc] at HAd
      have HB := hide hb
      generalize a.blk = A at *
      generalize hS : sumE E = S at *
      generalize capS S + capS n = cs at *
      clear hb hk hacc hpos hle hmax hc hn hn2 hS
      go_enter Try.func13, Try.ntmps13
      go_wp2_with fail
      refine (unhide (HAd _)).mono ?_
      rintro e w1 ⟨rfl, rfl⟩
      clear HAd
      go_wp2
      go_ret
      exact ⟨rfl, unhide HB, Kept.refl _ _⟩

/-- What Draw answers and does. -/
def drawE (E : List Acct) (s : List UInt8) (n : Int) : Int × List Acct := match lookE E s with
  | none => (4, E)
  | some a => if n ≤ a.bal then (0, setE E s (a.bal - n)) else (5, E)

set_option maxHeartbeats 400000 in
set_option maxRecDepth 100000 in
theorem draw_any {w : World} {B M : Nat} {h seed : Int} {last : Option Addr} {E : List Acct} (hb : BookM w B M h seed last E) (s : ByteArray) (n : Int) (hs : s.size ≤ maxLen) (hn : 0 ≤ n) (hn2 : n < 18446744073709551616) :
    Calls Try.prog 14 #[.pointer (some ⟨B, 0, none⟩), .string s, .int .u64 n] w fun e w' => e = .returned (.int .i64 (drawE E s.data.toList n).1) ∧ BookM w' B M h seed last (drawE E s.data.toList n).2 ∧ Kept (blksE B M E) w w' := by
  have hl := hb.look s hs
  obtain ⟨c2, c3, f3⟩ := hb.cells
  unfold drawE
  cases hk : lookE E s.data.toList with
  | none =>
    rw [hk] at hl
    replace hl : (Instr.lookup 61 (.map (some M)) (.string s) false).run Try.prog w = .ok (.pointer none) w := hl
    have HB := hide hb
    clear hb hk
    go_enter Try.func14, Try.ntmps14
    go_wp2
    go_ret
    exact ⟨rfl, unhide HB, Kept.refl _ _⟩
  | some a =>
    rw [hk] at hl
    have hacc := hb.acc _ (lookE_name hk).1
    have hpos := hb.pos _ (lookE_name hk).1
    have hle := le_sum hb.pos (lookE_name hk).1
    have hmax := hb.sum
    have HAd := fun w => hide (take_any a.bal n w hpos hn (by unfold maxS at hmax; omega) hn2)
    have ca : w.cell? ⟨a.blk, 0, none⟩ = some (.int .u64 a.bal) := block_cell hacc
    have fa : w.frozen? ⟨a.blk, 0, none⟩ = false := block_free hacc
    have hne : a.blk ≠ B := fun e => by rw [e, hb.blk] at hacc; simp at hacc
    replace hl : (Instr.lookup 61 (.map (some M)) (.string s) false).run Try.prog w = .ok (.pointer (some ⟨a.blk, 0, none⟩)) w := hl
    by_cases hc : n ≤ a.bal
    · show Calls _ _ _ _ fun e w' => e = .returned (.int .i64 (if n ≤ a.bal then (0, setE E s.data.toList (a.bal - n)) else (5, E)).1) ∧ BookM w' B M h seed last (if n ≤ a.bal then (0, setE E s.data.toList (a.bal - n)) else (5, E)).2 ∧ _
      rw [if_pos hc]
      have hcap : max a.bal n - n = a.bal - n := by omega
      rw [decide_eq_true hc, hcap] at HAd
      have hT : BookM ((w.setCell ⟨B, 3, none⟩ (.int .u64 (sumE E - n))).setCell ⟨a.blk, 0, none⟩ (.int .u64 (a.bal - n))) B M h seed last (setE E s.data.toList (a.bal - n)) := by
        have hsum := sum_set (x := a.bal - n) hb.names hk
        have hq := (hb.tell (sumE E - n)).put hk (x := a.bal - n) (by omega)
        have e : sumE E - n = sumE (setE E s.data.toList (a.bal - n)) := by omega
        refine ⟨?_, by omega⟩
        rw [← e]
        exact hq
      have hK : Kept (blksE B M E) w ((w.setCell ⟨B, 3, none⟩ (.int .u64 (sumE E - n))).setCell ⟨a.blk, 0, none⟩ (.int .u64 (a.bal - n))) :=
        (Kept.setCell (by simp [blksE]) _).trans (Kept.setCell (by simp only [blksE, List.mem_cons]; exact .inr (.inr (List.mem_map_of_mem (lookE_name hk).1))) _)
      have HE := hide (And.intro hT hK)
      have hwr : IntKind.u64.wrap (sumE E - n) = sumE E - n := by rw [IntKind.wrap_u64]; unfold maxS at hmax; omega
      generalize a.blk = A at *
      generalize a.bal = x at *
      generalize sumE E = S at *
      clear hb hk hT hK hacc hpos hle hmax hc hcap hn hn2
      go_enter Try.func14, Try.ntmps14
      go_wp2_with fail
      refine (unhide (HAd _)).mono ?_
      rintro e w1 ⟨rfl, rfl⟩
      clear HAd
      go_wp2
      go_ret
      exact ⟨rfl, unhide HE⟩
    · show Calls _ _ _ _ fun e w' => e = .returned (.int .i64 (if n ≤ a.bal then (0, setE E s.data.toList (a.bal - n)) else (5, E)).1) ∧ BookM w' B M h seed last (if n ≤ a.bal then (0, setE E s.data.toList (a.bal - n)) else (5, E)).2 ∧ _
      rw [if_neg hc]
      rw [decide_eq_false hc] at HAd
      have HB := hide hb
      generalize max a.bal n - n = cs at *
      generalize a.blk = A at *
      generalize a.bal = x at *
      clear hb hk hacc hpos hle hmax hc hn hn2
      go_enter Try.func14, Try.ntmps14
      go_wp2_with fail
      refine (unhide (HAd _)).mono ?_
      rintro e w1 ⟨rfl, rfl⟩
      clear HAd
      go_wp2
      go_ret
      exact ⟨rfl, unhide HB, Kept.refl _ _⟩

end Go.Proofs.Ytbjobbkgelipmaa

/-
  The walks of tithe's Move and Close.
-/
namespace Go.Proofs.Ytbjobbkgelipmaa
open Go.RowKit Go.Maps Go.WideMaps

/-- What Move answers and does. -/
def moveE (E : List Acct) (s t : List UInt8) (n : Int) : Int × List Acct := match lookE E s, lookE E t with
  | some a, some b => if n ≤ a.bal then (0, setE (setE E s (a.bal - n)) t ((if t = s then a.bal - n else b.bal) + n)) else (5, E)
  | _, _ => (4, E)

theorem move_sum {E : List Acct} {s t : List UInt8} {a b : Acct} {n : Int} (hn : E.Pairwise (fun a b => a.name ≠ b.name)) (h1 : lookE E s = some a) (h2 : lookE E t = some b) :
    sumE (setE (setE E s (a.bal - n)) t ((if t = s then a.bal - n else b.bal) + n)) = sumE E := by
  have hn2 : (setE E s (a.bal - n)).Pairwise (fun a b => a.name ≠ b.name) := by
    unfold setE
    rw [List.pairwise_map]
    refine hn.imp fun {a b} hab => ?_
    split <;> split <;> exact hab
  have e1 := sum_set (x := a.bal - n) hn h1
  by_cases hts : t = s
  · subst hts
    rw [if_pos rfl]
    have e2 := sum_set (x := a.bal - n + n) hn2 (look_set h1)
    simp only at e2
    omega
  · rw [if_neg hts]
    have e2 := sum_set (x := b.bal + n) hn2 ((look_set_ne hts).trans h2)
    omega

theorem BookT.heap {w w' : World} {B M : Nat} {h seed tot : Int} {last : Option Addr} {E : List Acct} (hb : BookT w B M h seed last tot E) (e : w'.heap = w.heap) : BookT w' B M h seed last tot E := by
  refine ⟨by rw [e]; exact hb.blk, ?_, fun a ha => by rw [e]; exact hb.acc a ha, hb.apart, hb.pos⟩
  obtain ⟨es, cl, he, r⟩ := hb.own
  exact ⟨es, cl, by rw [e]; exact he, r⟩
theorem BookM.heap {w w' : World} {B M : Nat} {h seed : Int} {last : Option Addr} {E : List Acct} (hb : BookM w B M h seed last E) (e : w'.heap = w.heap) : BookM w' B M h seed last E := ⟨hb.toBookT.heap e, hb.sum⟩

set_option maxHeartbeats 1000000 in
set_option maxRecDepth 100000 in
theorem move_no {w : World} {B M : Nat} {h seed : Int} {last : Option Addr} {E : List Acct} (hb : BookM w B M h seed last E) (s t : ByteArray) (n : Int) (hs : s.size ≤ maxLen) (ht : t.size ≤ maxLen) (hno : lookE E s.data.toList = none ∨ lookE E t.data.toList = none) :
    Calls Try.prog 15 #[.pointer (some ⟨B, 0, none⟩), .string s, .string t, .int .u64 n] w fun e w' => e = .returned (.int .i64 4) ∧ BookM w' B M h seed last E ∧ Kept (blksE B M E) w w' := by
  have hl1 : ∀ d, _ := fun d => (hb.heap (w' := w.drewN d) rfl).look s hs
  have hl2 : ∀ d, _ := fun d => (hb.heap (w' := w.drewN d) rfl).look t ht
  obtain ⟨c2, _, _⟩ := hb.cells
  have HB := hide hb
  clear hb
  cases h1 : lookE E s.data.toList with
  | none =>
    rw [h1] at hl1
    replace hl1 : ∀ d, (Instr.lookup 61 (.map (some M)) (.string s) false).run Try.prog (w.drewN d) = .ok (.pointer none) (w.drewN d) := hl1
    generalize ptrOf (lookE E t.data.toList) = v2 at hl2
    clear h1 hno
    go_enter Try.func15, Try.ntmps15
    go_wp2_with fail
    go_quiet (fail)
    go_wp2
    go_ret
    exact ⟨rfl, (unhide HB).heap rfl, Kept.of_below (below_drewN (Below.refl _ _) _)⟩
  | some a =>
    have h2 : lookE E t.data.toList = none := by
      rcases hno with h | h
      · rw [h1] at h; cases h
      · exact h
    rw [h1] at hl1
    rw [h2] at hl2
    obtain ⟨nm, A, x⟩ := a
    replace hl1 : ∀ d, (Instr.lookup 61 (.map (some M)) (.string s) false).run Try.prog (w.drewN d) = .ok (.pointer (some ⟨A, 0, none⟩)) (w.drewN d) := hl1
    replace hl2 : ∀ d, (Instr.lookup 61 (.map (some M)) (.string t) false).run Try.prog (w.drewN d) = .ok (.pointer none) (w.drewN d) := hl2
    clear h1 h2 hno
    go_enter Try.func15, Try.ntmps15
    go_wp2_with fail
    go_quiet (fail)
    go_wp2
    go_ret
    exact ⟨rfl, (unhide HB).heap rfl, Kept.of_below (below_drewN (Below.refl _ _) _)⟩

set_option maxHeartbeats 1000000 in
set_option maxRecDepth 100000 in
theorem move_short {w : World} {B M : Nat} {h seed : Int} {last : Option Addr} {E : List Acct} (hb : BookM w B M h seed last E) (s t : ByteArray) (n : Int) (hs : s.size ≤ maxLen) (ht : t.size ≤ maxLen) (hn : 0 ≤ n) (hn2 : n < 18446744073709551616) {a b : Acct} (h1 : lookE E s.data.toList = some a) (h2 : lookE E t.data.toList = some b) (hc : ¬ n ≤ a.bal) :
    Calls Try.prog 15 #[.pointer (some ⟨B, 0, none⟩), .string s, .string t, .int .u64 n] w fun e w' => e = .returned (.int .i64 5) ∧ BookM w' B M h seed last E ∧ Kept (blksE B M E) w w' := by
  have hl1 : ∀ d, _ := fun d => (hb.heap (w' := w.drewN d) rfl).look s hs
  have hl2 : ∀ d, _ := fun d => (hb.heap (w' := w.drewN d) rfl).look t ht
  rw [h1] at hl1
  rw [h2] at hl2
  obtain ⟨c2, _, _⟩ := hb.cells
  have hmax := hb.sum
  have hle := le_sum hb.pos (lookE_name h1).1
  have HAd := fun w => hide (take_any a.bal n w (hb.pos _ (lookE_name h1).1) hn (by unfold maxS at hmax; omega) hn2)
  rw [decide_eq_false hc] at HAd
  have ca : w.cell? ⟨a.blk, 0, none⟩ = some (.int .u64 a.bal) := block_cell (hb.acc _ (lookE_name h1).1)
  have HB := hide hb
  generalize max a.bal n - n = cs at *
  clear hb h1 h2 hmax hle hc hn hn2
  obtain ⟨nm, A, x⟩ := a
  obtain ⟨nm2, A2, x2⟩ := b
  replace hl1 : ∀ d, (Instr.lookup 61 (.map (some M)) (.string s) false).run Try.prog (w.drewN d) = .ok (.pointer (some ⟨A, 0, none⟩)) (w.drewN d) := hl1
  replace hl2 : ∀ d, (Instr.lookup 61 (.map (some M)) (.string t) false).run Try.prog (w.drewN d) = .ok (.pointer (some ⟨A2, 0, none⟩)) (w.drewN d) := hl2
  simp only at ca HAd
  go_enter Try.func15, Try.ntmps15
  go_wp2_with fail
  go_quiet (fail)
  go_wp2_with fail
  refine (unhide (HAd _)).mono ?_
  rintro e w1 ⟨rfl, rfl⟩
  clear HAd
  go_wp2
  go_ret
  exact ⟨rfl, (unhide HB).heap rfl, Kept.of_below (below_drewN (Below.refl _ _) _)⟩

set_option maxHeartbeats 1000000 in
set_option maxRecDepth 100000 in
theorem move_yes {w : World} {B M : Nat} {h seed : Int} {last : Option Addr} {E : List Acct} (hb : BookM w B M h seed last E) (s t : ByteArray) (n : Int) (hs : s.size ≤ maxLen) (ht : t.size ≤ maxLen) (hn : 0 ≤ n) (hn2 : n < 18446744073709551616) {a b : Acct} (h1 : lookE E s.data.toList = some a) (h2 : lookE E t.data.toList = some b) (hc : n ≤ a.bal) :
    Calls Try.prog 15 #[.pointer (some ⟨B, 0, none⟩), .string s, .string t, .int .u64 n] w fun e w' => e = .returned (.int .i64 0) ∧ BookM w' B M h seed last (setE (setE E s.data.toList (a.bal - n)) t.data.toList ((if t.data.toList = s.data.toList then a.bal - n else b.bal) + n)) ∧ Kept (blksE B M E) w w' := by
  have hl1 : ∀ d, _ := fun d => (hb.heap (w' := w.drewN d) rfl).look s hs
  have hl2 : ∀ d, _ := fun d => (hb.heap (w' := w.drewN d) rfl).look t ht
  rw [h1] at hl1
  rw [h2] at hl2
  obtain ⟨c2, _, _⟩ := hb.cells
  have hmax := hb.sum
  have hle := le_sum hb.pos (lookE_name h1).1
  have hle2 := le_sum hb.pos (lookE_name h2).1
  have hpos2 := hb.pos _ (lookE_name h2).1
  have HAd := fun w => hide (take_any a.bal n w (hb.pos _ (lookE_name h1).1) hn (by unfold maxS at hmax; omega) hn2)
  rw [decide_eq_true hc, show max a.bal n - n = a.bal - n by omega] at HAd
  have hac := hb.acc _ (lookE_name h1).1
  have hbc := hb.acc _ (lookE_name h2).1
  have ca : w.cell? ⟨a.blk, 0, none⟩ = some (.int .u64 a.bal) := block_cell hac
  have fa : w.frozen? ⟨a.blk, 0, none⟩ = false := block_free hac
  have cb : w.cell? ⟨b.blk, 0, none⟩ = some (.int .u64 b.bal) := block_cell hbc
  have fb : w.frozen? ⟨b.blk, 0, none⟩ = false := block_free hbc
  have hsum := move_sum (n := n) hb.names h1 h2
  by_cases hts : t.data.toList = s.data.toList
  · rw [if_pos hts] at hsum ⊢
    have hab : b = a := by rw [hts, h1] at h2; exact (Option.some.inj h2).symm
    subst hab
    have ex : b.bal - n + n = b.bal := by omega
    rw [ex] at hsum ⊢
    have HE : ∀ d, Hid (BookM (((w.drewN d).setCell ⟨b.blk, 0, none⟩ (.int .u64 (b.bal - n))).setCell ⟨b.blk, 0, none⟩ (.int .u64 b.bal)) B M h seed last (setE (setE E s.data.toList (b.bal - n)) t.data.toList b.bal) ∧ Kept (blksE B M E) w (((w.drewN d).setCell ⟨b.blk, 0, none⟩ (.int .u64 (b.bal - n))).setCell ⟨b.blk, 0, none⟩ (.int .u64 b.bal))) := fun d => by
      have q1 := (hb.toBookT.heap (w' := w.drewN d) rfl).put h1 (x := b.bal - n) (by omega)
      have h2' : lookE (setE E s.data.toList (b.bal - n)) t.data.toList = some { b with bal := b.bal - n } := by rw [hts]; exact look_set h1
      have q2 := q1.put h2' (x := b.bal) hpos2
      have hm1 : b.blk ∈ blksE B M E := by simp only [blksE, List.mem_cons]; exact .inr (.inr (List.mem_map_of_mem (lookE_name h1).1))
      exact ⟨⟨by rw [hsum]; exact q2, by rw [hsum]; exact hb.sum⟩, ((Kept.of_below (below_drewN (Below.refl _ _) _)).trans (Kept.setCell hm1 _)).trans (Kept.setCell hm1 _)⟩
    have hwr : IntKind.u64.wrap b.bal = b.bal := by rw [IntKind.wrap_u64]; unfold maxS at hmax; omega
    clear ex
    clear hb h1 h2 hmax hle hle2 hpos2 hc hn hn2 hac hbc hsum hts
    obtain ⟨nm, A, x⟩ := b
    replace hl1 : ∀ d, (Instr.lookup 61 (.map (some M)) (.string s) false).run Try.prog (w.drewN d) = .ok (.pointer (some ⟨A, 0, none⟩)) (w.drewN d) := hl1
    replace hl2 : ∀ d, (Instr.lookup 61 (.map (some M)) (.string t) false).run Try.prog (w.drewN d) = .ok (.pointer (some ⟨A, 0, none⟩)) (w.drewN d) := hl2
    simp only at ca fa cb fb HAd HE hwr ⊢
    go_enter Try.func15, Try.ntmps15
    go_wp2_with fail
    go_quiet (fail)
    go_wp2_with fail
    refine (unhide (HAd _)).mono ?_
    rintro e w1 ⟨rfl, rfl⟩
    clear HAd
    go_wp2
    go_ret
    exact ⟨rfl, unhide (HE _)⟩
  · rw [if_neg hts] at hsum ⊢
    have hne : b.blk ≠ a.blk := fun e => by
      have := pw_inj hb.apart (lookE_name h2).1 (lookE_name h1).1 e
      rw [this] at h2
      exact hts ((lookE_name h2).2.symm.trans (lookE_name h1).2)
    have HE : ∀ d, Hid (BookM (((w.drewN d).setCell ⟨a.blk, 0, none⟩ (.int .u64 (a.bal - n))).setCell ⟨b.blk, 0, none⟩ (.int .u64 (b.bal + n))) B M h seed last (setE (setE E s.data.toList (a.bal - n)) t.data.toList (b.bal + n)) ∧ Kept (blksE B M E) w (((w.drewN d).setCell ⟨a.blk, 0, none⟩ (.int .u64 (a.bal - n))).setCell ⟨b.blk, 0, none⟩ (.int .u64 (b.bal + n)))) := fun d => by
      have q1 := (hb.toBookT.heap (w' := w.drewN d) rfl).put h1 (x := a.bal - n) (by omega)
      have q2 := q1.put ((look_set_ne hts).trans h2) (x := b.bal + n) (by omega)
      have hm1 : a.blk ∈ blksE B M E := by simp only [blksE, List.mem_cons]; exact .inr (.inr (List.mem_map_of_mem (lookE_name h1).1))
      have hm2 : b.blk ∈ blksE B M E := by simp only [blksE, List.mem_cons]; exact .inr (.inr (List.mem_map_of_mem (lookE_name h2).1))
      exact ⟨⟨by rw [hsum]; exact q2, by rw [hsum]; exact hb.sum⟩, ((Kept.of_below (below_drewN (Below.refl _ _) _)).trans (Kept.setCell hm1 _)).trans (Kept.setCell hm2 _)⟩
    have hwr : IntKind.u64.wrap (b.bal + n) = b.bal + n := by rw [IntKind.wrap_u64]; unfold maxS at hmax; omega
    clear hb h1 h2 hmax hle hle2 hpos2 hc hn hn2 hac hbc hsum hts
    obtain ⟨nm, A, x⟩ := a
    obtain ⟨nm2, A2, x2⟩ := b
    replace hl1 : ∀ d, (Instr.lookup 61 (.map (some M)) (.string s) false).run Try.prog (w.drewN d) = .ok (.pointer (some ⟨A, 0, none⟩)) (w.drewN d) := hl1
    replace hl2 : ∀ d, (Instr.lookup 61 (.map (some M)) (.string t) false).run Try.prog (w.drewN d) = .ok (.pointer (some ⟨A2, 0, none⟩)) (w.drewN d) := hl2
    simp only at ca fa cb fb HAd HE hwr hne ⊢
    go_enter Try.func15, Try.ntmps15
    go_wp2_with fail
    go_quiet (fail)
    go_wp2_with fail
    refine (unhide (HAd _)).mono ?_
    rintro e w1 ⟨rfl, rfl⟩
    clear HAd
    go_wp2
    go_ret
    exact ⟨rfl, unhide (HE _)⟩

theorem move_any {w : World} {B M : Nat} {h seed : Int} {last : Option Addr} {E : List Acct} (hb : BookM w B M h seed last E) (s t : ByteArray) (n : Int) (hs : s.size ≤ maxLen) (ht : t.size ≤ maxLen) (hn : 0 ≤ n) (hn2 : n < 18446744073709551616) :
    Calls Try.prog 15 #[.pointer (some ⟨B, 0, none⟩), .string s, .string t, .int .u64 n] w fun e w' => e = .returned (.int .i64 (moveE E s.data.toList t.data.toList n).1) ∧ BookM w' B M h seed last (moveE E s.data.toList t.data.toList n).2 ∧ Kept (blksE B M E) w w' := by
  cases h1 : lookE E s.data.toList with
  | none =>
    have e : moveE E s.data.toList t.data.toList n = (4, E) := by unfold moveE; rw [h1]
    rw [e]
    exact move_no hb s t n hs ht (.inl h1)
  | some a =>
    cases h2 : lookE E t.data.toList with
    | none =>
      have e : moveE E s.data.toList t.data.toList n = (4, E) := by unfold moveE; rw [h1, h2]
      rw [e]
      exact move_no hb s t n hs ht (.inr h2)
    | some b =>
      by_cases hc : n ≤ a.bal
      · have e : moveE E s.data.toList t.data.toList n = (0, setE (setE E s.data.toList (a.bal - n)) t.data.toList ((if t.data.toList = s.data.toList then a.bal - n else b.bal) + n)) := by unfold moveE; rw [h1, h2]; exact if_pos hc
        rw [e]
        exact move_yes hb s t n hs ht hn hn2 h1 h2 hc
      · have e : moveE E s.data.toList t.data.toList n = (5, E) := by unfold moveE; rw [h1, h2]; exact if_neg hc
        rw [e]
        exact move_short hb s t n hs ht hn hn2 h1 h2 hc

end Go.Proofs.Ytbjobbkgelipmaa

/-
  The walks of tithe's Close and New.
-/
namespace Go.Proofs.Ytbjobbkgelipmaa
open Go.RowKit Go.Maps Go.WideMaps Go.MapKept Go.ChangeMaps

def remE (E : List Acct) (s : List UInt8) : List Acct := E.filter fun a => !(a.name == s)
theorem datE_rem (s : List UInt8) (E : List Acct) : (datE E).del (.string s) = datE (remE E s) := by
  unfold datE DataW.del remE
  simp only
  rw [List.filter_map]
  congr 1
theorem sum_rem {s : List UInt8} : ∀ {E : List Acct} {a : Acct}, E.Pairwise (fun a b => a.name ≠ b.name) → lookE E s = some a → sumE (remE E s) = sumE E - a.bal
  | [], a, _, h => by cases h
  | b :: E, a, hp, h => by
    rw [List.pairwise_cons] at hp
    unfold lookE at h
    rw [List.find?_cons] at h
    cases hb : (b.name == s)
    · rw [hb] at h
      have ih := sum_rem hp.2 (show lookE E s = some a from h)
      have e : remE (b :: E) s = b :: remE E s := by simp [remE, hb]
      rw [e]
      unfold sumE at *
      simp only [List.map_cons, List.sum_cons]
      omega
    · rw [hb] at h
      have hab : b = a := by simpa using h
      subst hab
      have hbs : b.name = s := by simpa using hb
      have e : remE (b :: E) s = E := by
        unfold remE
        rw [List.filter_cons_of_neg (by simp [hb])]
        rw [List.filter_eq_self]
        intro c hc
        have := hp.1 c hc
        rw [hbs] at this
        simp
        exact fun e => this e.symm
      rw [e]
      unfold sumE
      simp only [List.map_cons, List.sum_cons]
      omega
theorem own_tight {H : Type} {P : Program} {w : World} {k : TypeId} {R : Value → Option (DataW H × List MemPlace)} {b n : Nat} {D : DataW H} (h : w.ownsMap P k R b n D) : w.ownsMap P k R b (Maps.size D) D := by
  obtain ⟨es, clock, hb, F, _, rfl⟩ := h
  exact ⟨es, clock, hb, F, by simp [Maps.size, length_sorted], rfl⟩
theorem Kept.turned {S : List Nat} {w w' : World} {b : Nat} (h : w.mapTurned w' b) (hb : b ∈ S) : Kept S w w' := by
  obtain ⟨es, cl, es', cl', he, rfl⟩ := h
  exact ⟨rfl, rfl, rfl, by simp [setBlock], fun k _ hk => heap_setBlock_other he _ (fun e => hk (by rw [e]; exact hb))⟩

/-- What Close answers and does. -/
def closeE (E : List Acct) (s : List UInt8) : Int × List Acct := match lookE E s with
  | none => (4, E)
  | some a => if a.bal = 0 then (0, remE E s) else (6, E)

theorem BookM.close {w w' : World} {B M : Nat} {h seed : Int} {last : Option Addr} {E : List Acct} (hb : BookM w B M h seed last E) {a : Acct} {s : List UInt8} (hk : lookE E s = some a) (h0 : a.bal = 0) {n : Nat}
    (hown : w'.ownsMap Try.prog 9 ptrElem M n ((datE E).del (.string s))) (ht : w.mapTurned w' M) : BookM w' B M h seed last (remE E s) := by
  have hsum := sum_rem hb.names hk
  have hK : Kept [M] w w' := Kept.turned ht (by simp)
  have hMB : ∀ (k : Nat) (cs : Array Value) (t : TypeId) (f : Nat × Nat), w.heap[k]? = some (.cells cs t f) → w'.heap[k]? = some (.cells cs t f) := fun k cs t f hk => by
    obtain ⟨es, cl, he, _⟩ := hb.own
    rw [hK.block k (Array.getElem?_eq_some_iff.1 hk).1 (by simp; intro e; rw [e, he] at hk; cases hk)]
    exact hk
  refine ⟨⟨?_, ?_, fun b hbm => hMB _ _ _ _ (hb.acc b (List.mem_filter.1 hbm).1), hb.apart.filter _, fun b hbm => hb.pos b (List.mem_filter.1 hbm).1⟩, by have := hb.sum; omega⟩
  · rw [show sumE (remE E s) = sumE E by omega]; exact hMB _ _ _ _ hb.blk
  · rw [datE_rem] at hown
    have := own_tight hown
    simpa [datE, Maps.size] using this

set_option maxHeartbeats 400000 in
set_option maxRecDepth 100000 in
theorem close_any {w : World} {B M : Nat} {h seed : Int} {last : Option Addr} {E : List Acct} (hb : BookM w B M h seed last E) (s : ByteArray) (hs : s.size ≤ maxLen) :
    Calls Try.prog 16 #[.pointer (some ⟨B, 0, none⟩), .string s] w fun e w' => e = .returned (.int .i64 (closeE E s.data.toList).1) ∧ BookM w' B M h seed last (closeE E s.data.toList).2 ∧ Kept (blksE B M E) w w' := by
  have hl := hb.look s hs
  obtain ⟨c2, _, _⟩ := hb.cells
  unfold closeE
  cases hk : lookE E s.data.toList with
  | none =>
    rw [hk] at hl
    replace hl : (Instr.lookup 61 (.map (some M)) (.string s) false).run Try.prog w = .ok (.pointer none) w := hl
    have HB := hide hb
    clear hb hk
    go_enter Try.func16, Try.ntmps16
    go_wp2
    go_ret
    exact ⟨rfl, unhide HB, Kept.refl _ _⟩
  | some a =>
    rw [hk] at hl
    have ca : w.cell? ⟨a.blk, 0, none⟩ = some (.int .u64 a.bal) := block_cell (hb.acc _ (lookE_name hk).1)
    replace hl : (Instr.lookup 61 (.map (some M)) (.string s) false).run Try.prog w = .ok (.pointer (some ⟨a.blk, 0, none⟩)) w := hl
    by_cases h0 : a.bal = 0
    · show Calls _ _ _ _ fun e w' => e = .returned (.int .i64 (if a.bal = 0 then (0, remE E s.data.toList) else (6, E)).1) ∧ BookM w' B M h seed last (if a.bal = 0 then (0, remE E s.data.toList) else (6, E)).2 ∧ _
      rw [if_pos h0]
      obtain ⟨w1, hrun, hown1, hturn1⟩ := hb.own.drop Try.lawS Try.undAcc (keyOf_string_mk Try.underlying9 hs) 0
      have HE := hide (And.intro (hb.close hk h0 hown1 hturn1) (Kept.turned (S := blksE B M E) hturn1 (by simp [blksE])))
      rw [h0] at ca
      generalize a.blk = A at *
      clear hb hk hown1 hturn1
      go_enter Try.func16, Try.ntmps16
      go_wp2
      go_ret
      exact ⟨rfl, unhide HE⟩
    · show Calls _ _ _ _ fun e w' => e = .returned (.int .i64 (if a.bal = 0 then (0, remE E s.data.toList) else (6, E)).1) ∧ BookM w' B M h seed last (if a.bal = 0 then (0, remE E s.data.toList) else (6, E)).2 ∧ _
      rw [if_neg h0]
      have HB := hide hb
      have h0' : (a.bal != 0) = true := by simp [h0]
      generalize a.blk = A at *
      generalize a.bal = x at *
      clear hb hk h0
      go_enter Try.func16, Try.ntmps16
      go_wp2
      go_ret
      exact ⟨rfl, unhide HB, Kept.refl _ _⟩

end Go.Proofs.Ytbjobbkgelipmaa

/-
  strings.Clone: the library's contract, at this program's numbers.
-/
namespace Go.Proofs.Ytbjobbkgelipmaa
open Go.RowKit Go.Shelf

def cloneF (n : FuncId) : FuncId := if n = 25 then 39 else 0
def cloneT (n : TypeId) : TypeId := if n = 3 then 3 else if n = 4 then 4 else if n = 5 then 5 else if n = 9 then 9 else if n = 37 then 43 else if n = 47 then 126 else 0
def cloneRen : Ren := ⟨cloneF, cloneT, fun n => n⟩

theorem Try.laysClone : LaysPu.n25 Try.prog cloneRen := {
  mixed := by kernel_rfl,
  f25 := by kernel_rfl,
  t0 := by kernel_rfl,
  a0 := fun _ => by kernel_rfl,
  z0 := fun _ => by kernel_rfl,
  v0 := fun _ => by kernel_rfl,
  i0 := by kernel_rfl,
  t3 := by kernel_rfl,
  a3 := fun _ => by kernel_rfl,
  z3 := fun _ => by kernel_rfl,
  v3 := fun _ => by kernel_rfl,
  i3 := by kernel_rfl,
  t4 := by kernel_rfl,
  a4 := fun _ => by kernel_rfl,
  z4 := fun _ => by kernel_rfl,
  v4 := fun _ => by kernel_rfl,
  i4 := by kernel_rfl,
  t5 := by kernel_rfl,
  a5 := fun _ => by kernel_rfl,
  z5 := fun _ => by kernel_rfl,
  v5 := fun _ => by kernel_rfl,
  i5 := by kernel_rfl,
  t9 := by kernel_rfl,
  a9 := fun _ => by kernel_rfl,
  z9 := fun _ => by kernel_rfl,
  v9 := fun _ => by kernel_rfl,
  i9 := by kernel_rfl,
  t37 := by kernel_rfl,
  a37 := fun _ => by kernel_rfl,
  z37 := fun _ => by kernel_rfl,
  v37 := fun _ => by kernel_rfl,
  i37 := by kernel_rfl,
  t47 := by kernel_rfl,
  a47 := fun _ => by kernel_rfl,
  z47 := fun _ => by kernel_rfl,
  v47 := fun _ => by kernel_rfl,
  i47 := by kernel_rfl }

set_option maxHeartbeats 400000 in
theorem clone_any (s : ByteArray) (w : World) (hs : s.size ≤ 281474976710656) :
    Calls Try.prog 25 #[.string s] w fun e w' => e = .returned (.string s) ∧ Below w.heap.size w w' := by
  have HC : ∀ w, Hid (Calls Try.prog 39 #[.string s] w fun e w' => e = .returned (.string s) ∧ Below w.heap.size w w') := fun w => AnyPu.stringslite_Clone Try.laysClone s w hs
  go_enter Try.func25, Try.ntmps25
  go_wp2_with fail
  refine (unhide (HC _)).mono ?_
  rintro e w1 ⟨rfl, hb⟩
  have HB := hide hb
  clear hb HC
  go_wp2
  go_ret
  exact ⟨rfl, unhide HB⟩

end Go.Proofs.Ytbjobbkgelipmaa

/-
  The walk of tithe's appendNumber.
-/
namespace Go.Proofs.Ytbjobbkgelipmaa
open Go.RowKit

/-- Blocks that are no bytes stay. -/
def KeepT (w w' : World) : Prop := ∀ (A : Nat) (cur : Array Value) (t : TypeId) (f : Nat × Nat), w.heap[A]? = some (.cells cur t f) → t ≠ 5 → w'.heap[A]? = some (.cells cur t f)
theorem KeepT.refl (w : World) : KeepT w w := fun _ _ _ _ h _ => h
theorem KeepT.trans {a b c : World} (h : KeepT a b) (h2 : KeepT b c) : KeepT a c := fun A cur t f hA ht => h2 A cur t f (h A cur t f hA ht) ht
theorem KeepT.below {a b : World} (h : Below a.heap.size a b) : KeepT a b := fun A _ _ _ hA _ => (h.block A (Array.getElem?_eq_some_iff.1 hA).1).trans hA
theorem KeepT.alloc {a b : World} (h : KeepT a b) (o : Obj) : KeepT a (b.alloc o) := h.trans (KeepT.below ((Below.refl _ _).alloc (Nat.le_refl _) _))
theorem KeepT.drew {a b : World} (h : KeepT a b) : KeepT a b.drew := h
theorem own_ne {w : World} {base n : Nat} {v : Value} {xs : List Value} (h : w.ownsRow base 5 1 v n xs) {A : Nat} {cur : Array Value} {t : TypeId} {f : Nat × Nat} (hA : w.heap[A]? = some (.cells cur t f)) (ht : t ≠ 5) : v.ownBlock ≠ some A := by
  rcases h.2 with ⟨rfl, _⟩ | ⟨g, cap, cur', rfl, _, hg, _⟩
  · intro h; cases h
  · intro h
    have e : some g = some A := h
    rw [Option.some.inj e, hA] at hg
    simp only [Option.some.injEq, Obj.cells.injEq] at hg
    exact ht hg.2.1
theorem KeepT.grown {a b c : World} {base n : Nat} {v : Value} {xs : List Value} (h : KeepT a b) (ho : b.ownsRow base 5 1 v n xs) (hg : b.grownBy c v.ownBlock) : KeepT a c := by
  intro A cur t f hA ht
  have h1 := h A cur t f hA ht
  rw [hg.block A (Array.getElem?_eq_some_iff.1 h1).1 (fun e => own_ne ho h1 ht e.symm)]
  exact h1

theorem appnum_step (x : Int) (k n base : Nat) (z : Int) (xs : List Value) (v v' : Value) (w wr w1 : World) (hlt : k < 8) (hz : z = 56 - 8 * (k : Int)) (hbase : base ≤ w.heap.size) (hown : wr.ownsRow base 5 1 v (n + k) (xs ++ byteVals ((longB x).take k))) (hbel : Below base w wr) (hkp : KeepT w wr)
    (hown1 : w1.ownsRow base 5 1 v' (n + k + 1) (xs ++ (byteVals ((longB x).take k) ++ [.int .u8 (x / 2 ^ z.toNat % 256)])))
    (hg : (wr.alloc (Obj.cells #[Value.int IntKind.u8 (x / 2 ^ z.toNat % 256)] 5)).grownBy w1 v.ownBlock) :
    w1.ownsRow base 5 1 v' (n + (k + 1)) (xs ++ byteVals ((longB x).take (k + 1))) ∧ Below base w w1 ∧ KeepT w w1 := by
  have hsz := hbel.size
  refine ⟨?_, ?_, (hkp.alloc _).grown (hown.alloc _) hg⟩
  · rw [longB_take_snoc x k hlt, byteVals_snoc]
    have e : ((longAt x k).toNat : Int) = x / 2 ^ z.toNat % 256 := by
      unfold longAt
      rw [lowByte_toNat, show z.toNat = 8 * (7 - k) by omega]
    rw [e]; exact hown1
  · refine (hbel.alloc (by omega) _).grown hg (by simp; omega) ?_
    intro b hb
    exact (hown.lt b hb).1

set_option maxRecDepth 100000 in
set_option maxHeartbeats 400000 in
theorem appnum_any (base n : Nat) (v0 : Value) (xs : List Value) (x : Int) (w : World) (_h0 : 0 ≤ x) (h1 : x < 18446744073709551616) (hown0 : w.ownsRow base 5 1 v0 n xs) (hbase : base ≤ w.heap.size) (hn : n + 8 ≤ 140737488355328) :
    Calls Try.prog 55 #[v0, .int .u64 x] w fun e w' => (∃ v', e = .returned v' ∧ w'.ownsRow base 5 1 v' (n + 8) (xs ++ byteVals (longB x))) ∧ Below base w w' ∧ KeepT w w' := by
  obtain ⟨i0, hi, hz0, hz1, hz2⟩ := info_parts Try.infoByte
  have H0 := hide hown0
  have H1 := hide h1
  clear h1 hown0
  go_enter Try.func55, Try.ntmps55
  go_wp2
  go_loopw [0, 5] (fun v i wr => ∃ (k : Nat) (z : Int), k ≤ 8 ∧ z = 56 - 8 * (k : Int) ∧ i = .int .i64 z ∧ wr.ownsRow base 5 1 v (n + k) (xs ++ byteVals ((longB x).take k)) ∧ Below base w wr ∧ KeepT w wr) (fun _ i _ => (intOf i + 8).toNat)
  case atStart => exact ⟨0, 56, Nat.zero_le _, rfl, rfl, by simpa [byteVals] using unhide H0, Below.refl _ _, KeepT.refl _⟩
  case round =>
    obtain ⟨k, z, hk, hz, rfl, hown, hbel, hkp⟩ := hrel
    have Hown := hide hown
    have Hbel := hide hbel
    have hsz := hbel.size
    have Hkp := hide hkp
    clear hown hbel hkp
    by_cases hlt : k < 8
    · have hz0' : 0 ≤ z := by omega
      have hz7 : z ≤ 56 := by omega
      have Hz := hide hz
      clear hz
      go_wp2_with (at_builtin; refine wpList_append_own _ rfl (.tmp 10) (.tmp 15) 43 rfl base 5 i0 (.int .u8 0) 1 1 Try.underlying43 hi hz0 hz1 hz2 rfl (by decide) _ _ _ rfl ((unhide Hown).alloc _) ⟨wr.heap.size, 0, none⟩ 1 1 [_] rfl rfl (cell_one_new _ _ _) ?c2 ?c3 ?c4 ?c5 ?_)
      case c2 => intro u hu; simp at hu; subst hu; rfl
      case c3 => unfold maxLen; omega
      case c4 => omega
      case c5 => simp; omega
      intro v' w1 hown1 hgrow1 _
      have R := hide (appnum_step x k n base z xs _ _ _ _ _ hlt (unhide Hz) hbase (unhide Hown) (unhide Hbel) (unhide Hkp) hown1 hgrow1)
      clear hown1 hgrow1 Hown Hbel Hkp
      go_wp2
      go_roundw
      case rel => exact ⟨k + 1, z - 8, by omega, by have := unhide Hz; omega, rfl, (unhide R).1, (unhide R).2.1, (unhide R).2.2⟩
      case measure => simp [intOf]; omega
    · have hk8 : k = 8 := by omega
      subst hk8
      have hzz : z = -8 := by omega
      subst hzz
      have e8 : (longB x).take 8 = longB x := List.take_of_length_le (by rw [longB_length]; exact Nat.le_refl _)
      rw [e8] at Hown
      go_wp2
      go_ret
      exact ⟨⟨_, rfl, unhide Hown⟩, unhide Hbel, unhide Hkp⟩

end Go.Proofs.Ytbjobbkgelipmaa

/-
  The walk of tithe's appendSide.
-/
namespace Go.Proofs.Ytbjobbkgelipmaa
open Go.RowKit

set_option maxRecDepth 100000 in
set_option maxHeartbeats 400000 in
theorem appside_any (base n : Nat) (v0 : Value) (xs : List Value) (d : Dg) (x : Int) (w : World) (h0 : 0 ≤ x) (h1 : x < 18446744073709551616) (hown0 : w.ownsRow base 5 1 v0 n xs) (hbase : base ≤ w.heap.size) (hn : n + 11 ≤ 140737488355328) :
    Calls Try.prog 43 #[v0, sideV d x] w fun e w' => (∃ v', e = .returned v' ∧ w'.ownsRow base 5 1 v' (n + 11) (xs ++ byteVals (sideB (d, x)))) ∧ Below base w w' ∧ KeepT w w' := by
  obtain ⟨i0, hi, hz0, hz1, hz2⟩ := info_parts Try.infoByte
  obtain ⟨a0, a1, a2⟩ := d
  obtain ⟨d0, hd0⟩ : ∃ d : Int, (a0.toNat : Int) = d := ⟨_, rfl⟩
  obtain ⟨d1, hd1⟩ : ∃ d : Int, (a1.toNat : Int) = d := ⟨_, rfl⟩
  obtain ⟨d2, hd2⟩ : ∃ d : Int, (a2.toNat : Int) = d := ⟨_, rfl⟩
  have hD : sideV (a0, a1, a2) x = .agg #[.int .u8 d0, .int .u8 d1, .int .u8 d2, .int .u64 x] := by rw [← hd0, ← hd1, ← hd2]; rfl
  have HE : Hid (xs ++ byteVals (sideB ((a0, a1, a2), x)) = (xs ++ [.int .u8 d0, .int .u8 d1, .int .u8 d2]) ++ byteVals (longB x)) := by
    rw [← hd0, ← hd1, ← hd2]; refine hide ?_; simp [sideB, byteVals, dgB]
  rw [hD]
  have H0 := hide hown0
  have HC := fun (v : Value) (ys : List Value) (w : World) (ho : w.ownsRow base 5 1 v (n + 3) ys) (hb : base ≤ w.heap.size) => hide (appnum_any base (n + 3) v ys x w h0 h1 ho hb (by omega))
  clear hD hown0 hd0 hd1 hd2 h0 h1
  go_enter Try.func43, Try.ntmps43
  go_wp2_with (at_builtin; refine wpList_append_own _ rfl (.tmp 5) (.tmp 7) 43 rfl base 5 i0 (.int .u8 0) 1 1 Try.underlying43 hi hz0 hz1 hz2 rfl (by decide) _ _ _ rfl ((unhide H0).alloc _) ⟨w.heap.size, 0, none⟩ 3 3 [.int .u8 d0, .int .u8 d1, .int .u8 d2] rfl rfl ?c1 ?c2 ?c3 ?c4 ?c5 ?_)
  case c1 =>
    intro j u hu
    match j, hu with
    | 0, hu => simp at hu; subst hu; simp [addr_add]
    | 1, hu => simp at hu; subst hu; simp [addr_add]
    | 2, hu => simp at hu; subst hu; simp [addr_add]
  case c2 => intro u hu; simp at hu; rcases hu with rfl | rfl | rfl <;> rfl
  case c3 => unfold maxLen; omega
  case c4 => omega
  case c5 => simp; omega
  intro v' w1 hown1 hgrow1 _
  have hsz : w.heap.size < w1.heap.size := by have := hgrow1.size; simp at this; omega
  have hb1 : Below base w w1 := by
    refine ((Below.refl base w).alloc hbase _).grown hgrow1 (by simp; omega) ?_
    intro b hb
    exact ((unhide H0).lt b hb).1
  have hx3 : w1.cell? ⟨w.heap.size, 3, none⟩ = some (.int .u64 x) := by
    rw [World.cell?_of_block (w := w.alloc _) (hgrow1.block w.heap.size (by simp) (fun e => by have := ((unhide H0).lt _ e.symm).2; omega))]
    simp
  have HB1 := hide (And.intro hb1 (((KeepT.refl w).alloc _).grown ((unhide H0).alloc _) hgrow1))
  have HR := hide (HC v' _ w1 hown1 (by omega))
  clear hown1 hgrow1 hb1 H0 HC
  go_wp2_with fail
  refine (unhide (unhide HR)).mono ?_
  rintro e w2 ⟨⟨v2, rfl, hown2⟩, hb2, hk2⟩
  have HO := hide (And.intro hown2 (And.intro ((unhide HB1).1.trans hb2) ((unhide HB1).2.trans hk2)))
  clear hown2 hb2 hk2 HR HB1
  go_wp2
  go_ret
  refine ⟨⟨_, rfl, ?_⟩, (unhide HO).2⟩
  rw [unhide HE]
  exact (unhide HO).1

end Go.Proofs.Ytbjobbkgelipmaa

/-
  The walk of tithe's nodeText.
-/
namespace Go.Proofs.Ytbjobbkgelipmaa
open Go.RowKit

theorem Quad.belowB {W w4 : World} {A B : Nat} {d0 d1 d2 n : Int} (h : Quad W A d0 d1 d2 n) (hlt : A < B) (hb : Below B W w4) : Quad w4 A d0 d1 d2 n :=
  ⟨(hb.cell (p := ⟨A, 0, none⟩) hlt).trans h.1, (hb.cell (p := ⟨A, 1, none⟩) hlt).trans h.2.1, (hb.cell (p := ⟨A, 2, none⟩) hlt).trans h.2.2.1, (hb.cell (p := ⟨A, 3, none⟩) hlt).trans h.2.2.2⟩
theorem own_lower {w : World} {b b' : Nat} {e : TypeId} {v : Value} {n : Nat} {xs : List Value} (h : w.ownsRow b e 1 v n xs) (hb : b' ≤ b) : w.ownsRow b' e 1 v n xs := by
  refine ⟨h.1, ?_⟩
  rcases h.2 with h0 | ⟨g, cap, cur, hv, hg, r⟩
  · exact .inl h0
  · exact .inr ⟨g, cap, cur, hv, by omega, r⟩

set_option maxRecDepth 100000 in
set_option maxHeartbeats 400000 in
theorem nodetext_any (d d' : Dg) (x x' : Int) (w : World) (h0 : 0 ≤ x) (h1 : x < 18446744073709551616) (h0' : 0 ≤ x') (h1' : x' < 18446744073709551616) :
    Calls Try.prog 71 #[sideV d x, sideV d' x'] w fun e w' => (∃ v', e = .returned v' ∧ w'.ownsRow w.heap.size 5 1 v' 23 (byteVals (1 :: (sideB (d, x) ++ sideB (d', x'))))) ∧ Below w.heap.size w w' := by
  obtain ⟨i0, hi, hz0, hz1, hz2⟩ := info_parts Try.infoByte
  have HC1 := fun (v : Value) (ys : List Value) (w' : World) (ho : w'.ownsRow (w.heap.size + 2) 5 1 v 1 ys) (hb : w.heap.size + 2 ≤ w'.heap.size) => hide (appside_any (w.heap.size + 2) 1 v ys d x w' h0 h1 ho hb (by omega))
  have HC2 := fun (v : Value) (ys : List Value) (w' : World) (ho : w'.ownsRow (w.heap.size + 2) 5 1 v 12 ys) (hb : w.heap.size + 2 ≤ w'.heap.size) => hide (appside_any (w.heap.size + 2) 12 v ys d' x' w' h0' h1' ho hb (by omega))
  clear h0 h1 h0' h1'
  have HE : Hid (byteVals (1 :: (sideB (d, x) ++ sideB (d', x'))) = (([] ++ [Value.int .u8 1]) ++ byteVals (sideB (d, x))) ++ byteVals (sideB (d', x'))) := by
    refine hide ?_; simp [byteVals]
  generalize byteVals (1 :: (sideB (d, x) ++ sideB (d', x'))) = ALL at *
  generalize byteVals (sideB (d, x)) = Y1 at *
  generalize byteVals (sideB (d', x')) = Y2 at *
  unfold sideV at *
  generalize (d.1.toNat : Int) = a0 at *
  generalize (d.2.1.toNat : Int) = a1 at *
  generalize (d.2.2.toNat : Int) = a2 at *
  generalize (d'.1.toNat : Int) = b0 at *
  generalize (d'.2.1.toNat : Int) = b1 at *
  generalize (d'.2.2.toNat : Int) = b2 at *
  go_enter Try.func71, Try.ntmps71
  go_wp2_with (at_make; refine wpList_make_own _ rfl _ _ 43 rfl (w.heap.size + 2) 5 i0 (.int .u8 0) 1 Try.underlying43 hi hz0 hz1 _ _ _ 23 rfl rfl rfl (by rw [hz2]; omega) (by unfold maxLen; omega) (by simp) ?_)
  intro w1 hown1 hgrow1
  try simp only [World.size_alloc] at hown1
  try simp only [World.size_alloc]
  generalize hW0 : ((w.alloc (Obj.cells #[Value.int IntKind.u8 a0, Value.int IntKind.u8 a1, Value.int IntKind.u8 a2, Value.int IntKind.u64 x] 88)).alloc (Obj.cells #[Value.int IntKind.u8 b0, Value.int IntKind.u8 b1, Value.int IntKind.u8 b2, Value.int IntKind.u64 x'] 88)) = W0 at *
  have hz : W0.heap.size = w.heap.size + 2 := by rw [← hW0]; simp
  have hBW : Below w.heap.size w W0 := by rw [← hW0]; exact ((Below.refl _ _).alloc (Nat.le_refl _) _).alloc (by simp) _
  have hQ1 : Quad W0 w.heap.size a0 a1 a2 x := by rw [← hW0]; exact ⟨by simp, by simp, by simp, by simp⟩
  have hQ2 : Quad W0 (w.heap.size + 1) b0 b1 b2 x' := by rw [← hW0]; exact ⟨by simp, by simp, by simp, by simp⟩
  have hB1 : Below (w.heap.size + 2) W0 w1 := (Below.refl _ _).grown hgrow1 (by omega) (fun b hb => by cases hb)
  have hQ1' := hQ1.belowB (by omega) hB1
  have hQ2' := hQ2.belowB (by omega) hB1
  have hz1' : w.heap.size + 2 ≤ w1.heap.size := by have := hB1.size; omega
  have HB := hide (hBW.trans (hB1.mono (by omega)))
  have HO := hide hown1
  have HQ := hide (And.intro hQ1' hQ2')
  clear hW0 hQ1 hQ2 hQ1' hQ2' hB1 hBW hgrow1 hown1 hz
  go_wp2_with (at_builtin; refine wpList_append_own _ rfl (.tmp 7) (.tmp 8) 43 rfl (w.heap.size + 2) 5 i0 (.int .u8 0) 1 1 Try.underlying43 hi hz0 hz1 hz2 rfl (by decide) _ _ _ rfl ((unhide HO).alloc _) ⟨w1.heap.size, 0, none⟩ 1 1 [_] rfl rfl (cell_one_new _ _ _) ?c2 ?c3 ?c4 ?c5 ?_)
  case c2 => intro u hu; simp at hu; subst hu; rfl
  case c3 => unfold maxLen; omega
  case c4 => omega
  case c5 => simp; omega
  intro v' w2 hown2 hgrow2 _
  have hB2 : Below (w.heap.size + 2) w1 w2 := ((Below.refl _ _).alloc hz1' _).grown hgrow2 (by simp; omega) (fun b hb => ((unhide HO).lt b hb).1)
  have hQ1 := (unhide HQ).1.belowB (by omega) hB2
  have hQ2 := (unhide HQ).2.belowB (by omega) hB2
  have hz2' : w.heap.size + 2 ≤ w2.heap.size := by have := hB2.size; omega
  have HB2 := hide ((unhide HB).trans (hB2.mono (by omega)))
  have HR := hide (HC1 v' _ w2 hown2 hz2')
  have HQ2 := hide hQ2
  clear hown2 hgrow2 hB2 hQ2 HQ HB HO HC1
  obtain ⟨q0, q1, q2, q3⟩ := hQ1
  go_wp2_with fail
  refine (unhide (unhide HR)).mono ?_
  rintro e w3 ⟨⟨v3, rfl, hown3⟩, hb3, _⟩
  have hQ2 := (unhide HQ2).belowB (by omega) hb3
  have hz3 : w.heap.size + 2 ≤ w3.heap.size := by have := hb3.size; omega
  have HB3 := hide ((unhide HB2).trans (hb3.mono (by omega)))
  have HR2 := hide (HC2 v3 _ w3 hown3 hz3)
  clear hown3 hb3 HQ2 HB2 HC2 HR q0 q1 q2 q3
  obtain ⟨q0, q1, q2, q3⟩ := hQ2
  go_wp2_with fail
  refine (unhide (unhide HR2)).mono ?_
  rintro e w4 ⟨⟨v4, rfl, hown4⟩, hb4, _⟩
  have HF := hide (And.intro hown4 ((unhide HB3).trans (hb4.mono (by omega))))
  clear hown4 hb4 HR2 HB3 q0 q1 q2 q3
  go_wp2
  go_ret
  refine ⟨⟨_, rfl, ?_⟩, (unhide HF).2⟩
  rw [unhide HE]
  exact own_lower (unhide HF).1 (by omega)

end Go.Proofs.Ytbjobbkgelipmaa
