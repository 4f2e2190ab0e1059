/-
  Plain facts: the digest as a function of a list of bytes, in the walk's spelling. Nothing of the program.
-/
import Derived.WalkKit
import Derived.WalkSpells
import Derived.WalkLawsBesides
import Derived.Laws.Closers25b
namespace Go.Proofs.YtbjobbkgelipmaaGreat
open Go.RowKit

theorem hide {p : Prop} (h : p) : Hid p := h
theorem unhide {p : Prop} (h : Hid p) : p := h

def mixStep (n : Int) (c : UInt8) : Int := bits BinOp.xor IntKind.u32 n ((c.toNat : Int) % 4294967296) * 16777619 % 4294967296
def fnv (l : List UInt8) : Int := l.foldl mixStep 2166136261
theorem mixStep_range (n : Int) (c : UInt8) : 0 ≤ mixStep n c ∧ mixStep n c < 4294967296 := by unfold mixStep; omega
theorem fnv_snoc (l : List UInt8) (c : UInt8) : fnv (l ++ [c]) = mixStep (fnv l) c := by simp [fnv]
theorem fnv_range (l : List UInt8) : 0 ≤ fnv l ∧ fnv l < 4294967296 := by
  rcases List.eq_nil_or_concat l with rfl | ⟨l', c, rfl⟩
  · decide
  · rw [List.concat_eq_append, fnv_snoc]; exact mixStep_range _ _

/-- A number's lowest byte. -/
def lowByte (x : Int) : UInt8 := UInt8.ofNat (x % 256).toNat
theorem lowByte_toNat (x : Int) : ((lowByte x).toNat : Int) = x % 256 := by
  unfold lowByte
  have h : (x % 256).toNat < 256 := by omega
  rw [UInt8.toNat_ofNat_of_lt' (by simpa using h)]
  omega

def lastMix (x : Int) : Int := bits BinOp.xor IntKind.u32 x (x / 65536) * 2246822507 % 4294967296
def lastOf (x : Int) : Int := bits BinOp.xor IntKind.u32 (lastMix x) (lastMix x / 8192)
theorem lastOf_range (x : Int) : 0 ≤ lastOf x ∧ lastOf x < 4294967296 := by
  unfold lastOf
  have h1 := bits_lo_u32 .xor (lastMix x) (lastMix x / 8192)
  have h2 := bits_hi_u32 .xor (lastMix x) (lastMix x / 8192)
  omega

/-- The digest: three bytes. -/
def dgOf (x : Int) : UInt8 × UInt8 × UInt8 := (lowByte (lastOf x), lowByte (lastOf x / 256), lowByte (lastOf x / 65536))
def dg (l : List UInt8) : UInt8 × UInt8 × UInt8 := dgOf (fnv l)
def digV (d : UInt8 × UInt8 × UInt8) : Value := .agg #[.int .u8 (d.1.toNat : Int), .int .u8 (d.2.1.toNat : Int), .int .u8 (d.2.2.toNat : Int)]
theorem digV_of (x : Int) : digV (dgOf x) = .agg #[.int .u8 (lastOf x % 256), .int .u8 (lastOf x / 256 % 256), .int .u8 (lastOf x / 65536 % 256)] := by
  simp only [digV, dgOf, lowByte_toNat]

theorem take_snoc (s : ByteArray) (k : Nat) (h : k < s.size) : s.data.toList.take (k + 1) = s.data.toList.take k ++ [s[k]] := by
  rw [List.take_succ_eq_append_getElem (by simpa using h)]; rfl
theorem take_all (s : ByteArray) : s.data.toList.take s.size = s.data.toList := List.take_of_length_le (by simp)

end Go.Proofs.YtbjobbkgelipmaaGreat
