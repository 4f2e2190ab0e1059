/-
  A leaf's text out of a proof's bytes: plain lists.
-/
import Derived.Test.YtbjobbkgelipmaaGreatAccP
import Derived.Lib.AppendStr
namespace Go.Proofs.YtbjobbkgelipmaaGreat
open Go.RowKit

theorem numB_from : ∀ (b : List UInt8) (n : Int), b.foldl (fun n c => n * 256 + (c.toNat : Int)) n = n * 256 ^ b.length + numB b
  | [], n => by simp [numB]
  | c :: b, n => by
    have e : numB (c :: b) = (c.toNat : Int) * 256 ^ b.length + numB b := by
      unfold numB
      rw [List.foldl_cons, numB_from b]
      simp [numB]
    rw [List.foldl_cons, numB_from b, e, List.length_cons, Int.pow_succ, Int.add_mul, Int.mul_assoc, Int.mul_comm 256 (256 ^ b.length), Int.add_assoc]
theorem numB_append (a b : List UInt8) : numB (a ++ b) = numB a * 256 ^ b.length + numB b := by
  have h := numB_from b (numB a)
  rw [← h]
  unfold numB
  rw [List.foldl_append]
theorem longAt_numB (l : List UInt8) (h : l.length = 8) (j : Nat) (hj : j < 8) : longAt (numB l) j = l[j] := by
  have e1 : l = l.take j ++ (l[j] :: l.drop (j + 1)) := by rw [List.getElem_cons_drop, List.take_append_drop]
  have hd : (l.drop (j + 1)).length = 7 - j := by rw [List.length_drop]; omega
  have hr := numB_range_len (7 - j) (l.drop (j + 1)) hd
  have ht := numB_range_len j (l.take j) (by rw [List.length_take]; omega)
  have e2 : numB l = (numB (l.take j) * 256 + (l[j].toNat : Int)) * 256 ^ (7 - j) + numB (l.drop (j + 1)) := by
    conv => lhs; rw [e1]
    rw [show l.take j ++ (l[j] :: l.drop (j + 1)) = (l.take j ++ [l[j]]) ++ l.drop (j + 1) by simp, numB_append, numB_snoc, hd]
  have hp : (0 : Int) < 256 ^ (7 - j) := Int.pow_pos (by decide)
  have e3 : (2 : Int) ^ (8 * (7 - j)) = 256 ^ (7 - j) := by rw [Int.pow_mul]; rfl
  have e4 : numB l / 256 ^ (7 - j) = numB (l.take j) * 256 + (l[j].toNat : Int) := by
    rw [e2, Int.add_comm, Int.add_mul_ediv_right _ _ (by omega), Int.ediv_eq_zero_of_lt hr.1 hr.2]
    omega
  unfold longAt
  apply UInt8.toNat.inj
  have := lowByte_toNat (numB l / 2 ^ (8 * (7 - j)))
  rw [e3, e4] at this
  rw [e3, e4]
  have h4 := l[j].toNat_lt
  omega
theorem longB_numB (l : List UInt8) (h : l.length = 8) : longB (numB l) = l := by
  apply List.ext_getElem
  · rw [longB_length, h]
  · intro j h1 h2
    rw [← longAt_numB l h j (by omega)]
    simp [longB]

theorem accText0_parts (h : Nat) (l : List UInt8) (hh : accHead h l) :
    accText0 l = 0 :: ((l.getD 2 0) :: (accName l ++ (longB (accBal l) ++ longB (accSalt l)))) := by
  obtain ⟨h3, _, _, h1, h8, hl⟩ := hh
  unfold accText0 accName accBal accSalt
  rw [longB_numB _ (by rw [List.length_take, List.length_drop]; omega), longB_numB _ (by rw [List.length_take, List.length_drop]; omega)]
  have e2 : l.drop 2 = l.getD 2 0 :: l.drop 3 := by
    rw [List.getD_eq_getElem?_getD, List.getElem?_eq_getElem (by omega)]
    exact (List.getElem_cons_drop (by omega)).symm
  rw [e2, show 17 + bAt l 2 = (16 + bAt l 2) + 1 by omega, List.take_succ_cons]
  congr 2
  rw [show 16 + bAt l 2 = bAt l 2 + (8 + 8) by omega, List.take_add, List.take_add, List.drop_drop, List.drop_drop]
  rw [show 3 + bAt l 2 + 8 = 11 + bAt l 2 by omega]

theorem accText0_vals (h : Nat) (l : List UInt8) (hh : accHead h l) :
    ((([] ++ [Value.int .u8 0]) ++ [Value.int .u8 (((⟨(accName l).toArray⟩ : ByteArray).size : Nat) : Int)]) ++ Lib.strCells ⟨(accName l).toArray⟩ ++ byteVals (longB (accBal l))) ++ byteVals (longB (accSalt l)) = byteVals (accText0 l) := by
  rw [accText0_parts h l hh]
  have hs : ((⟨(accName l).toArray⟩ : ByteArray).size) = bAt l 2 := by
    show (accName l).toArray.size = _
    rw [List.size_toArray]
    unfold accName
    rw [List.length_take, List.length_drop]
    have := hh.2.2.2.2
    omega
  rw [hs]
  simp [byteVals, Lib.strCells, bAt]
theorem accText0_len (h : Nat) (l : List UInt8) (hh : accHead h l) : (accText0 l).length = 18 + bAt l 2 := by
  obtain ⟨h3, _, _, h1, h8, hl⟩ := hh
  unfold accText0
  rw [List.length_cons, List.length_take, List.length_drop]
  omega
theorem accName_size (h : Nat) (l : List UInt8) (hh : accHead h l) : (⟨(accName l).toArray⟩ : ByteArray).size = bAt l 2 := by
  show (accName l).toArray.size = _
  rw [List.size_toArray]
  unfold accName
  rw [List.length_take, List.length_drop]
  have := hh.2.2.2.2
  omega
theorem accBal_range (l : List UInt8) : 0 ≤ accBal l ∧ accBal l < 18446744073709551616 := numB_range _ (by rw [List.length_take]; omega)
theorem accSalt_range (l : List UInt8) : 0 ≤ accSalt l ∧ accSalt l < 18446744073709551616 := numB_range _ (by rw [List.length_take]; omega)

end Go.Proofs.YtbjobbkgelipmaaGreat
