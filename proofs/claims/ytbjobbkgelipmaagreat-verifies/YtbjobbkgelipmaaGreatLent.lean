/-
  The walks of lent and still: what is handed in, with its spare room.
-/
import Derived.Test.YtbjobbkgelipmaaGreatSums
import Derived.Deep.OwnRows
import Derived.Lib.LazyBuf
import Derived.Deep.QuietTactic
import Derived.BigQuiet
namespace Go.Proofs.YtbjobbkgelipmaaGreat
open Go.RowKit

/-- The operation copy(d, s) at the walk, its run known by an equation. -/
theorem wpList_copy_by {P : Program} {w w' : World} {ops : Array Oper} {rest : List Oper} {o : Oper} {a : Act} {Q : Exit → Act → World → Prop} (hgd : o.guard = none) (d s : Operand) (t t' : TypeId)
    (ho : o.op = .call { callee := .builtin .copy, args := #[d, s], argTypes := #[t, t'] }) {x y r : Value} (hd : a.eval d = x) (hs : a.eval s = y)
    (hr : (Builtin.copy_ #[t, t'] o.type #[x, y]).run P w = .ok r w') (h : wpList P ops Q rest (a.put o.dst r) w') : wpList P ops Q (o :: rest) a w := by
  refine wpList_plain hgd fun K hK => ?_
  unfold Oper.wp
  simp [execOp, ho, resolve, invoke, builtin, hd, hs, hr, Result.andThen]
  exact hK _ _ h

theorem Tryz.infoByte : (Tryz.prog.info? 5).map (fun i => (i.zero, i.size, i.bytes)) = some (some (.int .u8 0), 1, 1) := by kernel_rfl
theorem Tryz.sizeByte (w : World) : (Go.sizeOf 5).run Tryz.prog w = .ok 1 w := by
  obtain ⟨i0, hi, hz0, hz1, hz2⟩ := info_parts Tryz.infoByte
  simp [Go.sizeOf, typeInfo, hi, hz1]

/-- The j-th byte of what is lent: the string's, and behind it 201. -/
def lentB (s : List UInt8) (j : Nat) : UInt8 := s.getD j 201
def lentV (s : List UInt8) (j : Nat) : Value := .int .u8 ((lentB s j).toNat : Int)

theorem lent_start (s : ByteArray) (w : World) (f : Nat → Value) (b : Nat) (h : w.rowIs b 5 (s.size + 8) f) :
    (w.setCells b 0 (s.data.toList.map fun x => Value.int .u8 (x.toNat : Int))).rowIs b 5 (s.size + 8) (fun j => if j < s.size then lentV s.data.toList j else f j) := by
  refine (rowIs_setCells _ 0 w f h).congr (fun j hj => ?_)
  have hl : (s.data.toList.map fun x => Value.int .u8 (x.toNat : Int)).length = s.size := by rw [List.length_map, ← Lib.size_eq]
  rw [hl]
  by_cases h1 : j < s.size
  · rw [if_pos ⟨Nat.zero_le _, by omega⟩, if_pos h1]
    have h2 : j < s.data.toList.length := by simpa using h1
    simp [lentV, lentB, List.getElem?_map, List.getElem?_eq_getElem h2]
  · rw [if_neg (by omega), if_neg h1]

theorem lent_step (s : List UInt8) (w : World) (b n k : Nat) (f : Nat → Value) (hk : s.length ≤ k)
    (h : w.rowIs b 5 n (fun j => if j < k then lentV s j else f j)) :
    (w.setCell ⟨b, k, none⟩ (.int .u8 201)).rowIs b 5 n (fun j => if j < k + 1 then lentV s j else f j) := by
  refine (h.set k (.int .u8 201)).congr (fun j hj => ?_)
  by_cases h1 : j = k
  · subst h1
    have : s.getD j 201 = 201 := by simp [List.getD, List.getElem?_eq_none hk]
    rw [if_pos rfl, if_pos (by omega)]
    show Value.int .u8 201 = .int .u8 ((s.getD j 201).toNat : Int)
    rw [this]; rfl
  · rw [if_neg h1]
    by_cases h2 : j < k
    · rw [if_pos h2, if_pos (by omega)]
    · rw [if_neg h2, if_neg (by omega)]

set_option maxHeartbeats 400000 in
theorem lent_any (s : ByteArray) (w : World) (hs : s.size ≤ 140737488351232) :
    Calls Tryz.prog 39 #[.string s] w fun e w' => e = .returned (.slice (some ⟨w.heap.size, 0, none⟩) (s.size + 8) (s.size + 8)) ∧
      w'.rowIs w.heap.size 5 (s.size + 8) (lentV s.data.toList) ∧ Below w.heap.size w w' := by
  have hrow := World.rowIs_made w (.int .u8 0) (s.size + 8) 5
  have hcp := run_copy_string (P := Tryz.prog) (w.alloc (.cells (madeCells #[.int .u8 0] (s.size + 8)) 5)) 51 9 3 5 w.heap.size 0 (s.size + 8) (s.size + 8) s Tryz.underlying51 Tryz.sizeByte (by omega)
    (fun j hj => by rw [Nat.zero_add, hrow.cell (by omega)]; rfl) (fun j _ => by rw [Nat.zero_add]; exact hrow.frozen j)
  have hst := lent_start s _ _ _ hrow
  have hbel : Below w.heap.size w ((w.alloc (.cells (madeCells #[.int .u8 0] (s.size + 8)) 5)).setCells w.heap.size 0 (s.data.toList.map fun x => Value.int .u8 (x.toNat : Int))) :=
    below_setCells (Nat.le_refl _) _ _ _ ((Below.refl _ _).alloc (Nat.le_refl _) _)
  generalize hw1 : (w.alloc (.cells (madeCells #[.int .u8 0] (s.size + 8)) 5)).setCells w.heap.size 0 (s.data.toList.map fun x => Value.int .u8 (x.toNat : Int)) = w1 at *
  have hmk := run_make_row' (P := Tryz.prog) 51 5 (.int .u8 0) 1 Tryz.underlying51 Tryz.infoByte rfl .i64 .i64 (s.size + 8) (by omega) (by omega)
  rw [show ((s.size + 8 : Nat) : Int) = (s.size : Int) + 8 from by omega] at hmk
  have HR := hide hst
  have HB := hide hbel
  clear hst hw1 hrow hbel
  go_enter Tryz.func39, Tryz.ntmps39
  go_wp2
  go_loopw [4] (fun i wr => ∃ k : Nat, s.size ≤ k ∧ k ≤ s.size + 8 ∧ i = .int .i64 k ∧ wr.rowIs w.heap.size 5 (s.size + 8) (fun j => if j < k then lentV s.data.toList j else Value.int .u8 0) ∧ Below w.heap.size w wr)
    (fun i _ => s.size + 8 - (intOf i).toNat)
  case atStart => exact ⟨s.size, Nat.le_refl _, by omega, rfl, unhide HR, unhide HB⟩
  case round =>
    obtain ⟨k, hk1, hk2, rfl, hrow, hbel⟩ := hrel
    clear HR HB hcp hmk
    by_cases hlt : k < s.size + 8
    · have hc := hrow.cell hlt
      have hf := hrow.frozen k
      have HR := hide (lent_step s.data.toList _ _ _ _ _ (by simpa using hk1) hrow)
      have HB := hide (hbel.setCell (p := ⟨w.heap.size, k, none⟩) (Nat.le_refl _) (.int .u8 201))
      clear hrow hbel
      go_wp2
      go_roundw
      case rel => exact ⟨k + 1, by omega, by omega, by go_num, unhide HR, unhide HB⟩
      case measure => simp [intOf]; omega
    · have HR := hide (hrow.congr (g := lentV s.data.toList) (fun j hj => by rw [if_pos (by omega)]))
      have HB := hide hbel
      clear hrow hbel
      go_wp2
      go_ret
      exact ⟨rfl, unhide HR, unhide HB⟩

end Go.Proofs.YtbjobbkgelipmaaGreat
