/-
  '==' of two sides.
-/
import Derived.Test.YtbjobbkgelipmaaGreatFree
namespace Go.Proofs.YtbjobbkgelipmaaGreat
open Go.RowKit

set_option maxRecDepth 100000 in
theorem eql_dg (d : Nat) (w : World) (a0 a1 a2 b0 b1 b2 : Int) :
    (Op.equalIn (d + 2) 47 (.agg #[.int .u8 a0, .int .u8 a1, .int .u8 a2]) (.agg #[.int .u8 b0, .int .u8 b1, .int .u8 b2])).run Tryz.prog w = .ok (a0 == b0 && (a1 == b1 && a2 == b2)) w := by
  obtain ⟨i0, hi, hz0, hz1, hz2⟩ := info_parts Tryz.infoByte
  have h := run_equalIn_array (P := Tryz.prog) w (d + 1) #[.int .u8 a0, .int .u8 a1, .int .u8 a2] #[.int .u8 b0, .int .u8 b1, .int .u8 b2] Tryz.underlyingDg hi
  rw [h, Tryz.cellsByte]
  have hq : ∀ (x y : Int) (w : World), (Op.equalIn (d + 1) 5 (.int .u8 x) (.int .u8 y)).run Tryz.prog w = .ok (x == y) w := fun x y w => run_equalIn_int w d 5 .u8 .u8 x y Tryz.underlying5
  have hp : ∀ (l : Array Value) (k : Nat) (v : Value) (w : World), l[k]? = some v → (part 5 l k).run Tryz.prog w = .ok v w := fun l k v w hx => run_part_plain w Tryz.plainByte hx
  simp only [List.range_succ, List.range_zero, List.nil_append, List.cons_append, Op.eqItems, Sem.run_bind]
  rw [hp _ (0 * 1) (.int .u8 a0) w rfl]
  simp only [Result.andThen_ok]
  rw [hp _ (0 * 1) (.int .u8 b0) w rfl]
  simp only [Result.andThen_ok, hq]
  cases h0 : (a0 == b0)
  · simp
  · simp only [Bool.not_true, Bool.false_eq_true, if_false, Sem.run_bind]
    rw [hp _ (1 * 1) (.int .u8 a1) w rfl]
    simp only [Result.andThen_ok]
    rw [hp _ (1 * 1) (.int .u8 b1) w rfl]
    simp only [Result.andThen_ok, hq]
    cases h1 : (a1 == b1)
    · simp
    · simp only [Bool.not_true, Bool.false_eq_true, if_false, Sem.run_bind]
      rw [hp _ (2 * 1) (.int .u8 a2) w rfl]
      simp only [Result.andThen_ok]
      rw [hp _ (2 * 1) (.int .u8 b2) w rfl]
      simp only [Result.andThen_ok, hq]
      cases h2 : (a2 == b2) <;> simp
theorem Tryz.stoodSide : Tryz.prog.stoodInHeld 49 = false := by kernel_rfl
theorem Tryz.undSide : Tryz.prog.underlying 49 = some (.struct (Tryz.prog.fieldsOf 49)) := by kernel_rfl
theorem Tryz.fldsSide : (Tryz.prog.fieldsOf 49).toList = [{ name := "D", type := 47, offset := 0, embedded := false, tag := "", pkgPath := "", byteOffset := 0 }, { name := "Sum", type := 26, offset := 3, embedded := false, tag := "", pkgPath := "", byteOffset := 8 }] := by kernel_rfl
set_option maxRecDepth 100000 in
theorem eql_side (w : World) (a0 a1 a2 an b0 b1 b2 bn : Int) :
    (Op.equalIn 10000 49 (.agg #[.int .u8 a0, .int .u8 a1, .int .u8 a2, .int .u64 an]) (.agg #[.int .u8 b0, .int .u8 b1, .int .u8 b2, .int .u64 bn])).run Tryz.prog w = .ok ((a0 == b0 && (a1 == b1 && a2 == b2)) && an == bn) w := by
  have h := run_equalIn_struct (P := Tryz.prog) w 9999 49 #[.int .u8 a0, .int .u8 a1, .int .u8 a2, .int .u64 an] #[.int .u8 b0, .int .u8 b1, .int .u8 b2, .int .u64 bn] Tryz.undSide Tryz.stoodSide
  have e : (9999 + 1 : Nat) = 10000 := rfl
  rw [e] at h
  rw [h, Tryz.fldsSide]
  have hq := eql_dg 9997
  have e2 : (9997 + 2 : Nat) = 9999 := rfl
  rw [e2] at hq
  have hi : ∀ (x y : Int) (w : World), (Op.equalIn 9999 26 (.int .u64 x) (.int .u64 y)).run Tryz.prog w = .ok (x == y) w := fun x y w => run_equalIn_int w 9998 26 .u64 .u64 x y Tryz.underlying26
  simp only [Op.eqFields]
  have p1 : ∀ (c0 c1 c2 c3 : Int) (w : World), (part 47 #[.int .u8 c0, .int .u8 c1, .int .u8 c2, .int .u64 c3] 0).run Tryz.prog w = .ok (.agg #[.int .u8 c0, .int .u8 c1, .int .u8 c2]) w := fun c0 c1 c2 c3 w => by kernel_rfl
  have p2 : ∀ (c0 c1 c2 c3 : Int) (w : World), (part 26 #[.int .u8 c0, .int .u8 c1, .int .u8 c2, .int .u64 c3] 3).run Tryz.prog w = .ok (.int .u64 c3) w := fun c0 c1 c2 c3 w => by kernel_rfl
  simp [p1, p2, hq, hi]
  by_cases h0 : a0 = b0 <;> by_cases h1 : a1 = b1 <;> by_cases h2 : a2 = b2 <;> by_cases h3 : an = bn <;> simp [h0, h1, h2, h3]

end Go.Proofs.YtbjobbkgelipmaaGreat
