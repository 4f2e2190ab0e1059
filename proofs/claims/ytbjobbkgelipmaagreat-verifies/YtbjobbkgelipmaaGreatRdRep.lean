/-
  The walk of tithe's readReport: a head that does not fit.
-/
import Derived.Test.YtbjobbkgelipmaaGreatRdSide
import Derived.Test.YtbjobbkgelipmaaGreatRep
namespace Go.Proofs.YtbjobbkgelipmaaGreat
open Go.RowKit

def ownRepV (h d0 d1 d2 n : Int) : Value := .agg #[.int .i64 h, .int .u8 d0, .int .u8 d1, .int .u8 d2, .int .u64 n]

set_option maxHeartbeats 400000 in
set_option maxRecDepth 100000 in
theorem rdrep_bad (b len cap : Nat) (l : List UInt8) (w : World) (hl : l.length = len) (hb : b < w.heap.size) (hB : BytesAt w b 0 l) (hbad : ¬ repHead l) :
    Calls Tryz.prog 60 #[.slice (some ⟨b, 0, none⟩) len cap] w fun e w' => e = .returned (.tuple #[ownRepV 0 0 0 0 0, .bool false]) ∧ Below w.heap.size w w' := by
  have hne : b ≠ w.heap.size := by omega
  by_cases h12 : len = 12
  · subst h12
    have h6 : 6 < (l.getD 0 0).toNat := Nat.lt_of_not_le fun h => hbad ⟨hl, h⟩
    have c0 : w.cell? ⟨b, 0, none⟩ = some (.int .u8 ((l.getD 0 0).toNat : Int)) := by
      have := hB 0 (by omega)
      rw [this, List.getD_eq_getElem?_getD, List.getElem?_eq_getElem (by omega)]; rfl
    generalize hd : ((l.getD 0 0).toNat : Int) = d at c0
    have hd6 : (6 : Int) < d := by omega
    clear h6 hd hB hbad hl
    go_enter Tryz.func60, Tryz.ntmps60
    go_wp2
    refine bodyPost_ret (v := .tuple #[ownRepV 0 0 0 0 0, .bool false]) ?_ rfl ⟨rfl, ?_⟩
    · simp [results, Tryz.results60, go_sem, ownRepV]
    · repeat first
        | exact Below.refl _ _
        | refine Below.setCell ?_ (by simp; try omega) _
        | refine Below.alloc ?_ (by simp; try omega) _
  · have hl' : ((len : Int) != 12) = true := by simp; omega
    clear hB hbad hl
    go_enter Tryz.func60, Tryz.ntmps60
    go_wp2
    refine bodyPost_ret (v := .tuple #[ownRepV 0 0 0 0 0, .bool false]) ?_ rfl ⟨rfl, ?_⟩
    · simp [results, Tryz.results60, go_sem, ownRepV]
    · repeat first
        | exact Below.refl _ _
        | refine Below.setCell ?_ (by simp; try omega) _
        | refine Below.alloc ?_ (by simp; try omega) _

end Go.Proofs.YtbjobbkgelipmaaGreat
