/-
  The walk of titheref's accepted: a head that fits.
-/
import Derived.Deep.DeepCutAuto
import Derived.Test.YtbjobbkgelipmaaSbab
import Derived.Test.YtbjobbkgelipmaaSbai
import Derived.Test.YtbjobbkgelipmaaSban
namespace Go.Proofs.Ytbjobbkgelipmaa
open Go.RowKit

theorem extract_list (s : ByteArray) (a b : Nat) : (s.extract a b).data.toList = (s.data.toList.drop a).take (b - a) := by
  rw [ByteArray.data_extract, Array.toList_extract, List.extract_eq_take_drop]
theorem text0_list (s : ByteArray) (b2 : Nat) : ((⟨#[0]⟩ : ByteArray) ++ s.extract 2 (19 + b2)).data.toList = 0 :: (s.data.toList.drop 2).take (17 + b2) := by
  rw [ByteArray.data_append, Array.toList_append, extract_list, show 19 + b2 - 2 = 17 + b2 by omega]
  rfl

theorem Try.infoStr : (Try.prog.info? 9).map (fun i => (i.zero, i.size, i.bytes)) = some (some (.string ⟨#[]⟩), 1, 16) := by kernel_rfl

theorem side_eq {nd d : Dg} {m n f0 f1 f2 d0 d1 d2 : Int} (h1 : sideV nd m = .agg #[.int .u8 f0, .int .u8 f1, .int .u8 f2, .int .u64 m]) (h2 : sideV d n = .agg #[.int .u8 d0, .int .u8 d1, .int .u8 d2, .int .u64 n]) :
    ((f0 == d0 && (f1 == d1 && f2 == d2)) && m == n) = decide (((nd, m) : Dg × Int) = (d, n)) := by
  unfold sideV at h1 h2
  simp at h1 h2
  obtain ⟨rfl, rfl, rfl⟩ := h1
  obtain ⟨rfl, rfl, rfl⟩ := h2
  obtain ⟨a0, a1, a2⟩ := nd
  obtain ⟨c0, c1, c2⟩ := d
  have e : ∀ x y : UInt8, ((x.toNat : Int) = (y.toNat : Int)) ↔ x = y := fun x y => ⟨fun h => UInt8.toNat.inj (by omega), fun h => by rw [h]⟩
  rw [Bool.eq_iff_iff]
  simp [e, and_assoc]
theorem own_base {w : World} {b b' : Nat} {e : TypeId} {v : Value} {n : Nat} {xs : List Value} (h : w.ownsRow b e 1 v n xs) (hb : b' ≤ b) : w.ownsRow b' e 1 v n xs := by
  refine ⟨h.1, ?_⟩
  rcases h.2 with h0 | ⟨g, cap, cur, hv, hg, r⟩
  · exact .inl h0
  · exact .inr ⟨g, cap, cur, hv, by omega, r⟩

/-- What accepted owes where the head fits. -/
def AccPost (h : Nat) (root : Dg × Int) (l : List UInt8) (w : World) (e : Ending) (w' : World) : Prop :=
  Below w.heap.size w w' ∧ ∃ (pl : Int) (nm : ByteArray) (bal salt : Int) (a : Option Addr) (k c : Nat), match (if maxS < accBal l then none else accTexts h root l) with
    | none => e = .returned (.tuple #[proofV pl nm bal salt a k c, .bool false])
    | some ts => e = .returned (.tuple #[proofV (bAt l 1 : Int) ⟨(accName l).toArray⟩ (accBal l) (accSalt l) a ts.length c, .bool true]) ∧ w'.ownsRow w.heap.size 9 1 (.slice a ts.length c) ts.length (ts.map strV)

theorem AccPost.none {h : Nat} {root : Dg × Int} {l : List UInt8} {w w' : World} {e : Ending} (hb : Below w.heap.size w w') (hn : (if maxS < accBal l then Option.none else accTexts h root l) = Option.none)
    (he : ∃ (pl : Int) (nm : ByteArray) (bal salt : Int) (a : Option Addr) (k c : Nat), e = .returned (.tuple #[proofV pl nm bal salt a k c, .bool false])) : AccPost h root l w e w' := by
  refine ⟨hb, ?_⟩
  obtain ⟨pl, nm, bal, salt, a, k, c, he⟩ := he
  exact ⟨pl, nm, bal, salt, a, k, c, by rw [hn]; exact he⟩

theorem acc_end {h : Nat} {root now : Dg × Int} {l : List UInt8} {w w' : World} {ts : List (List UInt8)} {bb : Bool} {b1 : Nat} {nm : ByteArray} {bal salt : Int} {a : Option Addr} {c : Nat}
    (hend : (if maxS < accBal l then Option.none else accTexts h root l) = if now = root then some ts else Option.none) (hbb : bb = decide (now = root)) (h1 : b1 = bAt l 1) (h2 : nm = ⟨(accName l).toArray⟩) (h3 : bal = accBal l) (h4 : salt = accSalt l)
    (hb : Below w.heap.size w w') (ho : w'.ownsRow w.heap.size 9 1 (.slice a ts.length c) ts.length (ts.map strV)) :
    AccPost h root l w (.returned (.tuple #[proofV (b1 : Int) nm bal salt a ts.length c, .bool bb])) w' := by
  refine ⟨hb, (b1 : Int), nm, bal, salt, a, ts.length, c, ?_⟩
  rw [hend]
  by_cases hr : now = root
  · rw [if_pos hr]
    rw [decide_eq_true hr] at hbb
    subst hbb h1 h2 h3 h4
    exact ⟨rfl, ho⟩
  · rw [if_neg hr]
    rw [decide_eq_false hr] at hbb
    subst hbb
    rfl

end Go.Proofs.Ytbjobbkgelipmaa
