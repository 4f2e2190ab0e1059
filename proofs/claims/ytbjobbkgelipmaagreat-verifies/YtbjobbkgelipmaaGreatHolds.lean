/-
  Lists that came out or were handed in: what the world keeps of them, and the walks of sign, marked, looks.
-/
import Derived.Test.YtbjobbkgelipmaaGreatUpTo
import Derived.ArgAppend
namespace Go.Proofs.YtbjobbkgelipmaaGreat
open Go.RowKit

/-- What a mark looks like in the i-th byte of a list. -/
def signI (m i : Int) : Int := wrap64 (m + wrap64 (i * wrap64 (1 + wrap64 (m.tdiv 256)))) % 256
def markV (m : Int) (n : Nat) : List Value := (List.range n).map fun (i : Nat) => .int .u8 (signI m (i : Int))
theorem markV_length (m : Int) (n : Nat) : (markV m n).length = n := by simp [markV]
theorem markV_at (m : Int) (n i : Nat) (h : i < n) : (markV m n)[i]? = some (.int .u8 (signI m (i : Int))) := by simp [markV, h]
theorem markV_succ (m : Int) (n : Nat) : markV m (n + 1) = markV m n ++ [.int .u8 (signI m (n : Int))] := by simp [markV, List.range_succ]

set_option maxHeartbeats 400000 in
theorem sign_any (m i : Int) (w : World) :
    Calls Tryz.prog 57 #[.int .i64 m, .int .i64 i] w fun e w' => e = .returned (.int .u8 (signI m i)) ∧ w' = w := by
  go_enter Tryz.func57, Tryz.ntmps57
  go_wp2
  go_ret
  exact ⟨rfl, rfl⟩

/-- A list that is kept: the block of its record, the list, its length, its mark. -/
structure HoldD where
  p : Nat
  v : Value
  n : Nat
  m : Int

/-- A list that still reads as it was written. -/
structure HoldOk (w : World) (B : Nat) (x : HoldD) : Prop where
  above : B < x.p
  cell : w.heap[x.p]? = some (.cells #[x.v, .int .i64 x.m] 113 (0, 0))
  own : w.ownsRow (B + 1) 5 1 x.v x.n (markV x.m x.n)
  small : x.n ≤ 140737488355328

def ptrV (p : Nat) : Value := .pointer (some ⟨p, 0, none⟩)

/-- The world of the script: its record at block B, all its lists. -/
structure Inv (w : World) (B : Nat) (ps hv : Value) (hs : List HoldD) : Prop where
  cell : w.heap[B]? = some (.cells #[ps, hv] 43 (0, 0))
  own : w.ownsRow (B + 1) 71 1 hv hs.length (hs.map fun x => ptrV x.p)
  ok : ∀ x ∈ hs, HoldOk w B x

theorem block_cell {w : World} {b i : Nat} {cs : Array Value} {t : TypeId} {fr : Nat × Nat} (h : w.heap[b]? = some (.cells cs t fr)) : w.cell? ⟨b, i, none⟩ = cs[i]? := by
  simp [World.cell?, h]
theorem block_free {w : World} {b i : Nat} {cs : Array Value} {t : TypeId} (h : w.heap[b]? = some (.cells cs t (0, 0))) : w.frozen? ⟨b, i, none⟩ = false := by
  simp [World.frozen?, h]

theorem HoldOk.shape {w : World} {B : Nat} {x : HoldD} (h : HoldOk w B x) : ∃ a cap, x.v = .slice a x.n cap ∧ (0 < x.n → ∃ g, a = some ⟨g, 0, none⟩ ∧ ∀ i, i < x.n → w.cell? ⟨g, i, none⟩ = some (.int .u8 (signI x.m (i : Int)))) := by
  rcases h.own.2 with ⟨hv, hn⟩ | ⟨g, cap, cur, hv, _, hh, _, _, _, htake⟩
  · exact ⟨none, 0, by rw [hv, hn], fun h0 => by omega⟩
  · refine ⟨some ⟨g, 0, none⟩, cap, hv, fun _ => ⟨g, rfl, fun i hi => ?_⟩⟩
    have h1 := markV_at x.m x.n i hi
    rw [← htake, List.getElem?_take] at h1
    split at h1
    · rw [block_cell hh]; simpa using h1
    · cases h1

set_option maxHeartbeats 400000 in
theorem marked_at (p : Nat) (a : Option Addr) (n cap : Nat) (m : Int) (w : World) (hn : n ≤ 140737488355328) (h0 : w.cell? ⟨p, 0, none⟩ = some (.slice a n cap)) (h1 : w.cell? ⟨p, 1, none⟩ = some (.int .i64 m))
    (hg : 0 < n → ∃ g, a = some ⟨g, 0, none⟩ ∧ ∀ i, i < n → w.cell? ⟨g, i, none⟩ = some (.int .u8 (signI m (i : Int)))) :
    Calls Tryz.prog 36 #[.pointer (some ⟨p, 0, none⟩)] w fun e w' => e = .returned (.bool true) ∧ ∃ k, w' = w.drewN k := by
  have HG := hide hg
  clear hg
  go_enter Tryz.func36, Tryz.ntmps36
  go_wp2
  go_loopw [3] (fun i wr => ∃ k d : Nat, k ≤ n ∧ i = .int .i64 k ∧ wr = w.drewN d) (fun i _ => n - (intOf i).toNat)
  case atStart => exact ⟨0, 0, Nat.zero_le _, rfl, rfl⟩
  case round =>
    obtain ⟨k, d, hk, rfl, rfl⟩ := hrel
    by_cases hlt : k < n
    · obtain ⟨g, rfl, hc⟩ := unhide HG (by omega)
      have hck := hc k hlt
      clear hc
      generalize hsg : signI m (k : Int) = sg at hck
      have HS : ∀ w, Hid (Calls Tryz.prog 57 #[.int .i64 m, .int .i64 (k : Int)] w fun e w' => e = .returned (.int .u8 sg) ∧ w' = w) := fun w => by rw [← hsg]; exact sign_any m k w
      clear hsg
      go_wp2
      go_quiet ((go_at_call 57; exact (unhide (HS _)).mono fun _ _ h => ⟨h.1, _, h.2⟩))
      go_wp2
      go_roundw
      case rel => exact ⟨k + 1, d + nq, by omega, by go_num, rfl⟩
      case measure => simp [intOf]; omega
    · go_wp2
      go_ret
      exact ⟨rfl, d, rfl⟩

theorem marked_any {w : World} {B : Nat} {x : HoldD} (h : HoldOk w B x) (d : Nat) :
    Calls Tryz.prog 36 #[.pointer (some ⟨x.p, 0, none⟩)] (w.drewN d) fun e w' => e = .returned (.bool true) ∧ ∃ k, w' = w.drewN k := by
  obtain ⟨a, cap, hv, hg⟩ := h.shape
  have h0 : w.cell? ⟨x.p, 0, none⟩ = some x.v := by rw [block_cell h.cell]; rfl
  have h1 : w.cell? ⟨x.p, 1, none⟩ = some (.int .i64 x.m) := by rw [block_cell h.cell]; rfl
  rw [hv] at h0
  refine (marked_at x.p a x.n cap x.m (w.drewN d) h.small (by simpa using h0) (by simpa using h1) (fun hn => ?_)).mono fun e w' ⟨he, k, hk⟩ => ⟨he, d + k, by rw [hk]; simp⟩
  obtain ⟨g, hga, hc⟩ := hg hn
  exact ⟨g, hga, fun i hi => by simpa using hc i hi⟩

set_option maxHeartbeats 400000 in
theorem looks_any {w : World} {B : Nat} {ps hv : Value} {hs : List HoldD} (h : Inv w B ps hv hs) (hlen : hs.length ≤ 140737488355328) :
    Calls Tryz.prog 13 #[.pointer (some ⟨B, 0, none⟩)] w fun e w' => e = .returned (.bool true) ∧ ∃ k, w' = w.drewN k := by
  have c1 : w.cell? ⟨B, 1, none⟩ = some hv := by rw [block_cell h.cell]; rfl
  obtain ⟨a, cap, rfl, hg⟩ : ∃ a cap, hv = .slice a hs.length cap ∧ (0 < hs.length → ∃ g, a = some ⟨g, 0, none⟩ ∧ ∀ i (hi : i < hs.length), w.cell? ⟨g, i, none⟩ = some (ptrV hs[i].p)) := by
    rcases h.own.2 with ⟨hv', hn⟩ | ⟨g, cap, cur, hv', _, hh, _, _, _, htake⟩
    · exact ⟨none, 0, by rw [hv', hn], fun h0 => by omega⟩
    · refine ⟨some ⟨g, 0, none⟩, cap, hv', fun _ => ⟨g, rfl, fun i hi => ?_⟩⟩
      have h1 : (hs.map fun x => ptrV x.p)[i]? = some (ptrV hs[i].p) := by simp [hi]
      rw [← htake, List.getElem?_take] at h1
      split at h1
      · rw [block_cell hh]; simpa using h1
      · cases h1
  have HG := hide hg
  have HI := hide h.ok
  clear hg h
  go_enter Tryz.func13, Tryz.ntmps13
  go_wp2
  go_loopw [3] (fun i wr => ∃ k d : Nat, k ≤ hs.length ∧ i = .int .i64 k ∧ wr = w.drewN d) (fun i _ => hs.length - (intOf i).toNat)
  case atStart => exact ⟨0, 0, Nat.zero_le _, rfl, rfl⟩
  case round =>
    obtain ⟨k, d, hk, rfl, rfl⟩ := hrel
    by_cases hlt : k < hs.length
    · obtain ⟨g, rfl, hc⟩ := unhide HG (by omega)
      have hck := hc k hlt
      have HM := fun d => hide (marked_any (unhide HI _ (List.getElem_mem hlt)) d)
      clear hc
      unfold ptrV at hck
      generalize hs[k].p = p at *
      go_wp2_with fail
      refine (unhide (HM _)).mono ?_
      rintro e w2 ⟨rfl, d2, rfl⟩
      clear HM
      go_wp2
      go_roundw
      case rel => exact ⟨k + 1, d2, by omega, by go_num, rfl⟩
      case measure => simp [intOf]; omega
    · go_wp2
      go_ret
      exact ⟨rfl, d, rfl⟩

end Go.Proofs.YtbjobbkgelipmaaGreat
