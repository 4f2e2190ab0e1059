/-
  No cell of these rows narrows 'for every input' (looked for: loops, veiled, ifaces, maps, wideKeys, modest, calm, conditions, laid).
  DERIVED. THE GIVEN ROWS OF THIS SEAT. 5 by the template 'for every input the law returns true; each argument reads behind the call as it read before'; 0 by the template 'total and deterministic' (their statements: YtbjobbkgelipmaaGreatTotals.lean).
  GIVEN WITH THE SEED: the statements are not yours to turn. If you find one false, say at which input.
  Laid BY PROGRAM, IN A SANDBOX (cutbox-rows.mjs): the forced cells as the released guide's own fill.sh prints them over the translation 42c107ac59df0e15… (all of the seat's roots in one cut). By AI agents, Wed Nov 11 2026. No macro, syntax, notation, axiom, sorry.
-/
import Derived.Test.YtbjobbkgelipmaaGreatChecked
import GoSem.Claim
import GoSem.ClaimJoined
import GoSem.ClaimMapViews
import Derived.JoinedTies
import Derived.KernelRfl
namespace Go.Proofs.YtbjobbkgelipmaaGreat
/- THE CELL 'sum', in the pinned program and in every row, IS THE sha256 OF THE DUMP (.gsa) THAT YtbjobbkgelipmaaGreatProg.lean LOADS. Nothing in Lean hashes anything: it is a label: what it is worth is what the hold of that sum in a sandbox is worth. -/
noncomputable def Tryz.pinned : Pinned := { name := "ytbjobbkgelipmaagreat", sum := "42c107ac59df0e15f90a785eff178eafe98097c86bc586b056c2721bf1c20254", checked := Tryz.checked }
namespace Rows
def none {H : Type} : Left H := { results := [], args := [] }

/-- 'tithelaw.Sums': WHATEVER THE INPUT: true; the input reads as it did. -/
def sumsSpec : ChangeSpec := { name := "sums", fn := fun _ => fun
  | [d] => { results := [.lit (.bool true)], args := [d] }
  | _ => none }
def sumsRow : OpenClaim := { program := "ytbjobbkgelipmaagreat", sum := "42c107ac59df0e15f90a785eff178eafe98097c86bc586b056c2721bf1c20254", func := "tithe/tithelaw.Sums", spec := "sums", unfollowed := true, recurses := true, apart := false }
def SumsSaid : Prop := sumsRow.holds Tryz.pinned (OpenSpec.ofChange sumsSpec)

/-- ITS FALSE NEIGHBOUR: 'it returns false'. Refute it at one input. -/
def sumsWrong : ChangeSpec := { name := "sums", fn := fun _ => fun
  | [d] => { results := [.lit (.bool false)], args := [d] }
  | _ => none }
def SumsWrongFalsely : Prop := sumsRow.holds Tryz.pinned (OpenSpec.ofChange sumsWrong)

/-- 'tithelaw.Verifies': WHATEVER THE INPUT: true; the input reads as it did. -/
def verifiesSpec : ChangeSpec := { name := "verifies", fn := fun _ => fun
  | [d] => { results := [.lit (.bool true)], args := [d] }
  | _ => none }
def verifiesRow : OpenClaim := { program := "ytbjobbkgelipmaagreat", sum := "42c107ac59df0e15f90a785eff178eafe98097c86bc586b056c2721bf1c20254", func := "tithe/tithelaw.Verifies", spec := "verifies", unfollowed := true, recurses := true, apart := false }
def VerifiesSaid : Prop := verifiesRow.holds Tryz.pinned (OpenSpec.ofChange verifiesSpec)

/-- ITS FALSE NEIGHBOUR: 'it returns false'. Refute it at one input. -/
def verifiesWrong : ChangeSpec := { name := "verifies", fn := fun _ => fun
  | [d] => { results := [.lit (.bool false)], args := [d] }
  | _ => none }
def VerifiesWrongFalsely : Prop := verifiesRow.holds Tryz.pinned (OpenSpec.ofChange verifiesWrong)

/-- 'tithelaw.Extracts': WHATEVER THE INPUT: true; the input reads as it did. -/
def extractsSpec : ChangeSpec := { name := "extracts", fn := fun _ => fun
  | [d] => { results := [.lit (.bool true)], args := [d] }
  | _ => none }
def extractsRow : OpenClaim := { program := "ytbjobbkgelipmaagreat", sum := "42c107ac59df0e15f90a785eff178eafe98097c86bc586b056c2721bf1c20254", func := "tithe/tithelaw.Extracts", spec := "extracts", unfollowed := true, recurses := true, apart := false }
def ExtractsSaid : Prop := extractsRow.holds Tryz.pinned (OpenSpec.ofChange extractsSpec)

/-- ITS FALSE NEIGHBOUR: 'it returns false'. Refute it at one input. -/
def extractsWrong : ChangeSpec := { name := "extracts", fn := fun _ => fun
  | [d] => { results := [.lit (.bool false)], args := [d] }
  | _ => none }
def ExtractsWrongFalsely : Prop := extractsRow.holds Tryz.pinned (OpenSpec.ofChange extractsWrong)

/-- 'tithelaw.Books': WHATEVER THE INPUT: true; the input reads as it did. -/
def booksSpec : ChangeSpec := { name := "books", fn := fun _ => fun
  | [d] => { results := [.lit (.bool true)], args := [d] }
  | _ => none }
def booksRow : OpenClaim := { program := "ytbjobbkgelipmaagreat", sum := "42c107ac59df0e15f90a785eff178eafe98097c86bc586b056c2721bf1c20254", func := "tithe/tithelaw.Books", spec := "books", unfollowed := true, recurses := true, apart := false }
def BooksSaid : Prop := booksRow.holds Tryz.pinned (OpenSpec.ofChange booksSpec)

/-- ITS FALSE NEIGHBOUR: 'it returns false'. Refute it at one input. -/
def booksWrong : ChangeSpec := { name := "books", fn := fun _ => fun
  | [d] => { results := [.lit (.bool false)], args := [d] }
  | _ => none }
def BooksWrongFalsely : Prop := booksRow.holds Tryz.pinned (OpenSpec.ofChange booksWrong)

/-- 'tithelaw.All': WHATEVER THE INPUT: true; the input reads as it did. -/
def allSpec : ChangeSpec := { name := "all", fn := fun _ => fun
  | [d] => { results := [.lit (.bool true)], args := [d] }
  | _ => none }
def allRow : OpenClaim := { program := "ytbjobbkgelipmaagreat", sum := "42c107ac59df0e15f90a785eff178eafe98097c86bc586b056c2721bf1c20254", func := "tithe/tithelaw.All", spec := "all", unfollowed := true, recurses := true, apart := false }
def AllSaid : Prop := allRow.holds Tryz.pinned (OpenSpec.ofChange allSpec)

/-- ITS FALSE NEIGHBOUR: 'it returns false'. Refute it at one input. -/
def allWrong : ChangeSpec := { name := "all", fn := fun _ => fun
  | [d] => { results := [.lit (.bool false)], args := [d] }
  | _ => none }
def AllWrongFalsely : Prop := allRow.holds Tryz.pinned (OpenSpec.ofChange allWrong)

/- THE SECOND FORM. 'bulk': how many values and letters a reading holds, each counted each time it is reached (what is shared counts as often as it is met; a slice's spare places count too). A statement '..UptoSaid' is the law's where the arguments, and the package variables that the reading takes, are together of bulk at most 1048576: NARROWER than '..Said'. Prove '..Said' where nothing that the law and all that it calls make is longer than what came in: it says more and counts as full. Else prove '..UptoSaid'. A law counts once. -/
mutual
def uptoBulk {H : Type} : DataW H → Nat
  | .lit (.string bytes) => bytes.length + 1
  | .lit _ => 1
  | .nil => 1
  | .ptr d => uptoBulk d + 1
  | .slice elems spare => uptoBulkAll elems + uptoBulkAll spare + 1
  | .agg parts => uptoBulkAll parts + 1
  | .iface _ d => uptoBulk d + 1
  | .map entries => uptoBulkEntries entries + 1
  | .held _ => 1
def uptoBulkAll {H : Type} : List (DataW H) → Nat
  | [] => 0
  | d :: r => uptoBulk d + uptoBulkAll r
def uptoBulkEntries {H : Type} : List (Lit × DataW H) → Nat
  | [] => 0
  | x :: r => uptoBulkEntry x + uptoBulkEntries r
def uptoBulkEntry {H : Type} : Lit × DataW H → Nat
  | (.string bytes, d) => bytes.length + uptoBulk d + 1
  | (_, d) => uptoBulk d + 1
 end
def uptoSmall : (H : Type) → List (DataW H) → Bool := fun _ ds => decide (uptoBulkAll ds ≤ 1048576)
def OpenSpec.upto (s : _root_.Go.ChangeSpec) : _root_.Go.OpenSpec := { _root_.Go.OpenSpec.ofChange s with cond := some uptoSmall }

/-- 'tithelaw.Sums', WHERE WHAT IT READS IS OF BULK AT MOST 1048576: true; the input reads as it did. -/
def sumsUptoRow : OpenClaim := { program := "ytbjobbkgelipmaagreat", sum := "42c107ac59df0e15f90a785eff178eafe98097c86bc586b056c2721bf1c20254", func := "tithe/tithelaw.Sums", spec := "sums", unfollowed := true, recurses := true, apart := false, narrowed := true }
def SumsUptoSaid : Prop := sumsUptoRow.holds Tryz.pinned (OpenSpec.upto sumsSpec)

/-- 'tithelaw.Verifies', WHERE WHAT IT READS IS OF BULK AT MOST 1048576: true; the input reads as it did. -/
def verifiesUptoRow : OpenClaim := { program := "ytbjobbkgelipmaagreat", sum := "42c107ac59df0e15f90a785eff178eafe98097c86bc586b056c2721bf1c20254", func := "tithe/tithelaw.Verifies", spec := "verifies", unfollowed := true, recurses := true, apart := false, narrowed := true }
def VerifiesUptoSaid : Prop := verifiesUptoRow.holds Tryz.pinned (OpenSpec.upto verifiesSpec)

/-- 'tithelaw.Extracts', WHERE WHAT IT READS IS OF BULK AT MOST 1048576: true; the input reads as it did. -/
def extractsUptoRow : OpenClaim := { program := "ytbjobbkgelipmaagreat", sum := "42c107ac59df0e15f90a785eff178eafe98097c86bc586b056c2721bf1c20254", func := "tithe/tithelaw.Extracts", spec := "extracts", unfollowed := true, recurses := true, apart := false, narrowed := true }
def ExtractsUptoSaid : Prop := extractsUptoRow.holds Tryz.pinned (OpenSpec.upto extractsSpec)

/-- 'tithelaw.Books', WHERE WHAT IT READS IS OF BULK AT MOST 1048576: true; the input reads as it did. -/
def booksUptoRow : OpenClaim := { program := "ytbjobbkgelipmaagreat", sum := "42c107ac59df0e15f90a785eff178eafe98097c86bc586b056c2721bf1c20254", func := "tithe/tithelaw.Books", spec := "books", unfollowed := true, recurses := true, apart := false, narrowed := true }
def BooksUptoSaid : Prop := booksUptoRow.holds Tryz.pinned (OpenSpec.upto booksSpec)

/-- 'tithelaw.All', WHERE WHAT IT READS IS OF BULK AT MOST 1048576: true; the input reads as it did. -/
def allUptoRow : OpenClaim := { program := "ytbjobbkgelipmaagreat", sum := "42c107ac59df0e15f90a785eff178eafe98097c86bc586b056c2721bf1c20254", func := "tithe/tithelaw.All", spec := "all", unfollowed := true, recurses := true, apart := false, narrowed := true }
def AllUptoSaid : Prop := allUptoRow.holds Tryz.pinned (OpenSpec.upto allSpec)

end Rows
end Go.Proofs.YtbjobbkgelipmaaGreat
