/-
  Verifies: the statement.
-/
import Derived.Test.YtbjobbkgelipmaaGreatOwnVer
import Derived.Test.YtbjobbkgelipmaaGreatLawVer
namespace Go.Proofs.YtbjobbkgelipmaaGreat
open Go.RowKit

theorem ver_owes : VerOwes := fun s t hs ht =>
  ⟨⟨(verAns s.data.toList t.data.toList).1.toArray⟩, (verAns s.data.toList t.data.toList).2.1, (verAns s.data.toList t.data.toList).2.2,
    fun w b1 b2 h1 h2 hB1 hB2 => ownver_any s t b1 b2 w hs ht h1 h2 hB1 hB2, fun w => refver_any s t w hs ht⟩

theorem verifies_holds : Rows.VerifiesSaid := verifies_of ver_owes

#print axioms verifies_holds

end Go.Proofs.YtbjobbkgelipmaaGreat
