
/-
  Walks: conv.Of, dual.Of, conv.Times; the document's own powers: by halves.
-/
import Derived.Test.YthjeokdabdjhfaaConvC
import Derived.Test.YthjeokdabdjhfaaPointB
namespace Go.Proofs.Ythjeokdabdjhfaa
set_option linter.all false
open Go.RowKit Go.Shelf

/-- The error of Times. -/
def timE (l : List Int) (n : Int) : Int := if chk l ≠ 0 then chk l else if n < 1 ∨ 60 < n then 1 else 0

end Go.Proofs.Ythjeokdabdjhfaa
