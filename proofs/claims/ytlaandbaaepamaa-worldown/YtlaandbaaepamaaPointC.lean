
/-
  Walks: point.Min, Max, Sum, Less, Late, Up.
-/
import Derived.Test.YtlaandbaaepamaaPointB
namespace Go.Proofs.Ytlaandbaaepamaa
set_option linter.all false
open Go.RowKit Go.Shelf

/-- The values of Less. -/
def lessV (l m : List Int) (t : Nat) : Int := mx (fun s => gt l s - gt m s) (t + 1)

end Go.Proofs.Ytlaandbaaepamaa
