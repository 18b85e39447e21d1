
/-
  Plain words: the sum of the first values.
-/
import Derived.Test.YtlaandbaaepamaaPlain
namespace Go.Proofs.Ytlaandbaaepamaa
set_option linter.all false

/-- How much has come. -/
def sumV (l : List Int) : Nat → Int
  | 0 => 0
  | t + 1 => sumV l t + gt l t

end Go.Proofs.Ytlaandbaaepamaa
