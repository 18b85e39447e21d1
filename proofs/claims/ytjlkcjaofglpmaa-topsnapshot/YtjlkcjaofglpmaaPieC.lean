
/-
  The document's own stages: headref.Stage, SameStage.
-/
import Derived.Test.YtjlkcjaofglpmaaPieB
namespace Go.Proofs.Ytjlkcjaofglpmaa
set_option linter.all false
open Go.RowKit Go.Shelf Go.Lib

end Go.Proofs.Ytjlkcjaofglpmaa
