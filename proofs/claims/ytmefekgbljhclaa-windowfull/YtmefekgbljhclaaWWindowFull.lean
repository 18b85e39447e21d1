
/-
  The law WindowFull.
-/
import Derived.Test.YtmefekgbljhclaaWinD
import Derived.Test.YtmefekgbljhclaaWinX
namespace Go.Proofs.Ytmefekgbljhclaa
set_option linter.all false
open Go.RowKit Go.Shelf Go.Lib

theorem walk_WindowFull (n1 n2 n3 : Int) (w : World) (h1 : (Lit.int .i64 n1).wf = true) (h2 : (Lit.int .i64 n2).wf = true) (h3 : (Lit.int .i64 n3).wf = true) :
    Calls Try.prog 10 #[.int .i64 n1, .int .i64 n2, .int .i64 n3] w fun e w' => e = .returned (.bool true) ∧ Below w.heap.size w w' := v_WindowFull winC n1 n2 n3 w h1 h2 h3

end Go.Proofs.Ytmefekgbljhclaa
