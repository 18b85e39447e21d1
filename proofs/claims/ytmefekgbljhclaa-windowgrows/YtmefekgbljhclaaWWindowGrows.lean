
/-
  The law WindowGrows.
-/
import Derived.Test.YtmefekgbljhclaaWinB
import Derived.Test.YtmefekgbljhclaaWinX
namespace Go.Proofs.Ytmefekgbljhclaa
set_option linter.all false
open Go.RowKit Go.Shelf Go.Lib

theorem walk_WindowGrows (n1 n2 n3 n4 n5 n6 : Int) (w : World) (h1 : (Lit.int .i64 n1).wf = true) (h2 : (Lit.int .i64 n2).wf = true) (h3 : (Lit.int .i64 n3).wf = true) (h4 : (Lit.int .i64 n4).wf = true) (h5 : (Lit.int .i64 n5).wf = true) (h6 : (Lit.int .i64 n6).wf = true) :
    Calls Try.prog 11 #[.int .i64 n1, .int .i64 n2, .int .i64 n3, .int .i64 n4, .int .i64 n5, .int .i64 n6] w fun e w' => e = .returned (.bool true) ∧ Below w.heap.size w w' := v_WindowGrows winC n1 n2 n3 n4 n5 n6 w h1 h2 h3 h4 h5 h6

end Go.Proofs.Ytmefekgbljhclaa
