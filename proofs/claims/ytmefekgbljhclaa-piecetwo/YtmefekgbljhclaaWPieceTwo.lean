
/-
  The law PieceTwo.
-/
import Derived.Test.YtmefekgbljhclaaPieA
import Derived.Test.YtmefekgbljhclaaPieZ
namespace Go.Proofs.Ytmefekgbljhclaa
set_option linter.all false
open Go.RowKit Go.Shelf Go.Lib

theorem walk_PieceTwo (n1 n2 : Int) (w : World) (h1 : (Lit.int .i64 n1).wf = true) (h2 : (Lit.int .i64 n2).wf = true) :
    Calls Try.prog 7 #[.int .i64 n1, .int .i64 n2] w fun e w' => e = .returned (.bool true) ∧ Below w.heap.size w w' := v_PieceTwo pieceC n1 n2 w h1 h2

end Go.Proofs.Ytmefekgbljhclaa
