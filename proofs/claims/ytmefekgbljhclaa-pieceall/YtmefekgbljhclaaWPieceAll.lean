
/-
  The law PieceAll.
-/
import Derived.Test.YtmefekgbljhclaaPieH
import Derived.Test.YtmefekgbljhclaaPieZ
namespace Go.Proofs.Ytmefekgbljhclaa
set_option linter.all false
open Go.RowKit Go.Shelf Go.Lib

theorem walk_PieceAll (s u : Int) (a : Option Addr) (c : Nat) (l : List Int) (w : World) (h1 : (Lit.int .i64 s).wf = true) (h2 : (Lit.int .i64 u).wf = true) (hl : Ints w a l) (_hc : l.length ≤ c) :
    Calls Try.prog 5 #[.int .i64 s, .int .i64 u, .slice a l.length c] w fun e w' => e = .returned (.bool true) ∧ Below w.heap.size w w' := v_PieceAll pieceC s u a c l w h1 h2 hl

end Go.Proofs.Ytmefekgbljhclaa
