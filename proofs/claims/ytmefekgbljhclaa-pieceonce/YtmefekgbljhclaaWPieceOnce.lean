
/-
  The law PieceOnce.
-/
import Derived.Test.YtmefekgbljhclaaPieG
import Derived.Test.YtmefekgbljhclaaPieZ
namespace Go.Proofs.Ytmefekgbljhclaa
set_option linter.all false
open Go.RowKit Go.Shelf Go.Lib

theorem walk_PieceOnce (x y : Int) (A : Option Addr) (c : Nat) (z : List Bool) (n1 n2 : Int) (w : World) (h1 : (Lit.int .i64 x).wf = true) (h2 : (Lit.int .i64 y).wf = true) (hz : Bls w A z) (hzc : z.length ≤ c) (h3 : (Lit.int .i64 n1).wf = true) (h4 : (Lit.int .i64 n2).wf = true) :
    Calls Try.prog 6 #[.agg #[.int .i64 x, .int .i64 y, .slice A z.length c], .int .i64 n1, .int .i64 n2] w fun e w' => e = .returned (.bool true) ∧ Below w.heap.size w w' := v_PieceOnce pieceC x y A c z n1 n2 w h1 h2 h3 h4 hz hzc

end Go.Proofs.Ytmefekgbljhclaa
