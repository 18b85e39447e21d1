
/-
  The law PieceMoves.
-/
import Derived.Test.YtmefekgbljhclaaPieF
import Derived.Test.YtmefekgbljhclaaPieZ
namespace Go.Proofs.Ytmefekgbljhclaa
set_option linter.all false
open Go.RowKit Go.Shelf Go.Lib

theorem walk_PieceMoves (x y : Int) (A : Option Addr) (c : Nat) (z : List Bool) (i : Int) (w : World) (h1 : (Lit.int .i64 x).wf = true) (h2 : (Lit.int .i64 y).wf = true) (hz : Bls w A z) (hzc : z.length ≤ c) (h3 : (Lit.int .i64 i).wf = true) :
    Calls Try.prog 4 #[.agg #[.int .i64 x, .int .i64 y, .slice A z.length c], .int .i64 i] w fun e w' => e = .returned (.bool true) ∧ Below w.heap.size w w' := v_PieceMoves pieceC x y A c z i w h1 h2 h3 hz hzc

end Go.Proofs.Ytmefekgbljhclaa
