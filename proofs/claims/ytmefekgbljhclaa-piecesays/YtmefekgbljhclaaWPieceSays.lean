
/-
  The law PieceSays.
-/
import Derived.Test.YtmefekgbljhclaaPieD
import Derived.Test.YtmefekgbljhclaaPieZ
namespace Go.Proofs.Ytmefekgbljhclaa
set_option linter.all false
open Go.RowKit Go.Shelf Go.Lib

theorem walk_PieceSays (n1 n2 x y : Int) (A : Option Addr) (c : Nat) (z : List Bool) (w : World) (h1 : (Lit.int .i64 n1).wf = true) (h2 : (Lit.int .i64 n2).wf = true) (h3 : (Lit.int .i64 x).wf = true) (h4 : (Lit.int .i64 y).wf = true) (hz : Bls w A z) (_hc : z.length ≤ c) :
    Calls Try.prog 3 #[.int .i64 n1, .int .i64 n2, .agg #[.int .i64 x, .int .i64 y, .slice A z.length c]] w fun e w' => e = .returned (.bool true) ∧ Below w.heap.size w w' := v_PieceSays pieceC n1 n2 x y A c z w h1 h2 h3 h4 hz

end Go.Proofs.Ytmefekgbljhclaa
