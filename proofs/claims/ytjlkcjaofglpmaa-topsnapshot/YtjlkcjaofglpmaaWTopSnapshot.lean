
/-
  The law TopSnapshot.
-/
import Derived.Test.YtjlkcjaofglpmaaSnpT
import Derived.Test.YtjlkcjaofglpmaaPieZ
import Derived.Test.YtjlkcjaofglpmaaResX
namespace Go.Proofs.Ytjlkcjaofglpmaa
set_option linter.all false
open Go.RowKit Go.Shelf Go.Lib

theorem walk_TopSnapshot (s u r : Int) (a3 : Option Addr) (c3 : Nat) (l3 : List Bool) (a4 : Option Addr) (c4 : Nat) (l4 : List Int) (w : World)
    (_1 : (Lit.int .i64 s).wf = true) (_2 : (Lit.int .i64 u).wf = true) (_3 : (Lit.int .i64 r).wf = true) (h3 : Bls w a3 l3) (_k3 : l3.length ≤ c3) (h4 : Ints w a4 l4) (_k4 : l4.length ≤ c4) :
    Calls Try.prog 10 #[.int .i64 s, .int .i64 u, .int .i64 r, .slice a3 l3.length c3, .slice a4 l4.length c4] w fun e w' => e = .returned (.bool true) ∧ Below w.heap.size w w' := v_TopSnapshot pieceC resC s u r a3 c3 l3 a4 c4 l4 w _1 _2 _3 h3 _k3 h4 _k4

end Go.Proofs.Ytjlkcjaofglpmaa
