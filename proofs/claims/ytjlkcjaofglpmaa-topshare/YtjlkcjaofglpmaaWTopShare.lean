
/-
  The law TopShare.
-/
import Derived.Test.YtjlkcjaofglpmaaShrT
import Derived.Test.YtjlkcjaofglpmaaShrX
namespace Go.Proofs.Ytjlkcjaofglpmaa
set_option linter.all false
open Go.RowKit Go.Shelf Go.Lib

theorem walk_TopShare (a0 : Option Addr) (c0 : Nat) (l0 : List Int) (n1 : Int) (w : World)
    (h0 : Ints w a0 l0) (_k0 : l0.length ≤ c0) (_1 : (Lit.int .i64 n1).wf = true) :
    Calls Try.prog 11 #[.slice a0 l0.length c0, .int .i64 n1] w fun e w' => e = .returned (.bool true) ∧ Below w.heap.size w w' := v_TopShare shrC a0 c0 l0 n1 w h0 _k0 _1

end Go.Proofs.Ytjlkcjaofglpmaa
