
/-
  The law ShareEach.
-/
import Derived.Test.YtjlkcjaofglpmaaShrA
import Derived.Test.YtjlkcjaofglpmaaShrX
namespace Go.Proofs.Ytjlkcjaofglpmaa
set_option linter.all false
open Go.RowKit Go.Shelf Go.Lib

theorem walk_ShareEach (a0 : Option Addr) (c0 : Nat) (l0 : List Int) (n1 n2 : Int) (w : World)
    (h0 : Ints w a0 l0) (_k0 : l0.length ≤ c0) (_1 : (Lit.int .i64 n1).wf = true) (_2 : (Lit.int .i64 n2).wf = true) :
    Calls Try.prog 6 #[.slice a0 l0.length c0, .int .i64 n1, .int .i64 n2] w fun e w' => e = .returned (.bool true) ∧ Below w.heap.size w w' := v_ShareEach shrC a0 c0 l0 n1 n2 w h0 _k0 _1 _2

end Go.Proofs.Ytjlkcjaofglpmaa
