
/-
  The law ShareMore.
-/
import Derived.Test.YtjlkcjaofglpmaaShrD
import Derived.Test.YtjlkcjaofglpmaaShrX
namespace Go.Proofs.Ytjlkcjaofglpmaa
set_option linter.all false
open Go.RowKit Go.Shelf Go.Lib

theorem walk_ShareMore (a0 : Option Addr) (c0 : Nat) (l0 : List Int) (n1 n2 n3 n4 : Int) (w : World)
    (h0 : Ints w a0 l0) (_k0 : l0.length ≤ c0) (_1 : (Lit.int .i64 n1).wf = true) (_2 : (Lit.int .i64 n2).wf = true) (_3 : (Lit.int .i64 n3).wf = true) (_4 : (Lit.int .i64 n4).wf = true) :
    Calls Try.prog 9 #[.slice a0 l0.length c0, .int .i64 n1, .int .i64 n2, .int .i64 n3, .int .i64 n4] w fun e w' => e = .returned (.bool true) ∧ Below w.heap.size w w' := v_ShareMore shrC a0 c0 l0 n1 n2 n3 n4 w h0 _k0 _1 _2 _3 _4

end Go.Proofs.Ytjlkcjaofglpmaa
