
/-
  The walk of the law EdfEasier.
-/
import Derived.Test.YtoapgdandpcboaaEdfL
import Derived.Test.YtoapgdandpcboaaJobH
namespace Go.Proofs.Ytoapgdandpcboaa
set_option linter.all false
open Go.RowKit Go.Shelf Go.Lib

theorem walk_EdfEasier (a0 : Option Addr) (c0 : Nat) (l0 : List Jb) (n1 n2 n3 n4 : Int) (w : World) (h0 : Jbs w a0 l0) (k0 : l0.length ≤ c0) (_h1 : (Lit.int .i64 n1).wf = true) (_h2 : (Lit.int .i64 n2).wf = true) (_h3 : (Lit.int .i64 n3).wf = true) (_h4 : (Lit.int .i64 n4).wf = true) :
    Calls Try.prog 8 #[.slice a0 l0.length c0, .int .i64 n1, .int .i64 n2, .int .i64 n3, .int .i64 n4] w fun e w' => e = .returned (.bool true) ∧ Below w.heap.size w w' := v_EdfEasier edfC a0 c0 l0 n1 n2 n3 n4 w h0 k0

end Go.Proofs.Ytoapgdandpcboaa
