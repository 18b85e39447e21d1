
/-
  The walk of the law EdfBest.
-/
import Derived.Test.YtoapgdandpcboaaEdfL
import Derived.Test.YtoapgdandpcboaaJobF
namespace Go.Proofs.Ytoapgdandpcboaa
set_option linter.all false
open Go.RowKit Go.Shelf Go.Lib

theorem walk_EdfBest (a0 : Option Addr) (c0 : Nat) (l0 : List Jb) (a1 : Option Addr) (c1 : Nat) (l1 : List Int) (w : World) (h0 : Jbs w a0 l0) (k0 : l0.length ≤ c0) (h1 : Ints w a1 l1) (k1 : l1.length ≤ c1) :
    Calls Try.prog 6 #[.slice a0 l0.length c0, .slice a1 l1.length c1] w fun e w' => e = .returned (.bool true) ∧ Below w.heap.size w w' := v_EdfBest edfC a0 c0 l0 a1 c1 l1 w h0 k0 h1 k1

end Go.Proofs.Ytoapgdandpcboaa
