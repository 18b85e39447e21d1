
/-
  The walk of the law EdfFits.
-/
import Derived.Test.YtoapgdandpcboaaEdfL
import Derived.Test.YtoapgdandpcboaaJobD
namespace Go.Proofs.Ytoapgdandpcboaa
set_option linter.all false
open Go.RowKit Go.Shelf Go.Lib

theorem walk_EdfFits (a0 : Option Addr) (c0 : Nat) (l0 : List Jb) (w : World) (h0 : Jbs w a0 l0) (k0 : l0.length ≤ c0) :
    Calls Try.prog 4 #[.slice a0 l0.length c0] w fun e w' => e = .returned (.bool true) ∧ Below w.heap.size w w' := v_EdfFits edfC a0 c0 l0 w h0 k0

end Go.Proofs.Ytoapgdandpcboaa
