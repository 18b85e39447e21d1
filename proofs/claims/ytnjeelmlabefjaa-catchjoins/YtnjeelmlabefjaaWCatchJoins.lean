
/-
  The law CatchJoins.
-/
import Derived.Test.YtnjeelmlabefjaaCatJ
import Derived.Test.YtnjeelmlabefjaaCatX
namespace Go.Proofs.Ytnjeelmlabefjaa
set_option linter.all false
open Go.RowKit Go.Shelf Go.Lib

theorem walk_CatchJoins (a0 : Option Addr) (c0 : Nat) (l0 : List Int) (a1 : Option Addr) (c1 : Nat) (l1 : List Int) (n1 n2 : Int) (w : World)
    (h0 : Ints w a0 l0) (_k0 : l0.length ≤ c0) (n0 : a0 = none → c0 = 0) (s0 : 8 * l0.length ≤ 140737488351232) (h1 : Ints w a1 l1) (_k1 : l1.length ≤ c1) (n1' : a1 = none → c1 = 0) (s1 : 8 * l1.length ≤ 140737488351232) (_1 : (Lit.int .i64 n1).wf = true) (_2 : (Lit.int .i64 n2).wf = true) :
    Calls Try.prog 12 #[.slice a0 l0.length c0, .slice a1 l1.length c1, .int .i64 n1, .int .i64 n2] w fun e w' => e = .returned (.bool true) ∧ Below w.heap.size w w' := v_CatchJoins catC a0 c0 l0 a1 c1 l1 n1 n2 w h0 _k0 n0 s0 h1 _k1 n1' s1 _1 _2

end Go.Proofs.Ytnjeelmlabefjaa
