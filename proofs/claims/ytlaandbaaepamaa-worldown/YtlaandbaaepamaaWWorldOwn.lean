
/-
  The law WorldOwn.
-/
import Derived.Test.YtlaandbaaepamaaWldP
import Derived.Test.YtlaandbaaepamaaWldX5
namespace Go.Proofs.Ytlaandbaaepamaa
set_option linter.all false
open Go.RowKit Go.Shelf Go.Lib

theorem walk_WorldOwn (n1 n2 n3 : Int) (a3 : Option Addr) (c3 : Nat) (l3 : List Lw) (w : World) (_1 : (Lit.int .i64 n1).wf = true) (_2 : (Lit.int .i64 n2).wf = true) (_3 : (Lit.int .i64 n3).wf = true) (h3 : Lls w a3 l3) (k3 : l3.length ≤ c3) :
    Calls Try.prog 8 #[.int .i64 n1, .int .i64 n2, .int .i64 n3, .slice a3 l3.length c3] w fun e w' => e = .returned (.bool true) ∧ Below w.heap.size w w' := v_WorldOwn wldC n1 n2 n3 a3 c3 l3 w _1 _2 _3 h3 k3

end Go.Proofs.Ytlaandbaaepamaa
