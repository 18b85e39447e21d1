
/-
  The law WorldShares.
-/
import Derived.Test.YtlaandbaaepamaaWldH
import Derived.Test.YtlaandbaaepamaaWldX5
import Derived.Test.YtlaandbaaepamaaShrX
namespace Go.Proofs.Ytlaandbaaepamaa
set_option linter.all false
open Go.RowKit Go.Shelf Go.Lib

theorem walk_WorldShares (n1 n2 n3 : Int) (w : World) (_1 : (Lit.int .i64 n1).wf = true) (_2 : (Lit.int .i64 n2).wf = true) (_3 : (Lit.int .i64 n3).wf = true) :
    Calls Try.prog 7 #[.int .i64 n1, .int .i64 n2, .int .i64 n3] w fun e w' => e = .returned (.bool true) ∧ Below w.heap.size w w' := v_WorldShares wldC shrC n1 n2 n3 w _1 _2 _3

end Go.Proofs.Ytlaandbaaepamaa
