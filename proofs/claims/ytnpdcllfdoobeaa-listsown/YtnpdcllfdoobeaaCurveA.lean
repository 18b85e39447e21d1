
/-
  Walks: curve.Check and its document twin answer chk.
-/
import Derived.Test.YtnpdcllfdoobeaaProg
import Derived.Test.YtnpdcllfdoobeaaWords
import Derived.WalkKit
import Derived.WalkSpells
import Derived.WalkLawsBesides
import Derived.Outline
namespace Go.Proofs.Ytnpdcllfdoobeaa
set_option linter.all false
open Go.RowKit

theorem ret_int {k : IntKind} {a b : Int} (h : a = b) : Ending.returned (.int k a) = .returned (.int k b) := by rw [h]

theorem chkGo_hd {l : List Int} {k : Nat} {x b c : Int} (h : chk l = chkGo b (l.drop k)) (hx : l[k]? = some x) (hc : c = if x < 0 then 1 else if 1000000 < x then 2 else if x < b then 3 else chkGo x (l.drop (k + 1))) : chk l = c := by
  rw [h, drop_of_get hx, hc, chkGo]

end Go.Proofs.Ytnpdcllfdoobeaa
