
/-
  Walks: trace.Check, Sum, Slots; the document's own check and sum.
-/
import Derived.Test.YtlaandbaaepamaaTraceP
import Derived.Test.YtlaandbaaepamaaPrA
import Derived.Laws.AppendOwn
namespace Go.Proofs.Ytlaandbaaepamaa
set_option linter.all false
open Go.RowKit Go.Shelf

theorem trkGo_hd {l : List Int} {k : Nat} {x c : Int} (h : trk l = trkGo (l.drop k)) (hx : l[k]? = some x) (hc : c = if x < 0 then 1 else if 10000 < x then 1 else trkGo (l.drop (k + 1))) : trk l = c := by
  rw [h, drop_of_get hx, hc, trkGo]

/-- What Sum hands back. -/
def trL (l : List Int) : List Int := if trk l = 0 then adL l else []
theorem trL_yes {l : List Int} (h : Tr l) : trL l = adL l := by rw [trL, if_pos (trk_iff.2 h)]
theorem trL_no {l : List Int} (h : ¬ trk l = 0) : trL l = [] := by rw [trL, if_neg h]

def outP (x : Int) : Bool := decide (x < 0 ∨ 10000 < x)
end Go.Proofs.Ytlaandbaaepamaa
