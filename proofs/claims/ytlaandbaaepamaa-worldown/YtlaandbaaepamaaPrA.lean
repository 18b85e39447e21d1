
/-
  Walks: slices.IndexFunc, slices.ContainsFunc over whatever function that tests a number.
-/
import Derived.Test.YtlaandbaaepamaaPointB
import Derived.Test.YtlaandbaaepamaaPlain
namespace Go.Proofs.Ytlaandbaaepamaa
set_option linter.all false
open Go.RowKit Go.Shelf

/-- A function value 'func(int) bool' that answers p of a number, the world as it was. -/
structure Pr (k : FuncId) (p : Int → Bool) : Prop where
  ent : ∀ args w, (callFunc k args).run Try.prog w = .ok (.enter k args) w
  call : ∀ (x : Int) (w : World), Calls Try.prog k #[.int .i64 x] w fun e w' => e = .returned (.bool (p x)) ∧ w = w'

theorem any_step {p : Int → Bool} {l : List Int} {k : Nat} {x : Int} {r : Bool} (h : l.any p = (l.drop k).any p) (hx : l[k]? = some x) (hr : r = (p x || (l.drop (k + 1)).any p)) : l.any p = r := by
  rw [h, drop_of_get hx, List.any_cons, hr]
/-- A place, or -1. -/
def IdxOf (b : Bool) (e : Ending) : Prop := ∃ i : Int, e = .returned (.int .i64 i) ∧ decide (0 ≤ i) = b

end Go.Proofs.Ytlaandbaaepamaa
