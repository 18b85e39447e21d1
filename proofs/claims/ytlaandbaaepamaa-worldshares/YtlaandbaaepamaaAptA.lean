
/-
  Two lists that a call hands back, each in memory of its own.
-/
import Derived.Test.YtlaandbaaepamaaRefA
namespace Go.Proofs.Ytlaandbaaepamaa
set_option linter.all false
open Go.RowKit

/-- Two slices lie in no block together. -/
def Apt (v u : Value) : Prop := ∀ g, v.ownBlock = some g → u.ownBlock = some g → False
/-- What line.Run leaves: two lists in new memory, each for itself, and an error. -/
def Ans3 (L M : List Int) (E : Int) (w : World) (e : Ending) (w' : World) : Prop :=
  ∃ A c B d, e = .returned (.tuple #[.slice A L.length c, .slice B M.length d, .int .i64 E]) ∧ w'.ownsRow w.heap.size 3 1 (.slice A L.length c) L.length (L.map (Value.int .i64)) ∧ w'.ownsRow w.heap.size 3 1 (.slice B M.length d) M.length (M.map (Value.int .i64)) ∧ Apt (.slice A L.length c) (.slice B M.length d) ∧ Below w.heap.size w w'

end Go.Proofs.Ytlaandbaaepamaa
