
/-
  Walk: slices.Index of 0.
-/
import Derived.Test.YtjlkcjaofglpmaaCatC
namespace Go.Proofs.Ytjlkcjaofglpmaa
set_option linter.all false
open Go.RowKit Go.Shelf Go.Lib

/-- The first place of 0. -/
def ixIs (l : List Int) (R : Int) : Prop := (∃ d : Nat, d < l.length ∧ gt l d = 0 ∧ (∀ s, s < d → gt l s ≠ 0) ∧ R = d) ∨ ((∀ s, s < l.length → gt l s ≠ 0) ∧ R = -1)
def NoIx (l : List Int) (k : Nat) : Prop := ∀ s, s < k → gt l s ≠ 0
theorem NoIx.next {l : List Int} {k : Nat} (h : NoIx l k) (h' : gt l k ≠ 0) : NoIx l (k + 1) := fun s hs => by
  by_cases e : s = k
  · rw [e]; exact h'
  · exact h s (by omega)
end Go.Proofs.Ytjlkcjaofglpmaa
