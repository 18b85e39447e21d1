
/-
  Walks: the small functions of package headtop: begun, le.
-/
import Derived.Test.YthjeokdabdjhfaaBoundK
namespace Go.Proofs.Ythjeokdabdjhfaa
set_option linter.all false
open Go.RowKit Go.Shelf


theorem begun_lit : Convs [0, 4] [1, 2] [1, 2] := ⟨cv_of (by decide), cv_of (by decide), rfl, by decide⟩

theorem smax_at (A : Option Addr) (l : List Int) (nl c : Nat) (w : World) (h : Ints w A l) (hp : 0 < l.length) (hl : nl = l.length) :
    Calls Try.prog 19 #[.slice A nl c] w fun e w' => e = .returned (.int .i64 (maxTo l (l.length - 1))) ∧ w = w' := by
  subst hl
  exact slicesMax_any A l c w h hp

theorem smax_yes (A : Option Addr) (l : List Int) (nl c : Nat) (M : Int) (w : World) (hM : Hid (maxTo l (l.length - 1) = M)) (h : Ints w A l) (hp : 0 < l.length) (hl : nl = l.length) :
    Calls Try.prog 19 #[.slice A nl c] w fun e w' => e = .returned (.int .i64 M) ∧ w' = w := by
  have q := smax_at A l nl c w h hp hl
  rw [hM.out] at q
  exact q.mono fun _ _ ⟨a, b⟩ => ⟨a, b.symm⟩

end Go.Proofs.Ythjeokdabdjhfaa
