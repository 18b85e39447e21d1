
/-
  What package piece owes, read; the law PieceTwo over it.
-/
import Derived.Test.YtjlkcjaofglpmaaPieceC
import Derived.Test.YtjlkcjaofglpmaaRefA
namespace Go.Proofs.Ytjlkcjaofglpmaa
set_option linter.all false
open Go.RowKit Go.Shelf Go.Lib

/-- Sizes, read. -/
theorem PieceC.sizes_at (E : PieceC) {s u : Int} (S U : Int) (n : Nat) (w : World) (h : whE S U = 0) (hn : pcN S U = n) (e1 : s = S) (e2 : u = U) : Calls Try.prog 22 #[.int .i64 s, .int .i64 u] w fun e w' => ∃ (A : Option Addr) (c : Nat), e = .returned (.tuple #[.slice A n c, .int .i64 0]) ∧ Ints w' A (tab n (pcV S U)) ∧ n ≤ c ∧ Below w.heap.size w w' := by
  subst hn e1 e2
  refine (E.sizes s u w h).mono ?_
  rintro e w' ⟨A, c, he, o, b⟩
  refine ⟨A, c, he, Ints.of_own (by rw [length_tab]; exact o), ?_, b⟩
  rcases o.2 with ⟨_, h0⟩ | ⟨g, cap, cur, hv, _, _, hn, _⟩
  · omega
  · injection hv with _ _ e
    subst e
    exact hn
theorem pie_lit1 : whE 5 2 = 0 := by decide
theorem pie_lit2 : pcN 5 2 = 3 := by decide
theorem pie_row1 : tab 3 (pcV 5 2) = [2, 2, 1] := by decide
end Go.Proofs.Ytjlkcjaofglpmaa
