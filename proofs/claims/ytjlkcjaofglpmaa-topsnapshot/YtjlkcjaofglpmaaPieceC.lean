
/-
  What package piece owes; the document's own pieces and stages.
-/
import Derived.Test.YtjlkcjaofglpmaaStgA
import Derived.OwnWalk
namespace Go.Proofs.Ytjlkcjaofglpmaa
set_option linter.all false
open Go.RowKit Go.Shelf Go.Lib

/-- What of a list of marks is there. -/
def hv (z : List Bool) (i : Nat) : Bool := z.getD i false
/-- What package piece owes: its six functions, whatever they are handed. -/
structure PieceC : Prop where
  sizes : ∀ (s u : Int) (w : World), whE s u = 0 → Calls Try.prog 22 #[.int .i64 s, .int .i64 u] w fun e w' => ∃ (A : Option Addr) (c : Nat), e = .returned (.tuple #[.slice A (pcN s u) c, .int .i64 0]) ∧ w'.ownsRow w.heap.size 3 1 (.slice A (pcN s u) c) (pcN s u) ((tab (pcN s u) (pcV s u)).map (Value.int .i64)) ∧ Below w.heap.size w w'
  sizes_no : ∀ (s u : Int) (w : World), ¬ whE s u = 0 → Calls Try.prog 22 #[.int .i64 s, .int .i64 u] w fun e w' => (∃ (A : Option Addr) (c : Nat), e = .returned (.tuple #[.slice A 0 c, .int .i64 (whE s u)])) ∧ Below w.heap.size w w'
  check : ∀ (s u : Int) (A : Option Addr) (c : Nat) (z : List Bool) (w : World), Bls w A z → Calls Try.prog 36 #[.agg #[.int .i64 s, .int .i64 u, .slice A z.length c]] w fun e w' => e = .returned (.int .i64 (stE s u z.length)) ∧ Below w.heap.size w w'
  new : ∀ (s u : Int) (w : World), whE s u = 0 → Calls Try.prog 23 #[.int .i64 s, .int .i64 u] w fun e w' => ∃ (A : Option Addr) (c : Nat), e = .returned (.tuple #[.agg #[.int .i64 s, .int .i64 u, .slice A (pcN s u) c], .int .i64 0]) ∧ w'.ownsRow w.heap.size 4 1 (.slice A (pcN s u) c) (pcN s u) ((List.replicate (pcN s u) false).map Value.bool) ∧ Below w.heap.size w w'
  new_no : ∀ (s u : Int) (w : World), ¬ whE s u = 0 → Calls Try.prog 23 #[.int .i64 s, .int .i64 u] w fun e w' => (∃ (A : Option Addr) (c : Nat), e = .returned (.tuple #[.agg #[.int .i64 0, .int .i64 0, .slice A 0 c], .int .i64 (whE s u)])) ∧ Below w.heap.size w w'
  put : ∀ (s u : Int) (A : Option Addr) (c : Nat) (z : List Bool) (i : Nat) (w : World), Bls w A z → z.length ≤ c → stE s u z.length = 0 → i < z.length → Calls Try.prog 25 #[.agg #[.int .i64 s, .int .i64 u, .slice A z.length c], .int .i64 i] w fun e w' => ∃ (B : Option Addr) (d : Nat), e = .returned (.tuple #[.agg #[.int .i64 s, .int .i64 u, .slice B z.length d], .int .i64 0]) ∧ w'.ownsRow w.heap.size 4 1 (.slice B z.length d) z.length ((z.set i true).map Value.bool) ∧ Below w.heap.size w w'
  put_arg : ∀ (s u : Int) (A : Option Addr) (c : Nat) (z : List Bool) (i : Int) (w : World), Bls w A z → stE s u z.length = 0 → ¬ (0 ≤ i ∧ i < z.length) → Calls Try.prog 25 #[.agg #[.int .i64 s, .int .i64 u, .slice A z.length c], .int .i64 i] w fun e w' => (∃ (B : Option Addr) (d : Nat), e = .returned (.tuple #[.agg #[.int .i64 0, .int .i64 0, .slice B 0 d], .int .i64 1])) ∧ Below w.heap.size w w'
  put_no : ∀ (s u : Int) (A : Option Addr) (c : Nat) (z : List Bool) (i : Int) (w : World), Bls w A z → ¬ stE s u z.length = 0 → Calls Try.prog 25 #[.agg #[.int .i64 s, .int .i64 u, .slice A z.length c], .int .i64 i] w fun e w' => (∃ (B : Option Addr) (d : Nat), e = .returned (.tuple #[.agg #[.int .i64 0, .int .i64 0, .slice B 0 d], .int .i64 (stE s u z.length)])) ∧ Below w.heap.size w w'
  next : ∀ (s u : Int) (A : Option Addr) (c : Nat) (z : List Bool) (w : World), Bls w A z → stE s u z.length = 0 → Calls Try.prog 28 #[.agg #[.int .i64 s, .int .i64 u, .slice A z.length c]] w fun e w' => ((∃ i : Nat, i < z.length ∧ hv z i = false ∧ (∀ k, k < i → hv z k = true) ∧ e = .returned (.tuple #[.int .i64 i, .int .i64 0])) ∨ ((∀ k, k < z.length → hv z k = true) ∧ e = .returned (.tuple #[.int .i64 0, .int .i64 5]))) ∧ Below w.heap.size w w'
  next_no : ∀ (s u : Int) (A : Option Addr) (c : Nat) (z : List Bool) (w : World), Bls w A z → ¬ stE s u z.length = 0 → Calls Try.prog 28 #[.agg #[.int .i64 s, .int .i64 u, .slice A z.length c]] w fun e w' => e = .returned (.tuple #[.int .i64 0, .int .i64 (stE s u z.length)]) ∧ Below w.heap.size w w'
  got : ∀ (s u : Int) (A : Option Addr) (c : Nat) (z : List Bool) (w : World), Bls w A z → stE s u z.length = 0 → Calls Try.prog 27 #[.agg #[.int .i64 s, .int .i64 u, .slice A z.length c]] w fun e w' => e = .returned (.tuple #[.int .i64 (gotS s u (hv z) z.length), .int .i64 0]) ∧ Below w.heap.size w w'
  got_no : ∀ (s u : Int) (A : Option Addr) (c : Nat) (z : List Bool) (w : World), Bls w A z → ¬ stE s u z.length = 0 → Calls Try.prog 27 #[.agg #[.int .i64 s, .int .i64 u, .slice A z.length c]] w fun e w' => e = .returned (.tuple #[.int .i64 0, .int .i64 (stE s u z.length)]) ∧ Below w.heap.size w w'

end Go.Proofs.Ytjlkcjaofglpmaa
