
/-
  Walks: point.Late, point.Up.
-/
import Derived.Test.YtlaandbaaepamaaPointC
namespace Go.Proofs.Ytlaandbaaepamaa
set_option linter.all false
open Go.RowKit Go.Shelf

/-- The values of Late. -/
def lateV (l : List Int) (d : Int) (t : Nat) : Int := if (t : Int) < d then 0 else gt l (t - d.toNat)
def lateE (l : List Int) (d : Int) : Int := if chk l ≠ 0 then chk l else if d < 0 then 1 else 0
def upE (l : List Int) (n : Int) : Int := if chk l ≠ 0 then chk l else if n < 0 ∨ 1000000 < n then 1 else 0

/-- What the function values of Late and Up need of memory: the old blocks and the two boxes. -/
def BInv (A : Option Addr) (n c : Nat) (x : Int) (wp : World) (_t : Nat) (w : World) : Prop :=
  (∀ b, b < wp.heap.size → w.heap[b]? = wp.heap[b]?) ∧ Blk w wp.heap.size 29 #[.slice A n c] ∧ Blk w (wp.heap.size + 1) 3 #[.int .i64 x]

/-- The two boxes of Late and Up. -/
theorem boxes (A : Option Addr) (n c : Nat) (x : Int) (w W : World) (hW : W = (w.alloc (.cells #[.slice A n c] 29)).alloc (.cells #[.int .i64 x] 3)) :
    BInv A n c x w 0 W ∧ W.heap.size = w.heap.size + 2 ∧ Below w.heap.size w W := by
  refine ⟨⟨fun b hb => ?_, ?_, ?_⟩, by rw [hW]; simp, by rw [hW]; exact ((Below.refl _ _).alloc (Nat.le_refl _) _).alloc (by simp) _⟩
  · rw [hW, Below.heap_alloc _ _ b (by simp; omega), Below.heap_alloc _ _ b hb]
  · rw [hW]; exact (Blk.new w _ _).alloc _
  · rw [hW]; simpa using Blk.new (w.alloc (.cells #[.slice A n c] 29)) 3 #[.int .i64 x]


end Go.Proofs.Ytlaandbaaepamaa
