
/-
  Walks: math/bits.Mul of one and a small number, slices.Repeat of one element, slices.Clone.
-/
import Derived.Test.YtmefekgbljhclaaConvA
import Derived.Laws.Bits64b
import Derived.Deep.RegionLaw
import Derived.Lib.SliceRun
namespace Go.Proofs.Ytmefekgbljhclaa
set_option linter.all false
open Go.RowKit Go.Shelf

/-- A row of n, of which the first k are v. -/
def fillAt (n k : Nat) (v : Int) : List Value := List.replicate k (.int .i64 v) ++ List.replicate (n - k) (.int .i64 0)
theorem fillAt_length {n k : Nat} (v : Int) (h : k ≤ n) : (fillAt n k v).length = n := by simp [fillAt]; omega
theorem fillAt_get {n k j : Nat} (v : Int) (h : j < k) : (fillAt n k v)[j]? = some (.int .i64 v) := by
  unfold fillAt; rw [List.getElem?_append_left (by simpa using h)]; simp [h]
theorem fillAt_full (n : Nat) (v : Int) : fillAt n n v = (List.replicate n v).map (Value.int .i64) := by simp [fillAt]
theorem fillAt_splice {n k m : Nat} (v : Int) (h : k + m ≤ n) : splice (fillAt n k v) k (List.replicate m (.int .i64 v)) = fillAt n (k + m) v := by
  unfold splice fillAt
  rw [List.take_left' (by simp), List.drop_append]
  simp only [List.length_replicate, List.drop_replicate]
  rw [show k - (k + m) = 0 by omega, show k + m - k = m by omega, show n - k - m = n - (k + m) by omega]
  simp only [List.replicate_zero, List.nil_append]
  rw [← List.append_assoc, List.replicate_append_replicate]

/-- What a call leaves that hands back a list of n, in a new block that it fills. -/
def AnsK (n : Nat) (L : List Int) (w : World) (e : Ending) (w' : World) : Prop :=
  ∃ g, e = .returned (.slice (some ⟨g, 0, none⟩) n n) ∧ w.heap.size ≤ g ∧ Blk w' g 3 (L.map (Value.int .i64)).toArray ∧ Below w.heap.size w w'

end Go.Proofs.Ytmefekgbljhclaa
