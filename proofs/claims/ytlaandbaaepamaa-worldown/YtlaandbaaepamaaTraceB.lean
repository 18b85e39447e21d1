
/-
  Walks: trace.Env, trace.Fits; the document's own sum and conformance.
-/
import Derived.Test.YtlaandbaaepamaaTraceA
namespace Go.Proofs.Ytlaandbaaepamaa
set_option linter.all false
open Go.RowKit Go.Shelf

theorem new_one2 (w : World) (u : Value) (t : TypeId) : ∀ (j : Nat) (v : Value), [u][j]? = some v → (w.alloc (.cells #[u] t)).cell? ((⟨w.heap.size, 0, none⟩ : Addr).add j) = some v := by
  intro j v hj
  match j, hj with
  | 0, hj =>
    simp at hj
    subst hj
    rw [Addr.add_lit]
    exact (Blk.new w t #[u]).cell 0
theorem one_cell2 (x : Int) : ∀ u ∈ [Value.int .i64 x], u.oneCell' = true := by
  intro u hu
  simp at hu
  subst hu
  rfl

/-- What Smooth has seen: all pairs before (s, d). -/
def SmTo (f g : List Int) (s d : Nat) : Prop := ∀ i j, i + j < f.length → j < g.length → (i < s ∨ i = s ∧ j < d) → gt f (i + j) ≤ gt f i + gt g j
theorem SmTo.init (f g : List Int) : SmTo f g 0 0 := fun i j _ _ h => by rcases h with h | ⟨_, h⟩ <;> omega
theorem SmTo.next {f g : List Int} {s d : Nat} (h : SmTo f g s d) (hk : s + d < f.length → gt f (s + d) ≤ gt f s + gt g d) : SmTo f g s (d + 1) := fun i j hi hj h' => by
  by_cases e : i = s ∧ j = d
  · obtain ⟨rfl, rfl⟩ := e; exact hk hi
  · exact h i j hi hj (by omega)
theorem SmTo.row {f g : List Int} {s : Nat} (h : SmTo f g s g.length) : SmTo f g (s + 1) 0 := fun i j hi hj h' => h i j hi hj (by omega)

end Go.Proofs.Ytlaandbaaepamaa
