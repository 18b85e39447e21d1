
/-
  Walks: the document's own Less.
-/
import Derived.Test.YtkjcganbdnbclaaPointC
import Derived.Test.YtkjcganbdnbclaaRefA
namespace Go.Proofs.Ytkjcganbdnbclaa
set_option linter.all false
open Go.RowKit Go.Shelf

theorem new_one (w : World) (u : Value) (t : TypeId) : ∀ (j : Nat) (v : Value), [u][j]? = some v → (w.alloc (.cells #[u] t)).cell? ((⟨w.heap.size, 0, none⟩ : Addr).add j) = some v := by
  intro j v hj
  match j, hj with
  | 0, hj =>
    simp at hj
    subst hj
    simp [Addr.add]
theorem one_cell (x : Int) : ∀ u ∈ [Value.int .i64 x], u.oneCell' = true := by
  intro u hu; simp at hu; subst hu; rfl

theorem mx_nonneg (D : Nat → Int) (n : Nat) : 0 ≤ mx D n := by
  induction n with
  | zero => exact Int.le_refl _
  | succ n ih => simp only [mx]; omega

theorem mx_le (D : Nat → Int) (B : Int) (hB : 0 ≤ B) (n : Nat) (h : ∀ i, i < n → D i ≤ B) : mx D n ≤ B := by
  induction n with
  | zero => exact hB
  | succ n ih => simp only [mx]; have := ih (fun i hi => h i (by omega)); have := h n (by omega); omega

end Go.Proofs.Ytkjcganbdnbclaa
