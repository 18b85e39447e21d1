
/-
  Small things: a fresh cell, a row's form, a number within.
-/
import Derived.Test.YtlaandbaaepamaaKeepA
import Derived.Test.YtlaandbaaepamaaRefA
import Derived.Test.YtlaandbaaepamaaBucketA
namespace Go.Proofs.Ytlaandbaaepamaa
set_option linter.all false
open Go.RowKit Go.Shelf Go.Lib

theorem new_oneW (w : World) (u : Value) (t : TypeId) : ∀ (j : Nat) (v : Value), [u][j]? = some v → (w.alloc (.cells #[u] t)).cell? ((⟨w.heap.size, 0, none⟩ : Addr).add j) = some v := by
  intro j v hj
  match j, hj with
  | 0, hj =>
    simp at hj
    subst hj
    rw [Addr.add_lit]
    exact (Blk.new w t #[u]).cell 0
theorem row_formW {w : World} {base n size : Nat} {e : TypeId} {v : Value} {xs : List Value} (h : w.ownsRow base e size v n xs) : ∃ A c, v = .slice A n c := by
  rcases h.2 with ⟨rfl, h0⟩ | ⟨g, cap, cur, rfl, _⟩
  · exact ⟨none, 0, by rw [h0]⟩
  · exact ⟨_, _, rfl⟩
theorem tab_snocW (n : Nat) (f : Nat → Int) : (tab (n + 1) f).map (Value.int .i64) = (tab n f).map (Value.int .i64) ++ [.int .i64 (f n)] := by rw [tab_succ, List.map_append]; rfl
theorem wiW (n m : Int) (h : 1 ≤ m) : ∃ k : Nat, wi n m = (k : Int) ∧ (k : Int) < m := by
  have h0 := Int.emod_nonneg (n % 18446744073709551616) (show m ≠ 0 by omega)
  have h1 := Int.emod_lt_of_pos (n % 18446744073709551616) (show 0 < m by omega)
  refine ⟨(wi n m).toNat, ?_, ?_⟩
  · unfold wi; omega
  · unfold wi; omega

end Go.Proofs.Ytlaandbaaepamaa
