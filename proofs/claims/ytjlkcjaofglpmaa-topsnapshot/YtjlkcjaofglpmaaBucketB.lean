
/-
  Two buckets compared; what a bucket's moves leave, as plain mathematics.
-/
import Derived.Test.YtjlkcjaofglpmaaBucketA
import Derived.Test.YtjlkcjaofglpmaaRowA
import Derived.Test.YtjlkcjaofglpmaaKeepA
namespace Go.Proofs.Ytjlkcjaofglpmaa
set_option linter.all false
open Go.RowKit Go.Shelf

/-- What a bucket holds n times later. -/
def tkV (r b f n : Int) : Int := min b (f + n * r)
theorem Bk.tick {r b f n : Int} (h : Bk r b f) (n0 : 0 ≤ n) : Bk r b (tkV r b f n) := by
  have m0 : 0 ≤ n * r := Int.mul_nonneg n0 h.r0
  have := h.f0; have := h.b0
  exact ⟨h.r0, h.r1, h.b0, h.b1, by unfold tkV; omega, by unfold tkV; omega⟩
theorem tk_add {r b f m n : Int} (h : Bk r b f) (m0 : 0 ≤ m) (n0 : 0 ≤ n) : tkV r b (tkV r b f m) n = tkV r b f (m + n) := by
  have a := Int.mul_nonneg m0 h.r0; have c := Int.mul_nonneg n0 h.r0
  unfold tkV
  rw [Int.add_mul]
  omega
theorem Bk.take {r b f n : Int} (h : Bk r b f) (n0 : 0 ≤ n) (n1 : n ≤ f) : Bk r b (f - n) := by
  have := h.f1
  exact ⟨h.r0, h.r1, h.b0, h.b1, by omega, by omega⟩

end Go.Proofs.Ytjlkcjaofglpmaa
