
/-
  Two buckets compared; what a bucket's moves leave, as plain mathematics.
-/
import Derived.Test.YtamkadffencpgaaBucketA
import Derived.Test.YtamkadffencpgaaRowA
import Derived.Test.YtamkadffencpgaaKeepA
namespace Go.Proofs.Ytamkadffencpgaa
set_option linter.all false
open Go.RowKit Go.Shelf

theorem bkT : Try.prog.underlying 42 = some (.struct (Try.prog.fieldsOf 42)) := by kernel_rfl
theorem bkH : Try.prog.stoodInHeld 42 = false := by kernel_rfl
theorem bkM : Try.prog.eqGuardType Try.prog.depth 42 = false := by kernel_rfl
theorem bkEq (a b c a' b' c' : Int) (w : World) : (Op.equalIn 10000 42 (.agg #[.int .i64 a, .int .i64 b, .int .i64 c]) (.agg #[.int .i64 a', .int .i64 b', .int .i64 c'])).run Try.prog w = .ok (a == a' && (b == b' && c == c')) w := by
  rw [show (10000 : Nat) = 9998 + 1 + 1 from rfl, run_equalIn_struct _ _ _ _ _ bkT bkH]
  simp only [Program.fieldsOf, Try.underlying42, Op.eqFields]
  simp [go_sem, Op.eqFields, part, run_equalIn_int _ _ _ _ _ _ _ Try.underlying3]
  by_cases h1 : a = a' <;> by_cases h2 : b = b' <;> by_cases h3 : c = c' <;> simp [h1, h2, h3]
theorem bkSame (a b c : Int) (w : World) : (Op.equalIn 10000 42 (.agg #[.int .i64 a, .int .i64 b, .int .i64 c]) (.agg #[.int .i64 a, .int .i64 b, .int .i64 c])).run Try.prog w = .ok true w := by rw [bkEq]; simp

/-- What a bucket holds n times later. -/
def tkV (r b f n : Int) : Int := min b (f + n * r)
theorem Bk.tick {r b f n : Int} (h : Bk r b f) (n0 : 0 ≤ n) : Bk r b (tkV r b f n) := by
  have m0 : 0 ≤ n * r := Int.mul_nonneg n0 h.r0
  have := h.f0; have := h.b0
  exact ⟨h.r0, h.r1, h.b0, h.b1, by unfold tkV; omega, by unfold tkV; omega⟩
theorem tk_add {r b f m n : Int} (h : Bk r b f) (m0 : 0 ≤ m) (n0 : 0 ≤ n) : tkV r b (tkV r b f m) n = tkV r b f (m + n) := by
  have a := Int.mul_nonneg m0 h.r0; have c := Int.mul_nonneg n0 h.r0
  unfold tkV
  rw [Int.add_mul]
  omega
theorem Bk.take {r b f n : Int} (h : Bk r b f) (n0 : 0 ≤ n) (n1 : n ≤ f) : Bk r b (f - n) := by
  have := h.f1
  exact ⟨h.r0, h.r1, h.b0, h.b1, by omega, by omega⟩

end Go.Proofs.Ytamkadffencpgaa
