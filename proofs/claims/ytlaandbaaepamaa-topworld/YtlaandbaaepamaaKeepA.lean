
/-
  Walks: the small functions of package headkeep: le, both, three, same, Within.
-/
import Derived.Test.YtlaandbaaepamaaCurveB
import Derived.Laws.Bits64
import Derived.IntWalk
namespace Go.Proofs.Ytlaandbaaepamaa
set_option linter.all false
open Go.RowKit

/-- le: at no time above, and both can be told. -/
def leK (l m : List Int) : Bool := decide (chk2 l m = 0) && leB l m
/-- both: two curves of one length. -/
def okB (l m : List Int) : Bool := decide (chk2 l m = 0)

theorem okB_iff {l m : List Int} : okB l m = true ↔ chk l = 0 ∧ chk m = 0 ∧ l.length = m.length := by
  unfold okB chk2
  constructor
  · intro h
    have h := of_decide_eq_true h
    by_cases h1 : chk l = 0 <;> by_cases h2 : chk m = 0 <;> by_cases h3 : l.length = m.length <;> simp_all
  · rintro ⟨h1, h2, h3⟩
    simp [h1, h2, h3]

theorem okB_no {l m : List Int} (h : ¬ (chk l = 0 ∧ chk m = 0 ∧ l.length = m.length)) : okB l m = false := by
  cases e : okB l m
  · rfl
  · exact absurd (okB_iff.1 e) h

theorem chk2_of_okB {l m : List Int} (h : okB l m = true) : chk2 l m = 0 := of_decide_eq_true h
theorem chk2_of_not {l m : List Int} (h : okB l m = false) : chk2 l m ≠ 0 := of_decide_eq_false h

/-- Within: a number from 0 to n-1. -/
def wi (k n : Int) : Int := (k % 18446744073709551616) % n
theorem wi_nonneg (k n : Int) (h : 1 ≤ n) : 0 ≤ wi k n := Int.emod_nonneg _ (by omega)
theorem wi_lt (k n : Int) (h : 1 ≤ n) : wi k n < n := Int.emod_lt_of_pos _ (by omega)

theorem wi_eq (k n : Int) (h1 : 1 ≤ n) (h2 : n ≤ 2000000) : wrap64 ((IntKind.u64.wrap k).tmod n) = wi k n := by
  have e : IntKind.u64.wrap k = k % 18446744073709551616 := IntKind.wrap_u64 k
  have h0 : 0 ≤ k % 18446744073709551616 := Int.emod_nonneg _ (by omega)
  rw [e, Int.tmod_eq_emod_of_nonneg h0]
  have a := wi_nonneg k n h1
  have b := wi_lt k n h1
  unfold wi at *
  exact IntWalk.wrap64_in _ ⟨by omega, by omega⟩

set_option maxHeartbeats 400000 in
theorem within_any (k n : Int) (w : World) (h1 : 1 ≤ n) (h2 : n ≤ 2000000) :
    Calls Try.prog 20 #[.int .i64 k, .int .i64 n] w fun e w' => e = .returned (.int .i64 (wi k n)) ∧ w = w' := by
  have e1 : (n == 0) = false := by rw [beq_eq_false_iff_ne]; omega
  go_enter Try.func20, Try.ntmps20
  go_wp2
  go_ret
  exact ⟨ret_int (wi_eq k n h1 h2), rfl⟩

end Go.Proofs.Ytlaandbaaepamaa
