
/-
  Walks: the small functions of package headkeep: le, both, three, same, Within.
-/
import Derived.Test.YtnjeelmlabefjaaCurveB
import Derived.Laws.Bits64
import Derived.IntWalk
namespace Go.Proofs.Ytnjeelmlabefjaa
set_option linter.all false
open Go.RowKit

/-- le: at no time above, and both can be told. -/
def leK (l m : List Int) : Bool := decide (chk2 l m = 0) && leB l m
/-- both: two curves of one length. -/
def okB (l m : List Int) : Bool := decide (chk2 l m = 0)

theorem okB_iff {l m : List Int} : okB l m = true ↔ chk l = 0 ∧ chk m = 0 ∧ l.length = m.length := by
  unfold okB chk2
  constructor
  · intro h
    have h := of_decide_eq_true h
    by_cases h1 : chk l = 0 <;> by_cases h2 : chk m = 0 <;> by_cases h3 : l.length = m.length <;> simp_all
  · rintro ⟨h1, h2, h3⟩
    simp [h1, h2, h3]

theorem okB_no {l m : List Int} (h : ¬ (chk l = 0 ∧ chk m = 0 ∧ l.length = m.length)) : okB l m = false := by
  cases e : okB l m
  · rfl
  · exact absurd (okB_iff.1 e) h

theorem chk2_of_okB {l m : List Int} (h : okB l m = true) : chk2 l m = 0 := of_decide_eq_true h
theorem chk2_of_not {l m : List Int} (h : okB l m = false) : chk2 l m ≠ 0 := of_decide_eq_false h

set_option maxHeartbeats 400000 in
theorem both_any (A B : Option Addr) (l m : List Int) (c d : Nat) (w : World) (h : Ints w A l) (h' : Ints w B m) :
    Calls Try.prog 28 #[.slice A l.length c, .slice B m.length d] w fun e w' => e = .returned (.bool (okB l m)) ∧ w = w' := by
  by_cases h1 : chk l = 0
  · have e1 : (chk l == 0) = true := by simp [h1]
    by_cases h2 : chk m = 0
    · have e2 : (chk m == 0) = true := by simp [h2]
      by_cases h3 : l.length = m.length
      · have H : Hid (okB l m = true) := Lib.hid (okB_iff.2 ⟨h1, h2, h3⟩)
        have h6 : ((l.length : Int) == (m.length : Int)) = true := by simp [h3]
        have H6 := Lib.hid h6
        clear h1 h2 h3 h6
        go_enter Try.func28, Try.ntmps28
        go_wp2_with fail
        refine (check_any A l c _ h).mono ?_
        rintro e w' ⟨rfl, rfl⟩
        go_wp2_with fail
        refine (check_any B m d _ h').mono ?_
        rintro e w' ⟨rfl, rfl⟩
        go_wp2
        go_ret
        exact ⟨ret_bool (H6.out.trans H.out.symm), rfl⟩
      · have H : Hid (okB l m = false) := Lib.hid (okB_no (fun h => h3 h.2.2))
        have h6 : ((l.length : Int) == (m.length : Int)) = false := by rw [beq_eq_false_iff_ne]; omega
        have H6 := Lib.hid h6
        clear h1 h2 h3 h6
        go_enter Try.func28, Try.ntmps28
        go_wp2_with fail
        refine (check_any A l c _ h).mono ?_
        rintro e w' ⟨rfl, rfl⟩
        go_wp2_with fail
        refine (check_any B m d _ h').mono ?_
        rintro e w' ⟨rfl, rfl⟩
        go_wp2
        go_ret
        exact ⟨ret_bool (H6.out.trans H.out.symm), rfl⟩
    · have e2 : (chk m == 0) = false := by simp [h2]
      have H : Hid (okB l m = false) := Lib.hid (okB_no (fun h => h2 h.2.1))
      clear h1 h2
      go_enter Try.func28, Try.ntmps28
      go_wp2_with fail
      refine (check_any A l c _ h).mono ?_
      rintro e w' ⟨rfl, rfl⟩
      go_wp2_with fail
      refine (check_any B m d _ h').mono ?_
      rintro e w' ⟨rfl, rfl⟩
      go_wp2
      go_ret
      exact ⟨ret_bool H.out.symm, rfl⟩
  · have e1 : (chk l == 0) = false := by simp [h1]
    have H : Hid (okB l m = false) := Lib.hid (okB_no (fun h => h1 h.1))
    clear h1
    go_enter Try.func28, Try.ntmps28
    go_wp2_with fail
    refine (check_any A l c _ h).mono ?_
    rintro e w' ⟨rfl, rfl⟩
    go_wp2
    go_ret
    exact ⟨ret_bool H.out.symm, rfl⟩

set_option maxHeartbeats 400000 in
theorem kle_any (A B : Option Addr) (l m : List Int) (c d : Nat) (w : World) (h : Ints w A l) (h' : Ints w B m) :
    Calls Try.prog 34 #[.slice A l.length c, .slice B m.length d] w fun e w' => e = .returned (.bool (leK l m)) ∧ ∃ n, w' = w.drewN n := by
  by_cases h1 : chk2 l m = 0
  · have H : Hid ((decide (chk2 l m = 0) && leB l m) = leB l m) := Lib.hid (by simp [h1])
    have H' : Hid (leK l m = leB l m) := Lib.hid (by simp [leK, h1])
    have e1 : (chk2 l m == 0) = true := by simp [h1]
    clear h1
    go_enter Try.func34, Try.ntmps34
    go_wp2_with fail
    refine (le_any A B l m c d _ h h').mono ?_
    rintro e w' ⟨rfl, n, rfl⟩
    rw [H.out]
    go_wp2
    go_ret
    exact ⟨ret_bool H'.out.symm, n, rfl⟩
  · have H : Hid ((decide (chk2 l m = 0) && leB l m) = false) := Lib.hid (by simp [h1])
    have H' : Hid (leK l m = false) := Lib.hid (by simp [leK, h1])
    have e1 : (chk2 l m == 0) = false := by simp [h1]
    clear h1
    go_enter Try.func34, Try.ntmps34
    go_wp2_with fail
    refine (le_any A B l m c d _ h h').mono ?_
    rintro e w' ⟨rfl, n, rfl⟩
    rw [H.out]
    go_wp2
    go_ret
    exact ⟨ret_bool H'.out.symm, n, rfl⟩

theorem kle_at (A B : Option Addr) (l m : List Int) (nl nm c d : Nat) (w : World) (h : Ints w A l) (h' : Ints w B m) (hl : nl = l.length) (hm : nm = m.length) :
    Calls Try.prog 34 #[.slice A nl c, .slice B nm d] w fun e w' => e = .returned (.bool (leK l m)) ∧ ∃ n, w' = w.drewN n := by
  subst hl hm; exact kle_any A B l m c d w h h'

/-- Within: a number from 0 to n-1. -/
def wi (k n : Int) : Int := (k % 18446744073709551616) % n
theorem wi_nonneg (k n : Int) (h : 1 ≤ n) : 0 ≤ wi k n := Int.emod_nonneg _ (by omega)
theorem wi_lt (k n : Int) (h : 1 ≤ n) : wi k n < n := Int.emod_lt_of_pos _ (by omega)

theorem wi_eq (k n : Int) (h1 : 1 ≤ n) (h2 : n ≤ 2000000) : wrap64 ((IntKind.u64.wrap k).tmod n) = wi k n := by
  have e : IntKind.u64.wrap k = k % 18446744073709551616 := IntKind.wrap_u64 k
  have h0 : 0 ≤ k % 18446744073709551616 := Int.emod_nonneg _ (by omega)
  rw [e, Int.tmod_eq_emod_of_nonneg h0]
  have a := wi_nonneg k n h1
  have b := wi_lt k n h1
  unfold wi at *
  exact IntWalk.wrap64_in _ ⟨by omega, by omega⟩

set_option maxHeartbeats 400000 in
theorem within_any (k n : Int) (w : World) (h1 : 1 ≤ n) (h2 : n ≤ 2000000) :
    Calls Try.prog 32 #[.int .i64 k, .int .i64 n] w fun e w' => e = .returned (.int .i64 (wi k n)) ∧ w = w' := by
  have e1 : (n == 0) = false := by rw [beq_eq_false_iff_ne]; omega
  go_enter Try.func32, Try.ntmps32
  go_wp2
  go_ret
  exact ⟨ret_int (wi_eq k n h1 h2), rfl⟩

end Go.Proofs.Ytnjeelmlabefjaa
