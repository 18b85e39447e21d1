
/-
  Walks: the document's own link: what waits from the sums, what goes out from what waits; headlaw's error of a rate.
-/
import Derived.Test.YtnjeelmlabefjaaLineA
import Derived.Test.YtnjeelmlabefjaaTraceB
namespace Go.Proofs.Ytnjeelmlabefjaa
set_option linter.all false
open Go.RowKit Go.Shelf

set_option maxHeartbeats 400000 in
theorem rated_any (A : Option Addr) (l : List Int) (c : Nat) (r : Int) (w : World) (h : Ints w A l) :
    Calls Try.prog 17 #[.slice A l.length c, .int .i64 r] w fun e w' => e = .returned (.int .i64 (linE l r)) ∧ w = w' := by
  by_cases h1 : trk l = 0
  · have e1 : (trk l != 0) = false := by simp [h1]
    by_cases h2 : r < 0
    · have HE : Hid (linE l r = 1) := Lib.hid (by rw [linE, if_neg (by simpa using h1), if_pos (.inl h2)])
      have e2 : decide (r < 0) = true := decide_eq_true h2
      clear h1
      go_enter Try.func17, Try.ntmps17
      go_wp2_with fail
      refine (refTrace_any A l c _ h).mono ?_
      rintro e w' ⟨rfl, rfl⟩
      go_wp2
      go_ret
      exact ⟨ret_int HE.out.symm, rfl⟩
    · have e2 : decide (r < 0) = false := decide_eq_false h2
      by_cases h3 : 10000 < r
      · have HE : Hid (linE l r = 1) := Lib.hid (by rw [linE, if_neg (by simpa using h1), if_pos (.inr h3)])
        have e3 : decide (10000 < r) = true := decide_eq_true h3
        clear h1
        go_enter Try.func17, Try.ntmps17
        go_wp2_with fail
        refine (refTrace_any A l c _ h).mono ?_
        rintro e w' ⟨rfl, rfl⟩
        go_wp2
        go_ret
        exact ⟨ret_int HE.out.symm, rfl⟩
      · have HE : Hid (linE l r = 0) := Lib.hid (by rw [linE, if_neg (by simpa using h1), if_neg (by omega)])
        have e3 : decide (10000 < r) = false := decide_eq_false h3
        clear h1
        go_enter Try.func17, Try.ntmps17
        go_wp2_with fail
        refine (refTrace_any A l c _ h).mono ?_
        rintro e w' ⟨rfl, rfl⟩
        go_wp2
        go_ret
        exact ⟨ret_int HE.out.symm, rfl⟩
  · have HE : Hid (linE l r = trk l) := Lib.hid (by rw [linE, if_pos h1])
    have e1 : (trk l != 0) = true := by simp [h1]
    clear h1
    go_enter Try.func17, Try.ntmps17
    go_wp2_with fail
    refine (refTrace_any A l c _ h).mono ?_
    rintro e w' ⟨rfl, rfl⟩
    go_wp2
    go_ret
    exact ⟨ret_int HE.out.symm, rfl⟩

end Go.Proofs.Ytnjeelmlabefjaa
