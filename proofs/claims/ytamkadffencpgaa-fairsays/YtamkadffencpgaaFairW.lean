
/-
  Walks: the document's own look at weights.
-/
import Derived.Test.YtamkadffencpgaaFairF
import Derived.Test.YtamkadffencpgaaPrA
namespace Go.Proofs.Ytamkadffencpgaa
set_option linter.all false
open Go.RowKit Go.Shelf

def outW (x : Int) : Bool := decide (x < 1 ∨ 8 < x)
theorem wtB_any (l : List Int) : wtB l = l.any outW := by
  induction l with
  | nil => rfl
  | cons x l ih =>
    rw [wtB, List.any_cons]
    by_cases h : x < 1 ∨ 8 < x
    · rw [if_pos h, show outW x = true from decide_eq_true h]; simp
    · rw [if_neg h, show outW x = false from decide_eq_false h, ih]; simp
theorem outW_pr : Pr 36 outW := by
  refine ⟨enters_of Try.func36 (by kernel_rfl) rfl, fun x w => ?_⟩
  have hs : Hid (decide (x < 1 ∨ 8 < x) = !(!outW x)) := Lib.hid (by rw [Bool.not_not]; rfl)
  have HR : Hid ((!(!outW x)) = outW x) := Lib.hid (Bool.not_not _)
  go_enter Try.func36, Try.ntmps36
  go_wp2_with fail
  refine (wit_any x 1 8 (!outW x) _ hs).mono ?_
  rintro e w' ⟨rfl, rfl⟩
  go_wp2
  go_ret
  exact ⟨ret_bool (by simp), rfl⟩

set_option maxHeartbeats 800000 in
theorem refWeights_any (A B : Option Addr) (v : List Int) (l : List Pk) (c d : Nat) (w : World) (h : Ints w A v) (h' : Pks w B l) :
    Calls Try.prog 9 #[.slice A v.length c, .slice B l.length d] w fun e w' => e = .returned (.int .i64 (fwE v l)) ∧ Below w.heap.size w w' := by
  have hv := h.1
  by_cases h8 : v.length = 8
  · have e1 : ((v.length : Int) != 8) = false := by rw [h8]; rfl
    have HE0 : Hid (fwE v l = if v.any outW = true then 1 else pksE l) := Lib.hid (by rw [fwE, if_neg (by simpa using h8), wtB_any])
    clear h8
    cases q : v.any outW
    · have HE : Hid (pksE l = fwE v l) := Lib.hid (by rw [HE0.out, q]; rfl)
      have HQ := Lib.hid q
      clear q HE0
      go_enter Try.func9, Try.ntmps9
      go_wp2_with fail
      refine (containsFunc_any _ outW outW_pr A v c _ h).mono ?_
      rintro e w' ⟨rfl, rfl⟩
      rw [HQ.out]
      go_wp2_with fail
      refine (refQueue_any B l d _ h').mono ?_
      rintro e w1 ⟨rfl, b1⟩
      rw [HE.out]
      go_wp2
      go_ret
      exact ⟨rfl, b1⟩
    · have HE : Hid (fwE v l = 1) := Lib.hid (by rw [HE0.out, q]; rfl)
      have HQ := Lib.hid q
      clear q HE0
      go_enter Try.func9, Try.ntmps9
      go_wp2_with fail
      refine (containsFunc_any _ outW outW_pr A v c _ h).mono ?_
      rintro e w' ⟨rfl, rfl⟩
      rw [HQ.out]
      go_wp2
      go_ret
      exact ⟨ret_int HE.out.symm, Below.refl _ _⟩
  · have e1 : ((v.length : Int) != 8) = true := by simp; omega
    have HE : Hid (fwE v l = 4) := Lib.hid (if_pos h8)
    clear h8
    go_enter Try.func9, Try.ntmps9
    go_wp2
    go_ret
    exact ⟨ret_int HE.out.symm, Below.refl _ _⟩

end Go.Proofs.Ytamkadffencpgaa
