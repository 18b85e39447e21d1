/-
  The walk of the law CurveChecks.
-/
import Derived.Test.YthigjcbdlijfbaaCurveA
namespace Go.Proofs.Ythigjcbdlijfbaa
open Go.RowKit

set_option maxHeartbeats 400000 in
theorem walk_CurveChecks (a0 : Option Addr) (c0 : Nat) (l0 : List Int) (w : World) (h0 : Ints w a0 l0) (_k0 : l0.length ≤ c0) :
    Calls Try.prog 3 #[.slice a0 l0.length c0] w fun e w' => e = .returned (.bool true) ∧ Below w.heap.size w w' := by
  have e1 : (chk l0 == chk l0) = true := by simp
  have hn : chk [] = 1 := by simp [chk]
  have HN := Lib.hid hn
  clear hn
  go_enter Try.func3, Try.ntmps3
  go_wp2_with fail
  refine (check_any a0 l0 c0 _ h0).mono ?_
  rintro e w' ⟨rfl, rfl⟩
  go_wp2_with fail
  refine (refCurve_any a0 l0 c0 _ h0).mono ?_
  rintro e w' ⟨rfl, rfl⟩
  go_wp2_with fail
  refine (check_any none [] 0 _ (Ints.nil_ _ _)).mono ?_
  rintro e w' ⟨rfl, rfl⟩
  rw [HN.out]
  go_wp2
  go_ret
  exact ⟨rfl, Below.refl _ _⟩

end Go.Proofs.Ythigjcbdlijfbaa
