
/-
  The walk of headtop's begun, behind the convolution's own walk alone.
-/
import Derived.Test.YtlaandbaaepamaaConvD
namespace Go.Proofs.Ytlaandbaaepamaa
set_option linter.all false
open Go.RowKit Go.Shelf

set_option maxHeartbeats 1600000 in
theorem beginB_any (w : World) : Calls Try.prog 28 #[] w fun e w' => e = .returned (.bool true) ∧ Below w.heap.size w w' := by
  have hb : Below w.heap.size w w := Below.refl _ _
  have HC : ∀ (A A' : Option Addr) (c d : Nat) (W : World), Ints W A [0, 4] → Ints W A' [1, 2] → Calls Try.prog 40 #[.slice A 2 c, .slice A' 2 d] W (Ans [1, 2] 0 W) := fun A A' c d W h h' => by
    have := conv_any A A' [0, 4] [1, 2] c d W h h'
    have e1 : resL (chk2 [0, 4] [1, 2]) (cvL [0, 4] [1, 2]) = [1, 2] := by decide
    have e2 : resE (chk2 [0, 4] [1, 2]) (cvL [0, 4] [1, 2]) = 0 := by decide
    rw [e1, e2] at this
    exact this
  go_enter Try.func28, Try.ntmps28
  go_wp2_with fail
  refine (HC _ _ _ _ _ (by exact Ints.litA _ [0, 4] _ _ _ rfl (by decide)) (by exact Ints.litB _ [1, 2] _ _ _ rfl (by decide))).mono ?_
  rintro e w1 ⟨Ax, cx, rfl, ox, bw1⟩
  replace bw1 := below_of2 bw1
  replace hb := below_trans hb bw1
  have hx := Ints.of_own ox
  clear bw1 ox
  go_wp2_with fail
  refine (equal_at Ax _ [1, 2] [1, 2] _ _ _ _ _ (by exact Ints.alloc hx _) (by exact Ints.lit _ [1, 2] _ _ rfl (by decide)) rfl rfl).mono ?_
  rintro e w2 ⟨rfl, nw2, hww2⟩
  have bw2 := below_of_drewN hww2
  clear hww2
  replace bw2 := below_of1 bw2
  replace hb := below_trans hb bw2
  clear bw2
  rw [eqB_true rfl]
  go_wp2
  go_ret
  exact ⟨rfl, hb⟩

end Go.Proofs.Ytlaandbaaepamaa
