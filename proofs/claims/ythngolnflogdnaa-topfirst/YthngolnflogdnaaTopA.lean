
/-
  Walks: the small functions of package headtop: begun, le.
-/
import Derived.Test.YthngolnflogdnaaBoundK
namespace Go.Proofs.Ythngolnflogdnaa
set_option linter.all false
open Go.RowKit Go.Shelf


theorem begun_lit : Convs [0, 4] [1, 2] [1, 2] := ⟨cv_of (by decide), cv_of (by decide), rfl, by decide⟩

set_option maxHeartbeats 1600000 in
theorem begun_any (w : World) : Calls Try.prog 30 #[] w fun e w' => e = .returned (.bool true) ∧ Below w.heap.size w w' := by
  have hb : Below w.heap.size w w := Below.refl _ _
  go_enter Try.func30, Try.ntmps30
  go_wp2_with fail
  refine (conv_yes _ _ [0, 4] [1, 2] [1, 2] _ _ _ _ _ begun_lit (by decide) (by exact Ints.litA _ _ _ _ _ rfl (by decide)) (by exact Ints.litB _ _ _ _ _ rfl (by decide)) rfl rfl).mono ?_
  rintro e w1 ⟨Ax, cx, rfl, ox, bw1⟩
  replace bw1 := below_of2 bw1
  replace hb := below_trans hb bw1
  have hx := Ints.of_own ox
  clear bw1 ox
  go_wp2_with fail
  refine (equal_at Ax _ [1, 2] [1, 2] _ _ _ _ _ (by exact Ints.alloc hx _) (by exact Ints.lit _ _ _ _ rfl (by decide)) rfl rfl).mono ?_
  rintro e w2 ⟨rfl, nw2, hww2⟩
  have bw2 := below_of_drewN hww2
  clear hww2
  replace bw2 := below_of1 bw2
  replace hb := below_trans hb bw2
  clear bw2
  rw [eqB_true rfl]
  go_wp2
  go_ret
  exact ⟨rfl, hb⟩

theorem smax_at (A : Option Addr) (l : List Int) (nl c : Nat) (w : World) (h : Ints w A l) (hp : 0 < l.length) (hl : nl = l.length) :
    Calls Try.prog 54 #[.slice A nl c] w fun e w' => e = .returned (.int .i64 (maxTo l (l.length - 1))) ∧ w = w' := by
  subst hl
  exact slicesMax_any A l c w h hp

end Go.Proofs.Ythngolnflogdnaa
