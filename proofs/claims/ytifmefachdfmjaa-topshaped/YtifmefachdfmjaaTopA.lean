
/-
  Walks: the small functions of package headtop: begun, le.
-/
import Derived.Test.YtifmefachdfmjaaBoundK
namespace Go.Proofs.Ytifmefachdfmjaa
set_option linter.all false
open Go.RowKit Go.Shelf


theorem begun_lit : Convs [0, 4] [1, 2] [1, 2] := ⟨cv_of (by decide), cv_of (by decide), rfl, by decide⟩

set_option maxHeartbeats 1600000 in
theorem begun_any (w : World) : Calls Try.prog 47 #[] w fun e w' => e = .returned (.bool true) ∧ Below w.heap.size w w' := by
  have hb : Below w.heap.size w w := Below.refl _ _
  go_enter Try.func47, Try.ntmps47
  go_wp2_with fail
  refine (conv_yes _ _ [0, 4] [1, 2] [1, 2] _ _ _ _ _ begun_lit (by decide) (by exact Ints.litA _ _ _ _ _ rfl (by decide)) (by exact Ints.litB _ _ _ _ _ rfl (by decide)) rfl rfl).mono ?_
  rintro e w1 ⟨Ax, cx, rfl, ox, bw1⟩
  replace bw1 := below_of2 bw1
  replace hb := below_trans hb bw1
  have hx := Ints.of_own ox
  clear bw1 ox
  go_wp2_with fail
  refine (equal_at Ax _ [1, 2] [1, 2] _ _ _ _ _ (by exact Ints.alloc hx _) (by exact Ints.lit _ _ _ _ rfl (by decide)) rfl rfl).mono ?_
  rintro e w2 ⟨rfl, nw2, hww2⟩
  have bw2 := below_of_drewN hww2
  clear hww2
  replace bw2 := below_of1 bw2
  replace hb := below_trans hb bw2
  clear bw2
  rw [eqB_true rfl]
  go_wp2
  go_ret
  exact ⟨rfl, hb⟩

set_option maxHeartbeats 400000 in
theorem tle_yes (A B : Option Addr) (l m : List Int) (nl nm c d : Nat) (w : World) (vl : Cv l) (vm : Cv m) (e : l.length = m.length) (hle : ∀ t, t < l.length → gt l t ≤ gt m t) (h : Ints w A l) (h' : Ints w B m) (hl : nl = l.length) (hm : nm = m.length) :
    Calls Try.prog 50 #[.slice A nl c, .slice B nm d] w fun e w' => e = .returned (.bool true) ∧ ∃ n, w' = w.drewN n := by
  subst hl hm
  have H1 : Hid (chk2 l m = 0) := Lib.hid (chk2_iff.2 ⟨vl, vm, e⟩)
  have H2 : Hid ((decide (chk2 l m = 0) && leB l m) = true) := Lib.hid (by rw [chk2_iff.2 ⟨vl, vm, e⟩, (leB_iff e).2 hle]; rfl)
  clear e hle
  go_enter Try.func50, Try.ntmps50
  go_wp2_with fail
  refine (le_any A B l m c d _ h h').mono ?_
  rintro e w1 ⟨rfl, n1, hw1⟩
  rw [H2.out, H1.out]
  have HW := Lib.hid hw1
  clear hw1
  go_wp2
  go_ret
  exact ⟨rfl, n1, HW.out⟩

theorem smax_at (A : Option Addr) (l : List Int) (nl c : Nat) (w : World) (h : Ints w A l) (hp : 0 < l.length) (hl : nl = l.length) :
    Calls Try.prog 51 #[.slice A nl c] w fun e w' => e = .returned (.int .i64 (maxTo l (l.length - 1))) ∧ w = w' := by
  subst hl
  exact slicesMax_any A l c w h hp

end Go.Proofs.Ytifmefachdfmjaa
