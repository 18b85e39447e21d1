
/-
  Walks: point.Min, Max, Sum, Less, Late, Up.
-/
import Derived.Test.YtbefkjglhlembaaPointB
namespace Go.Proofs.Ytbefkjglhlembaa
set_option linter.all false
open Go.RowKit Go.Shelf

theorem min1_any (a b : Int) (w : World) : Calls Try.prog 46 #[.int .i64 a, .int .i64 b] w fun e w' => e = .returned (.int .i64 (min a b)) ∧ w = w' := by
  go_enter Try.func46, Try.ntmps46
  go_wp2
  all_goals (go_ret; exact ⟨ret_int (by omega), rfl⟩)
theorem min_op (l m : List Int) (w : World) : Op2 46 #[] w.heap.size w.heap.size l.length (gt l) (gt m) (fun t => min (gt l t) (gt m t)) (fun _ _ => True) :=
  ⟨enters_of Try.func46 (by kernel_rfl) rfl, fun t w' _ _ _ => (min1_any (gt l t) (gt m t) w').mono (by rintro e w'' ⟨rfl, rfl⟩; exact ⟨rfl, trivial, Below.refl _ _, fun _ _ _ => rfl⟩), fun _ _ _ _ _ => trivial⟩
set_option maxHeartbeats 400000 in
theorem min_any (A A' : Option Addr) (l m : List Int) (c d : Nat) (w : World) (h : Ints w A l) (h' : Ints w A' m) :
    Calls Try.prog 31 #[.slice A l.length c, .slice A' m.length d] w (Ans (resL (chk2 l m) (tab l.length fun t => min (gt l t) (gt m t))) (resE (chk2 l m) (tab l.length fun t => min (gt l t) (gt m t))) w) := by
  obtain ⟨L, hL⟩ : ∃ L, L = resL (chk2 l m) (tab l.length fun t => min (gt l t) (gt m t)) := ⟨_, rfl⟩
  obtain ⟨E, hE⟩ : ∃ E, E = resE (chk2 l m) (tab l.length fun t => min (gt l t) (gt m t)) := ⟨_, rfl⟩
  have hp := pairwise_any 46 #[] w.heap.size (fun t => min (gt l t) (gt m t)) (fun _ _ => True) A A' l m c d w (fun w' he => h.heap he) (fun w' he => h'.heap he) (Nat.le_refl _) (fun _ => min_op l m w) (fun _ => trivial)
  rw [← hL, ← hE] at hp ⊢
  have HP := Lib.hid hp
  clear hp hL hE
  go_enter Try.func31, Try.ntmps31
  go_wp2_with fail
  refine HP.out.mono ?_
  rintro e w1 ⟨A1, c1, rfl, o1, b1⟩
  go_wp2
  go_ret2
  exact ⟨A1, c1, rfl, o1, b1⟩
/-- The values of Less. -/
def lessV (l m : List Int) (t : Nat) : Int := mx (fun s => gt l s - gt m s) (t + 1)

end Go.Proofs.Ytbefkjglhlembaa
