
/-
  Walks: closure.Of, closure.Is, dual.Super; the document's own: by the last piece, pair by pair.
-/
import Derived.Test.YtifmefachdfmjaaConvD
import Derived.Laws.OwnMore
namespace Go.Proofs.Ytifmefachdfmjaa
set_option linter.all false
open Go.RowKit Go.Shelf

theorem clos_bf {l : List Int} (v : Cv l) : ∀ i, i < l.length → 0 ≤ anV min (gt l) i ∧ anV min (gt l) i ≤ 100000000 := fun i hi => by
  have h := v.clos
  have h1 := h.lo i (by rwa [length_clL]); have h2 := h.hi i (by rwa [length_clL])
  rw [gt_clL hi] at h1 h2; unfold clV at h1 h2; omega
theorem super_bf {l : List Int} (v : Cv l) : ∀ i, i < l.length → 0 ≤ anV max (gt l) i ∧ anV max (gt l) i ≤ 100000000 := fun i hi => by
  have h := Nd.super v
  have h1 := h.lo i (by rwa [length_suL]); have h2 := h.hi i (by rwa [length_suL])
  rw [gt_suL hi] at h1 h2; unfold suV at h1 h2; omega

set_option maxHeartbeats 800000 in
theorem clos_any (A : Option Addr) (l : List Int) (c : Nat) (w : World) (h : Ints w A l) (hc : l.length ≤ c) :
    Calls Try.prog 39 #[.slice A l.length c] w (Ans (resL (chk l) (clL l)) (resE (chk l) (clL l)) w) := by
  by_cases h1 : chk l = 0
  · have v := cv_of h1
    have bg : bigB (clL l) = false := bigB_no.2 v.clos.hi
    have hE : Hid (resE (chk l) (clL l) = 0) := Lib.hid (by rw [h1]; exact (res_ok bg).1)
    have hL : Hid (resL (chk l) (clL l) = clL l) := Lib.hid (by rw [h1]; exact (res_ok bg).2)
    have t1 : (chk l != 0) = false := by simp [h1]
    clear h1 bg
    go_enter Try.func39, Try.ntmps39
    go_wp2_with fail
    refine (check_any A l c _ h).mono ?_
    rintro e w' ⟨rfl, rfl⟩
    go_wp2_with fail
    refine (any_any _ min closer_bet A l c _ h hc v.pos v.le (v.nd.bd (by decide)) (clos_bf v)).mono ?_
    rintro e w1 ⟨A1, c1, rfl, o1, q1⟩
    go_wp2
    go_ret2
    exact ⟨A1, c1, by rw [hE.out, hL.out]; rfl, by rw [hL.out]; exact o1, q1⟩
  · have t1 : (chk l != 0) = true := by simp [h1]
    have hE : Hid (resE (chk l) (clL l) = chk l) := Lib.hid (by simp [resE, h1])
    have hL : Hid (resL (chk l) (clL l) = []) := Lib.hid (by simp [resL, h1])
    clear h1
    go_enter Try.func39, Try.ntmps39
    go_wp2_with fail
    refine (check_any A l c _ h).mono ?_
    rintro e w' ⟨rfl, rfl⟩
    go_wp2
    go_ret2
    exact ⟨none, 0, by rw [hE.out, hL.out]; rfl, by rw [hL.out]; exact World.ownsRow_nil _ _ _ _, Below.refl _ _⟩

/-- Is the list its own closure? -/
def subB (l : List Int) : Bool := decide (chk l = 0) && eqB l (clL l)

set_option maxHeartbeats 800000 in
theorem super_any (A : Option Addr) (l : List Int) (c : Nat) (w : World) (h : Ints w A l) (hc : l.length ≤ c) :
    Calls Try.prog 41 #[.slice A l.length c] w (Ans (resL (chk l) (suL l)) (resE (chk l) (suL l)) w) := by
  by_cases h1 : chk l = 0
  · have v := cv_of h1
    have nd : Nd 60000000 (suL l) := Nd.super v
    have t1 : (chk l != 0) = false := by simp [h1]
    cases bg : bigB (suL l)
    · have hE : Hid (resE (chk l) (suL l) = 0) := Lib.hid (by rw [h1]; exact (res_ok bg).1)
      have hL : Hid (resL (chk l) (suL l) = suL l) := Lib.hid (by rw [h1]; exact (res_ok bg).2)
      have hlast : gt (suL l) ((suL l).length - 1) ≤ 1000000 := by
        by_cases q : 1000000 < gt (suL l) ((suL l).length - 1)
        · rw [nd.big.2 q] at bg; cases bg
        · omega
      clear h1 bg
      go_enter Try.func41, Try.ntmps41
      go_wp2_with fail
      refine (check_any A l c _ h).mono ?_
      rintro e w' ⟨rfl, rfl⟩
      go_wp2_with fail
      refine (any_any _ max greater_bet A l c _ h hc v.pos v.le (v.nd.bd (by decide)) (super_bf v)).mono ?_
      rintro e w1 ⟨A1, c1, rfl, o1, q1⟩
      change w1.ownsRow _ _ _ (.slice A1 (suL l).length c1) (suL l).length ((suL l).map _) at o1
      go_wp2_with fail
      refine (limit_ok A1 (suL l) _ c1 _ (Ints.of_own o1) nd.pos hlast rfl).mono ?_
      rintro e w' ⟨rfl, rfl⟩
      go_wp2
      go_ret2
      exact ⟨A1, c1, by rw [hE.out, hL.out]; rfl, by rw [hL.out]; exact o1, q1⟩
    · have hE : Hid (resE (chk l) (suL l) = 2) := Lib.hid (by rw [h1]; exact (res_big bg).1)
      have hL : Hid (resL (chk l) (suL l) = []) := Lib.hid (by rw [h1]; exact (res_big bg).2)
      have hlast := nd.big.1 bg
      clear h1 bg
      go_enter Try.func41, Try.ntmps41
      go_wp2_with fail
      refine (check_any A l c _ h).mono ?_
      rintro e w' ⟨rfl, rfl⟩
      go_wp2_with fail
      refine (any_any _ max greater_bet A l c _ h hc v.pos v.le (v.nd.bd (by decide)) (super_bf v)).mono ?_
      rintro e w1 ⟨A1, c1, rfl, o1, q1⟩
      change w1.ownsRow _ _ _ (.slice A1 (suL l).length c1) (suL l).length ((suL l).map _) at o1
      go_wp2_with fail
      refine (limit_big A1 (suL l) _ c1 _ (Ints.of_own o1) nd.pos hlast rfl).mono ?_
      rintro e w' ⟨rfl, rfl⟩
      go_wp2
      go_ret2
      exact ⟨none, 0, by rw [hE.out, hL.out]; rfl, by rw [hL.out]; exact World.ownsRow_nil _ _ _ _, q1⟩
  · have t1 : (chk l != 0) = true := by simp [h1]
    have hE : Hid (resE (chk l) (suL l) = chk l) := Lib.hid (by simp [resE, h1])
    have hL : Hid (resL (chk l) (suL l) = []) := Lib.hid (by simp [resL, h1])
    clear h1
    go_enter Try.func41, Try.ntmps41
    go_wp2_with fail
    refine (check_any A l c _ h).mono ?_
    rintro e w' ⟨rfl, rfl⟩
    go_wp2
    go_ret2
    exact ⟨none, 0, by rw [hE.out, hL.out]; rfl, by rw [hL.out]; exact World.ownsRow_nil _ _ _ _, Below.refl _ _⟩

end Go.Proofs.Ytifmefachdfmjaa
