
/-
  Walks: conv.Of, dual.Of, conv.Times; the document's own powers: by halves.
-/
import Derived.Test.YtlaandbaaepamaaConvC
import Derived.Test.YtlaandbaaepamaaPointB
namespace Go.Proofs.Ytlaandbaaepamaa
set_option linter.all false
open Go.RowKit Go.Shelf

theorem convolve_any (A B : Option Addr) (l m : List Int) (c d : Nat) (w : World) (h : Ints w A l) (h' : Ints w B m) (h61 : l.length ≤ 61) (hlm : l.length ≤ m.length) (bl : Bd l) (bm : Bd m) :
    Calls Try.prog 47 #[.slice A l.length c, .slice B m.length d, .func (.func 48) #[] #[]] w (AnsL (cvL l m) w) := by
  rw [← twL_min]; exact two_any _ min lesser_bet A B l m c d w h h' h61 hlm bl bm
set_option maxHeartbeats 800000 in
theorem conv_any (A B : Option Addr) (l m : List Int) (c d : Nat) (w : World) (h : Ints w A l) (h' : Ints w B m) :
    Calls Try.prog 40 #[.slice A l.length c, .slice B m.length d] w (Ans (resL (chk2 l m) (cvL l m)) (resE (chk2 l m) (cvL l m)) w) := by
  by_cases h2 : chk2 l m = 0
  · obtain ⟨v0, v1, e1⟩ := chk2_iff.1 h2
    have nd : Nd 2000000 (cvL l m) := v0.nd.conv v1.nd e1
    have b0 := v0.nd.bd (by decide)
    have b1 := v1.nd.bd (by decide)
    have g61 := v0.le
    have glm := Nat.le_of_eq e1
    have HD : Hid ((decide (chk2 l m = 0) && leB l m) = leB l m) := Lib.hid (by simp [h2])
    have t1 : (chk2 l m != 0) = false := by simp [h2]
    cases bg : bigB (cvL l m)
    · have hE : Hid (resE (chk2 l m) (cvL l m) = 0) := Lib.hid (by rw [h2]; exact (res_ok bg).1)
      have hL : Hid (resL (chk2 l m) (cvL l m) = cvL l m) := Lib.hid (by rw [h2]; exact (res_ok bg).2)
      have hlast : gt (cvL l m) ((cvL l m).length - 1) ≤ 1000000 := by
        by_cases q : 1000000 < gt (cvL l m) ((cvL l m).length - 1)
        · rw [nd.big.2 q] at bg; cases bg
        · omega
      clear h2 e1 bg
      go_enter Try.func40, Try.ntmps40
      go_wp2_with fail
      refine (le_any A B l m c d _ h h').mono ?_
      rintro e w4 ⟨rfl, n4, rfl⟩
      rw [HD.out]
      go_wp2_with fail
      refine (convolve_any A B l m c d _ (h.drewN n4) (h'.drewN n4) g61 glm b0 b1).mono ?_
      rintro e w1 ⟨A1, c1, rfl, o1, q1⟩
      go_wp2_with fail
      refine (limit_ok A1 (cvL l m) _ c1 _ (Ints.of_own o1) nd.pos hlast rfl).mono ?_
      rintro e w' ⟨rfl, rfl⟩
      go_wp2
      go_ret2
      exact ⟨A1, c1, by rw [hE.out, hL.out]; rfl, by rw [hL.out]; exact own_lower o1 (Nat.le_refl _), ⟨q1.os, q1.tape, q1.output, q1.size, q1.block⟩⟩
    · have hE : Hid (resE (chk2 l m) (cvL l m) = 2) := Lib.hid (by rw [h2]; exact (res_big bg).1)
      have hL : Hid (resL (chk2 l m) (cvL l m) = []) := Lib.hid (by rw [h2]; exact (res_big bg).2)
      have hlast := nd.big.1 bg
      clear h2 e1 bg
      go_enter Try.func40, Try.ntmps40
      go_wp2_with fail
      refine (le_any A B l m c d _ h h').mono ?_
      rintro e w4 ⟨rfl, n4, rfl⟩
      rw [HD.out]
      go_wp2_with fail
      refine (convolve_any A B l m c d _ (h.drewN n4) (h'.drewN n4) g61 glm b0 b1).mono ?_
      rintro e w1 ⟨A1, c1, rfl, o1, q1⟩
      go_wp2_with fail
      refine (limit_big A1 (cvL l m) _ c1 _ (Ints.of_own o1) nd.pos hlast rfl).mono ?_
      rintro e w' ⟨rfl, rfl⟩
      go_wp2
      go_ret2
      exact ⟨none, 0, by rw [hE.out, hL.out]; rfl, by rw [hL.out]; exact World.ownsRow_nil _ _ _ _, ⟨q1.os, q1.tape, q1.output, q1.size, q1.block⟩⟩
  · have t1 : (chk2 l m != 0) = true := by simp [h2]
    have hE : Hid (resE (chk2 l m) (cvL l m) = chk2 l m) := Lib.hid (by simp [resE, h2])
    have hL : Hid (resL (chk2 l m) (cvL l m) = []) := Lib.hid (by simp [resL, h2])
    have HD : Hid ((decide (chk2 l m = 0) && leB l m) = false) := Lib.hid (by simp [h2])
    clear h2
    go_enter Try.func40, Try.ntmps40
    go_wp2_with fail
    refine (le_any A B l m c d _ h h').mono ?_
    rintro e w4 ⟨rfl, n4, rfl⟩
    rw [HD.out]
    go_wp2
    go_ret2
    exact ⟨none, 0, by rw [hE.out, hL.out]; rfl, by rw [hL.out]; exact World.ownsRow_nil _ _ _ _, below_of_drewN rfl⟩

/-- The error of Times. -/
def timE (l : List Int) (n : Int) : Int := if chk l ≠ 0 then chk l else if n < 1 ∨ 60 < n then 1 else 0

end Go.Proofs.Ytlaandbaaepamaa
