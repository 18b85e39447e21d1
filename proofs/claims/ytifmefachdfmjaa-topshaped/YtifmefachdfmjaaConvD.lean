
/-
  Walks: conv.Of, dual.Of, conv.Times; the document's own powers: by halves.
-/
import Derived.Test.YtifmefachdfmjaaConvC
import Derived.Test.YtifmefachdfmjaaPointB
namespace Go.Proofs.Ytifmefachdfmjaa
set_option linter.all false
open Go.RowKit Go.Shelf

theorem convolve_any (A B : Option Addr) (l m : List Int) (c d : Nat) (w : World) (h : Ints w A l) (h' : Ints w B m) (h61 : l.length ≤ 61) (hlm : l.length ≤ m.length) (bl : Bd l) (bm : Bd m) :
    Calls Try.prog 59 #[.slice A l.length c, .slice B m.length d, .func (.func 60) #[] #[]] w (AnsL (cvL l m) w) := by
  rw [← twL_min]; exact two_any _ min lesser_bet A B l m c d w h h' h61 hlm bl bm
theorem dualize_any (A B : Option Addr) (l m : List Int) (c d : Nat) (w : World) (h : Ints w A l) (h' : Ints w B m) (h61 : l.length ≤ 61) (hlm : l.length ≤ m.length) (bl : Bd l) (bm : Bd m) :
    Calls Try.prog 59 #[.slice A l.length c, .slice B m.length d, .func (.func 72) #[] #[]] w (AnsL (duL l m) w) := by
  rw [← twL_max]; exact two_any _ max greater_bet A B l m c d w h h' h61 hlm bl bm

set_option maxHeartbeats 800000 in
theorem conv_any (A B : Option Addr) (l m : List Int) (c d : Nat) (w : World) (h : Ints w A l) (h' : Ints w B m) :
    Calls Try.prog 21 #[.slice A l.length c, .slice B m.length d] w (Ans (resL (chk2 l m) (cvL l m)) (resE (chk2 l m) (cvL l m)) w) := by
  by_cases h2 : chk2 l m = 0
  · obtain ⟨v0, v1, e1⟩ := chk2_iff.1 h2
    have nd : Nd 2000000 (cvL l m) := v0.nd.conv v1.nd e1
    have b0 := v0.nd.bd (by decide)
    have b1 := v1.nd.bd (by decide)
    have g61 := v0.le
    have glm := Nat.le_of_eq e1
    have HD : Hid ((decide (chk2 l m = 0) && leB l m) = leB l m) := Lib.hid (by simp [h2])
    have t1 : (chk2 l m != 0) = false := by simp [h2]
    cases bg : bigB (cvL l m)
    · have hE : Hid (resE (chk2 l m) (cvL l m) = 0) := Lib.hid (by rw [h2]; exact (res_ok bg).1)
      have hL : Hid (resL (chk2 l m) (cvL l m) = cvL l m) := Lib.hid (by rw [h2]; exact (res_ok bg).2)
      have hlast : gt (cvL l m) ((cvL l m).length - 1) ≤ 1000000 := by
        by_cases q : 1000000 < gt (cvL l m) ((cvL l m).length - 1)
        · rw [nd.big.2 q] at bg; cases bg
        · omega
      clear h2 e1 bg
      go_enter Try.func21, Try.ntmps21
      go_wp2_with fail
      refine (le_any A B l m c d _ h h').mono ?_
      rintro e w4 ⟨rfl, n4, rfl⟩
      rw [HD.out]
      go_wp2_with fail
      refine (convolve_any A B l m c d _ (h.drewN n4) (h'.drewN n4) g61 glm b0 b1).mono ?_
      rintro e w1 ⟨A1, c1, rfl, o1, q1⟩
      go_wp2_with fail
      refine (limit_ok A1 (cvL l m) _ c1 _ (Ints.of_own o1) nd.pos hlast rfl).mono ?_
      rintro e w' ⟨rfl, rfl⟩
      go_wp2
      go_ret2
      exact ⟨A1, c1, by rw [hE.out, hL.out]; rfl, by rw [hL.out]; exact own_lower o1 (Nat.le_refl _), ⟨q1.os, q1.tape, q1.output, q1.size, q1.block⟩⟩
    · have hE : Hid (resE (chk2 l m) (cvL l m) = 2) := Lib.hid (by rw [h2]; exact (res_big bg).1)
      have hL : Hid (resL (chk2 l m) (cvL l m) = []) := Lib.hid (by rw [h2]; exact (res_big bg).2)
      have hlast := nd.big.1 bg
      clear h2 e1 bg
      go_enter Try.func21, Try.ntmps21
      go_wp2_with fail
      refine (le_any A B l m c d _ h h').mono ?_
      rintro e w4 ⟨rfl, n4, rfl⟩
      rw [HD.out]
      go_wp2_with fail
      refine (convolve_any A B l m c d _ (h.drewN n4) (h'.drewN n4) g61 glm b0 b1).mono ?_
      rintro e w1 ⟨A1, c1, rfl, o1, q1⟩
      go_wp2_with fail
      refine (limit_big A1 (cvL l m) _ c1 _ (Ints.of_own o1) nd.pos hlast rfl).mono ?_
      rintro e w' ⟨rfl, rfl⟩
      go_wp2
      go_ret2
      exact ⟨none, 0, by rw [hE.out, hL.out]; rfl, by rw [hL.out]; exact World.ownsRow_nil _ _ _ _, ⟨q1.os, q1.tape, q1.output, q1.size, q1.block⟩⟩
  · have t1 : (chk2 l m != 0) = true := by simp [h2]
    have hE : Hid (resE (chk2 l m) (cvL l m) = chk2 l m) := Lib.hid (by simp [resE, h2])
    have hL : Hid (resL (chk2 l m) (cvL l m) = []) := Lib.hid (by simp [resL, h2])
    have HD : Hid ((decide (chk2 l m = 0) && leB l m) = false) := Lib.hid (by simp [h2])
    clear h2
    go_enter Try.func21, Try.ntmps21
    go_wp2_with fail
    refine (le_any A B l m c d _ h h').mono ?_
    rintro e w4 ⟨rfl, n4, rfl⟩
    rw [HD.out]
    go_wp2
    go_ret2
    exact ⟨none, 0, by rw [hE.out, hL.out]; rfl, by rw [hL.out]; exact World.ownsRow_nil _ _ _ _, below_of_drewN rfl⟩

set_option maxHeartbeats 800000 in
theorem dual_any (A B : Option Addr) (l m : List Int) (c d : Nat) (w : World) (h : Ints w A l) (h' : Ints w B m) :
    Calls Try.prog 40 #[.slice A l.length c, .slice B m.length d] w (Ans (resL (chk2 l m) (duL l m)) (resE (chk2 l m) (duL l m)) w) := by
  by_cases h2 : chk2 l m = 0
  · obtain ⟨v0, v1, e1⟩ := chk2_iff.1 h2
    have nd : Nd 2000000 (duL l m) := v0.nd.dual v1.nd e1
    have b0 := v0.nd.bd (by decide)
    have b1 := v1.nd.bd (by decide)
    have g61 := v0.le
    have glm := Nat.le_of_eq e1
    have HD : Hid ((decide (chk2 l m = 0) && leB l m) = leB l m) := Lib.hid (by simp [h2])
    have t1 : (chk2 l m != 0) = false := by simp [h2]
    cases bg : bigB (duL l m)
    · have hE : Hid (resE (chk2 l m) (duL l m) = 0) := Lib.hid (by rw [h2]; exact (res_ok bg).1)
      have hL : Hid (resL (chk2 l m) (duL l m) = duL l m) := Lib.hid (by rw [h2]; exact (res_ok bg).2)
      have hlast : gt (duL l m) ((duL l m).length - 1) ≤ 1000000 := by
        by_cases q : 1000000 < gt (duL l m) ((duL l m).length - 1)
        · rw [nd.big.2 q] at bg; cases bg
        · omega
      clear h2 e1 bg
      go_enter Try.func40, Try.ntmps40
      go_wp2_with fail
      refine (le_any A B l m c d _ h h').mono ?_
      rintro e w4 ⟨rfl, n4, rfl⟩
      rw [HD.out]
      go_wp2_with fail
      refine (dualize_any A B l m c d _ (h.drewN n4) (h'.drewN n4) g61 glm b0 b1).mono ?_
      rintro e w1 ⟨A1, c1, rfl, o1, q1⟩
      go_wp2_with fail
      refine (limit_ok A1 (duL l m) _ c1 _ (Ints.of_own o1) nd.pos hlast rfl).mono ?_
      rintro e w' ⟨rfl, rfl⟩
      go_wp2
      go_ret2
      exact ⟨A1, c1, by rw [hE.out, hL.out]; rfl, by rw [hL.out]; exact own_lower o1 (Nat.le_refl _), ⟨q1.os, q1.tape, q1.output, q1.size, q1.block⟩⟩
    · have hE : Hid (resE (chk2 l m) (duL l m) = 2) := Lib.hid (by rw [h2]; exact (res_big bg).1)
      have hL : Hid (resL (chk2 l m) (duL l m) = []) := Lib.hid (by rw [h2]; exact (res_big bg).2)
      have hlast := nd.big.1 bg
      clear h2 e1 bg
      go_enter Try.func40, Try.ntmps40
      go_wp2_with fail
      refine (le_any A B l m c d _ h h').mono ?_
      rintro e w4 ⟨rfl, n4, rfl⟩
      rw [HD.out]
      go_wp2_with fail
      refine (dualize_any A B l m c d _ (h.drewN n4) (h'.drewN n4) g61 glm b0 b1).mono ?_
      rintro e w1 ⟨A1, c1, rfl, o1, q1⟩
      go_wp2_with fail
      refine (limit_big A1 (duL l m) _ c1 _ (Ints.of_own o1) nd.pos hlast rfl).mono ?_
      rintro e w' ⟨rfl, rfl⟩
      go_wp2
      go_ret2
      exact ⟨none, 0, by rw [hE.out, hL.out]; rfl, by rw [hL.out]; exact World.ownsRow_nil _ _ _ _, ⟨q1.os, q1.tape, q1.output, q1.size, q1.block⟩⟩
  · have t1 : (chk2 l m != 0) = true := by simp [h2]
    have hE : Hid (resE (chk2 l m) (duL l m) = chk2 l m) := Lib.hid (by simp [resE, h2])
    have hL : Hid (resL (chk2 l m) (duL l m) = []) := Lib.hid (by simp [resL, h2])
    have HD : Hid ((decide (chk2 l m = 0) && leB l m) = false) := Lib.hid (by simp [h2])
    clear h2
    go_enter Try.func40, Try.ntmps40
    go_wp2_with fail
    refine (le_any A B l m c d _ h h').mono ?_
    rintro e w4 ⟨rfl, n4, rfl⟩
    rw [HD.out]
    go_wp2
    go_ret2
    exact ⟨none, 0, by rw [hE.out, hL.out]; rfl, by rw [hL.out]; exact World.ownsRow_nil _ _ _ _, below_of_drewN rfl⟩

/-- The error of Times. -/
def timE (l : List Int) (n : Int) : Int := if chk l ≠ 0 then chk l else if n < 1 ∨ 60 < n then 1 else 0

set_option maxHeartbeats 1600000 in
theorem times_any (A : Option Addr) (l : List Int) (c : Nat) (n : Int) (w : World) (h : Ints w A l) :
    Calls Try.prog 37 #[.slice A l.length c, .int .i64 n] w (Ans (resL (timE l n) (pw l (n.toNat - 1))) (resE (timE l n) (pw l (n.toNat - 1))) w) := by
  by_cases h1 : chk l = 0
  · have e1 : (chk l != 0) = false := by simp [h1]
    by_cases h2 : n < 1
    · have HE : Hid (resE (timE l n) (pw l (n.toNat - 1)) = 1) := Lib.hid (by rw [show timE l n = 1 by simp [timE, h1, h2]]; exact (res_err (by decide)).1)
      have HL : Hid (resL (timE l n) (pw l (n.toNat - 1)) = []) := Lib.hid (by rw [show timE l n = 1 by simp [timE, h1, h2]]; exact (res_err (by decide)).2)
      have e2 : decide (n < 1) = true := decide_eq_true h2
      clear h1
      go_enter Try.func37, Try.ntmps37
      go_wp2_with fail
      refine (check_any A l c _ h).mono ?_
      rintro e w' ⟨rfl, rfl⟩
      go_wp2
      go_ret2
      exact ⟨none, 0, by rw [HE.out, HL.out]; rfl, by rw [HL.out]; exact World.ownsRow_nil _ _ _ _, Below.refl _ _⟩
    by_cases h3 : 60 < n
    · have HE : Hid (resE (timE l n) (pw l (n.toNat - 1)) = 1) := Lib.hid (by rw [show timE l n = 1 by simp [timE, h1, h3]]; exact (res_err (by decide)).1)
      have HL : Hid (resL (timE l n) (pw l (n.toNat - 1)) = []) := Lib.hid (by rw [show timE l n = 1 by simp [timE, h1, h3]]; exact (res_err (by decide)).2)
      have e2 : decide (n < 1) = false := decide_eq_false h2
      have e3 : decide (60 < n) = true := decide_eq_true h3
      clear h1
      go_enter Try.func37, Try.ntmps37
      go_wp2_with fail
      refine (check_any A l c _ h).mono ?_
      rintro e w' ⟨rfl, rfl⟩
      go_wp2
      go_ret2
      exact ⟨none, 0, by rw [HE.out, HL.out]; rfl, by rw [HL.out]; exact World.ownsRow_nil _ _ _ _, Below.refl _ _⟩
    obtain ⟨j, rfl⟩ : ∃ j : Nat, n = (j : Int) + 1 := ⟨(n - 1).toNat, by omega⟩
    have hj : j < 60 := by omega
    have ej : ((j : Int) + 1).toNat - 1 = j := by omega
    rw [ej]
    have v := cv_of h1
    have nd : Nd 60000000 (pw l j) := nd_pw v hj
    have hp := v.pos
    have h61 := v.le
    have bl := v.nd.bd (by decide)
    have ht : timE l ((j : Int) + 1) = 0 := by simp [timE, h1]; omega
    have HT := Lib.hid ht
    have hE : Hid (resE 0 (pw l j) = fitE (pw l j)) := Lib.hid (by simp [resE])
    have hL : Hid (resL 0 (pw l j) = fitL (pw l j)) := Lib.hid (by simp [resL])
    have e2 : decide ((j : Int) + 1 < 1) = false := decide_eq_false (by omega)
    have e3 : decide (60 < (j : Int) + 1) = false := decide_eq_false (by omega)
    have e4 : (j : Int) + 1 - 1 = j := by omega
    have z0 : (0 : Int) ≤ j := by omega
    have z1 : (j : Int) < 60 := by omega
    clear h1 h2 h3 ej ht
    rw [HT.out, hE.out, hL.out]
    go_enter Try.func37, Try.ntmps37
    go_wp2_with fail
    refine (check_any A l c _ h).mono ?_
    rintro e w' ⟨rfl, rfl⟩
    go_wp2_with fail
    refine (clone_any A l c _ h hp h61).mono ?_
    rintro e w1 ⟨A1, c1, rfl, o1, q1⟩
    go_wp2
    go_loopw [7, 23] (fun u i wr => ∃ (k : Nat) (A2 : Option Addr) (c2 : Nat), k ≤ j ∧ i = .int .i64 k ∧ u = .slice A2 (pw l k).length c2 ∧ wr.ownsRow w.heap.size 3 1 (.slice A2 (pw l k).length c2) (pw l k).length ((pw l k).map (Value.int .i64)) ∧ Below w.heap.size w wr) (fun _ i _ => j - (intOf i).toNat)
    case atStart => exact ⟨0, A1, c1, Nat.zero_le _, rfl, rfl, o1, q1⟩
    case round =>
      clear o1 q1
      obtain ⟨k, A2, c2, hk, rfl, rfl, hown, hbel⟩ := hrel
      by_cases hlt : k < j
      · have i1 : (k : Int) < (j : Int) := by omega
        have nk : Nd 60000000 (pw l k) := nd_pw v (by omega)
        have HLN := Lib.hid (length_pw l k)
        go_wp2_with fail
        refine (convolve_any A2 A (pw l k) l c2 c _ (Ints.of_own hown) (h.below hbel) nk.le (by rw [HLN.out]; exact Nat.le_refl _) (nk.bd (by decide)) bl).mono ?_
        rintro e w3 ⟨A3, c3, rfl, o3, q3⟩
        go_wp2
        go_roundw
        case rel => exact ⟨k + 1, A3, c3, by omega, by go_num, rfl, own_lower o3 hbel.size, below_trans hbel q3⟩
        case measure => simp [intOf]; omega
      · obtain rfl : k = j := by omega
        cases bg : bigB (pw l k)
        · obtain ⟨f1, f2⟩ := fit_ok bg
          have F1 := Lib.hid f1
          have F2 := Lib.hid f2
          have hlast : gt (pw l k) ((pw l k).length - 1) ≤ 1000000 := by
            by_cases q : 1000000 < gt (pw l k) ((pw l k).length - 1)
            · rw [nd.big.2 q] at bg; cases bg
            · omega
          clear f1 f2 bg
          go_wp2_with fail
          refine (limit_ok A2 (pw l k) _ c2 _ (Ints.of_own hown) nd.pos hlast rfl).mono ?_
          rintro e w' ⟨rfl, rfl⟩
          go_wp2
          go_ret2
          exact ⟨A2, c2, by rw [F1.out, F2.out]; rfl, by rw [F2.out]; exact hown, hbel⟩
        · obtain ⟨f1, f2⟩ := fit_big bg
          have F1 := Lib.hid f1
          have F2 := Lib.hid f2
          have hlast := nd.big.1 bg
          clear f1 f2 bg
          go_wp2_with fail
          refine (limit_big A2 (pw l k) _ c2 _ (Ints.of_own hown) nd.pos hlast rfl).mono ?_
          rintro e w' ⟨rfl, rfl⟩
          go_wp2
          go_ret2
          exact ⟨none, 0, by rw [F1.out, F2.out]; rfl, by rw [F2.out]; exact World.ownsRow_nil _ _ _ _, hbel⟩
  · have e1 : (chk l != 0) = true := by simp [h1]
    have HE : Hid (resE (timE l n) (pw l (n.toNat - 1)) = chk l) := Lib.hid (by rw [show timE l n = chk l by simp [timE, h1]]; exact (res_err h1).1)
    have HL : Hid (resL (timE l n) (pw l (n.toNat - 1)) = []) := Lib.hid (by rw [show timE l n = chk l by simp [timE, h1]]; exact (res_err h1).2)
    clear h1
    go_enter Try.func37, Try.ntmps37
    go_wp2_with fail
    refine (check_any A l c _ h).mono ?_
    rintro e w' ⟨rfl, rfl⟩
    go_wp2
    go_ret2
    exact ⟨none, 0, by rw [HE.out, HL.out]; rfl, by rw [HL.out]; exact World.ownsRow_nil _ _ _ _, Below.refl _ _⟩

end Go.Proofs.Ytifmefachdfmjaa
