
/-
  Walks: two curves together, Le, and slices.Equal.
-/
import Derived.Test.YtlaandbaaepamaaCurveA
import Derived.Deep.QuietTactic
import Derived.BigQuiet
namespace Go.Proofs.Ytlaandbaaepamaa
set_option linter.all false
open Go.RowKit

theorem ret_bool {a b : Bool} (h : a = b) : Ending.returned (.bool a) = .returned (.bool b) := by rw [h]

set_option maxHeartbeats 400000 in
theorem checkTwo_any (A B : Option Addr) (l m : List Int) (c d : Nat) (w : World) (h : Ints w A l) (h' : Ints w B m) :
    Calls Try.prog 49 #[.slice A l.length c, .slice B m.length d] w fun e w' => e = .returned (.int .i64 (chk2 l m)) ∧ w = w' := by
  by_cases h1 : chk l = 0
  · have e1 : (chk l != 0) = false := by simp [h1]
    by_cases h2 : chk m = 0
    · have e2 : (chk m != 0) = false := by simp [h2]
      by_cases h3 : l.length = m.length
      · have H : Hid (chk2 l m = 0) := Lib.hid (by simp [chk2, h1, h2, h3])
        have h5 : (l.length != m.length) = false := by simp [h3]
        have h6 : (l.length == m.length) = true := by simp [h3]
        clear h1 h2 h3
        go_enter Try.func49, Try.ntmps49
        go_wp2_with fail
        refine (check_any A l c _ h).mono ?_
        rintro e w' ⟨rfl, rfl⟩
        go_wp2_with fail
        refine (check_any B m d _ h').mono ?_
        rintro e w' ⟨rfl, rfl⟩
        go_wp2
        go_ret
        exact ⟨ret_int H.out.symm, rfl⟩
      · have H : Hid (chk2 l m = 4) := Lib.hid (by simp [chk2, h1, h2, h3])
        have h5 : (l.length != m.length) = true := by simp; omega
        have h6 : (l.length == m.length) = false := by simp; omega
        clear h1 h2 h3
        go_enter Try.func49, Try.ntmps49
        go_wp2_with fail
        refine (check_any A l c _ h).mono ?_
        rintro e w' ⟨rfl, rfl⟩
        go_wp2_with fail
        refine (check_any B m d _ h').mono ?_
        rintro e w' ⟨rfl, rfl⟩
        go_wp2
        go_ret
        exact ⟨ret_int H.out.symm, rfl⟩
    · have e2 : (chk m != 0) = true := by simp [h2]
      have H : Hid (chk2 l m = chk m) := Lib.hid (by simp [chk2, h1, h2])
      clear h1 h2
      go_enter Try.func49, Try.ntmps49
      go_wp2_with fail
      refine (check_any A l c _ h).mono ?_
      rintro e w' ⟨rfl, rfl⟩
      go_wp2_with fail
      refine (check_any B m d _ h').mono ?_
      rintro e w' ⟨rfl, rfl⟩
      go_wp2
      go_ret
      exact ⟨ret_int H.out.symm, rfl⟩
  · have e1 : (chk l != 0) = true := by simp [h1]
    have H : Hid (chk2 l m = chk l) := Lib.hid (by simp [chk2, h1])
    clear h1
    go_enter Try.func49, Try.ntmps49
    go_wp2_with fail
    refine (check_any A l c _ h).mono ?_
    rintro e w' ⟨rfl, rfl⟩
    go_wp2
    go_ret
    exact ⟨ret_int H.out.symm, rfl⟩
/-- The curves can be held against each other. -/
theorem chk2_len {l m : List Int} (h : chk2 l m = 0) : l.length = m.length := by
  unfold chk2 at h
  split at h
  · omega
  · split at h
    · omega
    · split at h
      · assumption
      · omega

set_option maxHeartbeats 400000 in
theorem equal_any (A B : Option Addr) (l m : List Int) (c d : Nat) (w : World) (h : Ints w A l) (h' : Ints w B m) :
    Calls Try.prog 41 #[.slice A l.length c, .slice B m.length d] w fun e w' => e = .returned (.bool (eqB l m)) ∧ ∃ n, w' = w.drewN n := by
  have hl := h.1
  by_cases h3 : l.length = m.length
  · have h5 : (l.length != m.length) = false := by simp [h3]
    have hle : l.length ≤ m.length := by omega
    have hle' : m.length ≤ l.length := by omega
    clear h3
    go_enter Try.func41, Try.ntmps41
    go_wp2
    go_loopw [13] (fun i wr => ∃ k n : Nat, k ≤ l.length ∧ i = .int .i64 k ∧ wr = w.drewN n ∧ Hid ((l = m) = (l.drop k = m.drop k))) (fun i _ => l.length - (intOf i).toNat)
    case atStart => exact ⟨0, 0, Nat.zero_le _, rfl, rfl, Lib.hid (by simp)⟩
    case round =>
      obtain ⟨k, n, hk, rfl, rfl, HR⟩ := hrel
      by_cases hlt : k < l.length
      · obtain ⟨bb, off, x, rfl, hcell, HX⟩ := h.at_ hlt
        obtain ⟨bb', off', y, rfl, hcell', HY⟩ := h'.at_ (k := k) (by omega)
        have i1 : (k : Int) < (l.length : Int) := by omega
        have i2 : (k : Int) < (m.length : Int) := by omega
        by_cases hxy : x = y
        · have HE := Lib.hid hxy
          have e1 : (x != y) = false := by simp [hxy]
          clear hxy
          go_wp2
          go_quiet (fail)
          go_wp2
          go_roundw
          case rel => exact ⟨k + 1, _, by omega, by go_num, rfl, Lib.hid (eq_step HR.out HX.out HY.out HE.out)⟩
          case measure => simp [intOf]; omega
        · have HE := Lib.hid hxy
          have e1 : (x != y) = true := by simp [hxy]
          clear hxy
          go_wp2
          go_quiet (fail)
          go_wp2
          go_ret
          exact ⟨ret_bool (eqB_false (eq_miss HX.out HY.out HE.out)).symm, _, World.drewN_drewN ..⟩
      · go_wp2
        go_ret
        exact ⟨ret_bool (eqB_true (by rw [HR.out, List.drop_of_length_le (by omega), List.drop_of_length_le (by omega)])).symm, _, rfl⟩
  · have h5 : (l.length != m.length) = true := by simp; omega
    have H : Hid (¬ l = m) := Lib.hid (fun e => h3 (by rw [e]))
    clear h3
    go_enter Try.func41, Try.ntmps41
    go_wp2
    go_ret
    exact ⟨ret_bool (eqB_false H.out).symm, 0, rfl⟩

/-- The same, the lengths spelt as the walk spells them. -/
theorem equal_at (A B : Option Addr) (l m : List Int) (nl nm c d : Nat) (w : World) (h : Ints w A l) (h' : Ints w B m) (hl : nl = l.length) (hm : nm = m.length) :
    Calls Try.prog 41 #[.slice A nl c, .slice B nm d] w fun e w' => e = .returned (.bool (eqB l m)) ∧ ∃ n, w' = w.drewN n := by
  subst hl hm; exact equal_any A B l m c d w h h'

set_option maxHeartbeats 400000 in
/-- Le: what two curves answer together, and whether the one is nowhere above the other. -/
theorem le_any (A B : Option Addr) (l m : List Int) (c d : Nat) (w : World) (h : Ints w A l) (h' : Ints w B m) :
    Calls Try.prog 45 #[.slice A l.length c, .slice B m.length d] w fun e w' => e = .returned (.tuple #[.bool (decide (chk2 l m = 0) && leB l m), .int .i64 (chk2 l m)]) ∧ ∃ n, w' = w.drewN n := by
  have hl := h.1
  by_cases h1 : chk2 l m = 0
  · have H := Lib.hid h1
    have e1 : (chk2 l m != 0) = false := by simp [h1]
    have hle : l.length ≤ m.length := by rw [chk2_len h1]; exact Nat.le_refl _
    clear h1
    go_enter Try.func45, Try.ntmps45
    go_wp2_with fail
    refine (checkTwo_any A B l m c d _ h h').mono ?_
    rintro e w' ⟨rfl, rfl⟩
    go_wp2
    go_loopw [16] (fun i wr => ∃ k n : Nat, k ≤ l.length ∧ i = .int .i64 k ∧ wr = w.drewN n ∧ Hid (leB l m = leB (l.drop k) (m.drop k))) (fun i _ => l.length - (intOf i).toNat)
    case atStart => exact ⟨0, 0, Nat.zero_le _, rfl, rfl, Lib.hid (by simp)⟩
    case round =>
      obtain ⟨k, n, hk, rfl, rfl, HR⟩ := hrel
      by_cases hlt : k < l.length
      · obtain ⟨bb, off, x, rfl, hcell, HX⟩ := h.at_ hlt
        obtain ⟨bb', off', y, rfl, hcell', HY⟩ := h'.at_ (k := k) (by omega)
        have i1 : (k : Int) < (l.length : Int) := by omega
        have i2 : (k : Int) < (m.length : Int) := by omega
        go_wp2
        go_quiet (fail)
        go_wp2
        · go_ret2
          refine ⟨?_, _, World.drewN_drewN ..⟩
          rw [H.out, leB_step HR.out HX.out HY.out (r := false) (by simp; omega)]; rfl
        · go_roundw
          case rel => exact ⟨k + 1, _, by omega, by go_num, rfl, Lib.hid (leB_step HR.out HX.out HY.out (by simp; omega))⟩
          case measure => simp [intOf]; omega
      · go_wp2
        go_ret2
        refine ⟨?_, _, rfl⟩
        rw [H.out, leB_end HR.out (by omega)]; rfl
  · have e1 : (chk2 l m != 0) = true := by simp [h1]
    have H : Hid (decide (chk2 l m = 0) = false) := Lib.hid (decide_eq_false h1)
    clear h1
    go_enter Try.func45, Try.ntmps45
    go_wp2_with fail
    refine (checkTwo_any A B l m c d _ h h').mono ?_
    rintro e w' ⟨rfl, rfl⟩
    go_wp2
    go_ret2
    refine ⟨?_, 0, rfl⟩
    rw [H.out]; rfl

end Go.Proofs.Ytlaandbaaepamaa
