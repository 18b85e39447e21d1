
/-
  Walks: two curves together, Le, and slices.Equal.
-/
import Derived.Test.YtnpdcllfdoobeaaCurveA
import Derived.Deep.QuietTactic
import Derived.BigQuiet
namespace Go.Proofs.Ytnpdcllfdoobeaa
set_option linter.all false
open Go.RowKit

theorem ret_bool {a b : Bool} (h : a = b) : Ending.returned (.bool a) = .returned (.bool b) := by rw [h]

/-- The curves can be held against each other. -/
theorem chk2_len {l m : List Int} (h : chk2 l m = 0) : l.length = m.length := by
  unfold chk2 at h
  split at h
  · omega
  · split at h
    · omega
    · split at h
      · assumption
      · omega

set_option maxHeartbeats 400000 in
theorem equal_any (A B : Option Addr) (l m : List Int) (c d : Nat) (w : World) (h : Ints w A l) (h' : Ints w B m) :
    Calls Try.prog 32 #[.slice A l.length c, .slice B m.length d] w fun e w' => e = .returned (.bool (eqB l m)) ∧ ∃ n, w' = w.drewN n := by
  have hl := h.1
  by_cases h3 : l.length = m.length
  · have h5 : (l.length != m.length) = false := by simp [h3]
    have hle : l.length ≤ m.length := by omega
    have hle' : m.length ≤ l.length := by omega
    clear h3
    go_enter Try.func32, Try.ntmps32
    go_wp2
    go_loopw [13] (fun i wr => ∃ k n : Nat, k ≤ l.length ∧ i = .int .i64 k ∧ wr = w.drewN n ∧ Hid ((l = m) = (l.drop k = m.drop k))) (fun i _ => l.length - (intOf i).toNat)
    case atStart => exact ⟨0, 0, Nat.zero_le _, rfl, rfl, Lib.hid (by simp)⟩
    case round =>
      obtain ⟨k, n, hk, rfl, rfl, HR⟩ := hrel
      by_cases hlt : k < l.length
      · obtain ⟨bb, off, x, rfl, hcell, HX⟩ := h.at_ hlt
        obtain ⟨bb', off', y, rfl, hcell', HY⟩ := h'.at_ (k := k) (by omega)
        have i1 : (k : Int) < (l.length : Int) := by omega
        have i2 : (k : Int) < (m.length : Int) := by omega
        by_cases hxy : x = y
        · have HE := Lib.hid hxy
          have e1 : (x != y) = false := by simp [hxy]
          clear hxy
          go_wp2
          go_quiet (fail)
          go_wp2
          go_roundw
          case rel => exact ⟨k + 1, _, by omega, by go_num, rfl, Lib.hid (eq_step HR.out HX.out HY.out HE.out)⟩
          case measure => simp [intOf]; omega
        · have HE := Lib.hid hxy
          have e1 : (x != y) = true := by simp [hxy]
          clear hxy
          go_wp2
          go_quiet (fail)
          go_wp2
          go_ret
          exact ⟨ret_bool (eqB_false (eq_miss HX.out HY.out HE.out)).symm, _, World.drewN_drewN ..⟩
      · go_wp2
        go_ret
        exact ⟨ret_bool (eqB_true (by rw [HR.out, List.drop_of_length_le (by omega), List.drop_of_length_le (by omega)])).symm, _, rfl⟩
  · have h5 : (l.length != m.length) = true := by simp; omega
    have H : Hid (¬ l = m) := Lib.hid (fun e => h3 (by rw [e]))
    clear h3
    go_enter Try.func32, Try.ntmps32
    go_wp2
    go_ret
    exact ⟨ret_bool (eqB_false H.out).symm, 0, rfl⟩

/-- The same, the lengths spelt as the walk spells them. -/
theorem equal_at (A B : Option Addr) (l m : List Int) (nl nm c d : Nat) (w : World) (h : Ints w A l) (h' : Ints w B m) (hl : nl = l.length) (hm : nm = m.length) :
    Calls Try.prog 32 #[.slice A nl c, .slice B nm d] w fun e w' => e = .returned (.bool (eqB l m)) ∧ ∃ n, w' = w.drewN n := by
  subst hl hm; exact equal_any A B l m c d w h h'

end Go.Proofs.Ytnpdcllfdoobeaa
