
/-
  Plain mathematics of a sliding window: when each piece is sent; the recurrence, its form, monotony.
-/
import Derived.Test.YtmefekgbljhclaaPlain
namespace Go.Proofs.Ytmefekgbljhclaa
set_option linter.all false

/-- When piece i is sent, with a window of w and a trip of p. -/
def sfV (w p i : Nat) : Nat := if p ≤ w then i else i / w * p + i % w
theorem sf_zero (w p : Nat) : sfV w p 0 = 0 := by
  unfold sfV
  split
  · rfl
  · simp
theorem sf_qr {w p q r : Nat} (h : w < p) (hr : r < w) : sfV w p (q * w + r) = q * p + r := by
  have e1 : (q * w + r) / w = q := by
    rw [Nat.add_comm, Nat.add_mul_div_right _ _ (by omega), Nat.div_eq_of_lt hr]; omega
  have e2 : (q * w + r) % w = r := by
    rw [Nat.add_comm, Nat.add_mul_mod_self_right, Nat.mod_eq_of_lt hr]
  unfold sfV
  rw [if_neg (by omega), e1, e2]
theorem qr_of {w : Nat} (i : Nat) (hw : 1 ≤ w) : ∃ q r, i = q * w + r ∧ r < w := ⟨i / w, i % w, by have := Nat.div_add_mod i w; rw [Nat.mul_comm]; omega, Nat.mod_lt _ (by omega)⟩
/-- Each as early as it may be. -/
theorem sf_step {w p : Nat} (hw : 1 ≤ w) (hp : 1 ≤ p) (i : Nat) : sfV w p (i + 1) = max (sfV w p i + 1) (if w ≤ i + 1 then sfV w p (i + 1 - w) + p else 0) := by
  by_cases c : p ≤ w
  · have e : ∀ k, sfV w p k = k := fun k => by unfold sfV; rw [if_pos c]
    rw [e, e]
    split
    · rw [e]; omega
    · omega
  · obtain ⟨q, r, hi, hr⟩ := qr_of (w := w) i hw
    have h' : w < p := by omega
    by_cases hl : r + 1 < w
    · have e1 : i + 1 = q * w + (r + 1) := by omega
      rw [hi, show q * w + r + 1 = q * w + (r + 1) by omega, sf_qr h' hl, sf_qr h' hr]
      split
      · rename_i z
        have q1 : 1 ≤ q := by
          by_cases q0 : q = 0
          · subst q0; omega
          · omega
        obtain ⟨k, rfl⟩ : ∃ k, q = k + 1 := ⟨q - 1, by omega⟩
        rw [show (k + 1) * w + (r + 1) - w = k * w + (r + 1) by rw [Nat.add_mul]; omega, sf_qr h' hl, Nat.add_mul]
        omega
      · omega
    · obtain rfl : r + 1 = w := by omega
      have e1 : i + 1 = (q + 1) * (r + 1) + 0 := by rw [hi, Nat.add_mul]; omega
      rw [e1, sf_qr h' (by omega), hi, sf_qr h' (by omega), if_pos (by rw [Nat.add_mul]; omega), show (q + 1) * (r + 1) + 0 - (r + 1) = q * (r + 1) + 0 by rw [Nat.add_mul]; omega, sf_qr h' (by omega), Nat.add_mul]
      omega
theorem sf_lt {w p : Nat} (hw : 1 ≤ w) (hp : 1 ≤ p) (i : Nat) : sfV w p i + 1 ≤ sfV w p (i + 1) := by rw [sf_step hw hp]; omega
theorem sf_far {w p : Nat} (hw : 1 ≤ w) (hp : 1 ≤ p) {i : Nat} : ∀ d, sfV w p i + d ≤ sfV w p (i + d)
  | 0 => Nat.le_refl _
  | d + 1 => by have := sf_far hw hp (i := i) d; have := sf_lt hw hp (i + d); rw [show i + (d + 1) = i + d + 1 by omega]; omega
theorem sf_up {w p : Nat} (hw : 1 ≤ w) (hp : 1 ≤ p) {i j : Nat} (h : i ≤ j) : sfV w p i + (j - i) ≤ sfV w p j := by
  have := sf_far hw hp (i := i) (j - i)
  rwa [show i + (j - i) = j by omega] at this
theorem sf_ge {w p : Nat} (hw : 1 ≤ w) (hp : 1 ≤ p) (i : Nat) : i ≤ sfV w p i := by have := sf_up hw hp (i := 0) (j := i) (Nat.zero_le _); rw [sf_zero] at this; omega
/-- A window apart, a trip apart. -/
theorem sf_gap {w p : Nat} (hw : 1 ≤ w) (hp : 1 ≤ p) {i : Nat} (h : w ≤ i) : sfV w p (i - w) + p ≤ sfV w p i := by
  obtain ⟨k, rfl⟩ : ∃ k, i = k + 1 := ⟨i - 1, by omega⟩
  have := sf_step hw hp k
  rw [if_pos h] at this
  omega
/-- It waits only for the piece a window ahead of it. -/
theorem sf_tight {w p : Nat} (hw : 1 ≤ w) (hp : 1 ≤ p) (i : Nat) : sfV w p (i + 1) = sfV w p i + 1 ∨ (w ≤ i + 1 ∧ sfV w p (i + 1) = sfV w p (i + 1 - w) + p) := by
  have := sf_step hw hp i
  by_cases c : w ≤ i + 1
  · rw [if_pos c] at this; omega
  · rw [if_neg c] at this; omega
/-- A larger window or a shorter trip delays nothing. -/
theorem sf_mono {w v p u : Nat} (hw : 1 ≤ w) (hp : 1 ≤ u) (h1 : w ≤ v) (h2 : u ≤ p) : ∀ i, sfV v u i ≤ sfV w p i := by
  intro i
  induction i using Nat.strongRecOn with
  | _ i ih =>
    cases i with
    | zero => rw [sf_zero]; omega
    | succ i =>
      have a := ih i (by omega)
      have b := sf_lt (w := w) (p := p) hw (by omega) i
      rcases sf_tight (w := v) (p := u) (by omega) hp i with e | ⟨c, e⟩
      · omega
      · have c1 := ih (i + 1 - v) (by omega)
        have c2 := sf_up (w := w) (p := p) hw (by omega) (i := i + 1 - v) (j := i + 1 - w) (by omega)
        have c3 := sf_gap (w := w) (p := p) hw (by omega) (i := i + 1) (by omega)
        omega
theorem sf_one {p : Nat} (hp : 1 ≤ p) (i : Nat) : sfV 1 p i = i * p := by
  by_cases c : p ≤ 1
  · obtain rfl : p = 1 := by omega
    unfold sfV; simp
  · have := sf_qr (w := 1) (p := p) (q := i) (r := 0) (by omega) (by omega)
    simpa using this
/-- k windows apart, k trips apart. -/
theorem sf_gaps {w p : Nat} (hw : 1 ≤ w) (hp : 1 ≤ p) {i : Nat} : ∀ k, sfV w p i + k * p ≤ sfV w p (i + k * w)
  | 0 => by simp
  | k + 1 => by
    have ih := sf_gaps hw hp (i := i) k
    have g := sf_gap hw hp (i := i + (k + 1) * w) (by rw [Nat.add_mul]; omega)
    rw [show i + (k + 1) * w - w = i + k * w by rw [Nat.add_mul]; omega] at g
    rw [Nat.add_mul]
    omega
/-- No more than so many windows go out in so many trips. -/
theorem sf_many {w p : Nat} (hw : 1 ≤ w) (hp : 1 ≤ p) {i n k : Nat} (h : sfV w p (i + n) < sfV w p i + k * p) : n < k * w := by
  by_cases c : k * w ≤ n
  · have := sf_gaps hw hp (i := i) k
    have := sf_up hw hp (i := i + k * w) (j := i + n) (by omega)
    omega
  · omega

end Go.Proofs.Ytmefekgbljhclaa
