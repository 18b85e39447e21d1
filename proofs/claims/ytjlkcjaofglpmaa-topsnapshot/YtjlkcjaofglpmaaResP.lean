
/-
  Plain mathematics of a transfer with crashes.
-/
import Derived.Test.YtjlkcjaofglpmaaPlain
namespace Go.Proofs.Ytjlkcjaofglpmaa
set_option linter.all false

/-- What is there of an object behind t slots; what a crash leaves. -/
def keepV (size unit x : Int) (b : Bool) : Int := if b = true ∧ x < size then x / unit * unit else x
def reV (size unit rate : Int) (c : Nat → Bool) : Nat → Int
  | 0 => 0
  | t + 1 => keepV size unit (min size (reV size unit rate c t + rate)) (c t)
def crV (c : Nat → Bool) : Nat → Int
  | 0 => 0
  | t + 1 => crV c t + if c t = true then 1 else 0
theorem keep_bd {size unit x : Int} {b : Bool} (u : 0 < unit) (x0 : 0 ≤ x) : 0 ≤ keepV size unit x b ∧ keepV size unit x b ≤ x ∧ x - keepV size unit x b ≤ (if b = true then unit - 1 else 0) ∧ keepV size unit x b / unit = x / unit := by
  unfold keepV
  have h1 := Int.emod_nonneg x (show unit ≠ 0 by omega)
  have h2 := Int.emod_lt_of_pos x u
  have h3 := Int.mul_ediv_add_emod x unit
  rw [Int.mul_comm] at h3
  have h4 : 0 ≤ x / unit := Int.ediv_nonneg x0 (by omega)
  have h5 := Int.mul_nonneg h4 (show 0 ≤ unit by omega)
  split
  · rename_i c
    rw [if_pos c.1]
    exact ⟨h5, by omega, by omega, Int.mul_ediv_cancel _ (by omega)⟩
  · exact ⟨x0, Int.le_refl _, by split <;> omega, rfl⟩
theorem keep_full {size unit : Int} {b : Bool} : keepV size unit size b = size := by
  unfold keepV; rw [if_neg]; intro h; omega
theorem keep_one {size x : Int} {b : Bool} : keepV size 1 x b = x := by
  unfold keepV; split <;> simp
theorem re_bd {size unit rate : Int} {c : Nat → Bool} (s0 : 0 ≤ size) (u : 0 < unit) (r0 : 0 ≤ rate) : ∀ t, 0 ≤ reV size unit rate c t ∧ reV size unit rate c t ≤ size
  | 0 => ⟨Int.le_refl _, s0⟩
  | t + 1 => by
    have ih := re_bd (c := c) s0 u r0 t
    have := keep_bd (size := size) (x := min size (reV size unit rate c t + rate)) (b := c t) u (by omega)
    simp only [reV]; omega
theorem cr_lo (c : Nat → Bool) : ∀ t, 0 ≤ crV c t
  | 0 => Int.le_refl _
  | t + 1 => by have := cr_lo c t; simp only [crV]; split <;> omega
/-- All is there, or no more is lost than a piece less a byte a crash. -/
theorem re_lost {size unit rate : Int} {c : Nat → Bool} (s0 : 0 ≤ size) (u : 0 < unit) (r0 : 0 ≤ rate) : ∀ t : Nat, reV size unit rate c t = size ∨ rate * t ≤ reV size unit rate c t + crV c t * (unit - 1)
  | 0 => by right; simp [reV, crV]
  | t + 1 => by
    have hb := re_bd (c := c) s0 u r0 t
    by_cases f : size ≤ reV size unit rate c t + rate
    · left; simp only [reV]; rw [show min size (reV size unit rate c t + rate) = size by omega, keep_full]
    · right
      have ih := re_lost (c := c) s0 u r0 t
      have hk := keep_bd (size := size) (x := min size (reV size unit rate c t + rate)) (b := c t) u (by omega)
      simp only [reV, crV]
      rw [show ((t + 1 : Nat) : Int) = (t : Int) + 1 by omega, Int.mul_add, Int.mul_one, Int.add_mul]
      rcases ih with ih | ih
      · omega
      · cases hc : c t
        · simp only [hc, Bool.false_eq_true, if_false] at hk ⊢; simp; omega
        · simp only [hc, if_true] at hk ⊢; rw [Int.one_mul]; omega
theorem re_by {size unit rate : Int} {c : Nat → Bool} {t : Nat} (s0 : 0 ≤ size) (u : 0 < unit) (r0 : 0 ≤ rate) (h : size + crV c t * (unit - 1) ≤ rate * t) : reV size unit rate c t = size := by
  have := re_bd (c := c) s0 u r0 t
  rcases re_lost (c := c) s0 u r0 t with k | k
  · exact k
  · omega
/-- Whole pieces are never lost. -/
theorem re_whole {size unit rate : Int} {c : Nat → Bool} (s0 : 0 ≤ size) (u : 0 < unit) (r0 : 0 ≤ rate) (t : Nat) : reV size unit rate c t / unit ≤ reV size unit rate c (t + 1) / unit := by
  have hb := re_bd (c := c) s0 u r0 t
  have hk := keep_bd (size := size) (x := min size (reV size unit rate c t + rate)) (b := c t) u (by omega)
  simp only [reV]
  rw [hk.2.2.2]
  exact Int.ediv_le_ediv u (by omega)
/-- Without a crash, or with pieces of one byte. -/
theorem re_none {size unit rate : Int} {c : Nat → Bool} (s0 : 0 ≤ size) (r0 : 0 ≤ rate) (h : unit = 1 ∨ ∀ t, c t = false) : ∀ t : Nat, reV size unit rate c t = min size (rate * t)
  | 0 => by simp [reV]; omega
  | t + 1 => by
    have ih := re_none (c := c) s0 r0 h t
    have e : ∀ x, keepV size unit x (c t) = x := fun x => by
      rcases h with h | h
      · rw [h]; exact keep_one
      · unfold keepV; rw [if_neg]; rw [h t]; intro k; exact absurd k.1 (by simp)
    simp only [reV]
    rw [e, ih, show ((t + 1 : Nat) : Int) = (t : Int) + 1 by omega, Int.mul_add, Int.mul_one]
    omega
theorem re_most {size unit rate : Int} {c : Nat → Bool} (s0 : 0 ≤ size) (u : 0 < unit) (r0 : 0 ≤ rate) : ∀ t : Nat, reV size unit rate c t ≤ min size (rate * t)
  | 0 => by simp [reV]; omega
  | t + 1 => by
    have ih := re_most (c := c) s0 u r0 t
    have hb := re_bd (c := c) s0 u r0 t
    have hk := keep_bd (size := size) (x := min size (reV size unit rate c t + rate)) (b := c t) u (by omega)
    simp only [reV]
    rw [show ((t + 1 : Nat) : Int) = (t : Int) + 1 by omega, Int.mul_add, Int.mul_one]
    omega
end Go.Proofs.Ytjlkcjaofglpmaa
