
/-
  Plain mathematics of a queue, more: when a packet is done, from what lies behind it.
-/
import Derived.Test.YtamkadffencpgaaFifoP
namespace Go.Proofs.Ytamkadffencpgaa
set_option linter.all false

theorem sm_front (T : Nat → Int) : ∀ (m i : Nat), sm T i (m + 1) = T i + sm T (i + 1) m
  | 0, i => by simp [sm]
  | m + 1, i => by
    have h := sm_front T m i
    rw [sm, h, sm, show i + 1 + m = i + (m + 1) by omega]
    omega
/-- The sizes of the m packets up to the i-th; the latest that they say. -/
def suD (l : List Pk) (i : Nat) : Nat → Int
  | 0 => 0
  | m + 1 => suD l i m + szV l (i - m)
def beD (l : List Pk) (i : Nat) : Nat → Int
  | 0 => 0
  | m + 1 => max (beD l i m) ((pk l (i - m)).at_ + suD l i (m + 1))
theorem su_sm {l : List Pk} {i : Nat} : ∀ m, m ≤ i → suD l i (m + 1) = sm (szV l) (i - m) (m + 1)
  | 0, _ => by simp [suD, sm]
  | m + 1, h => by
    have ih := su_sm (l := l) (i := i) m (by omega)
    rw [suD, ih, sm_front _ (m + 1), show i - (m + 1) + 1 = i - m by omega]
    omega
theorem su_bd {l : List Pk} (q : Qu l) {i : Nat} (hi : i < l.length) : ∀ m, 0 ≤ suD l i m ∧ suD l i m ≤ 1000 * m
  | 0 => by simp [suD]
  | m + 1 => by
    have ih := su_bd q hi m
    have k := q.ok (i - m) (by omega)
    have := k.s0; have := k.s1
    simp only [suD, szV]; omega
theorem be_le {l : List Pk} {i : Nat} : ∀ m, m ≤ i + 1 → (q : Qu l) → i < l.length → beD l i m ≤ dnV l (i + 1) ∧ 0 ≤ beD l i m
  | 0, _, q, hi => by
    have := (dn_bd q (i + 1) (by omega)).1
    simp only [beD]; omega
  | m + 1, h, q, hi => by
    have ih := be_le m (by omega) q hi
    have h1 := dn_le l (k := i - m) m
    rw [show i - m + m + 1 = i + 1 by omega] at h1
    simp only [beD]
    rw [su_sm m (by omega)]
    omega
theorem be_ge {l : List Pk} {i : Nat} : ∀ m j, j < m → (pk l (i - j)).at_ + suD l i (j + 1) ≤ beD l i m
  | 0, j, h => by omega
  | m + 1, j, h => by
    simp only [beD]
    by_cases e : j = m
    · subst e; omega
    · have := be_ge (l := l) (i := i) m j (by omega); omega
theorem be_all {l : List Pk} (q : Qu l) {i : Nat} (hi : i < l.length) : beD l i (i + 1) = dnV l (i + 1) := by
  refine Int.le_antisymm (be_le _ (Nat.le_refl _) q hi).1 ?_
  obtain ⟨k, m, e, h⟩ := dn_hit q i hi
  rw [h]
  have := be_ge (l := l) (i := i) (i + 1) m (by omega)
  rw [su_sm m (by omega), show i - m = k by omega] at this
  exact this

end Go.Proofs.Ytamkadffencpgaa
