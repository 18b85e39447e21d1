
/-
  Plain mathematics of one flow that sends by its turns: how many packets a budget lets go; monotony; what is short of the budget.
-/
import Derived.Test.YtamkadffencpgaaSumP
namespace Go.Proofs.Ytamkadffencpgaa
set_option linter.all false

/-- Sizes of waiting packets. -/
structure Sz (z : List Int) : Prop where
  le : z.length ≤ 60
  lo : ∀ i, i < z.length → 1 ≤ gt z i
  hi : ∀ i, i < z.length → gt z i ≤ 1000
theorem Sz.up {z : List Int} (v : Sz z) {i : Nat} : ∀ d, i + d ≤ z.length → sumV z i + (d : Int) ≤ sumV z (i + d)
  | 0, _ => by simp
  | d + 1, h => by
    have ih := Sz.up v (i := i) d (by omega)
    have := v.lo (i + d) (by omega)
    rw [show i + (d + 1) = i + d + 1 by omega, sumV]
    omega
theorem Sz.mono {z : List Int} (v : Sz z) {i j : Nat} (hij : i ≤ j) (hj : j ≤ z.length) : sumV z i ≤ sumV z j := by
  have := v.up (i := i) (j - i) (by omega)
  rw [show i + (j - i) = j by omega] at this
  omega
theorem Sz.bd {z : List Int} (v : Sz z) : ∀ i, i ≤ z.length → 0 ≤ sumV z i ∧ sumV z i ≤ 1000 * i
  | 0, _ => by simp [sumV]
  | i + 1, h => by
    have ih := Sz.bd v i (by omega)
    have := v.lo i (by omega); have := v.hi i (by omega)
    simp only [sumV]; omega
/-- How many of the first k packets a budget lets go. -/
def cgV (z : List Int) (B : Int) : Nat → Nat
  | 0 => 0
  | k + 1 => if sumV z (k + 1) ≤ B then k + 1 else cgV z B k
def cgN (z : List Int) (B : Int) : Nat := cgV z B z.length
theorem cg_le (z : List Int) (B : Int) : ∀ k, cgV z B k ≤ k
  | 0 => Nat.le_refl _
  | k + 1 => by have := cg_le z B k; simp only [cgV]; split <;> omega
theorem cg_ok {z : List Int} {B : Int} (hB : 0 ≤ B) : ∀ k, sumV z (cgV z B k) ≤ B
  | 0 => hB
  | k + 1 => by
    simp only [cgV]
    split
    · assumption
    · exact cg_ok hB k
theorem cg_top {z : List Int} {B : Int} : ∀ k n, n ≤ k → sumV z n ≤ B → n ≤ cgV z B k
  | 0, n, h, _ => by omega
  | k + 1, n, h, hs => by
    simp only [cgV]
    split
    · exact h
    · rename_i c
      by_cases e : n = k + 1
      · subst e; exact absurd hs c
      · exact cg_top k n (by omega) hs
/-- It is known by what it lets go and what it does not. -/
theorem cg_is {z : List Int} {B : Int} (v : Sz z) {n : Nat} (hn : n ≤ z.length) (h1 : sumV z n ≤ B) (h2 : n < z.length → B < sumV z (n + 1)) : cgN z B = n := by
  have hB : 0 ≤ B := Int.le_trans (v.bd n hn).1 h1
  refine Nat.le_antisymm ?_ (cg_top _ n hn h1)
  by_cases c : n < cgN z B
  · have hl : cgN z B ≤ z.length := cg_le z B _
    have := v.mono (i := n + 1) (j := cgN z B) c hl
    have := cg_ok (z := z) hB z.length
    have := h2 (by omega)
    unfold cgN at *
    omega
  · omega
theorem cg_next {z : List Int} {B : Int} (hB : 0 ≤ B) (h : cgN z B < z.length) : B < sumV z (cgN z B + 1) := by
  by_cases c : sumV z (cgN z B + 1) ≤ B
  · have := cg_top z.length (cgN z B + 1) h c
    unfold cgN at *
    omega
  · omega
theorem cg_mono {z : List Int} {A B : Int} (hA : 0 ≤ A) (h : A ≤ B) : cgN z A ≤ cgN z B :=
  cg_top z.length _ (cg_le z A _) (Int.le_trans (cg_ok hA _) h)
theorem cg_zero {z : List Int} (v : Sz z) : cgN z 0 = 0 := cg_is v (Nat.zero_le _) (Int.le_refl _) (fun h => by have := v.lo 0 h; simp only [sumV]; omega)
/-- The amount that is sent. -/
theorem cg_short {z : List Int} {B M : Int} (hB : 0 ≤ B) (hM : ∀ i, i < z.length → gt z i ≤ M) (h : cgN z B < z.length) : B - M < sumV z (cgN z B) := by
  have h1 := cg_next hB h
  have h2 := hM _ h
  rw [sumV] at h1
  omega
theorem cg_sum_mono {z : List Int} (v : Sz z) {A B : Int} (hA : 0 ≤ A) (h : A ≤ B) : sumV z (cgN z A) ≤ sumV z (cgN z B) := v.mono (cg_mono hA h) (cg_le z B _)
theorem cg_all {z : List Int} (v : Sz z) {B : Int} (hB : 0 ≤ B) : sumV z (cgN z B) = sumV z z.length ↔ cgN z B = z.length := by
  constructor
  · intro h
    have hl : cgN z B ≤ z.length := cg_le z B _
    have := v.up (i := cgN z B) (z.length - cgN z B) (by omega)
    rw [show cgN z B + (z.length - cgN z B) = z.length by omega] at this
    omega
  · intro h; rw [h]
/-- Two flows that both have packets left. -/
theorem fair_two {z y : List Int} {Q P M N m : Int} (Q0 : 1 ≤ Q) (P0 : 1 ≤ P) (m0 : 0 ≤ m) (hM : ∀ i, i < z.length → gt z i ≤ M) (hN : ∀ i, i < y.length → gt y i ≤ N) (hz : cgN z (m * Q) < z.length) (hy : cgN y (m * P) < y.length) (M0 : 1 ≤ M) (N0 : 1 ≤ N) :
    sumV z (cgN z (m * Q)) * P - sumV y (cgN y (m * P)) * Q < M * P + N * Q ∧ sumV y (cgN y (m * P)) * Q - sumV z (cgN z (m * Q)) * P < M * P + N * Q := by
  have bQ : 0 ≤ m * Q := Int.mul_nonneg m0 (by omega)
  have bP : 0 ≤ m * P := Int.mul_nonneg m0 (by omega)
  have a1 := cg_ok (z := z) bQ z.length
  have a2 := cg_short bQ hM hz
  have b1 := cg_ok (z := y) bP y.length
  have b2 := cg_short bP hN hy
  obtain ⟨x, hx⟩ : ∃ x, x = sumV z (cgN z (m * Q)) := ⟨_, rfl⟩
  obtain ⟨u, hu⟩ : ∃ u, u = sumV y (cgN y (m * P)) := ⟨_, rfl⟩
  have a1' : x ≤ m * Q := by rw [hx]; exact a1
  have b1' : u ≤ m * P := by rw [hu]; exact b1
  rw [← hx] at a2 ⊢
  rw [← hu] at b2 ⊢
  have c1 : x * P ≤ m * Q * P := Int.mul_le_mul_of_nonneg_right a1' (by omega)
  have c2 : (m * Q - M) * P ≤ (x - 1) * P := Int.mul_le_mul_of_nonneg_right (by omega) (by omega)
  have d1 : u * Q ≤ m * P * Q := Int.mul_le_mul_of_nonneg_right b1' (by omega)
  have d2 : (m * P - N) * Q ≤ (u - 1) * Q := Int.mul_le_mul_of_nonneg_right (by omega) (by omega)
  have e : m * P * Q = m * Q * P := by rw [Int.mul_assoc, Int.mul_comm P Q, ← Int.mul_assoc]
  have f1 : 0 < M * P := Int.mul_pos (by omega) (by omega)
  have f2 : 0 < N * Q := Int.mul_pos (by omega) (by omega)
  rw [Int.sub_mul, Int.sub_mul, Int.one_mul] at c2 d2
  omega

end Go.Proofs.Ytamkadffencpgaa
