
/-
  Plain mathematics of what a window sends, as a trace: how much in a time; within its stair.
-/
import Derived.Test.YtmefekgbljhclaaWindowP
import Derived.Test.YtmefekgbljhclaaTraceP
namespace Go.Proofs.Ytmefekgbljhclaa
set_option linter.all false

/-- How many of the first n are sent from a on, ahead of b. -/
def ctV (f : Nat → Nat) (a b : Nat) : Nat → Int
  | 0 => 0
  | n + 1 => ctV f a b n + if a ≤ f n ∧ f n < b then 1 else 0
theorem ct_lo (f : Nat → Nat) (a b : Nat) : ∀ n : Nat, 0 ≤ ctV f a b n ∧ ctV f a b n ≤ n
  | 0 => by simp [ctV]
  | n + 1 => by have := ct_lo f a b n; rw [ctV]; split <;> omega
theorem ct_split (f : Nat → Nat) {a b c : Nat} (h1 : a ≤ b) (h2 : b ≤ c) : ∀ n, ctV f a c n = ctV f a b n + ctV f b c n
  | 0 => rfl
  | n + 1 => by
    rw [ctV, ctV, ctV, ct_split f h1 h2 n]
    by_cases p : a ≤ f n ∧ f n < b
    · rw [if_pos p, if_pos (by omega), if_neg (by omega)]; omega
    · by_cases q : b ≤ f n ∧ f n < c
      · rw [if_neg p, if_pos q, if_pos (by omega)]; omega
      · rw [if_neg p, if_neg q, if_neg (by omega)]; omega
theorem ct_none (f : Nat → Nat) (a : Nat) : ∀ n, ctV f a a n = 0
  | 0 => rfl
  | n + 1 => by rw [ctV, ct_none f a n, if_neg (by omega)]; rfl
theorem ct_ends (f : Nat → Nat) (a b : Nat) : ∀ n, ctV f a b n = 0 ∨ ∃ i j, i ≤ j ∧ j < n ∧ a ≤ f i ∧ f j < b ∧ ctV f a b n ≤ (j - i : Nat) + 1
  | 0 => Or.inl rfl
  | n + 1 => by
    rw [ctV]
    by_cases p : a ≤ f n ∧ f n < b
    · rw [if_pos p]; right
      rcases ct_ends f a b n with h | ⟨i, j, h1, h2, h3, h4, h5⟩
      · exact ⟨n, n, Nat.le_refl _, by omega, p.1, p.2, by omega⟩
      · exact ⟨i, n, by omega, by omega, h3, p.2, by omega⟩
    · rw [if_neg p, Int.add_zero]
      rcases ct_ends f a b n with h | ⟨i, j, h1, h2, h3, h4, h5⟩
      · exact Or.inl h
      · exact Or.inr ⟨i, j, h1, by omega, h3, h4, h5⟩
/-- No more than a piece a time, and no more than a window a trip. -/
theorem win_time {w p : Nat} (hw : 1 ≤ w) (hp : 1 ≤ p) (a d n : Nat) : ctV (sfV w p) a (a + d) n ≤ d := by
  rcases ct_ends (sfV w p) a (a + d) n with h | ⟨i, j, h1, h2, h3, h4, h5⟩
  · omega
  · have := sf_up hw hp h1; omega
theorem win_trip {w p : Nat} (hw : 1 ≤ w) (hp : 1 ≤ p) (a d n : Nat) : ctV (sfV w p) a (a + d) n ≤ (((d + p - 1) / p * w : Nat) : Int) := by
  have hd : d ≤ (d + p - 1) / p * p := by
    have h1 := Nat.div_add_mod (d + p - 1) p
    have h2 := Nat.mod_lt (d + p - 1) (show 0 < p by omega)
    rw [Nat.mul_comm] at h1; omega
  generalize (d + p - 1) / p = k at *
  rcases ct_ends (sfV w p) a (a + d) n with h | ⟨i, j, h1, h2, h3, h4, h5⟩
  · rw [h]; omega
  · have := sf_many hw hp (i := i) (n := j - i) (k := k) (by rw [show i + (j - i) = j by omega]; omega)
    omega
/-- As a trace. -/
theorem win_sum {l : List Int} {f : Nat → Nat} {n : Nat} (h : ∀ t, t < l.length → gt l t = ctV f t (t + 1) n) : ∀ t, t ≤ l.length → sumV l t = ctV f 0 t n
  | 0, _ => by rw [ct_none]; rfl
  | t + 1, ht => by rw [sumV, win_sum h t (by omega), h t (by omega), ct_split f (Nat.zero_le t) (show t ≤ t + 1 by omega) n]
theorem win_fit {l g : List Int} {w p n : Nat} (hw : 1 ≤ w) (hp : 1 ≤ p) (h : ∀ t, t < l.length → gt l t = ctV (sfV w p) t (t + 1) n)
    (hg : ∀ d, d ≤ l.length → gt g d = min (((d + p - 1) / p * w : Nat) : Int) (d : Int)) : Fit (adL l) g := fun s d hd => by
  rw [length_adL] at hd
  rw [gt_adL (by omega), gt_adL (by omega), win_sum h s (by omega), win_sum h (s + d) (by omega), hg d (by omega)]
  have a := ct_split (sfV w p) (Nat.zero_le s) (show s ≤ s + d by omega) n
  have b := win_time hw hp s d n
  have c := win_trip hw hp s d n
  omega
theorem win_back {l g : List Int} {w p n : Nat} (hw : 1 ≤ w) (hp : 1 ≤ p) (h : ∀ t, t < l.length → gt l t = ctV (sfV w p) t (t + 1) n) (hg : ∀ d, d ≤ l.length → gt g d = (d : Int)) : backV (adL l) g = 0 := by
  have : backV (adL l) g ≤ 0 := by
    rw [back_iff (Int.le_refl _)]
    intro t ht
    rw [length_adL] at ht
    rw [gt_adL (by omega), win_sum h t (by omega), hg t (by omega)]
    have b := win_time hw hp 0 t n
    rw [Nat.zero_add] at b; omega
  have := back0 (adL l) g
  omega
end Go.Proofs.Ytmefekgbljhclaa
