
/-
  Plain mathematics of a link, more: busy stretches slot by slot; what waits as the greatest of sums.
-/
import Derived.Test.YtlaandbaaepamaaLineP
namespace Go.Proofs.Ytlaandbaaepamaa
set_option linter.all false

/-- Behind how many slots on end something waits, up to the k-th; the most of them so far. -/
def nowZ (a : List Int) (r : Int) : Nat → Nat
  | 0 => 0
  | k + 1 => if waV a r (k + 1) = 0 then 0 else nowZ a r k + 1
def lonZ (a : List Int) (r : Int) : Nat → Nat
  | 0 => 0
  | k + 1 => max (lonZ a r k) (nowZ a r (k + 1))
theorem now_le (a : List Int) (r : Int) : ∀ k, nowZ a r k ≤ k
  | 0 => Nat.le_refl _
  | k + 1 => by have := now_le a r k; simp only [nowZ]; split <;> omega
theorem lon_le (a : List Int) (r : Int) : ∀ k, lonZ a r k ≤ k
  | 0 => Nat.le_refl _
  | k + 1 => by have := lon_le a r k; have := now_le a r (k + 1); simp only [lonZ]; omega
theorem now_bz {a : List Int} {r : Int} : ∀ k, k ≤ a.length → Bz a r (k - nowZ a r k) (nowZ a r k)
  | 0, _ => ⟨by simp [nowZ], fun j hj => by simp [nowZ] at hj⟩
  | k + 1, h => by
    have ih := now_bz (a := a) (r := r) k (by omega)
    have hl := now_le a r k
    by_cases c : waV a r (k + 1) = 0
    · have e : nowZ a r (k + 1) = 0 := by rw [nowZ, if_pos c]
      rw [e]
      exact ⟨by omega, fun j hj => by omega⟩
    · have e : nowZ a r (k + 1) = nowZ a r k + 1 := by rw [nowZ, if_neg c]
      rw [e]
      refine ⟨by omega, fun j hj => ?_⟩
      rw [show k + 1 - (nowZ a r k + 1) = k - nowZ a r k by omega]
      by_cases ej : j = nowZ a r k
      · rw [ej, show k - nowZ a r k + nowZ a r k + 1 = k + 1 by omega]
        have := wa_lo a r (k + 1); omega
      · exact ih.2 j (by omega)
theorem now_top {a : List Int} {r : Int} : ∀ k, ∀ i d, Bz a r i d → i + d = k → d ≤ nowZ a r k
  | 0, i, d, _, e => by omega
  | k + 1, i, d, h, e => by
    by_cases hd : d = 0
    · omega
    · have hp := h.2 (d - 1) (by omega)
      rw [show i + (d - 1) + 1 = k + 1 by omega] at hp
      have ih := now_top k i (d - 1) ⟨by have := h.1; omega, fun j hj => h.2 j (by omega)⟩ (by omega)
      rw [nowZ, if_neg (by omega)]
      omega
theorem lon_top {a : List Int} {r : Int} : ∀ k, ∀ i d, Bz a r i d → i + d ≤ k → d ≤ lonZ a r k
  | 0, i, d, _, e => by omega
  | k + 1, i, d, h, e => by
    simp only [lonZ]
    by_cases c : i + d = k + 1
    · have := now_top (k + 1) i d h c; omega
    · have := lon_top k i d h (by omega); omega
theorem lon_hit {a : List Int} {r : Int} : ∀ k, k ≤ a.length → ∃ i, Bz a r i (lonZ a r k)
  | 0, _ => ⟨0, by simp [lonZ], fun j hj => by simp [lonZ] at hj⟩
  | k + 1, h => by
    simp only [lonZ]
    by_cases c : lonZ a r k ≤ nowZ a r (k + 1)
    · rw [Nat.max_eq_right c]; exact ⟨_, now_bz (k + 1) h⟩
    · rw [Nat.max_eq_left (by omega)]; exact lon_hit (a := a) k (by omega)
theorem lon_is (a : List Int) (r : Int) : IsBz a r (lonZ a r a.length) := ⟨lon_hit _ (Nat.le_refl _), fun i d h => lon_top _ i d h h.1⟩

/-- The most of the stretches that begin ahead of i. -/
structure OutZ (a : List Int) (r : Int) (i m : Nat) : Prop where
  hit : ∃ j, Bz a r j m
  top : ∀ j d, j < i → Bz a r j d → d ≤ m
theorem OutZ.init (a : List Int) (r : Int) : OutZ a r 0 0 := ⟨⟨0, by omega, fun j hj => by omega⟩, fun j d h => by omega⟩
theorem bz_one {a : List Int} {r : Int} {i : Nat} (h : i ≤ a.length) : Bz a r i 0 := ⟨by omega, fun j hj => by omega⟩
theorem bz_next {a : List Int} {r : Int} {i d : Nat} (h : Bz a r i d) (hl : i + d < a.length) (hp : 0 < waV a r (i + d + 1)) : Bz a r i (d + 1) := ⟨by omega, fun j hj => by
  by_cases e : j = d
  · rw [e]; exact hp
  · exact h.2 j (by omega)⟩
theorem OutZ.next {a : List Int} {r : Int} {i m d : Nat} (h : OutZ a r i m) (hd : Bz a r i d) (hs : i + d = a.length ∨ waV a r (i + d + 1) = 0) : OutZ a r (i + 1) (max m d) := by
  refine ⟨?_, fun j e hj he => ?_⟩
  · by_cases c : m ≤ d
    · rw [Nat.max_eq_right c]; exact ⟨i, hd⟩
    · rw [Nat.max_eq_left (by omega)]; exact h.hit
  · by_cases c : j = i
    · subst c
      by_cases q : e ≤ d
      · omega
      · rcases hs with hs | hs
        · have := he.1; omega
        · have := he.2 d (by omega); omega
    · have := h.top j e (by omega) he; omega
theorem OutZ.all {a : List Int} {r : Int} {m : Nat} (h : OutZ a r a.length m) : m = lonZ a r a.length := by
  refine IsBz.uniq (a := a) (r := r) ⟨h.hit, fun i d hd => ?_⟩ (lon_is a r)
  by_cases c : i < a.length
  · exact h.top i d c hd
  · have := hd.1; omega

/-- The sum that Lindley's greatest is taken of. -/
def linV (a : List Int) (r : Int) (t s : Nat) : Int := sumV a t - sumV a s - r * ((t : Int) - (s : Int))
theorem lin_le (a : List Int) (r : Int) {t s : Nat} (h : s ≤ t) : linV a r t s ≤ waV a r t := by
  have := lind_le a r (s := s) (t - s)
  rw [show s + (t - s) = t by omega, show ((t - s : Nat) : Int) = (t : Int) - (s : Int) by omega] at this
  exact this
theorem lin_at (a : List Int) (r : Int) (t : Nat) : ∃ s, s ≤ t ∧ linV a r t s = waV a r t := by
  obtain ⟨s, d, e, h⟩ := lind_at a r t
  refine ⟨s, by omega, ?_⟩
  rw [h, linV, show (t : Int) - (s : Int) = (d : Int) by omega]
theorem lin_mx (a : List Int) (r : Int) (t : Nat) : mx (linV a r t) (t + 1) = waV a r t := by
  refine Int.le_antisymm ((mx_iff _ _ (wa_lo a r t) _).2 (fun s hs => lin_le a r (by omega))) ?_
  obtain ⟨s, hs, e⟩ := lin_at a r t
  rw [← e]
  exact (mx_iff _ _ (mx0 _ _) _).1 (Int.le_refl _) s (by omega)
/-- Is v among the first values? -/
def hiB (D : Nat → Int) (v : Int) : Nat → Bool
  | 0 => false
  | k + 1 => hiB D v k || D k == v
theorem hi_at {D : Nat → Int} {v : Int} {i : Nat} (e : D i = v) : ∀ n, i < n → hiB D v n = true
  | 0, h => by omega
  | n + 1, h => by
    by_cases c : i = n
    · subst c; simp [hiB, e]
    · simp [hiB, hi_at e n (by omega)]
theorem lin_bd {a : List Int} {r : Int} (v : Tr a) (r0 : 0 ≤ r) (r1 : r ≤ 10000) {t s : Nat} (hs : s ≤ t) (ht : t ≤ a.length) : -1200000 ≤ linV a r t s ∧ linV a r t s ≤ 600000 := by
  have h1 := sum_lo v t ht; have h2 := sum_lo v s (by omega); have hl := v.le
  have m0 : 0 ≤ r * ((t : Int) - (s : Int)) := Int.mul_nonneg r0 (by omega)
  have m1 : r * ((t : Int) - (s : Int)) ≤ 10000 * 60 := Int.mul_le_mul r1 (by omega) (by omega) (by omega)
  unfold linV
  omega

end Go.Proofs.Ytlaandbaaepamaa
