
/-
  Plain mathematics of what stands behind a bucket or a shaper: what passes, as a trace.
-/
import Derived.Test.YtmejapenidociaaTopQ
import Derived.Test.YtmejapenidociaaFifoP
namespace Go.Proofs.Ytmejapenidociaa
set_option linter.all false

/-- What the first k packets that pass bring at the time t; what they bring ahead of the time T; what they bring from s on, ahead of s + d. -/
def pasV (r b f : Int) (l : List Pk) (t : Int) : Nat → Int
  | 0 => 0
  | k + 1 => pasV r b f l t k + if (pk l k).at_ = t then tkn r b f l k else 0
def ahdV (r b f : Int) (l : List Pk) (T : Int) : Nat → Int
  | 0 => 0
  | k + 1 => ahdV r b f l T k + if (pk l k).at_ < T then tkn r b f l k else 0
def betV (r b f : Int) (l : List Pk) (s d : Int) : Nat → Int
  | 0 => 0
  | k + 1 => betV r b f l s d k + if s ≤ (pk l k).at_ ∧ (pk l k).at_ < s + d then tkn r b f l k else 0
theorem ahd_zero {r b f : Int} {l : List Pk} (q : Qu l) : ∀ k, k ≤ l.length → ahdV r b f l 0 k = 0
  | 0, _ => rfl
  | k + 1, h => by
    have := (q.ok k (by omega)).a0
    rw [ahdV, ahd_zero q k (by omega), if_neg (by omega)]; rfl
theorem ahd_step {r b f : Int} {l : List Pk} (T : Int) : ∀ k, ahdV r b f l (T + 1) k = ahdV r b f l T k + pasV r b f l T k
  | 0 => rfl
  | k + 1 => by
    have ih := ahd_step (r := r) (b := b) (f := f) (l := l) T k
    simp only [ahdV, pasV]
    rw [ih]
    by_cases c1 : (pk l k).at_ < T
    · rw [if_pos (by omega), if_pos c1, if_neg (by omega)]; omega
    · by_cases c2 : (pk l k).at_ = T
      · rw [if_pos (by omega), if_neg c1, if_pos c2]; omega
      · rw [if_neg (by omega), if_neg c1, if_neg c2]; omega
theorem ahd_bet {r b f : Int} {l : List Pk} {s d : Int} (hd : 0 ≤ d) : ∀ k, ahdV r b f l (s + d) k = ahdV r b f l s k + betV r b f l s d k
  | 0 => rfl
  | k + 1 => by
    have ih := ahd_bet (r := r) (b := b) (f := f) (l := l) (s := s) (d := d) hd k
    simp only [ahdV, betV]
    rw [ih]
    by_cases c1 : (pk l k).at_ < s
    · rw [if_pos (by omega), if_pos c1, if_neg (by omega)]; omega
    · by_cases c2 : (pk l k).at_ < s + d
      · rw [if_pos c2, if_neg c1, if_pos (by omega)]; omega
      · rw [if_neg c2, if_neg c1, if_neg (by omega)]; omega
theorem sm_mono {T : Nat → Int} {i m : Nat} {n : Nat} (h : ∀ j, j < n → 0 ≤ T j) : ∀ e, i + m + e ≤ n → sm T i m ≤ sm T i (m + e)
  | 0, _ => Int.le_refl _
  | e + 1, he => by
    have := sm_mono (i := i) (m := m) h e (by omega)
    have := h (i + (m + e)) (by omega)
    rw [show m + (e + 1) = m + e + 1 by omega, sm]
    omega
theorem tkn_lo {r b f : Int} {l : List Pk} (q : Qu l) {j : Nat} (hj : j < l.length) : 0 ≤ tkn r b f l j := by
  have := (q.ok j hj).s0
  unfold tkn
  split <;> omega
theorem bet_run {r b f : Int} {l : List Pk} (q : Qu l) {s d : Int} : ∀ k, k ≤ l.length → betV r b f l s d k = 0 ∨ ∃ i m, i + m < k ∧ s ≤ (pk l i).at_ ∧ (pk l (i + m)).at_ < s + d ∧ betV r b f l s d k ≤ sm (tkn r b f l) i (m + 1)
  | 0, _ => .inl rfl
  | k + 1, hk => by
    have ih := bet_run (r := r) (b := b) (f := f) q (s := s) (d := d) k (by omega)
    by_cases c : s ≤ (pk l k).at_ ∧ (pk l k).at_ < s + d
    · right
      have e : betV r b f l s d (k + 1) = betV r b f l s d k + tkn r b f l k := by rw [betV, if_pos c]
      rcases ih with h0 | ⟨i, m, h1, h2, h3, h4⟩
      · exact ⟨k, 0, by omega, c.1, c.2, by rw [e, h0]; simp [sm]⟩
      · refine ⟨i, k - i, by omega, h2, by rw [show i + (k - i) = k by omega]; exact c.2, ?_⟩
        have h5 := sm_mono (T := tkn r b f l) (i := i) (m := m + 1) (n := l.length) (fun j hj => tkn_lo q hj) (k - i - (m + 1)) (by omega)
        rw [show m + 1 + (k - i - (m + 1)) = k - i by omega] at h5
        rw [e, sm, show i + (k - i) = k by omega]
        omega
    · have e : betV r b f l s d (k + 1) = betV r b f l s d k := by rw [betV, if_neg c]; omega
      rcases ih with h0 | ⟨i, m, h1, h2, h3, h4⟩
      · exact .inl (by rw [e]; exact h0)
      · exact .inr ⟨i, m, by omega, h2, h3, by rw [e]; exact h4⟩
/-- What passes a bucket fits its curve. -/
theorem bet_fit {r b f : Int} {l : List Pk} (h : Bk r b f) (q : Qu l) {s d : Int} (hd : 0 ≤ d) : betV r b f l s d l.length ≤ b + r * d := by
  have r0 := h.r0
  have hm := Int.mul_nonneg r0 hd
  have b0 := h.b0
  rcases bet_run (r := r) (b := b) (f := f) q (s := s) (d := d) l.length (Nat.le_refl _) with h0 | ⟨i, m, h1, h2, h3, h4⟩
  · omega
  · have h5 := fits_bucket h q h1
    have h6 : r * ((pk l (i + m)).at_ - (pk l i).at_) ≤ r * d := Int.mul_le_mul_of_nonneg_left (by omega) r0
    omega
theorem pas_trace {r b f : Int} {l : List Pk} (q : Qu l) {a : List Int} (ha : ∀ t, t < a.length → gt a t = pasV r b f l t l.length) : ∀ T : Nat, T ≤ a.length → sumV a T = ahdV r b f l T l.length
  | 0, _ => by rw [show ((0 : Nat) : Int) = 0 from rfl, ahd_zero q _ (Nat.le_refl _)]; rfl
  | T + 1, h => by
    rw [sumV, pas_trace q ha T (by omega), ha T (by omega), show ((T + 1 : Nat) : Int) = (T : Int) + 1 by omega, ahd_step]
theorem pas_fit {r b f : Int} {l : List Pk} (h : Bk r b f) (q : Qu l) {a : List Int} (ha : ∀ t, t < a.length → gt a t = pasV r b f l t l.length) : Fit (adL a) (tab (a.length + 1) (buV r b)) := by
  intro s d hd
  rw [length_adL] at hd
  rw [gt_adL (by omega), gt_adL (by omega), gt_tab _ (by omega), pas_trace q ha _ (by omega), pas_trace q ha _ (by omega), show ((s + d : Nat) : Int) = (s : Int) + (d : Int) by omega, ahd_bet (by omega)]
  have h1 := bet_fit (f := f) h q (s := (s : Int)) (d := (d : Int)) (by omega)
  unfold buV
  split
  · rename_i e
    subst e
    have : ∀ k, betV r b f l (s : Int) ((0 : Nat) : Int) k = 0 := fun k => by
      induction k with
      | zero => rfl
      | succ k ih => rw [betV, ih, if_neg (by omega)]; rfl
    rw [this]; omega
  · rw [Int.mul_comm] at h1; omega

end Go.Proofs.Ytmejapenidociaa
