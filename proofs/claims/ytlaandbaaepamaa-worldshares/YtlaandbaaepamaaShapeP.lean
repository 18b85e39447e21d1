
/-
  Plain mathematics of pseudo-inverses and of the standard curves.
-/
import Derived.Test.YtlaandbaaepamaaCloK
namespace Go.Proofs.Ytlaandbaaepamaa
set_option linter.all false

/-- a is the first time with y or more. -/
structure IsFst (l : List Int) (y : Int) (a : Nat) : Prop where
  le : a ≤ l.length
  below : ∀ i, i < a → gt l i < y
  at_ : a < l.length → y ≤ gt l a
/-- b is the last time with y or less. -/
structure IsLst (l : List Int) (y b : Int) : Prop where
  lo : -1 ≤ b
  hi : b < l.length
  at_ : ∀ i : Nat, (i : Int) = b → gt l i ≤ y
  above : ∀ i : Nat, b < (i : Int) → i < l.length → y < gt l i
theorem IsFst.uniq {l : List Int} {y : Int} {a b : Nat} (h : IsFst l y a) (h' : IsFst l y b) : a = b := by
  have := h.le; have := h'.le
  rcases Nat.lt_trichotomy a b with q | q | q
  · have := h'.below a q; have := h.at_ (by omega); omega
  · exact q
  · have := h.below b q; have := h'.at_ (by omega); omega
theorem IsLst.uniq {l : List Int} {y a b : Int} (h : IsLst l y a) (h' : IsLst l y b) : a = b := by
  have := h.lo; have := h'.lo; have := h.hi; have := h'.hi
  rcases Int.lt_trichotomy a b with q | q | q
  · have h1 := h.above b.toNat (by omega) (by omega); have h2 := h'.at_ b.toNat (by omega); omega
  · exact q
  · have h1 := h'.above a.toNat (by omega) (by omega); have h2 := h.at_ a.toNat (by omega); omega
theorem ex_fst (l : List Int) (y : Int) : ∃ a, IsFst l y a := by
  have : ∀ n, n ≤ l.length → (∃ a, IsFst l y a) ∨ ∀ i, i < n → gt l i < y := by
    intro n
    induction n with
    | zero => intro _; exact .inr (fun i hi => absurd hi (by omega))
    | succ n ih =>
      intro hn
      rcases ih (by omega) with h | h
      · exact .inl h
      · by_cases q : y ≤ gt l n
        · exact .inl ⟨n, by omega, h, fun _ => q⟩
        · exact .inr (fun i hi => by
            by_cases e : i = n
            · subst e; omega
            · exact h i (by omega))
  rcases this l.length (Nat.le_refl _) with h | h
  · exact h
  · exact ⟨l.length, Nat.le_refl _, h, fun q => absurd q (by omega)⟩
theorem ex_lst (l : List Int) (y : Int) : ∃ b, IsLst l y b := by
  have : ∀ n, n ≤ l.length → (∃ b, IsLst l y b) ∨ ∀ i, l.length - n ≤ i → i < l.length → y < gt l i := by
    intro n
    induction n with
    | zero => intro _; exact .inr (fun i h1 h2 => absurd h1 (by omega))
    | succ n ih =>
      intro hn
      rcases ih (by omega) with h | h
      · exact .inl h
      · by_cases q : gt l (l.length - (n + 1)) ≤ y
        · exact .inl ⟨((l.length - (n + 1) : Nat) : Int), by omega, by omega, fun i hi => by rw [show i = l.length - (n + 1) by omega]; exact q, fun i h1 h2 => h i (by omega) h2⟩
        · exact .inr (fun i h1 h2 => by
            by_cases e : i = l.length - (n + 1)
            · rw [e]; omega
            · exact h i (by omega) h2)
  rcases this l.length (Nat.le_refl _) with h | h
  · exact h
  · exact ⟨-1, by omega, by omega, fun i hi => absurd hi (by omega), fun i _ h2 => h i (by omega) h2⟩
/-- Galois: the first time with y or more is at most t just if there is y or more at t. -/
theorem IsFst.galois {l : List Int} {y : Int} {a t : Nat} (v : Cv l) (h : IsFst l y a) (ht : t < l.length) : a ≤ t ↔ y ≤ gt l t := by
  constructor
  · intro q; have := h.at_ (by omega); have := v.mono q ht; omega
  · intro q
    by_cases e : t < a
    · have := h.below t e; omega
    · omega
theorem IsLst.galois {l : List Int} {y b : Int} {t : Nat} (v : Cv l) (h : IsLst l y b) (ht : t < l.length) : (t : Int) ≤ b ↔ gt l t ≤ y := by
  have := h.lo; have := h.hi
  constructor
  · intro q
    have h1 := h.at_ b.toNat (by omega)
    have := v.mono (i := t) (j := b.toNat) (by omega) (by omega); omega
  · intro q
    by_cases e : b < (t : Int)
    · have := h.above t e ht; omega
    · omega

/-- A token bucket, a line of rate and delay, a staircase, at t. -/
def buV (r n : Int) (t : Nat) : Int := if t = 0 then 0 else n + (t : Int) * r
def liV (r n : Int) (t : Nat) : Int := if (t : Int) ≤ n then 0 else ((t : Int) - n) * r
def stV (r n : Int) (t : Nat) : Int := (((t : Int) + n - 1) / n) * r

theorem mul_r {a b c : Int} (h : a ≤ b) (hc : 0 ≤ c) : a * c ≤ b * c := Int.mul_le_mul_of_nonneg_right h hc
theorem mul_l {a b c : Int} (h : a ≤ b) (hc : 0 ≤ c) : c * a ≤ c * b := Int.mul_le_mul_of_nonneg_left h hc
theorem bu_nonneg {r n : Int} (hr : 0 ≤ r) (hn : 0 ≤ n) (t : Nat) : 0 ≤ buV r n t := by
  unfold buV; split
  · omega
  · have := Int.mul_nonneg (show (0 : Int) ≤ t by omega) hr; omega
theorem bu_up {r n : Int} (hr : 0 ≤ r) (hn : 0 ≤ n) (t : Nat) : buV r n t ≤ buV r n (t + 1) := by
  have h1 := mul_r (show (t : Int) ≤ ((t + 1 : Nat) : Int) by omega) hr
  have h2 := bu_nonneg hr hn (t + 1)
  unfold buV at *
  rw [if_neg (show ¬ t + 1 = 0 by omega)] at *
  split <;> omega
theorem bu_sub {r n : Int} (hr : 0 ≤ r) (hn : 0 ≤ n) (s t : Nat) : buV r n (s + t) ≤ buV r n s + buV r n t := by
  unfold buV
  by_cases h1 : s = 0
  · subst h1; simp
  · by_cases h2 : t = 0
    · subst h2; simp
    · rw [if_neg (by omega), if_neg h1, if_neg h2, show ((s + t : Nat) : Int) = (s : Int) + (t : Int) by omega, Int.add_mul]; omega
theorem bu_le {r n R N : Int} (hr : r ≤ R) (hn : n ≤ N) (t : Nat) : buV r n t ≤ buV R N t := by
  unfold buV; split
  · omega
  · have := mul_l hr (show (0 : Int) ≤ t by omega); omega
theorem li_nonneg {r n : Int} (hr : 0 ≤ r) (t : Nat) : 0 ≤ liV r n t := by
  unfold liV; split
  · omega
  · exact Int.mul_nonneg (by omega) hr
theorem li_ge {r n : Int} (hr : 0 ≤ r) (t : Nat) : ((t : Int) - n) * r ≤ liV r n t := by
  unfold liV; split
  · have := mul_r (show (t : Int) - n ≤ 0 by omega) hr; omega
  · omega
theorem li_eq {r n : Int} (hr : 0 ≤ r) (t : Nat) : liV r n t = max ((t : Int) * r - n * r) 0 := by
  have h1 := li_nonneg (n := n) hr t
  have h2 := li_ge (n := n) hr t
  rw [Int.sub_mul] at h2
  have h3 : liV r n t = 0 ∨ liV r n t = (t : Int) * r - n * r := by
    unfold liV; split
    · exact .inl rfl
    · exact .inr (Int.sub_mul _ _ _)
  omega
theorem li_up {r n : Int} (hr : 0 ≤ r) (t : Nat) : liV r n t ≤ liV r n (t + 1) := by
  rw [li_eq hr, li_eq hr]
  have := mul_r (show (t : Int) ≤ ((t + 1 : Nat) : Int) by omega) hr
  omega
theorem li_super {r n : Int} (hr : 0 ≤ r) (hn : 0 ≤ n) (s t : Nat) : liV r n s + liV r n t ≤ liV r n (s + t) := by
  rw [li_eq hr, li_eq hr, li_eq hr, show ((s + t : Nat) : Int) = (s : Int) + (t : Int) by omega, Int.add_mul]
  have := Int.mul_nonneg hn hr
  have := Int.mul_nonneg (show (0 : Int) ≤ s by omega) hr
  have := Int.mul_nonneg (show (0 : Int) ≤ t by omega) hr
  omega
theorem li_le {r n R N : Int} (h0 : 0 ≤ r) (hr : r ≤ R) (hn : N ≤ n) (t : Nat) : liV r n t ≤ liV R N t := by
  unfold liV
  split
  · exact li_nonneg (Int.le_trans h0 hr) t
  · rw [if_neg (by omega)]
    exact Int.le_trans (mul_l hr (by omega)) (mul_r (by omega) (Int.le_trans h0 hr))
theorem li_zero {r n : Int} (hn : 0 ≤ n) : liV r n 0 = 0 := by unfold liV; rw [if_pos (by simpa using hn)]
/-- Two lines, one behind the other. -/
theorem li_conv {r s a b : Int} (hr : 0 ≤ r) (hs : 0 ≤ s) (ha : 0 ≤ a) (hb : 0 ≤ b) (t : Nat) : cvV (liV r a) (liV s b) t = liV (min r s) (a + b) t := by
  have hm : 0 ≤ min r s := by omega
  refine cv_eq (fun i j e => ?_) ?_
  · have h1 := li_le (n := a) (N := a) hm (show min r s ≤ r by omega) (Int.le_refl _) i
    have h2 := li_le (n := b) (N := b) hm (show min r s ≤ s by omega) (Int.le_refl _) j
    refine Int.le_trans ?_ (Int.add_le_add h1 h2)
    rw [li_eq hm, li_eq hm, li_eq hm, ← e, show ((i + j : Nat) : Int) = (i : Int) + (j : Int) by omega, Int.add_mul, Int.add_mul]
    omega
  · by_cases h : (t : Int) ≤ a + b
    · by_cases h' : (t : Int) ≤ a
      · refine ⟨t, 0, by omega, ?_⟩
        rw [li_zero hb]; unfold liV; rw [if_pos h', if_pos h]; omega
      · refine ⟨a.toNat, t - a.toNat, by omega, ?_⟩
        unfold liV; rw [if_pos (by omega), if_pos (by omega), if_pos h]; omega
    · by_cases q : r ≤ s
      · refine ⟨t - b.toNat, b.toNat, by omega, ?_⟩
        rw [show min r s = r by omega]
        unfold liV; rw [if_neg (by omega), if_pos (by omega), if_neg h, show (((t - b.toNat : Nat) : Int)) - a = (t : Int) - (a + b) by omega]; omega
      · refine ⟨a.toNat, t - a.toNat, by omega, ?_⟩
        rw [show min r s = s by omega]
        unfold liV; rw [if_pos (by omega), if_neg (by omega), if_neg h, show (((t - a.toNat : Nat) : Int)) - b = (t : Int) - (a + b) by omega]; omega
/-- Two buckets, one behind the other. -/
theorem bu_conv {r s a b : Int} (hr : 0 ≤ r) (hs : 0 ≤ s) (ha : 0 ≤ a) (hb : 0 ≤ b) (t : Nat) : cvV (buV r a) (buV s b) t = min (buV r a t) (buV s b t) := by
  have z1 : buV r a 0 = 0 := rfl
  have z2 : buV s b 0 = 0 := rfl
  refine cv_eq (fun i j e => ?_) ?_
  · by_cases h1 : i = 0
    · subst h1; rw [z1, show j = t by omega]; omega
    · by_cases h2 : j = 0
      · subst h2; rw [z2, show i = t by omega]; omega
      · unfold buV
        rw [if_neg (by omega), if_neg (by omega), if_neg h1, if_neg h2, ← e, show ((i + j : Nat) : Int) = (i : Int) + (j : Int) by omega, Int.add_mul, Int.add_mul]
        by_cases q : r ≤ s
        · have := mul_l q (show (0 : Int) ≤ j by omega); omega
        · have := mul_l (show s ≤ r by omega) (show (0 : Int) ≤ i by omega); omega
  · by_cases q : buV r a t ≤ buV s b t
    · exact ⟨t, 0, by omega, by rw [z2]; omega⟩
    · exact ⟨0, t, by omega, by rw [z1]; omega⟩

/-- How many steps of n reach t. -/
theorem ceil_iff {t n k : Int} (hn : 1 ≤ n) : (t + n - 1) / n ≤ k ↔ t ≤ k * n := by
  rw [show (t + n - 1) / n ≤ k ↔ (t + n - 1) / n < k + 1 by omega, Int.ediv_lt_iff_lt_mul (by omega), Int.add_mul]; omega
theorem ceil_le {t n : Int} (hn : 1 ≤ n) : t ≤ ((t + n - 1) / n) * n := (ceil_iff hn).1 (Int.le_refl _)
theorem ceil_nonneg {t n : Int} (hn : 1 ≤ n) (ht : 0 ≤ t) : 0 ≤ (t + n - 1) / n := Int.ediv_nonneg (by omega) (by omega)
theorem st_nonneg {r n : Int} (hr : 0 ≤ r) (hn : 1 ≤ n) (t : Nat) : 0 ≤ stV r n t := Int.mul_nonneg (ceil_nonneg hn (by omega)) hr
theorem st_zero {r n : Int} (hn : 1 ≤ n) : stV r n 0 = 0 := by
  have h1 : (((0 : Nat) : Int) + n - 1) / n ≤ 0 := (ceil_iff hn).2 (by omega)
  have h2 := ceil_nonneg (t := ((0 : Nat) : Int)) hn (by omega)
  unfold stV; rw [show (((0 : Nat) : Int) + n - 1) / n = 0 by omega]; omega
theorem st_up {r n : Int} (hr : 0 ≤ r) (hn : 1 ≤ n) (t : Nat) : stV r n t ≤ stV r n (t + 1) :=
  mul_r ((ceil_iff hn).2 (by have := ceil_le (t := ((t + 1 : Nat) : Int)) hn; omega)) hr
theorem st_sub {r n : Int} (hr : 0 ≤ r) (hn : 1 ≤ n) (s t : Nat) : stV r n (s + t) ≤ stV r n s + stV r n t := by
  unfold stV
  rw [← Int.add_mul]
  refine mul_r ((ceil_iff hn).2 ?_) hr
  rw [Int.add_mul]
  have := ceil_le (t := (s : Int)) hn; have := ceil_le (t := (t : Int)) hn; omega
theorem st_hi {r n : Int} (hr : 0 ≤ r) (hn : 1 ≤ n) (t : Nat) : stV r n t ≤ (t : Int) * r :=
  mul_r ((ceil_iff hn).2 (by have := mul_l hn (show (0 : Int) ≤ t by omega); omega)) hr
/-- A stair is at most the bucket of its size, its steps taken together. -/
theorem st_bu {r n : Int} (hr : 0 ≤ r) (hn : 1 ≤ n) (t : Nat) : stV r n t ≤ buV ((r + n - 1) / n) r t := by
  by_cases h : t = 0
  · subst h; rw [st_zero hn]; exact Int.le_refl _
  · obtain ⟨c, hc⟩ : ∃ c, c = (r + n - 1) / n := ⟨_, rfl⟩
    obtain ⟨q, hq⟩ : ∃ q : Int, q = ((t : Int) + n - 1) / n := ⟨_, rfl⟩
    have c1 : r ≤ c * n := by rw [hc]; exact ceil_le hn
    have c0 : 0 ≤ c := by rw [hc]; exact ceil_nonneg hn hr
    have q1 : (q - 1) * n < (t : Int) := by
      by_cases p : (t : Int) ≤ (q - 1) * n
      · have := (ceil_iff hn).2 p; omega
      · omega
    have q0 : 1 ≤ q := by
      by_cases p : q ≤ 0
      · have := (ceil_iff (t := (t : Int)) (k := 0) hn).1 (by omega); omega
      · omega
    unfold stV buV
    rw [if_neg h, ← hq, ← hc]
    have h1 := mul_l c1 (show 0 ≤ q - 1 by omega)
    have h2 := mul_r (show (q - 1) * n ≤ (t : Int) by omega) c0
    rw [show (q - 1) * (c * n) = (q - 1) * n * c by rw [Int.mul_comm c n, Int.mul_assoc]] at h1
    rw [Int.sub_mul] at h1
    omega

/-- The bounds of the standard curves. -/
theorem bu_hi {r n : Int} (hr : r ≤ 10000) {h t : Nat} (hh : t ≤ 60) (h0 : 0 ≤ n) : buV r n t ≤ n + 600000 := by
  unfold buV; split
  · omega
  · have := mul_l hr (show (0 : Int) ≤ t by omega); omega
theorem li_hi {r n : Int} (h0 : 0 ≤ r) (hr : r ≤ 10000) (hn : 0 ≤ n) {t : Nat} (hh : t ≤ 60) : liV r n t ≤ 600000 := by
  unfold liV; split
  · omega
  · have h1 := mul_l hr (show (0 : Int) ≤ (t : Int) - n by omega)
    have h2 := mul_r (show (t : Int) - n ≤ 60 by omega) (show (0 : Int) ≤ 10000 by decide)
    omega
theorem li_cv {r n : Int} (h0 : 0 ≤ r) (hr : r ≤ 10000) (hn : 0 ≤ n) {h : Nat} (hh : h ≤ 60) : Cv (tab (h + 1) (liV r n)) :=
  Cv.tab (by omega) (by omega) (fun t _ => li_nonneg h0 t) (fun t ht => by have := li_hi h0 hr hn (t := t) (by omega); omega) (fun t _ => li_up h0 t)
theorem st_cv {r n : Int} (h0 : 0 ≤ r) (hr : r ≤ 10000) (hn : 1 ≤ n) {h : Nat} (hh : h ≤ 60) : Cv (tab (h + 1) (stV r n)) :=
  Cv.tab (by omega) (by omega) (fun t _ => st_nonneg h0 hn t) (fun t ht => by
    have h1 := st_hi h0 hn t
    have h2 := mul_l hr (show (0 : Int) ≤ (t : Int) by omega)
    omega) (fun t _ => st_up h0 hn t)
theorem bu_nd {r n : Int} (h0 : 0 ≤ r) (hr : r ≤ 10000) (hn : 0 ≤ n) (hn' : n ≤ 1000000) {h : Nat} (hh : h ≤ 60) : Nd 1600000 (tab (h + 1) (buV r n)) := by
  refine ⟨by rw [length_tab]; omega, by rw [length_tab]; omega, fun t ht => ?_, fun t ht => ?_, fun t ht => ?_⟩ <;> rw [length_tab] at ht
  · rw [gt_tab _ ht]; exact bu_nonneg h0 hn t
  · rw [gt_tab _ ht]; have := bu_hi (h := h) hr (t := t) (by omega) hn; omega
  · rw [gt_tab _ ht, gt_tab _ (by omega)]; exact bu_up h0 hn t
theorem sb_tab {n : Nat} {f : Nat → Int} (z : f 0 ≤ 0) (h : ∀ s t, f (s + t) ≤ f s + f t) : Sb (tab (n + 1) f) := by
  refine ⟨by rw [gt_tab _ (by omega)]; exact z, fun s t hst => ?_⟩
  rw [length_tab] at hst
  rw [gt_tab _ hst, gt_tab _ (by omega), gt_tab _ (by omega)]; exact h s t
theorem sup_tab {n : Nat} {f : Nat → Int} (v : Cv (tab (n + 1) f)) (z : f 0 = 0) (h : ∀ s t, f s + f t ≤ f (s + t)) : Sups (tab (n + 1) f) (tab (n + 1) f) := by
  refine ⟨v, list_ext (length_suL _).symm (fun t ht => ?_)⟩
  rw [gt_suL ht]
  have e : ∀ i, i < n + 1 → gt (tab (n + 1) f) i = f i := fun i hi => gt_tab _ hi
  have ht' := ht
  rw [length_tab] at ht'
  have h1 := su_least (f := gt (tab (n + 1) f)) (g := gt (tab (n + 1) f)) (n := n + 1) (by rw [e 0 (by omega), z]; exact Int.le_refl _)
    (fun s t hst => by rw [e _ hst, e _ (by omega), e _ (by omega)]; exact h s t) (fun _ _ _ => Int.le_refl _) ht'
  cases t with
  | zero => rw [su_zero, e 0 (by omega), z]
  | succ t => have := su_above (gt (tab (n + 1) f)) (t := t + 1) (by omega); omega

end Go.Proofs.Ytlaandbaaepamaa
