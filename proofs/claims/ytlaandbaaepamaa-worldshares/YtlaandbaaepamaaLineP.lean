
/-
  Plain mathematics of a link of one rate: what waits, what goes out; Lindley, Reich.
-/
import Derived.Test.YtlaandbaaepamaaTraceP
import Derived.Test.YtlaandbaaepamaaShapeP
namespace Go.Proofs.Ytlaandbaaepamaa
set_option linter.all false

/-- What waits behind t slots; what goes out in a slot. -/
def waV (a : List Int) (r : Int) : Nat → Int
  | 0 => 0
  | t + 1 => max 0 (waV a r t + gt a t - r)
def goV (a : List Int) (r : Int) (t : Nat) : Int := waV a r t + gt a t - waV a r (t + 1)
def waL (a : List Int) (r : Int) : List Int := tab a.length (fun t => waV a r (t + 1))
def goL (a : List Int) (r : Int) : List Int := tab a.length (goV a r)
theorem length_waL (a : List Int) (r : Int) : (waL a r).length = a.length := length_tab _ _
theorem length_goL (a : List Int) (r : Int) : (goL a r).length = a.length := length_tab _ _
theorem gt_waL {a : List Int} {r : Int} {t : Nat} (h : t < a.length) : gt (waL a r) t = waV a r (t + 1) := gt_tab _ h
theorem gt_goL {a : List Int} {r : Int} {t : Nat} (h : t < a.length) : gt (goL a r) t = goV a r t := gt_tab _ h
theorem wa_lo (a : List Int) (r : Int) (t : Nat) : 0 ≤ waV a r t := by cases t with
  | zero => exact Int.le_refl _
  | succ t => simp only [waV]; omega
theorem go_min {a : List Int} {r : Int} (t : Nat) : goV a r t = min r (waV a r t + gt a t) := by simp only [goV, waV]; omega
theorem wa_hi {a : List Int} {r : Int} (v : Tr a) (r0 : 0 ≤ r) : ∀ t, t ≤ a.length → waV a r t ≤ sumV a t
  | 0, _ => Int.le_refl _
  | t + 1, h => by
    have := wa_hi v r0 t (by omega); have := v.lo t (by omega); have := (sum_lo v t (by omega)).1
    simp only [waV, sumV]; omega
theorem wa_bd {a : List Int} {r : Int} (v : Tr a) (r0 : 0 ≤ r) {t : Nat} (h : t ≤ a.length) : 0 ≤ waV a r t ∧ waV a r t ≤ 600000 := by
  have := wa_hi v r0 t h; have := (sum_lo v t h).2; have := v.le
  exact ⟨wa_lo a r t, by omega⟩
theorem go_bd {a : List Int} {r : Int} (v : Tr a) (r0 : 0 ≤ r) {t : Nat} (h : t < a.length) : 0 ≤ goV a r t ∧ goV a r t ≤ r := by
  have := wa_lo a r t; have := v.lo t h
  rw [go_min]; omega
theorem tr_go {a : List Int} {r : Int} (v : Tr a) (r0 : 0 ≤ r) (r1 : r ≤ 10000) : Tr (goL a r) := by
  refine ⟨by rw [length_goL]; exact v.le, fun i hi => ?_, fun i hi => ?_⟩ <;> rw [length_goL] at hi <;> rw [gt_goL hi] <;> have := go_bd v r0 hi <;> omega
theorem sum_go {a : List Int} {r : Int} : ∀ t, t ≤ a.length → sumV (goL a r) t = sumV a t - waV a r t
  | 0, _ => by simp [sumV, waV]
  | t + 1, h => by
    have h' : t < a.length := by omega
    have := sum_go (a := a) (r := r) t (by omega)
    rw [sumV, sumV, gt_goL h', this, goV]
    omega

/-- Lindley. -/
theorem lind_le (a : List Int) (r : Int) {s : Nat} : ∀ d : Nat, sumV a (s + d) - sumV a s - r * d ≤ waV a r (s + d)
  | 0 => by have := wa_lo a r s; simp; omega
  | d + 1 => by
    have h := lind_le a r (s := s) d
    rw [show s + (d + 1) = s + d + 1 by omega, sumV, waV, show ((d + 1 : Nat) : Int) = (d : Int) + 1 by omega, Int.mul_add, Int.mul_one]
    omega
theorem lind_at (a : List Int) (r : Int) : ∀ t : Nat, ∃ s d : Nat, s + d = t ∧ waV a r t = sumV a t - sumV a s - r * d
  | 0 => ⟨0, 0, rfl, by simp [waV]⟩
  | t + 1 => by
    obtain ⟨s, d, e, h⟩ := lind_at a r t
    by_cases c : waV a r t + gt a t - r ≤ 0
    · refine ⟨t + 1, 0, rfl, ?_⟩
      simp only [waV]; simp; omega
    · refine ⟨s, d + 1, by omega, ?_⟩
      rw [waV, sumV, show ((d + 1 : Nat) : Int) = (d : Int) + 1 by omega, Int.mul_add, Int.mul_one]
      omega
theorem wa_zero_or {a : List Int} {r : Int} (t : Nat) : waV a r (t + 1) = 0 ∨ waV a r (t + 1) = waV a r t + gt a t - r := by simp only [waV]; omega

theorem li_nat {r : Int} (t : Nat) : liV r 0 t = r * t := by
  unfold liV
  split
  · have : (t : Int) = 0 := by omega
    rw [this]; simp
  · rw [Int.sub_zero, Int.mul_comm]
theorem cv_left {f f' g : Nat → Int} {t : Nat} (h : ∀ i, i ≤ t → f i = f' i) : cvV f g t = cvV f' g t := by
  refine cv_eq (fun i j e => ?_) ?_
  · rw [h i (by omega)]; exact cv_le i j e
  · obtain ⟨i, j, e, q⟩ := cv_at f' g t
    exact ⟨i, j, e, by rw [h i (by omega), q]; exact Int.le_refl _⟩
theorem cv_right {f g g' : Nat → Int} {t : Nat} (h : ∀ i, i ≤ t → g i = g' i) : cvV f g t = cvV f g' t := by
  refine cv_eq (fun i j e => ?_) ?_
  · rw [h j (by omega)]; exact cv_le i j e
  · obtain ⟨i, j, e, q⟩ := cv_at f g' t
    exact ⟨i, j, e, by rw [h j (by omega), q]; exact Int.le_refl _⟩
/-- Reich. -/
theorem reich {a : List Int} {r : Int} {t : Nat} (h : t ≤ a.length) : sumV (goL a r) t = cvV (sumV a) (liV r 0) t := by
  rw [sum_go t h]
  refine (cv_eq (fun i j e => ?_) ?_).symm
  · have := lind_le a r (s := i) j
    rw [e] at this; rw [li_nat]; omega
  · obtain ⟨s, d, e, q⟩ := lind_at a r t
    exact ⟨s, d, e, by rw [li_nat]; omega⟩
theorem conv_line {a : List Int} {r : Int} (v : Tr a) (r0 : 0 ≤ r) (r1 : r ≤ 10000) : Convs (adL a) (tab (a.length + 1) (liV r 0)) (adL (goL a r)) := by
  refine ⟨ad_cv v, li_cv r0 r1 (Int.le_refl _) v.le, by rw [length_adL, length_tab], list_ext (by rw [length_adL, length_goL, length_cvL, length_adL]) (fun t ht => ?_)⟩
  rw [length_adL, length_goL] at ht
  rw [gt_adL (by rw [length_goL]; omega), gt_cvL (by rw [length_adL]; omega), reich (by omega)]
  refine (cv_left (fun i hi => ?_)).trans (cv_right (fun i hi => ?_))
  · rw [gt_adL (by omega)]
  · rw [gt_tab _ (by omega)]
theorem ad_inj {l m : List Int} (h : adL l = adL m) : l = m := by rw [← dif_ad l, h, dif_ad]
/-- Two links, one behind the other. -/
theorem line_two {a : List Int} {r s : Int} (r0 : 0 ≤ r) (s0 : 0 ≤ s) : goL (goL a r) s = goL a (min r s) := by
  refine ad_inj (list_ext (by simp [length_adL, length_goL]) (fun t ht => ?_))
  rw [length_adL, length_goL, length_goL] at ht
  rw [gt_adL (by simp [length_goL]; omega), gt_adL (by rw [length_goL]; omega), reich (by rw [length_goL]; omega), reich (by omega)]
  rw [cv_left (f' := cvV (sumV a) (liV r 0)) (fun i hi => reich (by omega)), cv_assoc]
  exact cv_right (fun i _ => li_conv r0 s0 (Int.le_refl _) (Int.le_refl _) i)
/-- A faster link, or less that comes. -/
theorem wa_mono {a b : List Int} {r s : Int} (hr : r ≤ s) (h : ∀ t, t < a.length → gt b t ≤ gt a t) : ∀ t, t ≤ a.length → waV b s t ≤ waV a r t
  | 0, _ => Int.le_refl _
  | t + 1, ht => by
    have := wa_mono hr h t (by omega); have := h t (by omega)
    simp only [waV]; omega
/-- From i on something waits behind each of d slots. -/
def Bz (a : List Int) (r : Int) (i d : Nat) : Prop := i + d ≤ a.length ∧ ∀ j, j < d → 0 < waV a r (i + j + 1)
theorem Bz.left {a : List Int} {r : Int} {d : Nat} (hd : 0 < d) : ∀ i, Bz a r i d → ∃ k, waV a r k = 0 ∧ Bz a r k d
  | 0, h => ⟨0, rfl, h⟩
  | i + 1, h => by
    by_cases c : waV a r (i + 1) = 0
    · exact ⟨i + 1, c, h⟩
    · refine Bz.left hd i ⟨by have := h.1; omega, fun j hj => ?_⟩
      cases j with
      | zero => have := wa_lo a r (i + 1); show 0 < waV a r (i + 1); omega
      | succ j => have := h.2 j (by omega); rw [show i + (j + 1) + 1 = i + 1 + j + 1 by omega]; exact this
theorem Bz.sum {a : List Int} {r : Int} {i d : Nat} (h : Bz a r i d) (h0 : waV a r i = 0) : ∀ j : Nat, j ≤ d → waV a r (i + j) = sumV a (i + j) - sumV a i - r * j
  | 0, _ => by simp [h0]
  | j + 1, hj => by
    have ih := Bz.sum h h0 j (by omega)
    have hp := h.2 j (by omega)
    rw [show i + (j + 1) = i + j + 1 by omega]
    rcases wa_zero_or (a := a) (r := r) (i + j) with c | c
    · omega
    · rw [c, ih, sumV, show ((j + 1 : Nat) : Int) = (j : Int) + 1 by omega, Int.mul_add, Int.mul_one]; omega
theorem busy_less {a g : List Int} {r : Int} {i d : Nat} (hf : Fit (adL a) g) (hd : 0 < d) (hl : gt g d ≤ r * d) : ¬ Bz a r i d := fun h => by
  obtain ⟨k, h0, hk⟩ := h.left hd
  have h1 := hk.sum h0 d (Nat.le_refl _)
  have h2 := hk.2 (d - 1) (by omega)
  rw [show k + (d - 1) + 1 = k + d by omega, h1] at h2
  have kl := hk.1
  have h3 := hf k d (by rw [length_adL]; omega)
  rw [gt_adL (by omega), gt_adL (by omega)] at h3
  omega
/-- The greatest number of slots on end behind which something waits. -/
structure IsBz (a : List Int) (r : Int) (n : Nat) : Prop where
  hit : ∃ i, Bz a r i n
  top : ∀ i d, Bz a r i d → d ≤ n
theorem IsBz.uniq {a : List Int} {r : Int} {n m : Nat} (h : IsBz a r n) (k : IsBz a r m) : n = m := by
  obtain ⟨i, hi⟩ := h.hit
  obtain ⟨j, hj⟩ := k.hit
  have := k.top i n hi; have := h.top j m hj; omega

/-- More that comes later changes nothing; what waits may as well have come then. -/
theorem gt_app {a b : List Int} {t : Nat} (h : t < a.length) : gt (a ++ b) t = gt a t := by simp [gt, List.getD, List.getElem?_append_left h]
theorem gt_app2 {a b : List Int} {t : Nat} : gt (a ++ b) (a.length + t) = gt b t := by simp [gt, List.getD, List.getElem?_append_right (Nat.le_add_right _ _)]
theorem wa_app {a b : List Int} {r : Int} : ∀ t, t ≤ a.length → waV (a ++ b) r t = waV a r t
  | 0, _ => rfl
  | t + 1, h => by simp only [waV]; rw [wa_app t (by omega), gt_app (by omega)]
theorem wa_rest {a b c : List Int} {r : Int} (h0 : gt c 0 = gt b 0 + waV a r a.length) (hs : ∀ t, 0 < t → gt c t = gt b t) : ∀ t, waV c r (t + 1) = waV (a ++ b) r (a.length + t + 1)
  | 0 => by
    have e := gt_app2 (a := a) (b := b) (t := 0)
    simp only [Nat.add_zero] at e
    simp only [waV, Nat.add_zero]
    rw [h0, e, wa_app _ (Nat.le_refl _)]
    omega
  | t + 1 => by
    have ih := wa_rest (r := r) h0 hs t
    have e := gt_app2 (a := a) (b := b) (t := t + 1)
    have e1 : waV c r (t + 1 + 1) = max 0 (waV c r (t + 1) + gt c (t + 1) - r) := rfl
    have e2 : waV (a ++ b) r (a.length + (t + 1) + 1) = max 0 (waV (a ++ b) r (a.length + t + 1) + gt (a ++ b) (a.length + (t + 1)) - r) := rfl
    rw [e1, e2, ih, e, hs (t + 1) (by omega)]
theorem go_app {a b : List Int} {r : Int} {t : Nat} (h : t < a.length) : goV (a ++ b) r t = goV a r t := by
  unfold goV; rw [wa_app t (by omega), wa_app (t + 1) (by omega), gt_app h]
theorem go_rest {a b c : List Int} {r : Int} (h0 : gt c 0 = gt b 0 + waV a r a.length) (hs : ∀ t, 0 < t → gt c t = gt b t) (t : Nat) : goV c r t = goV (a ++ b) r (a.length + t) := by
  unfold goV
  rw [wa_rest h0 hs t, gt_app2]
  cases t with
  | zero =>
    have e : waV (a ++ b) r (a.length + 0) = waV a r a.length := wa_app _ (Nat.le_refl _)
    rw [h0, e]
    show 0 + _ - _ = _
    omega
  | succ t => rw [wa_rest h0 hs t, hs (t + 1) (by omega)]; rfl

end Go.Proofs.Ytlaandbaaepamaa
