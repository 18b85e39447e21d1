
/-
  Plain mathematics of a link that serves two traces, the first one first.
-/
import Derived.Test.YthngolnflogdnaaLineP
namespace Go.Proofs.Ythngolnflogdnaa
set_option linter.all false

/-- What waits of the second trace; what goes out of it. -/
def wbV (a b : List Int) (r : Int) : Nat → Int
  | 0 => 0
  | t + 1 => max 0 (wbV a b r t + gt b t - (r - goV a r t))
def gbV (a b : List Int) (r : Int) (t : Nat) : Int := wbV a b r t + gt b t - wbV a b r (t + 1)
def gbL (a b : List Int) (r : Int) : List Int := tab a.length (gbV a b r)
theorem length_gbL (a b : List Int) (r : Int) : (gbL a b r).length = a.length := length_tab _ _
theorem gt_gbL {a b : List Int} {r : Int} {t : Nat} (h : t < a.length) : gt (gbL a b r) t = gbV a b r t := gt_tab _ h
theorem wb_lo (a b : List Int) (r : Int) (t : Nat) : 0 ≤ wbV a b r t := by cases t with
  | zero => exact Int.le_refl _
  | succ t => simp only [wbV]; omega
theorem gb_min {a b : List Int} {r : Int} (t : Nat) : gbV a b r t = min (r - goV a r t) (wbV a b r t + gt b t) := by simp only [gbV, wbV]; omega
/-- Both traces as one. -/
def plL (a b : List Int) : List Int := tab a.length (fun t => gt a t + gt b t)
theorem length_plL (a b : List Int) : (plL a b).length = a.length := length_tab _ _
theorem gt_plL {a b : List Int} {t : Nat} (h : t < a.length) : gt (plL a b) t = gt a t + gt b t := gt_tab (fun t => gt a t + gt b t) h
theorem sum_plL {a b : List Int} : ∀ t, t ≤ a.length → sumV (plL a b) t = sumV a t + sumV b t
  | 0, _ => rfl
  | t + 1, h => by
    have h' : t < a.length := by omega
    simp only [sumV]; rw [sum_plL t (by omega), gt_plL h']; omega
theorem wa_both {a b : List Int} {r : Int} (hb : ∀ t, t < a.length → 0 ≤ gt b t) : ∀ t, t ≤ a.length → waV (plL a b) r t = waV a r t + wbV a b r t
  | 0, _ => rfl
  | t + 1, h => by
    have h' : t < a.length := by omega
    have ih := wa_both (a := a) (b := b) (r := r) hb t (by omega)
    have g := go_min (a := a) (r := r) t
    have w1 := wb_lo a b r t
    have b0 := hb t h'
    have e1 : waV (plL a b) r (t + 1) = max 0 (waV (plL a b) r t + gt (plL a b) t - r) := rfl
    have e2 : waV a r (t + 1) = max 0 (waV a r t + gt a t - r) := rfl
    have e3 : wbV a b r (t + 1) = max 0 (wbV a b r t + gt b t - (r - goV a r t)) := rfl
    rw [e1, e2, e3, ih, gt_plL h', g]
    omega
/-- What goes out of the second is what goes out of both, less the first. -/
theorem gb_both {a b : List Int} {r : Int} (hb : ∀ t, t < a.length → 0 ≤ gt b t) {t : Nat} (h : t < a.length) : gbV a b r t = goV (plL a b) r t - goV a r t := by
  have h1 := wa_both (r := r) hb t (by omega)
  have h2 := wa_both (r := r) hb (t + 1) h
  unfold gbV
  rw [show goV (plL a b) r t = waV (plL a b) r t + gt (plL a b) t - waV (plL a b) r (t + 1) from rfl, show goV a r t = waV a r t + gt a t - waV a r (t + 1) from rfl, h1, h2, gt_plL h]
  omega
theorem sum_gb {a b : List Int} {r : Int} : ∀ t, t ≤ a.length → sumV (gbL a b r) t = sumV b t - wbV a b r t
  | 0, _ => by simp [sumV, wbV]
  | t + 1, h => by
    have h' : t < a.length := by omega
    have := sum_gb (a := a) (b := b) (r := r) t (by omega)
    rw [sumV, sumV, gt_gbL h', this, gbV]
    omega
theorem gb_bd {a b : List Int} {r : Int} (va : Tr a) (vb : Tr b) (r0 : 0 ≤ r) (r1 : r ≤ 10000) (e : a.length = b.length) {t : Nat} (h : t < a.length) : 0 ≤ gbV a b r t ∧ gbV a b r t ≤ 10000 := by
  have h1 := go_bd va r0 h
  have h2 := wb_lo a b r t
  have h3 := vb.lo t (by omega)
  rw [gb_min]
  omega
theorem tr_gb {a b : List Int} {r : Int} (va : Tr a) (vb : Tr b) (r0 : 0 ≤ r) (r1 : r ≤ 10000) (e : a.length = b.length) : Tr (gbL a b r) := by
  refine ⟨by rw [length_gbL]; exact va.le, fun i hi => ?_, fun i hi => ?_⟩ <;> rw [length_gbL] at hi <;> rw [gt_gbL hi] <;> have := gb_bd va vb r0 r1 e hi <;> omega
theorem wb_bd {a b : List Int} {r : Int} (va : Tr a) (vb : Tr b) (r0 : 0 ≤ r) (e : a.length = b.length) : ∀ t, t ≤ a.length → wbV a b r t ≤ sumV b t
  | 0, _ => Int.le_refl _
  | t + 1, h => by
    have ih := wb_bd va vb r0 e t (by omega)
    have h1 := go_bd va r0 (t := t) (by omega)
    have h3 := vb.lo t (by omega)
    have := (sum_lo vb t (by omega)).1
    simp only [wbV, sumV]; omega
/-- A faster link, or less of the first: less of the second waits. -/
theorem wb_mono {a c b : List Int} {r s : Int} (hr : r ≤ s) (h : ∀ t, t < a.length → gt c t ≤ gt a t) : ∀ t, t ≤ a.length → wbV c b s t ≤ wbV a b r t
  | 0, _ => Int.le_refl _
  | t + 1, ht => by
    have ih := wb_mono (b := b) hr h t (by omega)
    have hw := wa_mono hr h t (by omega)
    have ha := h t (by omega)
    have g1 := go_min (a := c) (r := s) t
    have g2 := go_min (a := a) (r := r) t
    simp only [wbV]
    rw [g1, g2]
    omega
theorem sum_up {l : List Int} (v : Tr l) {i j : Nat} (hij : i ≤ j) (hj : j ≤ l.length) : sumV l i ≤ sumV l j := by
  have := (ad_cv v).mono (i := i) (j := j) hij (by rw [length_adL]; omega)
  rwa [gt_adL (by omega), gt_adL hj] at this
/-- From where on something has waited without end. -/
theorem busy_from (a : List Int) (r : Int) : ∀ t : Nat, ∃ s d, s + d = t ∧ waV a r s = 0 ∧ ∀ v, v ≤ d → waV a r (s + v) = sumV a (s + v) - sumV a s - r * v
  | 0 => ⟨0, 0, rfl, rfl, fun v hv => by
    obtain rfl : v = 0 := by omega
    simp [waV]⟩
  | t + 1 => by
    obtain ⟨s, d, e, h0, h⟩ := busy_from a r t
    by_cases c : waV a r (t + 1) = 0
    · exact ⟨t + 1, 0, rfl, c, fun v hv => by
        obtain rfl : v = 0 := by omega
        simp [c]⟩
    · refine ⟨s, d + 1, by omega, h0, fun v hv => ?_⟩
      by_cases ev : v = d + 1
      · subst ev
        have hd := h d (Nat.le_refl _)
        rcases wa_zero_or (a := a) (r := r) (s + d) with z | z
        · rw [e] at z; exact absurd z c
        · rw [show s + (d + 1) = s + d + 1 by omega, z, hd, sumV, show ((d + 1 : Nat) : Int) = (d : Int) + 1 by omega, Int.mul_add, Int.mul_one]
          omega
      · exact h v (by omega)
/-- Le Boudec and Thiran: what is left of the rate serves the second trace. -/
theorem left_serves {a b g : List Int} {r : Int} (va : Tr a) (vb : Tr b) (r0 : 0 ≤ r) (r1 : r ≤ 10000) (e : a.length = b.length) (hf : Fit (adL a) g) {t : Nat} (ht : t ≤ a.length) :
    ∃ s d, s + d = t ∧ ∀ v, v ≤ d → sumV b s ≤ sumV (gbL a b r) t ∧ sumV b s + (r * (v : Int) - gt g v) ≤ sumV (gbL a b r) t := by
  obtain ⟨s, d, ed, h0, h⟩ := busy_from (plL a b) r t
  have hb := fun t (ht : t < a.length) => vb.lo t (by omega)
  have vg := tr_gb va vb r0 r1 e
  refine ⟨s, d, ed, fun v hv => ?_⟩
  have hs := wa_both (r := r) hb s (by omega)
  have ws := wb_lo a b r s
  have was := wa_lo a r s
  have ds := sum_gb (a := a) (b := b) (r := r) s (by omega)
  have m1 := sum_up vg (i := s) (j := t) (by omega) (by rw [length_gbL]; exact ht)
  have m2 := sum_up vg (i := s + v) (j := t) (by omega) (by rw [length_gbL]; exact ht)
  have dv := sum_gb (a := a) (b := b) (r := r) (s + v) (by omega)
  have hv1 := h v hv
  have hv2 := wa_both (r := r) hb (s + v) (by omega)
  have wav := wa_lo a r (s + v)
  rw [sum_plL (s + v) (by omega), sum_plL s (by omega)] at hv1
  have hfit := hf s v (by rw [length_adL]; omega)
  rw [gt_adL (by omega), gt_adL (by omega)] at hfit
  exact ⟨by omega, by omega⟩

end Go.Proofs.Ythngolnflogdnaa
