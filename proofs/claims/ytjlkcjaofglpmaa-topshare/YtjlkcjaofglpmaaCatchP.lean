
/-
  Plain mathematics of catching up: what one lags, when one is there, the rate and the room for it.
-/
import Derived.Test.YtjlkcjaofglpmaaLineP
namespace Go.Proofs.Ytjlkcjaofglpmaa
set_option linter.all false

/-- What one lags behind t slots, from g on. -/
def lgV (a : List Int) (r g : Int) : Nat → Int
  | 0 => g
  | t + 1 => max 0 (lgV a r g t + gt a t - r)
def lgL (a : List Int) (r g : Int) : List Int := tab (a.length + 1) (lgV a r g)
theorem length_lgL (a : List Int) (r g : Int) : (lgL a r g).length = a.length + 1 := length_tab _ _
theorem gt_lgL {a : List Int} {r g : Int} {t : Nat} (h : t ≤ a.length) : gt (lgL a r g) t = lgV a r g t := gt_tab _ (by omega)
theorem lg_lo {a : List Int} {r g : Int} (g0 : 0 ≤ g) (t : Nat) : 0 ≤ lgV a r g t := by cases t with
  | zero => exact g0
  | succ t => simp only [lgV]; omega
theorem lg_hi {a : List Int} {r g : Int} (v : Tr a) (g0 : 0 ≤ g) (r0 : 0 ≤ r) : ∀ t, t ≤ a.length → lgV a r g t ≤ g + sumV a t
  | 0, _ => by simp [lgV, sumV]
  | t + 1, h => by
    have := lg_hi v g0 r0 t (by omega); have := v.lo t (by omega); have := (sum_lo v t (by omega)).1
    simp only [lgV, sumV]; omega
theorem lg_bd {a : List Int} {r g : Int} (v : Tr a) (g0 : 0 ≤ g) (g1 : g ≤ 1000000) (r0 : 0 ≤ r) {t : Nat} (h : t ≤ a.length) : 0 ≤ lgV a r g t ∧ lgV a r g t ≤ 1600000 := by
  have := lg_hi v g0 r0 t h; have := (sum_lo v t h).2; have := v.le
  exact ⟨lg_lo g0 t, by omega⟩
/-- Faster, from less behind, with less that comes. -/
theorem lg_mono {a b : List Int} {r s g k : Int} (hr : r ≤ s) (hg : k ≤ g) (h : ∀ t, t < a.length → gt b t ≤ gt a t) : ∀ t, t ≤ a.length → lgV b s k t ≤ lgV a r g t
  | 0, _ => hg
  | t + 1, ht => by
    have := lg_mono hr hg h t (by omega); have := h t (by omega)
    simp only [lgV]; omega
/-- Once there, with no more that comes than goes, one stays there. -/
theorem lg_stay {a : List Int} {r g : Int} {n : Nat} (hn : lgV a r g n = 0) : ∀ d, (∀ t, n ≤ t → t < n + d → gt a t ≤ r) → lgV a r g (n + d) = 0
  | 0, _ => hn
  | d + 1, h => by
    have := lg_stay hn d (fun t h1 h2 => h t h1 (by omega)); have := h (n + d) (by omega) (by omega)
    rw [show n + (d + 1) = n + d + 1 by omega]
    simp only [lgV]; omega
/-- From where one is it goes on as it went. -/
theorem lg_app {a b : List Int} {r g : Int} : ∀ t, t ≤ a.length → lgV (a ++ b) r g t = lgV a r g t
  | 0, _ => rfl
  | t + 1, h => by simp only [lgV]; rw [lg_app t (by omega), gt_app (by omega)]
theorem lg_then {a b : List Int} {r g : Int} : ∀ t, lgV (a ++ b) r g (a.length + t) = lgV b r (lgV a r g a.length) t
  | 0 => lg_app _ (Nat.le_refl _)
  | t + 1 => by
    rw [show a.length + (t + 1) = a.length + t + 1 by omega]
    simp only [lgV]; rw [lg_then t, gt_app2]
/-- While one lags, nothing of the rate is lost. -/
theorem lg_sum {a : List Int} {r g : Int} : ∀ t : Nat, (∀ s, s ≤ t → 0 < lgV a r g s) → lgV a r g t = g + sumV a t - r * t
  | 0, _ => by simp [lgV, sumV]
  | t + 1, h => by
    have ih := lg_sum t (fun s hs => h s (by omega))
    have hp := h (t + 1) (Nat.le_refl _)
    simp only [lgV] at hp ⊢
    rw [sumV, show ((t + 1 : Nat) : Int) = (t : Int) + 1 by omega, Int.mul_add, Int.mul_one]
    omega
/-- By d one has been there, if what lags and the limit at d go out by d. -/
theorem catch_by {a l : List Int} {r g : Int} {d : Nat} (g0 : 0 ≤ g) (hf : Fit (adL a) l) (hd : d ≤ a.length) (h : g + gt l d ≤ r * d) : ∃ n, n ≤ d ∧ lgV a r g n = 0 := by
  apply Classical.byContradiction
  intro hn
  have hp : ∀ s, s ≤ d → 0 < lgV a r g s := fun s hs => by
    have := lg_lo (a := a) (r := r) g0 s
    by_cases c : lgV a r g s = 0
    · exact absurd ⟨s, hs, c⟩ hn
    · omega
  have h1 := lg_sum d hp
  have h2 := hp d (Nat.le_refl _)
  have h3 := hf 0 d (by rw [length_adL]; omega)
  rw [Nat.zero_add, gt_adL (by omega), gt_adL (by omega)] at h3
  simp only [sumV] at h3
  omega
/-- The first time at which one lags no more. -/
structure IsDn (a : List Int) (r g : Int) (n : Nat) : Prop where
  le : n ≤ a.length
  hit : lgV a r g n = 0
  ahead : ∀ s, s < n → lgV a r g s ≠ 0
theorem IsDn.least {a : List Int} {r g : Int} {n m : Nat} (h : IsDn a r g n) (hm : lgV a r g m = 0) : n ≤ m := by
  by_cases c : n ≤ m
  · exact c
  · exact absurd hm (h.ahead m (by omega))
/-- The least d at which what lags and the limit have gone out. -/
def CatchOk (l : List Int) (r g : Int) (t : Nat) : Prop := g + gt l t ≤ r * t
structure IsCb (l : List Int) (r g : Int) (d : Nat) : Prop where
  lt : d < l.length
  hit : CatchOk l r g d
  ahead : ∀ s, s < d → ¬ CatchOk l r g s
theorem IsCb.least {l : List Int} {r g : Int} {d t : Nat} (h : IsCb l r g d) (ht : CatchOk l r g t) : d ≤ t := by
  by_cases c : d ≤ t
  · exact c
  · exact absurd ht (h.ahead t (by omega))
theorem IsCb.within {l : List Int} {r g : Int} {d n : Nat} (h : IsCb l r g d) : d ≤ n ↔ ∃ t, t ≤ n ∧ CatchOk l r g t :=
  ⟨fun k => ⟨d, k, h.hit⟩, fun ⟨_, k, ht⟩ => Nat.le_trans (h.least ht) k⟩

/-- At this rate one is there by d at the latest. -/
def RateOk (l : List Int) (g : Int) (d : Nat) (r : Int) : Prop := ∃ t, t ≤ d ∧ CatchOk l r g t
theorem RateOk.up {l : List Int} {g : Int} {d : Nat} {r s : Int} (h : RateOk l g d r) (hs : r ≤ s) : RateOk l g d s := by
  obtain ⟨t, ht, hc⟩ := h
  have := Int.mul_le_mul_of_nonneg_right hs (show (0 : Int) ≤ (t : Int) by omega)
  exact ⟨t, ht, by unfold CatchOk at hc ⊢; omega⟩
theorem RateOk.less {l m : List Int} {g k : Int} {d e : Nat} {r : Int} (h : RateOk l g d r) (hg : k ≤ g) (hd : d ≤ e) (hl : ∀ t, t ≤ d → gt m t ≤ gt l t) : RateOk m k e r := by
  obtain ⟨t, ht, hc⟩ := h
  have := hl t ht
  exact ⟨t, by omega, by unfold CatchOk at hc ⊢; omega⟩
structure IsRate (l : List Int) (g : Int) (d : Nat) (r : Int) : Prop where
  lo : 0 ≤ r
  hi : r ≤ 10000
  hit : RateOk l g d r
  ahead : ∀ s, 0 ≤ s → s < r → ¬ RateOk l g d s
theorem IsRate.iff {l : List Int} {g : Int} {d : Nat} {r s : Int} (h : IsRate l g d r) (s0 : 0 ≤ s) : RateOk l g d s ↔ r ≤ s := by
  refine ⟨fun k => ?_, fun k => h.hit.up k⟩
  by_cases c : r ≤ s
  · exact c
  · exact absurd k (h.ahead s s0 (by omega))
theorem IsRate.grows {l m : List Int} {g k : Int} {d e : Nat} {r s : Int} (h : IsRate l g d r) (q : IsRate m k e s) (ok : RateOk m k e r) : s ≤ r := (q.iff h.lo).mp ok
/-- The greatest backlog for which there is room. -/
structure IsRoom (l : List Int) (r : Int) (d : Nat) (n : Int) : Prop where
  lo : 0 ≤ n
  hit : RateOk l n d r
  top : ∀ g, 0 ≤ g → RateOk l g d r → g ≤ n
theorem IsRoom.iff {l : List Int} {r n g : Int} {d : Nat} (h : IsRoom l r d n) (g0 : 0 ≤ g) : RateOk l g d r ↔ g ≤ n :=
  ⟨h.top g g0, fun k => h.hit.less k (Nat.le_refl _) (fun _ _ => Int.le_refl _)⟩
/-- To know it by: the greatest of t * r - l t. -/
theorem room_of {l : List Int} {r n : Int} {d : Nat} (n0 : 0 ≤ n) (hit : ∃ t, t ≤ d ∧ n = r * (t : Nat) - gt l t) (top : ∀ t : Nat, t ≤ d → r * t - gt l t ≤ n) : IsRoom l r d n := by
  refine ⟨n0, ?_, fun g _ ⟨t, ht, hc⟩ => ?_⟩
  · obtain ⟨t, ht, e⟩ := hit
    exact ⟨t, ht, by unfold CatchOk; omega⟩
  · have := top t ht; unfold CatchOk at hc; omega
/-- GALOIS. -/
theorem plan_galois {l : List Int} {r n g c : Int} {d : Nat} (h : IsRoom l r d n) (q : IsRate l g d c) (g0 : 0 ≤ g) (r0 : 0 ≤ r) : g ≤ n ↔ c ≤ r := by
  rw [← h.iff g0, q.iff r0]
theorem plan_none {l : List Int} {r n g : Int} {d : Nat} (h : IsRoom l r d n) (q : ∀ s, 0 ≤ s → s ≤ 10000 → ¬ RateOk l g d s) (g0 : 0 ≤ g) (r0 : 0 ≤ r) (r1 : r ≤ 10000) : ¬ g ≤ n := fun k => q r r0 r1 ((h.iff g0).mpr k)
/-- TopCatch: the rate that is planned, whatever comes within the limit. -/
theorem plan_catch {a l : List Int} {g c : Int} {d : Nat} (q : IsRate l g d c) (g0 : 0 ≤ g) (hf : Fit (adL a) l) (hd : d ≤ a.length) : ∃ n, n ≤ d ∧ lgV a c g n = 0 := by
  obtain ⟨t, ht, hc⟩ := q.hit
  obtain ⟨n, hn, e⟩ := catch_by g0 hf (by omega) hc
  exact ⟨n, by omega, e⟩
end Go.Proofs.Ytjlkcjaofglpmaa
