
/-
  The standard curves as curves: what they are to each other.
-/
import Derived.Test.YtmefekgbljhclaaShapeA
namespace Go.Proofs.Ytmefekgbljhclaa
set_option linter.all false
open Go.RowKit Go.Shelf

theorem bu_cv {r n : Int} (h0 : 0 ≤ r) (hr : r ≤ 10000) (hn : 0 ≤ n) (hn' : n ≤ 400000) {h : Nat} (hh : h ≤ 60) : Cv (tab (h + 1) (buV r n)) :=
  Cv.tab (by omega) (by omega) (fun t _ => bu_nonneg h0 hn t) (fun t ht => by have := bu_hi (h := h) hr (t := t) (by omega) hn; omega) (fun t _ => bu_up h0 hn t)
theorem convs_tab {n : Nat} {f g x : Nat → Int} (vf : Cv (tab n f)) (vg : Cv (tab n g)) (h : ∀ t, t < n → cvV f g t = x t) : Convs (tab n f) (tab n g) (tab n x) := by
  refine ⟨vf, vg, by rw [length_tab, length_tab], list_ext (by rw [length_cvL, length_tab, length_tab]) (fun t ht => ?_)⟩
  rw [length_tab] at ht
  rw [gt_tab x ht, gt_cvL (by rwa [length_tab]), ← h t ht]
  exact (cv_congr (fun i hi => gt_tab f (by omega)) (fun i hi => gt_tab g (by omega))).symm
theorem le_tab {n : Nat} {f g : Nat → Int} (vf : Cv (tab n f)) (vg : Cv (tab n g)) (h : ∀ t, f t ≤ g t) : leK (tab n f) (tab n g) = true :=
  (leK_iff vf vg (by rw [length_tab, length_tab])).2 (fun t ht => by rw [length_tab] at ht; rw [gt_tab f ht, gt_tab g ht]; exact h t)
theorem zips_tab {n : Nat} {f g : Nat → Int} (vf : Cv (tab n f)) (vg : Cv (tab n g)) (vx : Cv (tab n (fun t => min (f t) (g t)))) : Zips min (tab n f) (tab n g) (tab n (fun t => min (f t) (g t))) :=
  ⟨vf, vg, by rw [length_tab, length_tab], by rw [length_tab, length_tab], vx, fun t ht => by rw [length_tab] at ht; rw [gt_tab _ ht, gt_tab _ ht, gt_tab _ ht]⟩

end Go.Proofs.Ytmefekgbljhclaa
