
/-
  Plain mathematics of a link whose arrivals are cut in two.
-/
import Derived.Test.YtnjeelmlabefjaaLineQ
import Derived.Test.YtnjeelmlabefjaaConvA
namespace Go.Proofs.Ytnjeelmlabefjaa
set_option linter.all false

theorem go_take {a b : List Int} {r : Int} : (goL (a ++ b) r).take a.length = goL a r := by
  refine list_ext (by rw [List.length_take, length_goL, length_goL, List.length_append]; omega) (fun t ht => ?_)
  rw [List.length_take, length_goL, List.length_append] at ht
  rw [gt_take (by omega), gt_goL (by rw [List.length_append]; omega), gt_goL (by omega), go_app (by omega)]
theorem wa_take {a b : List Int} {r : Int} : (waL (a ++ b) r).take a.length = waL a r := by
  refine list_ext (by rw [List.length_take, length_waL, length_waL, List.length_append]; omega) (fun t ht => ?_)
  rw [List.length_take, length_waL, List.length_append] at ht
  rw [gt_take (by omega), gt_waL (by rw [List.length_append]; omega), gt_waL (by omega), wa_app _ (by omega)]
/-- What waits is added to what comes first. -/
def resL' (a b : List Int) (r : Int) : List Int := b.set 0 (gt b 0 + waV a r a.length)
theorem rest_zero {a b : List Int} {r : Int} (h : 0 < b.length) : gt (resL' a b r) 0 = gt b 0 + waV a r a.length := gt_of_get (by rw [resL', List.getElem?_set_self h])
theorem rest_succ {a b : List Int} {r : Int} : ∀ t, 0 < t → gt (resL' a b r) t = gt b t := fun t ht => by
  simp only [gt, List.getD, resL']
  rw [List.getElem?_set_ne (by omega)]
theorem go_drop {a b : List Int} {r : Int} (h : 0 < b.length) : (goL (a ++ b) r).drop a.length = goL (resL' a b r) r := by
  have hl : (resL' a b r).length = b.length := List.length_set
  refine list_ext (by rw [List.length_drop, length_goL, length_goL, List.length_append, hl]; omega) (fun t ht => ?_)
  rw [List.length_drop, length_goL, List.length_append] at ht
  rw [gt_drop, gt_goL (by rw [List.length_append]; omega), gt_goL (by rw [hl]; omega), go_rest (rest_zero h) rest_succ]
theorem wa_drop {a b : List Int} {r : Int} (h : 0 < b.length) : (waL (a ++ b) r).drop a.length = waL (resL' a b r) r := by
  have hl : (resL' a b r).length = b.length := List.length_set
  refine list_ext (by rw [List.length_drop, length_waL, length_waL, List.length_append, hl]; omega) (fun t ht => ?_)
  rw [List.length_drop, length_waL, List.length_append] at ht
  rw [gt_drop, gt_waL (by rw [List.length_append]; omega), gt_waL (by rw [hl]; omega), wa_rest (rest_zero h) rest_succ]
theorem tr_app {a b : List Int} (h : Tr (a ++ b)) : Tr a ∧ Tr b ∧ a.length + b.length ≤ 60 := by
  have hl := h.le
  rw [List.length_append] at hl
  refine ⟨⟨by omega, fun i hi => ?_, fun i hi => ?_⟩, ⟨by omega, fun i hi => ?_, fun i hi => ?_⟩, hl⟩
  · have := h.lo i (by rw [List.length_append]; omega); rwa [gt_app hi] at this
  · have := h.hi i (by rw [List.length_append]; omega); rwa [gt_app hi] at this
  · have := h.lo (a.length + i) (by rw [List.length_append]; omega); rwa [gt_app2] at this
  · have := h.hi (a.length + i) (by rw [List.length_append]; omega); rwa [gt_app2] at this

end Go.Proofs.Ytnjeelmlabefjaa
