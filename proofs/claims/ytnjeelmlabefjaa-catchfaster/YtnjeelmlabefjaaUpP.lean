
/-
  A list that is made anew cell by cell: the first k of it as G says, the rest as it was.
-/
import Derived.Test.YtnjeelmlabefjaaPlain
namespace Go.Proofs.Ytnjeelmlabefjaa
set_option linter.all false

def upV (G : Nat → Int) (a : List Int) (k i : Nat) : Int := if i < k then G i else gt a i
theorem up_set {G : Nat → Int} {a : List Int} {n k : Nat} : (tab n (upV G a k)).set k (G k) = tab n (upV G a (k + 1)) := by
  refine list_ext (by simp [length_tab]) (fun i hi => ?_)
  simp only [List.length_set, length_tab] at hi
  rw [gt_tab _ hi]
  by_cases e : i = k
  · subst e
    rw [show gt ((tab n (upV G a i)).set i (G i)) i = G i from gt_of_get (by rw [List.getElem?_set_self (by rw [length_tab]; exact hi)]), upV, if_pos (by omega)]
  · rw [show gt ((tab n (upV G a k)).set k (G k)) i = gt (tab n (upV G a k)) i by simp only [gt, List.getD]; rw [List.getElem?_set_ne (by omega)], gt_tab _ hi]
    unfold upV
    by_cases c : i < k
    · rw [if_pos c, if_pos (by omega)]
    · rw [if_neg c, if_neg (by omega)]
theorem up_zero (G : Nat → Int) (a : List Int) : tab a.length (upV G a 0) = a := by
  refine list_ext (length_tab _ _) (fun i hi => ?_)
  rw [length_tab] at hi
  rw [gt_tab _ hi, upV, if_neg (by omega)]
theorem up_full (G : Nat → Int) (a : List Int) (n : Nat) : tab n (upV G a n) = tab n G := by
  refine list_ext (by rw [length_tab, length_tab]) (fun i hi => ?_)
  rw [length_tab] at hi
  rw [gt_tab _ hi, gt_tab _ hi, upV, if_pos hi]

end Go.Proofs.Ytnjeelmlabefjaa
