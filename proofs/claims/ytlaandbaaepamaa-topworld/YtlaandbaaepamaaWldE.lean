
/-
  Peers in a row of one's own; whose turn it is behind some who are passed.
-/
import Derived.Test.YtlaandbaaepamaaWldC
namespace Go.Proofs.Ytlaandbaaepamaa
set_option linter.all false
open Go.RowKit Go.Shelf Go.Lib

theorem Blk.peer {w : World} {h i : Nat} {l : List Per} (k : Blk w h 34 (pecs l).toArray) (hi : i < l.length) : w.cell? ⟨h, i * 3, none⟩ = some (.int .i64 (pr l i).lag) ∧ w.cell? ⟨h, i * 3 + 1, none⟩ = some (.int .i64 (pr l i).part) ∧ w.cell? ⟨h, i * 3 + 2, none⟩ = some (.bool (pr l i).done) := by
  have e : l[i]? = some (pr l i) := by simp [pr, List.getD, List.getElem?_eq_getElem hi]
  obtain ⟨g0, g1, g2⟩ := pecs_get e
  exact ⟨by rw [k.cell, List.getElem?_toArray]; exact g0, by rw [k.cell, List.getElem?_toArray]; exact g1, by rw [k.cell, List.getElem?_toArray]; exact g2⟩
theorem set_get {l : List Value} {i : Nat} {a : Value} (h : l[i]? = some a) : l.set i a = l := by
  apply List.ext_getElem?
  intro j
  rw [List.getElem?_set]
  by_cases c : i = j
  · subst c
    have := (List.getElem?_eq_some_iff.1 h).1
    rw [if_pos rfl, if_pos this, h]
  · rw [if_neg c]
theorem pecs_lag {l : List Per} {i : Nat} (hi : i < l.length) (x : Int) : (pecs l).set (i * 3) (.int .i64 x) = pecs (l.set i ⟨x, (pr l i).part, (pr l i).done⟩) := by
  have e : l[i]? = some (pr l i) := by simp [pr, List.getD, List.getElem?_eq_getElem hi]
  obtain ⟨g0, g1, g2⟩ := pecs_get e
  rw [← pecs_set _ hi]
  rw [set_get (l := (pecs l).set (i * 3) (.int .i64 x)) (i := i * 3 + 1) (by rw [List.getElem?_set_ne (by omega)]; exact g1), set_get (i := i * 3 + 2) (by rw [List.getElem?_set_ne (by omega)]; exact g2)]
theorem pecs_done {l : List Per} {i : Nat} (hi : i < l.length) (x : Bool) : (pecs l).set (i * 3 + 2) (.bool x) = pecs (l.set i ⟨(pr l i).lag, (pr l i).part, x⟩) := by
  have e : l[i]? = some (pr l i) := by simp [pr, List.getD, List.getElem?_eq_getElem hi]
  obtain ⟨g0, g1, g2⟩ := pecs_get e
  rw [← pecs_set _ hi, set_get g0, set_get g1]
theorem pecs_part {l : List Per} {i : Nat} (hi : i < l.length) (x : Int) : (pecs l).set (i * 3 + 1) (.int .i64 x) = pecs (l.set i ⟨(pr l i).lag, x, (pr l i).done⟩) := by
  have e : l[i]? = some (pr l i) := by simp [pr, List.getD, List.getElem?_eq_getElem hi]
  obtain ⟨g0, g1, g2⟩ := pecs_get e
  rw [← pecs_set _ hi, set_get g0, set_get (l := (pecs l).set (i * 3 + 1) (.int .i64 x)) (i := i * 3 + 2) (by rw [List.getElem?_set_ne (by omega)]; exact g2)]
theorem pecs_more {l : List Per} {i : Nat} (hi : i < l.length) (x : Int) (d : Bool) : ((pecs l).set (i * 3) (.int .i64 x)).set (i * 3 + 2) (.bool d) = pecs (l.set i ⟨x, (pr l i).part, d⟩) := by
  have e : l[i]? = some (pr l i) := by simp [pr, List.getD, List.getElem?_eq_getElem hi]
  obtain ⟨g0, g1, g2⟩ := pecs_get e
  rw [← pecs_set _ hi, set_get (l := (pecs l).set (i * 3) (.int .i64 x)) (i := i * 3 + 1) (by rw [List.getElem?_set_ne (by omega)]; exact g1)]
theorem Blk.setl {w : World} {h i : Nat} {t : TypeId} {xs : List Value} (k : Blk w h t xs.toArray) (u : Value) : Blk (w.setCell ⟨h, i, none⟩ u) h t (xs.set i u).toArray := by
  have := k.set_ i u
  rwa [List.setIfInBounds_toArray] at this

/-- More for the first j. -/
def moreTo (k : Int) (l : List Per) : Nat → List Per
  | 0 => l
  | j + 1 => (moreTo k l j).set j ((pr l j).more k)
theorem length_moreTo (k : Int) (l : List Per) : ∀ j, (moreTo k l j).length = l.length
  | 0 => rfl
  | j + 1 => by rw [moreTo, List.length_set, length_moreTo k l j]
theorem pr_moreTo (k : Int) (l : List Per) : ∀ j i, i < l.length → pr (moreTo k l j) i = if i < j then (pr l i).more k else pr l i
  | 0, i, _ => by simp [moreTo]
  | j + 1, i, hi => by
    rw [moreTo]
    by_cases c : j = i
    · subst c; rw [pr_set (by rw [length_moreTo]; exact hi), if_pos (by omega)]
    · rw [pr_other c, pr_moreTo k l j i hi]
      by_cases d : i < j
      · rw [if_pos d, if_pos (by omega)]
      · rw [if_neg d, if_neg (by omega)]
theorem moreTo_all (k : Int) (l : List Per) : moreTo k l l.length = l.map (Per.more k) :=
  pr_ext (by rw [length_moreTo, List.length_map]) (fun i hi => by
    rw [length_moreTo] at hi
    rw [pr_moreTo k l _ i hi, if_pos hi, pr_map hi])
/-- Whose turn it is behind k who are passed. -/
def atT (s : Wd) (k : Nat) : Nat := if s.turn + k < s.l.length then s.turn + k else s.turn + k - s.l.length
theorem atT_zero {s : Wd} (h : s.turn < s.l.length) : atT s 0 = s.turn := by unfold atT; rw [if_pos (by omega)]; rfl
theorem atT_all {s : Wd} : atT s s.l.length = s.turn := by unfold atT; rw [if_neg (by omega)]; omega
theorem atT_lt {s : Wd} {k : Nat} (h : s.turn < s.l.length) (hk : k ≤ s.l.length) : atT s k < s.l.length := by unfold atT; split <;> omega
theorem atT_far {s : Wd} {k : Nat} (h : s.turn < s.l.length) (hk : k < s.l.length) : s.far (atT s k) = k := by unfold atT Wd.far; split <;> split <;> omega
theorem far_at {s : Wd} {i : Nat} (h : s.turn < s.l.length) (hi : i < s.l.length) : atT s (s.far i) = i := by unfold atT Wd.far; split <;> split <;> omega
theorem atT_succ {s : Wd} {k : Nat} (h : s.turn < s.l.length) (hk : k < s.l.length) : atT s (k + 1) = s.after (atT s k) := by unfold atT Wd.after; split <;> split <;> split <;> omega
theorem rem_after {s : Wd} {i N : Nat} (hN : s.l.length = N) (hi : i < N) : Int.tmod ((i : Int) + 1) (N : Int) = (s.after i : Int) := by
  subst hN
  unfold Wd.after
  by_cases c : i + 1 = s.l.length
  · rw [if_pos c, show ((i : Int) + 1) = (s.l.length : Int) by omega]; simp
  · rw [if_neg c, Int.tmod_eq_emod_of_nonneg (by omega), Int.emod_eq_of_lt (by omega) (by omega)]; omega
theorem pick_before {s : Wd} {i k : Nat} (h : s.turn < s.l.length) (p : s.Pick i) (hk : k < s.far i) (hl : k < s.l.length) : (pr s.l (atT s k)).done = true := by
  cases c : (pr s.l (atT s k)).done with
  | true => rfl
  | false =>
    have := p.first _ (atT_lt h (by omega)) c
    rw [atT_far h hl] at this; omega

end Go.Proofs.Ytlaandbaaepamaa
