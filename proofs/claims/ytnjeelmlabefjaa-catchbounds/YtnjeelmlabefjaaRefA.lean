
/-
  Walks: what the document's own functions answer: slices.Max, Fits, told, Zip.
-/
import Derived.Test.YtnjeelmlabefjaaPointA
import Derived.Shelf.Abstract
import Derived.StillTailTactics
import Derived.Deep.RegionHeld3
import Derived.Deep.AppendLies
namespace Go.Proofs.Ytnjeelmlabefjaa
set_option linter.all false
open Go.RowKit Go.Shelf

/-- The greatest of the values 0 to k. -/
def maxTo (l : List Int) : Nat → Int
  | 0 => gt l 0
  | k + 1 => max (maxTo l k) (gt l (k + 1))

theorem maxTo_iff (l : List Int) (k : Nat) (B : Int) : B < maxTo l k ↔ ∃ i, i ≤ k ∧ B < gt l i := by
  induction k with
  | zero =>
    refine ⟨fun h => ⟨0, Nat.le_refl _, h⟩, ?_⟩
    rintro ⟨i, hi, h⟩
    obtain rfl : i = 0 := by omega
    exact h
  | succ k ih =>
    constructor
    · intro h
      by_cases h' : B < gt l (k + 1)
      · exact ⟨k + 1, Nat.le_refl _, h'⟩
      · obtain ⟨i, hi, hb⟩ := ih.1 (by simp only [maxTo] at h; omega)
        exact ⟨i, by omega, hb⟩
    · rintro ⟨i, hi, h⟩
      simp only [maxTo]
      by_cases e : i = k + 1
      · subst e; omega
      · have := ih.2 ⟨i, by omega, h⟩; omega

theorem big_maxTo {l : List Int} (h : 0 < l.length) : 1000000 < maxTo l (l.length - 1) ↔ bigB l = true := by
  rw [maxTo_iff, bigB_iff]
  exact ⟨fun ⟨i, hi, h⟩ => ⟨i, by omega, h⟩, fun ⟨i, hi, h⟩ => ⟨i, by omega, h⟩⟩

/-- What a call leaves that hands back a list in new memory. -/
def AnsL (L : List Int) (w : World) (e : Ending) (w' : World) : Prop :=
  ∃ A c, e = .returned (.slice A L.length c) ∧ w'.ownsRow w.heap.size 3 1 (.slice A L.length c) L.length (L.map (Value.int .i64)) ∧ Below w.heap.size w w'

theorem AnsL.of {L : List Int} {w : World} {v : Value} {w' : World} (h : w'.ownsRow w.heap.size 3 1 v L.length (L.map (Value.int .i64))) (hb : Below w.heap.size w w') : AnsL L w (.returned v) w' := by
  rcases h.2 with ⟨rfl, h0⟩ | ⟨g, cap, cur, rfl, h1⟩
  · have : L = [] := List.eq_nil_of_length_eq_zero h0
    subst this
    exact ⟨none, 0, rfl, h, hb⟩
  · exact ⟨some ⟨g, 0, none⟩, cap, rfl, h, hb⟩

theorem own_of_blk {w : World} {g n B : Nat} {L : List Int} (hb : Blk w g 3 (L.map (Value.int .i64)).toArray) (hB : B ≤ g) (hn : n = L.length) (h61 : n ≤ 1000) :
    w.ownsRow B 3 1 (.slice (some ⟨g, 0, none⟩) n n) L.length (L.map (Value.int .i64)) := by
  subst hn
  exact ⟨by simp, .inr ⟨g, L.length, _, rfl, hB, hb, Nat.le_refl _, by unfold maxLen; omega, by simp, by simp [List.take_of_length_le]⟩⟩

end Go.Proofs.Ytnjeelmlabefjaa
