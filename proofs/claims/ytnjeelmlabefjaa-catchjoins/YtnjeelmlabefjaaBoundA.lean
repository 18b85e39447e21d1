
/-
  Walks: bound.Back, bound.Delay; the document's own delay.
-/
import Derived.Test.YtnjeelmlabefjaaTraceB
namespace Go.Proofs.Ytnjeelmlabefjaa
set_option linter.all false
open Go.RowKit Go.Shelf

theorem Ints.take {w : World} {A : Option Addr} {l : List Int} (h : Ints w A l) (t : Nat) : Ints w A (l.take t) := by
  refine ⟨by have := h.1; simp; omega, fun hl => ?_⟩
  simp at hl
  obtain ⟨b, off, rfl, hc⟩ := h.2 (by omega)
  refine ⟨b, off, rfl, fun j hj => ?_⟩
  simp at hj
  rw [hc j (by omega)]
  simp [List.getD, show j < t by omega]

theorem Cv.drop {l : List Int} (h : Cv l) {t : Nat} (ht : t < l.length) : Cv (l.drop t) := by
  have hl := h.le
  refine ⟨by simp; omega, by simp; omega, fun i hi => ?_, fun i hi => ?_, fun i hi => ?_⟩ <;> simp at hi
  · rw [gt_drop]; exact h.lo _ (by omega)
  · rw [gt_drop]; exact h.hi _ (by omega)
  · rw [gt_drop, gt_drop]; exact h.up _ (by omega)

/-- Is d enough? -/
theorem part_len {a b : List Int} (e : a.length = b.length) {d : Nat} (hd : d < a.length) : (a.take (a.length - d)).length = (b.drop d).length := by simp; omega
theorem part_chk {a b : List Int} (va : Cv a) (vb : Cv b) (e : a.length = b.length) {d : Nat} (hd : d < a.length) : chk2 (a.take (a.length - d)) (b.drop d) = 0 :=
  chk2_iff.2 ⟨va.take (by omega), vb.drop (by omega), part_len e hd⟩
theorem part_iff {a b : List Int} (e : a.length = b.length) {d : Nat} (hd : d < a.length) : leB (a.take (a.length - d)) (b.drop d) = true ↔ Del a b d := by
  rw [leB_iff (part_len e hd)]
  constructor
  · intro h t ht
    have := h t (by simp; omega)
    rwa [gt_take (by omega), gt_drop, Nat.add_comm] at this
  · intro h t ht
    simp at ht
    rw [gt_take (by omega), gt_drop, Nat.add_comm]
    exact h t (by omega)

/-- What is not enough so far. -/
def NoDel (a b : List Int) (k : Nat) : Prop := ∀ e, e < k → ¬ Del a b e
theorem NoDel.next {a b : List Int} {k : Nat} (h : NoDel a b k) (h' : ¬ Del a b k) : NoDel a b (k + 1) := fun e he => by
  by_cases q : e = k
  · subst q; exact h'
  · exact h e (by omega)

/-- What Delay answers: the least delay, or that there is none. -/
def DelIs (a b : List Int) (v E : Int) : Prop := (∃ d : Nat, IsDel a b d ∧ v = d ∧ E = 0) ∨ (NoDel a b a.length ∧ v = 0 ∧ E = 5)
theorem DelIs.uniq {a b : List Int} {v E v' E' : Int} (h : DelIs a b v E) (h' : DelIs a b v' E') : v = v' ∧ E = E' := by
  rcases h with ⟨d, h1, rfl, rfl⟩ | ⟨h1, rfl, rfl⟩ <;> rcases h' with ⟨d', h2, rfl, rfl⟩ | ⟨h2, rfl, rfl⟩
  · rw [h1.uniq h2]; exact ⟨rfl, rfl⟩
  · exact absurd h1.ok (h2 d h1.lt)
  · exact absurd h2.ok (h1 d' h2.lt)
  · exact ⟨rfl, rfl⟩
theorem ex_delIs (a b : List Int) : ∃ v E, DelIs a b v E := by
  rcases ex_del a b with ⟨d, h⟩ | h
  · exact ⟨d, 0, .inl ⟨d, h, rfl, rfl⟩⟩
  · exact ⟨0, 5, .inr ⟨h, rfl, rfl⟩⟩

/-- Le of two parts. -/
theorem le_part (A A' : Option Addr) (l m : List Int) (nl nm c d : Nat) (s : Bool) (w : World) (h : Ints w A l) (h' : Ints w A' m) (he : chk2 l m = 0) (hs : Hid (leB l m = s)) (hl : nl = l.length) (hm : nm = m.length) :
    Calls Try.prog 48 #[.slice A nl c, .slice A' nm d] w fun e w' => e = .returned (.tuple #[.bool s, .int .i64 0]) ∧ ∃ n, w' = w.drewN n := by
  subst hl hm
  have := le_any A A' l m c d w h h'
  rw [hs.out, he] at this
  exact this
/-- The document's answer: the least delay, or -1. -/
def DelRef (v E k : Int) : Prop := (0 ≤ k ∧ v = k ∧ E = 0) ∨ (k = -1 ∧ v = 0 ∧ E = 5)

end Go.Proofs.Ytnjeelmlabefjaa
