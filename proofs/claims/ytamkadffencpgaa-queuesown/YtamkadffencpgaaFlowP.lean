
/-
  Plain words: what is wrong with a list of flows.
-/
import Derived.Test.YtamkadffencpgaaTurnsQ
namespace Go.Proofs.Ytamkadffencpgaa
set_option linter.all false

def szGo : List Int → Int
  | [] => 0
  | x :: l => if x < 1 ∨ 1000 < x then 1 else szGo l
theorem szGo_iff (l : List Int) : szGo l = 0 ↔ ∀ i, i < l.length → 1 ≤ gt l i ∧ gt l i ≤ 1000 := by
  induction l with
  | nil => simp [szGo]
  | cons v vs ih =>
    have g0 : gt (v :: vs) 0 = v := by simp [gt]
    have gs : ∀ i, gt (v :: vs) (i + 1) = gt vs i := fun i => by simp [gt]
    unfold szGo
    by_cases h1 : v < 1 ∨ 1000 < v
    · rw [if_pos h1]
      constructor
      · intro h; omega
      · intro h; have := h 0 (by simp); rw [g0] at this; omega
    · rw [if_neg h1, ih]
      constructor
      · intro h i hi
        match i with
        | 0 => rw [g0]; omega
        | i + 1 => rw [gs]; exact h i (by simpa using hi)
      · intro h i hi
        have := h (i + 1) (by simpa using hi)
        rwa [gs] at this
/-- What is wrong with one flow. -/
def chkF (f : Flw) : Int := if f.q < 1 ∨ 1000 < f.q then 1 else if 60 < f.z.length then 2 else szGo f.z
theorem chkF_iff {f : Flw} : chkF f = 0 ↔ FlwOk f := by
  unfold chkF
  by_cases h1 : f.q < 1 ∨ 1000 < f.q
  · rw [if_pos h1]
    exact ⟨fun h => by omega, fun h => by have := h.q0; have := h.q1; omega⟩
  rw [if_neg h1]
  by_cases h2 : 60 < f.z.length
  · rw [if_pos h2]
    exact ⟨fun h => by omega, fun h => by have := h.sz.le; omega⟩
  rw [if_neg h2, szGo_iff]
  exact ⟨fun h => ⟨by omega, by omega, ⟨by omega, fun i hi => (h i hi).1, fun i hi => (h i hi).2⟩⟩, fun h i hi => ⟨h.sz.lo i hi, h.sz.hi i hi⟩⟩
def flGo : List Flw → Int
  | [] => 0
  | f :: l => if chkF f = 0 then flGo l else chkF f
theorem flGo_iff (l : List Flw) : flGo l = 0 ↔ ∀ k, k < l.length → FlwOk (flw l k) := by
  induction l with
  | nil => simp [flGo]
  | cons f l ih =>
    have g0 : flw (f :: l) 0 = f := by simp [flw]
    have gs : ∀ i, flw (f :: l) (i + 1) = flw l i := fun i => by simp [flw]
    unfold flGo
    by_cases h1 : chkF f = 0
    · rw [if_pos h1, ih]
      constructor
      · intro h i hi
        match i with
        | 0 => rw [g0]; exact chkF_iff.1 h1
        | i + 1 => rw [gs]; exact h i (by simpa using hi)
      · intro h i hi
        have := h (i + 1) (by simpa using hi)
        rwa [gs] at this
    · rw [if_neg h1]
      refine ⟨fun h => absurd h h1, fun h => absurd (chkF_iff.2 ?_) h1⟩
      have := h 0 (by simp)
      rwa [g0] at this
/-- What is wrong with the list. -/
def flE (l : List Flw) : Int := if 8 < l.length then 2 else flGo l
theorem flE_iff {l : List Flw} : flE l = 0 ↔ Flws l := by
  unfold flE
  by_cases h : 8 < l.length
  · rw [if_pos h]; exact ⟨fun h => by omega, fun v => by have := v.le; omega⟩
  · rw [if_neg h, flGo_iff]; exact ⟨fun k => ⟨by omega, k⟩, fun v => v.ok⟩
theorem sz_drop {l : List Int} {k : Nat} {x : Int} (h : l[k]? = some x) : l.drop k = x :: l.drop (k + 1) := by
  obtain ⟨hk, e⟩ := List.getElem?_eq_some_iff.1 h
  rw [← e]; exact List.drop_eq_getElem_cons hk
theorem fl_drop {l : List Flw} {k : Nat} {f : Flw} (h : l[k]? = some f) : l.drop k = f :: l.drop (k + 1) := by
  obtain ⟨hk, e⟩ := List.getElem?_eq_some_iff.1 h
  rw [← e]; exact List.drop_eq_getElem_cons hk

end Go.Proofs.Ytamkadffencpgaa
