
/-
  Plain mathematics of jobs with deadlines: processor demand; earliest deadline first meets every deadline if, and only if, the demand is never too great.
-/
import Derived.Test.YtnpdcllfdoobeaaPlain
namespace Go.Proofs.Ytnpdcllfdoobeaa
set_option linter.all false

/-- The sum of the first n values. -/
def tot (F : Nat → Int) : Nat → Int
  | 0 => 0
  | n + 1 => tot F n + F n
theorem tot_le {F G : Nat → Int} : ∀ n, (∀ i, i < n → F i ≤ G i) → tot F n ≤ tot G n
  | 0, _ => Int.le_refl _
  | n + 1, h => by have := tot_le n (fun i hi => h i (by omega)); have := h n (by omega); simp only [tot]; omega
theorem tot_eq {F G : Nat → Int} (n : Nat) (h : ∀ i, i < n → F i = G i) : tot F n = tot G n :=
  Int.le_antisymm (tot_le n (fun i hi => by rw [h i hi]; exact Int.le_refl _)) (tot_le n (fun i hi => by rw [h i hi]; exact Int.le_refl _))
theorem tot_nonneg {F : Nat → Int} : ∀ n, (∀ i, i < n → 0 ≤ F i) → 0 ≤ tot F n
  | 0, _ => Int.le_refl _
  | n + 1, h => by have := tot_nonneg n (fun i hi => h i (by omega)); have := h n (by omega); simp only [tot]; omega
theorem tot_ge {F : Nat → Int} {k : Nat} : ∀ n, k < n → (∀ i, i < n → 0 ≤ F i) → F k ≤ tot F n
  | 0, h, _ => by omega
  | n + 1, h, h0 => by
    simp only [tot]
    by_cases e : k = n
    · subst e; have := tot_nonneg k (fun i hi => h0 i (by omega)); omega
    · have := tot_ge n (k := k) (by omega) (fun i hi => h0 i (by omega)); have := h0 n (by omega); omega
theorem tot_zero {F : Nat → Int} (n : Nat) (h : ∀ i, i < n → F i = 0) : tot F n = 0 := by
  rw [tot_eq (G := fun _ => 0) n h]
  induction n with
  | zero => rfl
  | succ n ih => simp only [tot]; have := ih (fun i hi => h i (by omega)); omega
/-- One value changes. -/
theorem tot_one {F G : Nat → Int} {k : Nat} {d : Int} : ∀ n, k < n → G k = F k + d → (∀ i, i < n → i ≠ k → G i = F i) → tot G n = tot F n + d
  | 0, h, _, _ => by omega
  | n + 1, h, hk, hr => by
    simp only [tot]
    by_cases e : k = n
    · subst e
      rw [tot_eq k (fun i hi => hr i (by omega) (by omega)), hk]; omega
    · rw [tot_one n (by omega) hk (fun i hi => hr i (by omega)), hr n (by omega) (by omega)]; omega

/-- A job: when it is released, how much it needs, its deadline. -/
structure Jb where
  at_ : Int
  work : Int
  due : Int
def jb (l : List Jb) (i : Nat) : Jb := l.getD i ⟨0, 0, 0⟩
structure Jobs (l : List Jb) : Prop where
  a0 : ∀ i, i < l.length → 0 ≤ (jb l i).at_
  ad : ∀ i, i < l.length → (jb l i).at_ < (jb l i).due
  w0 : ∀ i, i < l.length → 1 ≤ (jb l i).work

/-- What must be done between s and t. -/
def demV (l : List Jb) (s t : Int) : Int := tot (fun i => if s ≤ (jb l i).at_ ∧ (jb l i).due ≤ t then (jb l i).work else 0) l.length
def Dem (l : List Jb) : Prop := ∀ s t : Int, s ≤ t → demV l s t ≤ t - s

/-- What is left of each job behind t slots, however the slots are used: at most one unit a slot, none ahead of its release. -/
structure Way (l : List Jb) (lf : Nat → Nat → Int) : Prop where
  nn : ∀ t i, i < l.length → 0 ≤ lf t i
  up : ∀ t i, i < l.length → lf (t + 1) i ≤ lf t i
  one : ∀ t, ∃ k, ∀ i, i < l.length → (i = k → lf t i - 1 ≤ lf (t + 1) i) ∧ (i ≠ k → lf (t + 1) i = lf t i)
  rel : ∀ (t : Nat) i, i < l.length → (t : Int) ≤ (jb l i).at_ → lf t i = (jb l i).work
theorem Way.mono {l : List Jb} {lf : Nat → Nat → Int} (h : Way l lf) {i : Nat} (hi : i < l.length) {s : Nat} : ∀ d, lf (s + d) i ≤ lf s i
  | 0 => Int.le_refl _
  | d + 1 => Int.le_trans (h.up (s + d) i hi) (h.mono hi d)
theorem Way.zero {l : List Jb} {lf : Nat → Nat → Int} (h : Way l lf) {i : Nat} (hi : i < l.length) {s t : Nat} (hst : s ≤ t) (h0 : lf s i = 0) : lf t i = 0 := by
  have h1 := h.mono hi (s := s) (t - s)
  rw [show s + (t - s) = t by omega] at h1
  have := h.nn t i hi
  omega
/-- What is left of the jobs that must be done between s and t. -/
def enV (l : List Jb) (lf : Nat → Nat → Int) (s t : Int) (u : Nat) : Int := tot (fun i => if s ≤ (jb l i).at_ ∧ (jb l i).due ≤ t then lf u i else 0) l.length
theorem Way.slot {l : List Jb} {lf : Nat → Nat → Int} (h : Way l lf) {s t : Int} (u : Nat) : enV l lf s t u ≤ enV l lf s t (u + 1) + 1 := by
  obtain ⟨k, hk⟩ := h.one u
  unfold enV
  by_cases hl : k < l.length
  · have hkk := (hk k hl).1 rfl
    have e := tot_one (F := fun i => if s ≤ (jb l i).at_ ∧ (jb l i).due ≤ t then lf u i else 0) (G := fun i => if s ≤ (jb l i).at_ ∧ (jb l i).due ≤ t then lf (u + 1) i else 0) (k := k)
      (d := if s ≤ (jb l k).at_ ∧ (jb l k).due ≤ t then lf (u + 1) k - lf u k else 0) l.length hl (by split <;> omega) (fun i hi hne => by rw [(hk i hi).2 hne])
    have : -1 ≤ (if s ≤ (jb l k).at_ ∧ (jb l k).due ≤ t then lf (u + 1) k - lf u k else 0) := by split <;> omega
    omega
  · have e := tot_eq (F := fun i => if s ≤ (jb l i).at_ ∧ (jb l i).due ≤ t then lf u i else 0) (G := fun i => if s ≤ (jb l i).at_ ∧ (jb l i).due ≤ t then lf (u + 1) i else 0) l.length (fun i hi => by rw [(hk i hi).2 (by omega)])
    omega
theorem Way.slots {l : List Jb} {lf : Nat → Nat → Int} (h : Way l lf) {s t : Int} {u : Nat} : ∀ d : Nat, enV l lf s t u ≤ enV l lf s t (u + d) + d
  | 0 => by simp
  | d + 1 => by
    have h1 := h.slots (s := s) (t := t) (u := u) d
    have h2 := h.slot (s := s) (t := t) (u + d)
    rw [show u + (d + 1) = u + d + 1 by omega]
    omega
/-- Whoever meets all deadlines shows that the demand is never too great. -/
theorem Way.dem {l : List Jb} {lf : Nat → Nat → Int} (j : Jobs l) (h : Way l lf) (met : ∀ i, i < l.length → ∀ t : Nat, (jb l i).due ≤ (t : Int) → lf t i = 0) : Dem l := by
  intro s t hst
  by_cases hs : s < 0
  · -- from time 0 on at the earliest
    have key : ∀ t : Int, 0 ≤ t → demV l 0 t ≤ t := fun t ht => by
      obtain ⟨T, rfl⟩ := Int.eq_ofNat_of_zero_le ht
      have h1 := h.slots (s := 0) (t := (T : Int)) (u := 0) T
      have h2 : enV l lf 0 (T : Int) 0 = demV l 0 (T : Int) := tot_eq _ (fun i hi => by
        split
        · rw [h.rel 0 i hi (by have := j.a0 i hi; omega)]
        · rfl)
      have h3 : enV l lf 0 (T : Int) (0 + T) = 0 := tot_zero _ (fun i hi => by
        split
        · rename_i c; exact met i hi _ (by simpa using c.2)
        · rfl)
      omega
    have e : demV l s t = demV l 0 t := tot_eq _ (fun i hi => by
      have := j.a0 i hi
      by_cases c : (jb l i).due ≤ t
      · rw [if_pos ⟨by omega, c⟩, if_pos ⟨this, c⟩]
      · rw [if_neg (fun q => c q.2), if_neg (fun q => c q.2)])
    by_cases ht : 0 ≤ t
    · have := key t ht; omega
    · have : demV l 0 t = 0 := tot_zero _ (fun i hi => by have := j.a0 i hi; have := j.ad i hi; rw [if_neg (by omega)])
      omega
  · obtain ⟨S, rfl⟩ := Int.eq_ofNat_of_zero_le (show 0 ≤ s by omega)
    obtain ⟨T, rfl⟩ := Int.eq_ofNat_of_zero_le (show 0 ≤ t by omega)
    have h1 := h.slots (s := (S : Int)) (t := (T : Int)) (u := S) (T - S)
    rw [show S + (T - S) = T by omega] at h1
    have h2 : enV l lf (S : Int) (T : Int) S = demV l (S : Int) (T : Int) := tot_eq _ (fun i hi => by
      split
      · rename_i c; rw [h.rel S i hi c.1]
      · rfl)
    have h3 : enV l lf (S : Int) (T : Int) T = 0 := tot_zero _ (fun i hi => by
      split
      · rename_i c; exact met i hi _ c.2
      · rfl)
    omega

/-- Is job i there to be run at t? -/
def Pend (l : List Jb) (lf : Nat → Nat → Int) (t i : Nat) : Prop := i < l.length ∧ (jb l i).at_ ≤ (t : Int) ∧ 0 < lf t i
/-- Earliest deadline first. -/
structure Edf (l : List Jb) (run : Nat → Int) (lf : Nat → Nat → Int) : Prop where
  init : ∀ i, i < l.length → lf 0 i = (jb l i).work
  next : ∀ t i, i < l.length → lf (t + 1) i = lf t i - if run t = (i : Int) then 1 else 0
  idle : ∀ t, run t < 0 → ∀ i, ¬ Pend l lf t i
  pick : ∀ t (k : Nat), run t = (k : Int) → Pend l lf t k ∧ ∀ i, Pend l lf t i → (jb l k).due ≤ (jb l i).due
theorem Edf.nn {l : List Jb} {run : Nat → Int} {lf : Nat → Nat → Int} (j : Jobs l) (h : Edf l run lf) : ∀ t i, i < l.length → 0 ≤ lf t i
  | 0, i, hi => by rw [h.init i hi]; have := j.w0 i hi; omega
  | t + 1, i, hi => by
    have ih := Edf.nn j h t i hi
    rw [h.next t i hi]
    split
    · rename_i c; have := (h.pick t i c).1.2.2; omega
    · omega
theorem Edf.rel {l : List Jb} {run : Nat → Int} {lf : Nat → Nat → Int} (h : Edf l run lf) : ∀ (t : Nat) i, i < l.length → (t : Int) ≤ (jb l i).at_ → lf t i = (jb l i).work
  | 0, i, hi, _ => h.init i hi
  | t + 1, i, hi, ht => by
    rw [h.next t i hi, Edf.rel h t i hi (by omega), if_neg (fun c => by have := (h.pick t i c).1.2.1; omega)]
    omega
theorem Edf.way {l : List Jb} {run : Nat → Int} {lf : Nat → Nat → Int} (j : Jobs l) (h : Edf l run lf) : Way l lf := by
  refine ⟨h.nn j, fun t i hi => by rw [h.next t i hi]; split <;> omega, fun t => ?_, h.rel⟩
  by_cases c : 0 ≤ run t
  · obtain ⟨k, hk⟩ := Int.eq_ofNat_of_zero_le c
    refine ⟨k, fun i hi => ⟨fun e => ?_, fun e => ?_⟩⟩
    · rw [h.next t i hi]; split <;> omega
    · rw [h.next t i hi, if_neg (by rw [hk]; omega)]; omega
  · exact ⟨0, fun i hi => ⟨fun _ => by rw [h.next t i hi]; split <;> omega, fun _ => by rw [h.next t i hi, if_neg (by omega)]; omega⟩⟩
/-- From where on slot upon slot has gone to jobs with a deadline of d at the most. -/
theorem edf_from (P : Nat → Prop) : ∀ d : Nat, ∃ s, s ≤ d ∧ (∀ u, s ≤ u → u < d → P u) ∧ (s = 0 ∨ ¬ P (s - 1))
  | 0 => ⟨0, Nat.le_refl _, fun u _ h => by omega, .inl rfl⟩
  | d + 1 => by
    by_cases c : P d
    · obtain ⟨s, h1, h2, h3⟩ := edf_from P d
      exact ⟨s, by omega, fun u hu hd => by
        by_cases e : u = d
        · subst e; exact c
        · exact h2 u hu (by omega), h3⟩
    · exact ⟨d + 1, Nat.le_refl _, fun u hu hd => by omega, .inr c⟩
/-- Baruah and Rosier, Dertouzos: where the demand is never too great, earliest deadline first meets every deadline. -/
theorem Edf.meets {l : List Jb} {run : Nat → Int} {lf : Nat → Nat → Int} (j : Jobs l) (h : Edf l run lf) (dm : Dem l) {k : Nat} (hk : k < l.length) {d : Nat} (hd : (jb l k).due = (d : Int)) : lf d k = 0 := by
  have nn := h.nn j
  have W := h.way j
  rcases Int.lt_or_eq_of_le (nn d k hk) with c | c
  · exfalso
    obtain ⟨s, hsd, hgood, hs⟩ := edf_from (fun u => ∃ i : Nat, run u = (i : Int) ∧ (jb l i).due ≤ (d : Int)) d
    have clear_ : ∀ i, i < l.length → (jb l i).due ≤ (d : Int) → (jb l i).at_ < (s : Int) → lf s i = 0 := fun i hi hid his => by
      rcases hs with h0 | hb
      · have := j.a0 i hi; omega
      · have h0 : lf (s - 1) i = 0 := by
          rcases Int.lt_or_eq_of_le (nn (s - 1) i hi) with q | q
          · have pe : Pend l lf (s - 1) i := ⟨hi, by omega, q⟩
            exfalso
            by_cases cr : 0 ≤ run (s - 1)
            · obtain ⟨m, hm⟩ := Int.eq_ofNat_of_zero_le cr
              exact hb ⟨m, hm, Int.le_trans ((h.pick (s - 1) m hm).2 i pe) hid⟩
            · exact h.idle (s - 1) (by omega) i pe
          · exact q.symm
        exact W.zero hi (by omega) h0
    have step : ∀ u, s ≤ u → u < d → enV l lf (s : Int) (d : Int) (u + 1) = enV l lf (s : Int) (d : Int) u - 1 := fun u hu hud => by
      obtain ⟨m, hm, hmd⟩ := hgood u hu hud
      have pm := (h.pick u m hm).1
      have hms : (s : Int) ≤ (jb l m).at_ := by
        by_cases q : (jb l m).at_ < (s : Int)
        · have := W.zero pm.1 hu (clear_ m pm.1 hmd q)
          have := pm.2.2
          omega
        · omega
      have := tot_one (F := fun i => if (s : Int) ≤ (jb l i).at_ ∧ (jb l i).due ≤ (d : Int) then lf u i else 0) (G := fun i => if (s : Int) ≤ (jb l i).at_ ∧ (jb l i).due ≤ (d : Int) then lf (u + 1) i else 0) (k := m) (d := -1) l.length pm.1
        (by rw [if_pos ⟨hms, hmd⟩, if_pos ⟨hms, hmd⟩, h.next u m pm.1, if_pos hm]; omega)
        (fun i hi hne => by
          have e : lf (u + 1) i = lf u i := by rw [h.next u i hi, hm, if_neg (by omega)]; omega
          rw [e])
      unfold enV
      omega
    have run_ : ∀ e : Nat, s + e ≤ d → enV l lf (s : Int) (d : Int) (s + e) = enV l lf (s : Int) (d : Int) s - e := fun e => by
      induction e with
      | zero => intro _; simp
      | succ e ih =>
        intro he
        rw [show s + (e + 1) = s + e + 1 by omega, step (s + e) (by omega) (by omega), ih (by omega)]
        omega
    have h1 := run_ (d - s) (by omega)
    rw [show s + (d - s) = d by omega] at h1
    have h2 : enV l lf (s : Int) (d : Int) s = demV l (s : Int) (d : Int) := tot_eq _ (fun i hi => by
      split
      · rename_i q; rw [h.rel s i hi q.1]
      · rfl)
    have hks : (s : Int) ≤ (jb l k).at_ := by
      by_cases q : (jb l k).at_ < (s : Int)
      · have := W.zero hk hsd (clear_ k hk (by omega) q); omega
      · omega
    have h3 := tot_ge (F := fun i => if (s : Int) ≤ (jb l i).at_ ∧ (jb l i).due ≤ (d : Int) then lf d i else 0) (k := k) l.length hk (fun i hi => by
      split
      · exact nn d i hi
      · exact Int.le_refl _)
    simp only [if_pos (show (s : Int) ≤ (jb l k).at_ ∧ (jb l k).due ≤ (d : Int) from ⟨hks, by omega⟩)] at h3
    have h4 := dm (s : Int) (d : Int) (by omega)
    unfold enV at h1 h2
    omega
  · exact c.symm
theorem Edf.iff {l : List Jb} {run : Nat → Int} {lf : Nat → Nat → Int} (j : Jobs l) (h : Edf l run lf) : Dem l ↔ ∀ i, i < l.length → ∀ d : Nat, (jb l i).due = (d : Int) → lf d i = 0 := by
  constructor
  · intro dm i hi d hd
    exact h.meets j dm hi hd
  · intro met
    refine (h.way j).dem j (fun i hi t ht => ?_)
    obtain ⟨d, hd⟩ := Int.eq_ofNat_of_zero_le (show 0 ≤ (jb l i).due by have := j.a0 i hi; have := j.ad i hi; omega)
    exact (h.way j).zero hi (by omega) (met i hi d hd)

end Go.Proofs.Ytnpdcllfdoobeaa
