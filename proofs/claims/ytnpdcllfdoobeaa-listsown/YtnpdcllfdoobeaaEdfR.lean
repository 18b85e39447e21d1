
/-
  Plain mathematics of jobs with deadlines: the schedule slot by slot as a function, one alone; the same job by job, in the order of the deadlines, each in the first slots that are free.
-/
import Derived.Test.YtnpdcllfdoobeaaEdfP
namespace Go.Proofs.Ytnpdcllfdoobeaa
set_option linter.all false

/-- Is it there, and not complete? -/
def pnB (l : List Jb) (lf : Nat → Int) (t i : Nat) : Bool := decide ((jb l i).at_ ≤ (t : Int) ∧ 0 < lf i)
theorem pnB_iff {l : List Jb} {lf : Nat → Int} {t i : Nat} : pnB l lf t i = true ↔ (jb l i).at_ ≤ (t : Int) ∧ 0 < lf i := by simp [pnB]
/-- The one to run among the first n: the earliest deadline, of several the first; -1: none. -/
def bsV (l : List Jb) (lf : Nat → Int) (t : Nat) : Nat → Int
  | 0 => -1
  | n + 1 => if pnB l lf t n = true ∧ (bsV l lf t n < 0 ∨ (jb l n).due < (jb l (bsV l lf t n).toNat).due) then (n : Int) else bsV l lf t n
theorem bs_spec (l : List Jb) (lf : Nat → Int) (t : Nat) : ∀ n : Nat, (bsV l lf t n = -1 ∧ ∀ i, i < n → pnB l lf t i = false) ∨ ∃ k : Nat, bsV l lf t n = (k : Int) ∧ k < n ∧ pnB l lf t k = true ∧ ∀ i, i < n → pnB l lf t i = true → (jb l k).due < (jb l i).due ∨ (jb l k).due = (jb l i).due ∧ k ≤ i
  | 0 => .inl ⟨rfl, fun i hi => by omega⟩
  | n + 1 => by
    rcases bs_spec l lf t n with ⟨e, h⟩ | ⟨k, e, hk, hp, hm⟩
    · rw [bsV, e]
      by_cases c : pnB l lf t n = true
      · rw [if_pos ⟨c, .inl (by omega)⟩]
        refine .inr ⟨n, rfl, by omega, c, fun i hi hpi => ?_⟩
        by_cases d : i = n
        · subst d; exact .inr ⟨rfl, Nat.le_refl _⟩
        · rw [h i (by omega)] at hpi; exact absurd hpi (by simp)
      · rw [if_neg (fun x => c x.1)]
        refine .inl ⟨rfl, fun i hi => ?_⟩
        by_cases d : i = n
        · subst d; simpa using c
        · exact h i (by omega)
    · rw [bsV, e]
      by_cases c : pnB l lf t n = true ∧ (jb l n).due < (jb l k).due
      · rw [if_pos ⟨c.1, .inr (by simpa using c.2)⟩]
        refine .inr ⟨n, rfl, by omega, c.1, fun i hi hpi => ?_⟩
        by_cases d : i = n
        · subst d; exact .inr ⟨rfl, Nat.le_refl _⟩
        · have := hm i (by omega) hpi
          left; omega
      · rw [if_neg (fun x => c ⟨x.1, by rcases x.2 with y | y; omega; simpa using y⟩)]
        refine .inr ⟨k, rfl, by omega, hp, fun i hi hpi => ?_⟩
        by_cases d : i = n
        · subst d
          have : ¬ (jb l i).due < (jb l k).due := fun x => c ⟨hpi, x⟩
          omega
        · exact hm i (by omega) hpi

/-- What is left behind t slots; which job slot t does. -/
def edL (l : List Jb) : Nat → Nat → Int
  | 0 => fun i => (jb l i).work
  | t + 1 => fun i => edL l t i - if bsV l (edL l t) t l.length = (i : Int) then 1 else 0
def edR (l : List Jb) (t : Nat) : Int := bsV l (edL l t) t l.length
theorem edL_next (l : List Jb) (t i : Nat) : edL l (t + 1) i = edL l t i - if edR l t = (i : Int) then 1 else 0 := rfl
theorem ed_edf (l : List Jb) : Edf l (edR l) (edL l) := by
  refine ⟨fun i _ => rfl, fun t i _ => rfl, fun t h i hp => ?_, fun t k h => ?_⟩
  · rcases bs_spec l (edL l t) t l.length with ⟨e, hn⟩ | ⟨k, e, _⟩
    · have := hn i hp.1
      rw [pnB_iff.mpr ⟨hp.2.1, hp.2.2⟩] at this
      exact absurd this (by simp)
    · unfold edR at h; omega
  · rcases bs_spec l (edL l t) t l.length with ⟨e, _⟩ | ⟨k', e, hk, hp, hm⟩
    · unfold edR at h; omega
    · obtain rfl : k' = k := by unfold edR at h; omega
      have p := pnB_iff.mp hp
      refine ⟨⟨hk, p.1, p.2⟩, fun i hi => ?_⟩
      have := hm i hi.1 (pnB_iff.mpr ⟨hi.2.1, hi.2.2⟩)
      omega
theorem edR_range (l : List Jb) (t : Nat) : edR l t = -1 ∨ ∃ k : Nat, edR l t = (k : Int) ∧ k < l.length := by
  rcases bs_spec l (edL l t) t l.length with ⟨e, _⟩ | ⟨k, e, hk, _⟩
  · exact .inl e
  · exact .inr ⟨k, e, hk⟩

/-- The order of the deadlines. -/
structure DuO (l : List Jb) (o : List Nat) : Prop where
  len : o.length = l.length
  lt : ∀ p, p < l.length → o.getD p 0 < l.length
  mem : ∀ i, i < l.length → ∃ p, p < l.length ∧ o.getD p 0 = i
  ord : ∀ p q, p < q → q < l.length → (jb l (o.getD p 0)).due < (jb l (o.getD q 0)).due ∨ (jb l (o.getD p 0)).due = (jb l (o.getD q 0)).due ∧ o.getD p 0 < o.getD q 0
/-- One job in the slots that are free: what is left of it; does it take slot t? -/
def tkL (fr : Nat → Bool) (a w : Int) : Nat → Int
  | 0 => w
  | t + 1 => tkL fr a w t - if a ≤ (t : Int) ∧ fr t = true ∧ 0 < tkL fr a w t then 1 else 0
def tkB (fr : Nat → Bool) (a w : Int) (t : Nat) : Bool := decide (a ≤ (t : Int) ∧ fr t = true ∧ 0 < tkL fr a w t)
theorem tkL_next (fr : Nat → Bool) (a w : Int) (t : Nat) : tkL fr a w (t + 1) = tkL fr a w t - if tkB fr a w t = true then 1 else 0 := by
  rw [tkL]; simp only [tkB, decide_eq_true_eq]
/-- The slots that the first p jobs of the order leave. -/
def frB (l : List Jb) (o : List Nat) : Nat → Nat → Bool
  | 0 => fun _ => true
  | p + 1 => fun t => frB l o p t && !tkB (frB l o p) (jb l (o.getD p 0)).at_ (jb l (o.getD p 0)).work t
def lyL (l : List Jb) (o : List Nat) (p t : Nat) : Int := tkL (frB l o p) (jb l (o.getD p 0)).at_ (jb l (o.getD p 0)).work t
def lyB (l : List Jb) (o : List Nat) (p t : Nat) : Bool := tkB (frB l o p) (jb l (o.getD p 0)).at_ (jb l (o.getD p 0)).work t
theorem lyB_iff {l : List Jb} {o : List Nat} {p t : Nat} : lyB l o p t = true ↔ (jb l (o.getD p 0)).at_ ≤ (t : Int) ∧ frB l o p t = true ∧ 0 < lyL l o p t := by simp [lyB, tkB, lyL]
theorem fr_iff {l : List Jb} {o : List Nat} {t : Nat} (ih : ∀ p, p < l.length → lyL l o p t = edL l t (o.getD p 0)) : ∀ p, p ≤ l.length → (frB l o p t = true ↔ ∀ q, q < p → pnB l (edL l t) t (o.getD q 0) = false)
  | 0, _ => ⟨fun _ q hq => by omega, fun _ => rfl⟩
  | p + 1, hp => by
    have h := fr_iff ih p (by omega)
    have e := ih p (by omega)
    have n : frB l o (p + 1) t = (frB l o p t && !lyB l o p t) := rfl
    constructor
    · intro f q hq
      rw [n, Bool.and_eq_true, Bool.not_eq_true'] at f
      by_cases c : q = p
      · subst c
        cases d : pnB l (edL l t) t (o.getD q 0) with
        | false => rfl
        | true =>
          have x := pnB_iff.mp d
          have : lyB l o q t = true := lyB_iff.mpr ⟨x.1, f.1, by rw [e]; exact x.2⟩
          rw [f.2] at this; exact absurd this (by simp)
      · exact h.mp f.1 q (by omega)
    · intro f
      have g := h.mpr (fun q hq => f q (by omega))
      rw [n, Bool.and_eq_true, Bool.not_eq_true']
      refine ⟨g, ?_⟩
      cases d : lyB l o p t with
      | false => rfl
      | true =>
        have x := lyB_iff.mp d
        have y := f p (by omega)
        rw [pnB_iff.mpr ⟨x.1, by rw [← e]; exact x.2.2⟩] at y
        exact absurd y (by simp)
theorem ly_pick {l : List Jb} {o : List Nat} (O : DuO l o) {t : Nat} (ih : ∀ p, p < l.length → lyL l o p t = edL l t (o.getD p 0)) {p : Nat} (hp : p < l.length) : lyB l o p t = true ↔ edR l t = ((o.getD p 0 : Nat) : Int) := by
  have e := ih p hp
  rw [lyB_iff, fr_iff ih p (by omega), e]
  rcases bs_spec l (edL l t) t l.length with ⟨z, hn⟩ | ⟨k, z, hk, hpk, hm⟩
  · constructor
    · intro ⟨a, _, b⟩
      have := hn _ (O.lt p hp)
      rw [pnB_iff.mpr ⟨a, b⟩] at this
      exact absurd this (by simp)
    · intro h; unfold edR at h; omega
  · obtain ⟨r, hr, er⟩ := O.mem k hk
    have edk : edR l t = (k : Int) := z
    constructor
    · intro ⟨a, f, b⟩
      have h1 := hm _ (O.lt p hp) (pnB_iff.mpr ⟨a, b⟩)
      rcases Nat.lt_trichotomy r p with c | c | c
      · have := f r c
        rw [er, hpk] at this; exact absurd this (by simp)
      · subst c; rw [edk, er]
      · have h2 := O.ord p r c hr
        rw [er] at h2
        omega
    · intro h
      have ek : o.getD p 0 = k := by omega
      have x := pnB_iff.mp hpk
      rw [ek]
      refine ⟨x.1, fun q hq => ?_, x.2⟩
      cases d : pnB l (edL l t) t (o.getD q 0) with
      | false => rfl
      | true =>
        have h1 := hm _ (O.lt q (by omega)) d
        have h2 := O.ord q p hq hp
        rw [ek] at h2
        omega
/-- Job by job it is the same. -/
theorem ly_same {l : List Jb} {o : List Nat} (O : DuO l o) : ∀ t p, p < l.length → lyL l o p t = edL l t (o.getD p 0)
  | 0, p, _ => rfl
  | t + 1, p, hp => by
    have ih := fun p hp => ly_same O t p hp
    have e : lyL l o p (t + 1) = lyL l o p t - if lyB l o p t = true then 1 else 0 := tkL_next _ _ _ _
    rw [e, edL_next, ih p hp]
    have := ly_pick O ih hp
    by_cases c : lyB l o p t = true
    · rw [if_pos c, if_pos (this.mp c)]
    · rw [if_neg c, if_neg (fun h => c (this.mpr h))]
theorem ly_run {l : List Jb} {o : List Nat} (O : DuO l o) {p t : Nat} (hp : p < l.length) : lyB l o p t = true ↔ edR l t = ((o.getD p 0 : Nat) : Int) := ly_pick O (ly_same O t) hp
/-- What stands in slot t behind p jobs. -/
theorem slot_of {l : List Jb} {o : List Nat} (O : DuO l o) {S : Nat → Int} {t : Nat} : ∀ p, p ≤ l.length →
    ((∀ q, q < p → lyB l o q t = true → S t = ((o.getD q 0 : Nat) : Int)) ∧ (frB l o p t = true → S t = -1)) → p = l.length → S t = edR l t := by
  intro p hp h e
  subst e
  rcases edR_range l t with c | ⟨k, c, hk⟩
  · rw [c]
    refine h.2 ((fr_iff (ly_same O t) l.length (Nat.le_refl _)).mpr (fun q hq => ?_))
    rcases bs_spec l (edL l t) t l.length with ⟨_, hn⟩ | ⟨k, z, _⟩
    · exact hn _ (O.lt q hq)
    · unfold edR at c; omega
  · obtain ⟨r, hr, er⟩ := O.mem k hk
    rw [c, ← er]
    exact h.1 r hr ((ly_run O hr).mpr (by rw [c, er]))
/-- A slot that is taken stays taken. -/
theorem fr_down {l : List Jb} {o : List Nat} {t p : Nat} : ∀ d, frB l o (p + d) t = true → frB l o p t = true
  | 0, h => h
  | d + 1, h => by
    have : frB l o (p + d + 1) t = (frB l o (p + d) t && !lyB l o (p + d) t) := rfl
    rw [show p + (d + 1) = p + d + 1 by omega, this, Bool.and_eq_true] at h
    exact fr_down d h.1

/-- When it is done; 0: not by H. -/
def IsDone (l : List Jb) (H i : Nat) (d : Int) : Prop := (d = 0 ∧ edL l H i ≠ 0) ∨ ∃ t : Nat, t < H ∧ d = (t : Int) + 1 ∧ edL l (t + 1) i = 0 ∧ 0 < edL l t i
theorem IsDone.late {l : List Jb} {H i : Nat} {d : Int} (j : Jobs l) (hi : i < l.length) (h : IsDone l H i d) {u : Nat} (hu : u ≤ H) : (d = 0 ∨ (u : Int) < d) ↔ edL l u i ≠ 0 := by
  have w := (ed_edf l).way j
  rcases h with ⟨e, hH⟩ | ⟨t, ht, e, h0, h1⟩
  · refine ⟨fun _ c => hH ?_, fun _ => .inl e⟩
    exact w.zero hi hu c
  · constructor
    · intro c z
      have hut : u ≤ t := by omega
      have := w.zero hi hut z
      omega
    · intro c
      right
      by_cases x : (u : Int) < d
      · exact x
      · have : t + 1 ≤ u := by omega
        exact absurd (w.zero hi this h0) c
/-- How many slots below H are used, to the last. -/
def IsEnd (run : Nat → Int) (H n : Nat) : Prop := n ≤ H ∧ (∀ t, n ≤ t → t < H → run t < 0) ∧ (n = 0 ∨ 0 ≤ run (n - 1))
theorem IsEnd.uniq {run : Nat → Int} {H n m : Nat} (h : IsEnd run H n) (k : IsEnd run H m) : n = m := by
  rcases Nat.lt_trichotomy n m with c | c | c
  · have a := h.2.1 (m - 1) (by omega) (by have := k.1; omega)
    rcases k.2.2 with b | b <;> omega
  · exact c
  · have a := k.2.1 (n - 1) (by omega) (by have := h.1; omega)
    rcases h.2.2 with b | b <;> omega
theorem end_ex (run : Nat → Int) : ∀ H, ∃ n, IsEnd run H n
  | 0 => ⟨0, Nat.le_refl _, fun t _ h => by omega, .inl rfl⟩
  | H + 1 => by
    by_cases c : run H < 0
    · obtain ⟨n, h⟩ := end_ex run H
      refine ⟨n, by have := h.1; omega, fun t h1 h2 => ?_, h.2.2⟩
      by_cases d : t = H
      · subst d; exact c
      · exact h.2.1 t h1 (by omega)
    · exact ⟨H + 1, Nat.le_refl _, fun t h1 h2 => by omega, .inr (by simpa using c)⟩
/-- The schedule as a list. -/
def IsRun (l : List Jb) (x : List Int) : Prop := ∃ n, IsEnd (edR l) 200 n ∧ x = tab n (edR l)
theorem IsRun.uniq {l : List Jb} {x y : List Int} (h : IsRun l x) (k : IsRun l y) : x = y := by
  obtain ⟨n, a, rfl⟩ := h
  obtain ⟨m, b, rfl⟩ := k
  rw [a.uniq b]
/-- The least index that is late. -/
def IsLate (l : List Jb) (i : Nat) : Prop := i < l.length ∧ edL l ((jb l i).due).toNat i ≠ 0 ∧ ∀ k, k < i → edL l ((jb l k).due).toNat k = 0
theorem IsLate.uniq {l : List Jb} {i k : Nat} (h : IsLate l i) (h' : IsLate l k) : i = k := by
  rcases Nat.lt_trichotomy i k with c | c | c
  · exact absurd (h'.2.2 i c) h.2.1
  · exact c
  · exact absurd (h.2.2 k c) h'.2.1
/-- None is late just if the demand is never too great. -/
theorem none_late {l : List Jb} (j : Jobs l) : (∀ i, ¬ IsLate l i) ↔ Dem l := by
  have E := ed_edf l
  rw [E.iff j]
  constructor
  · intro h i hi d hd
    by_cases c : edL l d i = 0
    · exact c
    · -- the least of those that are late
      have ex : ∀ n, (∃ i, i < n ∧ i < l.length ∧ edL l ((jb l i).due).toNat i ≠ 0) → ∃ i, IsLate l i := by
        intro n
        induction n with
        | zero => intro ⟨i, hi, _⟩; omega
        | succ n ih =>
          intro ⟨i, hi, hl, hn⟩
          by_cases g : ∃ i, i < n ∧ i < l.length ∧ edL l ((jb l i).due).toNat i ≠ 0
          · exact ih g
          · have : i = n := by
              by_cases x : i = n
              · exact x
              · exact absurd ⟨i, by omega, hl, hn⟩ g
            subst this
            refine ⟨i, hl, hn, fun k hk => ?_⟩
            by_cases y : edL l ((jb l k).due).toNat k = 0
            · exact y
            · exact absurd ⟨k, hk, by omega, y⟩ g
      obtain ⟨k, hk⟩ := ex (i + 1) ⟨i, by omega, hi, by rw [hd]; simpa using c⟩
      exact absurd hk (h k)
  · intro h i hi
    have a0 := j.a0 i hi.1
    have ad := j.ad i hi.1
    exact hi.2.1 (h i hi.1 _ (by omega))

end Go.Proofs.Ytnpdcllfdoobeaa
