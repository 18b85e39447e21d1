
/-
  Plain mathematics of tasks by rank: the schedule slot by slot as a function; the same task by task, each in the slots that those ahead leave.
-/
import Derived.Test.YtnpdcllfdoobeaaRanksQ
namespace Go.Proofs.Ytnpdcllfdoobeaa
set_option linter.all false

/-- The first task that has a job to do among the first n; -1: none. -/
def rkB (l : List Tk) (dn : Nat → Int) (t i : Nat) : Bool := decide (dn i < hgV l ((t : Int) + 1) i)
theorem rkB_iff {l : List Tk} {dn : Nat → Int} {t i : Nat} : rkB l dn t i = true ↔ dn i < hgV l ((t : Int) + 1) i := by simp [rkB]
def rkV (l : List Tk) (dn : Nat → Int) (t : Nat) : Nat → Int
  | 0 => -1
  | n + 1 => if 0 ≤ rkV l dn t n then rkV l dn t n else if rkB l dn t n = true then (n : Int) else -1
theorem rk_spec (l : List Tk) (dn : Nat → Int) (t : Nat) : ∀ n : Nat, (rkV l dn t n = -1 ∧ ∀ i, i < n → rkB l dn t i = false) ∨ ∃ k : Nat, rkV l dn t n = (k : Int) ∧ k < n ∧ rkB l dn t k = true ∧ ∀ i, i < k → rkB l dn t i = false
  | 0 => .inl ⟨rfl, fun i hi => by omega⟩
  | n + 1 => by
    rcases rk_spec l dn t n with ⟨e, h⟩ | ⟨k, e, hk, hp, hm⟩
    · rw [rkV, if_neg (by omega)]
      by_cases c : rkB l dn t n = true
      · rw [if_pos c]
        exact .inr ⟨n, rfl, by omega, c, h⟩
      · rw [if_neg c]
        refine .inl ⟨rfl, fun i hi => ?_⟩
        by_cases d : i = n
        · subst d; simpa using c
        · exact h i (by omega)
    · rw [rkV, if_pos (by omega)]
      exact .inr ⟨k, e, by omega, hp, hm⟩
/-- How much is done behind t slots; which task slot t does. -/
def rkD (l : List Tk) : Nat → Nat → Int
  | 0 => fun _ => 0
  | t + 1 => fun i => rkD l t i + if rkV l (rkD l t) t l.length = (i : Int) then 1 else 0
def rkR (l : List Tk) (t : Nat) : Int := rkV l (rkD l t) t l.length
theorem rkD_next (l : List Tk) (t i : Nat) : rkD l (t + 1) i = rkD l t i + if rkR l t = (i : Int) then 1 else 0 := rfl
theorem rk_rk (l : List Tk) : Rk l (rkR l) (rkD l) := by
  refine ⟨fun i _ => rfl, fun t i _ => rfl, fun t h i hi hp => ?_, fun t k h => ?_⟩
  · rcases rk_spec l (rkD l t) t l.length with ⟨e, hn⟩ | ⟨k, e, _⟩
    · have := hn i hi
      rw [rkB_iff.mpr hp] at this
      exact absurd this (by simp)
    · unfold rkR at h; omega
  · rcases rk_spec l (rkD l t) t l.length with ⟨e, _⟩ | ⟨k', e, hk, hp, hm⟩
    · unfold rkR at h; omega
    · obtain rfl : k' = k := by unfold rkR at h; omega
      exact ⟨hk, rkB_iff.mp hp, fun i hi x => by have := hm i hi; rw [rkB_iff.mpr x] at this; exact absurd this (by simp)⟩
/-- One task in the slots that are free: what it has done; does it take slot t? -/
def tyD (l : List Tk) (fr : Nat → Bool) (i : Nat) : Nat → Int
  | 0 => 0
  | t + 1 => tyD l fr i t + if fr t = true ∧ tyD l fr i t < hgV l ((t : Int) + 1) i then 1 else 0
def tyB (l : List Tk) (fr : Nat → Bool) (i t : Nat) : Bool := decide (fr t = true ∧ tyD l fr i t < hgV l ((t : Int) + 1) i)
theorem tyD_next (l : List Tk) (fr : Nat → Bool) (i t : Nat) : tyD l fr i (t + 1) = tyD l fr i t + if tyB l fr i t = true then 1 else 0 := by
  rw [tyD]; simp only [tyB, decide_eq_true_eq]
def frR (l : List Tk) : Nat → Nat → Bool
  | 0 => fun _ => true
  | p + 1 => fun t => frR l p t && !tyB l (frR l p) p t
theorem frR_iff {l : List Tk} {t : Nat} (ih : ∀ p, p < l.length → tyD l (frR l p) p t = rkD l t p) : ∀ p, p ≤ l.length → (frR l p t = true ↔ ∀ q, q < p → rkB l (rkD l t) t q = false)
  | 0, _ => ⟨fun _ q hq => by omega, fun _ => rfl⟩
  | p + 1, hp => by
    have h := frR_iff ih p (by omega)
    have e := ih p (by omega)
    have n : frR l (p + 1) t = (frR l p t && !tyB l (frR l p) p t) := rfl
    constructor
    · intro f q hq
      rw [n, Bool.and_eq_true, Bool.not_eq_true'] at f
      by_cases c : q = p
      · subst c
        cases d : rkB l (rkD l t) t q with
        | false => rfl
        | true =>
          have x := of_decide_eq_true d
          have : tyB l (frR l q) q t = true := decide_eq_true ⟨f.1, by rw [e]; exact x⟩
          rw [f.2] at this; exact absurd this (by simp)
      · exact h.mp f.1 q (by omega)
    · intro f
      have g := h.mpr (fun q hq => f q (by omega))
      rw [n, Bool.and_eq_true, Bool.not_eq_true']
      refine ⟨g, ?_⟩
      cases d : tyB l (frR l p) p t with
      | false => rfl
      | true =>
        have x := of_decide_eq_true d
        have y := f p (by omega)
        rw [show rkB l (rkD l t) t p = true from decide_eq_true (by rw [← e]; exact x.2)] at y
        exact absurd y (by simp)
theorem ty_pick {l : List Tk} {t : Nat} (ih : ∀ p, p < l.length → tyD l (frR l p) p t = rkD l t p) {p : Nat} (hp : p < l.length) : tyB l (frR l p) p t = true ↔ rkR l t = (p : Int) := by
  have e := ih p hp
  have key : tyB l (frR l p) p t = true ↔ (∀ q, q < p → rkB l (rkD l t) t q = false) ∧ rkB l (rkD l t) t p = true := by
    rw [show (tyB l (frR l p) p t = true) = (frR l p t = true ∧ tyD l (frR l p) p t < hgV l ((t : Int) + 1) p) by simp [tyB], frR_iff ih p (by omega), e]
    simp [rkB]
  rw [key]
  rcases rk_spec l (rkD l t) t l.length with ⟨z, hn⟩ | ⟨k, z, hk, hpk, hm⟩
  · constructor
    · intro ⟨_, b⟩
      rw [hn p hp] at b; exact absurd b (by simp)
    · intro h; unfold rkR at h; omega
  · have edk : rkR l t = (k : Int) := z
    constructor
    · intro ⟨f, b⟩
      rcases Nat.lt_trichotomy k p with c | c | c
      · have := f k c
        rw [hpk] at this; exact absurd this (by simp)
      · subst c; exact edk
      · rw [hm p c] at b; exact absurd b (by simp)
    · intro h
      obtain rfl : k = p := by omega
      exact ⟨hm, hpk⟩
/-- Task by task it is the same. -/
theorem ty_same {l : List Tk} : ∀ t p, p < l.length → tyD l (frR l p) p t = rkD l t p
  | 0, p, _ => rfl
  | t + 1, p, hp => by
    have ih := fun p hp => ty_same (l := l) t p hp
    rw [tyD_next, rkD_next, ih p hp]
    have := ty_pick ih hp
    by_cases c : tyB l (frR l p) p t = true
    · rw [if_pos c, if_pos (this.mp c)]
    · rw [if_neg c, if_neg (fun h => c (this.mpr h))]
theorem ty_run {l : List Tk} {p t : Nat} (hp : p < l.length) : tyB l (frR l p) p t = true ↔ rkR l t = (p : Int) := ty_pick (ty_same t) hp
theorem rkR_range (l : List Tk) (t : Nat) : rkR l t = -1 ∨ ∃ k : Nat, rkR l t = (k : Int) ∧ k < l.length := by
  rcases rk_spec l (rkD l t) t l.length with ⟨e, _⟩ | ⟨k, e, hk, _⟩
  · exact .inl e
  · exact .inr ⟨k, e, hk⟩
theorem frR_end {l : List Tk} {t : Nat} : frR l l.length t = true ↔ rkR l t = -1 := by
  rw [frR_iff (ty_same t) l.length (Nat.le_refl _)]
  rcases rk_spec l (rkD l t) t l.length with ⟨z, hn⟩ | ⟨k, z, hk, hpk, _⟩
  · exact ⟨fun _ => z, fun _ => hn⟩
  · constructor
    · intro h; rw [h k hk] at hpk; exact absurd hpk (by simp)
    · intro h; unfold rkR at h; omega

end Go.Proofs.Ytnpdcllfdoobeaa
