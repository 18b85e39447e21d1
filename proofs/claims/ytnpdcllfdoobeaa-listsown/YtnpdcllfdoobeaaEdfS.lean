
/-
  Plain mathematics: insertion sort of the indices by deadline gives the order of the deadlines.
-/
import Derived.Test.YtnpdcllfdoobeaaEdfR
namespace Go.Proofs.Ytnpdcllfdoobeaa
set_option linter.all false

/-- Ahead by deadline, then by index. -/
def DLt (l : List Jb) (a b : Nat) : Prop := (jb l a).due < (jb l b).due ∨ (jb l a).due = (jb l b).due ∧ a < b
/-- The first i indices are in order; the others stand where they stood. -/
structure InsA (l : List Jb) (f : Nat → Nat) (i : Nat) : Prop where
  lt : ∀ p, p < i → f p < i
  mem : ∀ v, v < i → ∃ p, p < i ∧ f p = v
  ord : ∀ p q, p < q → q < i → DLt l (f p) (f q)
  rest : ∀ k, i ≤ k → f k = k
/-- Index i is on its way down: it stands at j. -/
structure InsB (l : List Jb) (f : Nat → Nat) (i j : Nat) : Prop where
  le : j ≤ i
  at_ : f j = i
  lt : ∀ p, p ≤ i → p ≠ j → f p < i
  mem : ∀ v, v < i → ∃ p, p ≤ i ∧ p ≠ j ∧ f p = v
  ord : ∀ p q, p < q → q ≤ i → p ≠ j → q ≠ j → DLt l (f p) (f q)
  hi : ∀ p, j < p → p ≤ i → (jb l i).due < (jb l (f p)).due
  rest : ∀ k, i < k → f k = k
theorem InsA.zero (l : List Jb) : InsA l (fun p => p) 1 :=
  ⟨fun p hp => hp, fun v hv => ⟨v, hv, rfl⟩, fun p q h1 h2 => by omega, fun k _ => rfl⟩
theorem InsA.none (l : List Jb) : InsA l (fun p => p) 0 :=
  ⟨fun p hp => hp, fun v hv => ⟨v, hv, rfl⟩, fun p q h1 h2 => by omega, fun k _ => rfl⟩
theorem InsA.start {l : List Jb} {f : Nat → Nat} {i : Nat} (h : InsA l f i) : InsB l f i i :=
  ⟨Nat.le_refl _, h.rest i (Nat.le_refl _), fun p hp hn => h.lt p (by omega), fun v hv => by obtain ⟨p, hp, e⟩ := h.mem v hv; exact ⟨p, by omega, by omega, e⟩,
    fun p q h1 h2 h3 h4 => h.ord p q h1 (by omega), fun p h1 h2 => by omega, fun k hk => h.rest k (by omega)⟩
/-- Two neighbours change places. -/
def swF (f : Nat → Nat) (j : Nat) (p : Nat) : Nat := if p = j then f (j + 1) else if p = j + 1 then f j else f p
theorem swF_lo (f : Nat → Nat) (j : Nat) : swF f j j = f (j + 1) := if_pos rfl
theorem swF_hi (f : Nat → Nat) (j : Nat) : swF f j (j + 1) = f j := by unfold swF; rw [if_neg (by omega), if_pos rfl]
theorem swF_ne (f : Nat → Nat) {j p : Nat} (h1 : p ≠ j) (h2 : p ≠ j + 1) : swF f j p = f p := by unfold swF; rw [if_neg h1, if_neg h2]
theorem InsB.down {l : List Jb} {f : Nat → Nat} {i j : Nat} (h : InsB l f i (j + 1)) (hd : (jb l i).due < (jb l (f j)).due) : InsB l (swF f j) i j := by
  have hj := h.le
  -- where a place other than j comes from
  have back : ∀ p, p ≤ i → p ≠ j → ∃ p', p' ≤ i ∧ p' ≠ j + 1 ∧ swF f j p = f p' ∧ (p = j + 1 → p' = j) ∧ (p ≠ j + 1 → p' = p) := fun p hp hn => by
    by_cases c : p = j + 1
    · subst c; exact ⟨j, by omega, by omega, swF_hi f j, fun _ => rfl, fun x => absurd rfl x⟩
    · exact ⟨p, hp, c, swF_ne f hn c, fun x => absurd x c, fun _ => rfl⟩
  refine ⟨by omega, by rw [swF_lo]; exact h.at_, fun p hp hn => ?_, fun v hv => ?_, fun p q hpq hq hp' hq' => ?_, fun p h1 h2 => ?_, fun k hk => ?_⟩
  · obtain ⟨p', a, b, e, _⟩ := back p hp hn
    rw [e]; exact h.lt p' a b
  · obtain ⟨p, a, b, e⟩ := h.mem v hv
    by_cases c : p = j
    · subst c; exact ⟨p + 1, by omega, by omega, by rw [swF_hi]; exact e⟩
    · exact ⟨p, a, c, by rw [swF_ne f c b]; exact e⟩
  · obtain ⟨p1, a1, b1, e1, x1, y1⟩ := back p (by omega) hp'
    obtain ⟨q1, a2, b2, e2, x2, y2⟩ := back q hq hq'
    rw [e1, e2]
    refine h.ord p1 q1 ?_ a2 b1 b2
    by_cases c : p = j + 1
    · have := x1 c
      have := y2 (by omega)
      omega
    · have := y1 c
      by_cases d : q = j + 1
      · have := x2 d; omega
      · have := y2 d; omega
  · by_cases c : p = j + 1
    · subst c; rw [swF_hi]; exact hd
    · rw [swF_ne f (by omega) c]; exact h.hi p (by omega) h2
  · rw [swF_ne f (by omega) (by omega)]; exact h.rest k hk
theorem InsB.stop {l : List Jb} {f : Nat → Nat} {i j : Nat} (h : InsB l f i j) (hd : j = 0 ∨ ¬ (jb l i).due < (jb l (f (j - 1))).due) : InsA l f (i + 1) := by
  have hj := h.le
  have low : ∀ p, p < j → DLt l (f p) i := fun p hp => by
    rcases hd with c | c
    · omega
    · have l1 := h.lt p (by omega) (by omega)
      by_cases e : p = j - 1
      · subst e; unfold DLt; omega
      · have o := h.ord p (j - 1) (by omega) (by omega) (by omega) (by omega)
        unfold DLt at o ⊢; omega
  refine ⟨fun p hp => ?_, fun v hv => ?_, fun p q hpq hq => ?_, fun k hk => h.rest k (by omega)⟩
  · by_cases c : p = j
    · subst c; rw [h.at_]; omega
    · have := h.lt p (by omega) c; omega
  · by_cases c : v = i
    · subst c; exact ⟨j, by omega, h.at_⟩
    · obtain ⟨p, a, _, e⟩ := h.mem v (by omega)
      exact ⟨p, by omega, e⟩
  · by_cases c : q = j
    · subst c; rw [h.at_]; exact low p hpq
    · by_cases d : p = j
      · subst d; rw [h.at_]; have := h.hi q hpq (by omega); exact .inl this
      · exact h.ord p q hpq (by omega) d c
theorem InsA.order {l : List Jb} {o : List Nat} (h : InsA l (fun p => o.getD p 0) l.length) (ho : o.length = l.length) : DuO l o :=
  ⟨ho, h.lt, h.mem, fun p q h1 h2 => h.ord p q h1 h2⟩
/-- Places beyond the list do not matter. -/
theorem InsA.order' {l : List Jb} {f : Nat → Nat} {o : List Nat} (h : InsA l f l.length) (ho : o.length = l.length) (e : ∀ p, p < l.length → o.getD p 0 = f p) : DuO l o := by
  refine ⟨ho, fun p hp => by rw [e p hp]; exact h.lt p hp, fun i hi => ?_, fun p q h1 h2 => by rw [e p (by omega), e q h2]; exact h.ord p q h1 h2⟩
  obtain ⟨p, hp, x⟩ := h.mem i hi
  exact ⟨p, hp, by rw [e p hp]; exact x⟩

end Go.Proofs.Ytnpdcllfdoobeaa
