
/-
  Plain mathematics of the schedule by rank: Joseph and Pandya (the first job is done at the response time), Liu and Layland (no later job responds later), capacity; its jobs meet their deadlines.
-/
import Derived.Test.YtnpdcllfdoobeaaRanksP
namespace Go.Proofs.Ytnpdcllfdoobeaa
set_option linter.all false

/-- Has task i an incomplete job in slot t? -/
def Pnd (l : List Tk) (dn : Nat → Nat → Int) (t i : Nat) : Prop := dn t i < hgV l ((t : Int) + 1) i
/-- The schedule: how many units each task has had behind t slots. -/
structure Rk (l : List Tk) (run : Nat → Int) (dn : Nat → Nat → Int) : Prop where
  init : ∀ i, i < l.length → dn 0 i = 0
  next : ∀ t i, i < l.length → dn (t + 1) i = dn t i + if run t = (i : Int) then 1 else 0
  idle : ∀ t, run t < 0 → ∀ i, i < l.length → ¬ Pnd l dn t i
  pick : ∀ t (k : Nat), run t = (k : Int) → k < l.length ∧ Pnd l dn t k ∧ ∀ i, i < k → ¬ Pnd l dn t i
theorem Rk.up {l : List Tk} {run : Nat → Int} {dn : Nat → Nat → Int} (h : Rk l run dn) {i : Nat} (hi : i < l.length) {s : Nat} : ∀ d, dn s i ≤ dn (s + d) i
  | 0 => Int.le_refl _
  | d + 1 => by
    have ih := h.up hi (s := s) d
    rw [show s + (d + 1) = s + d + 1 by omega, h.next (s + d) i hi]
    split <;> omega
theorem Rk.mono {l : List Tk} {run : Nat → Int} {dn : Nat → Nat → Int} (h : Rk l run dn) {i : Nat} (hi : i < l.length) {s t : Nat} (hst : s ≤ t) : dn s i ≤ dn t i := by
  have := h.up hi (s := s) (t - s)
  rw [show s + (t - s) = t by omega] at this
  exact this
theorem Rk.le {l : List Tk} {run : Nat → Int} {dn : Nat → Nat → Int} (v : Tks l) (h : Rk l run dn) : ∀ t i, i < l.length → dn t i ≤ hgV l (t : Int) i
  | 0, i, hi => by
    rw [h.init i hi, hgV, show ((0 : Nat) : Int) = 0 from rfl, cel_zero (v.p1 i hi)]; simp
  | t + 1, i, hi => by
    have ih := Rk.le v h t i hi
    have hm := hg_mono v (r := (t : Int)) (q := (t : Int) + 1) (by omega) hi
    rw [h.next t i hi, show ((t + 1 : Nat) : Int) = (t : Int) + 1 by omega]
    split
    · rename_i c
      have := (h.pick t i c).2.1
      unfold Pnd at this
      omega
    · omega
/-- Who runs while task i has an incomplete job. -/
theorem Rk.who {l : List Tk} {run : Nat → Int} {dn : Nat → Nat → Int} (h : Rk l run dn) {t i : Nat} (hi : i < l.length) (hp : Pnd l dn t i) : ∃ k : Nat, run t = (k : Int) ∧ k ≤ i := by
  by_cases c : 0 ≤ run t
  · obtain ⟨k, hk⟩ := Int.eq_ofNat_of_zero_le c
    refine ⟨k, hk, ?_⟩
    by_cases q : i < k
    · exact absurd hp ((h.pick t k hk).2.2 i q)
    · omega
  · exact absurd hp (h.idle t (by omega) i hi)
theorem Rk.slot {l : List Tk} {run : Nat → Int} {dn : Nat → Nat → Int} (h : Rk l run dn) {t m : Nat} (hm : m ≤ l.length) :
    tot (dn (t + 1)) m ≤ tot (dn t) m + 1 ∧ (∀ k : Nat, run t = (k : Int) → k < m → tot (dn (t + 1)) m = tot (dn t) m + 1) := by
  have same : (∀ k : Nat, run t = (k : Int) → m ≤ k) → tot (dn (t + 1)) m = tot (dn t) m := fun c => tot_eq m (fun i hi => by
    rw [h.next t i (by omega), if_neg (fun q => by have := c i q; omega)]; omega)
  have one : ∀ k : Nat, run t = (k : Int) → k < m → tot (dn (t + 1)) m = tot (dn t) m + 1 := fun k hk hkm =>
    tot_one m hkm (by rw [h.next t k (by omega), if_pos hk]) (fun i hi hne => by rw [h.next t i (by omega), if_neg (by rw [hk]; omega)]; omega)
  refine ⟨?_, one⟩
  by_cases c : ∃ k : Nat, run t = (k : Int) ∧ k < m
  · obtain ⟨k, hk, hkm⟩ := c
    rw [one k hk hkm]; exact Int.le_refl _
  · rw [same (fun k hk => by
      by_cases q : k < m
      · exact absurd ⟨k, hk, q⟩ c
      · omega)]
    omega
theorem Rk.all {l : List Tk} {run : Nat → Int} {dn : Nat → Nat → Int} (h : Rk l run dn) {m : Nat} (hm : m ≤ l.length) : ∀ t : Nat, tot (dn t) m ≤ t
  | 0 => by rw [tot_zero m (fun i hi => h.init i (by omega))]; exact Int.le_refl _
  | t + 1 => by have := h.all hm t; have := (h.slot (t := t) hm).1; omega
theorem Rk.busy {l : List Tk} {run : Nat → Int} {dn : Nat → Nat → Int} (h : Rk l run dn) {m s : Nat} (hm : m ≤ l.length) : ∀ d : Nat, (∀ u, s ≤ u → u < s + d → ∃ k : Nat, run u = (k : Int) ∧ k < m) → tot (dn (s + d)) m = tot (dn s) m + d
  | 0, _ => by simp
  | d + 1, hu => by
    have ih := h.busy hm d (fun u h1 h2 => hu u h1 (by omega))
    obtain ⟨k, hk, hkm⟩ := hu (s + d) (by omega) (by omega)
    rw [show s + (d + 1) = s + d + 1 by omega, (h.slot hm).2 k hk hkm, ih]
    omega
theorem Rk.rest {l : List Tk} {run : Nat → Int} {dn : Nat → Nat → Int} (h : Rk l run dn) {i s : Nat} (hi : i < l.length) : ∀ d : Nat, (∀ u, s ≤ u → u < s + d → run u ≠ (i : Int)) → dn (s + d) i = dn s i
  | 0, _ => rfl
  | d + 1, hu => by
    have ih := h.rest hi d (fun u h1 h2 => hu u h1 (by omega))
    rw [show s + (d + 1) = s + d + 1 by omega, h.next (s + d) i hi, if_neg (hu (s + d) (by omega) (by omega)), ih]
    omega
/-- The first job is done by whatever suffices. -/
theorem Rk.done {l : List Tk} {run : Nat → Int} {dn : Nat → Nat → Int} (v : Tks l) (h : Rk l run dn) {i q : Nat} (hi : i < l.length) (hq : dmV l i q ≤ q) : (tk l i).work ≤ dn q i := by
  by_cases c : dn q i < (tk l i).work
  · exfalso
    have hb := h.busy (m := i + 1) (s := 0) (by omega) q (fun u _ hu => by
      have hp : Pnd l dn u i := by
        have h1 := h.mono hi (s := u) (t := q) (by omega)
        have h2 := hg_pos v (r := (u : Int) + 1) (by omega) hi
        unfold Pnd; omega
      obtain ⟨k, hk, hki⟩ := h.who hi hp
      exact ⟨k, hk, by omega⟩)
    rw [Nat.zero_add] at hb
    have h0 : tot (dn 0) (i + 1) = 0 := tot_zero _ (fun k hk => h.init k (by omega))
    have h1 := tot_le (F := dn q) (G := hgV l (q : Int)) i (fun k hk => h.le v q k (by omega))
    have h2 : tot (dn q) (i + 1) = tot (dn q) i + dn q i := rfl
    unfold dmV at hq
    omega
  · omega
/-- When it is done, that suffices. -/
theorem Rk.was {l : List Tk} {run : Nat → Int} {dn : Nat → Nat → Int} (h : Rk l run dn) {i f : Nat} (hi : i < l.length) (hr : run f = (i : Int)) (hw : dn (f + 1) i = (tk l i).work) : dmV l i (f + 1 : Nat) ≤ (f + 1 : Nat) := by
  have hp := (h.pick f i hr).2.2
  have h1 := tot_le (F := hgV l ((f : Int) + 1)) (G := dn (f + 1)) i (fun k hk => by
    have := hp k hk
    have := h.mono (i := k) (by omega) (s := f) (t := f + 1) (by omega)
    unfold Pnd at *
    omega)
  have h2 := h.all (m := i + 1) (by omega) (f + 1)
  have h3 : tot (dn (f + 1)) (i + 1) = tot (dn (f + 1)) i + dn (f + 1) i := rfl
  unfold dmV
  rw [show ((f + 1 : Nat) : Int) = (f : Int) + 1 by omega] at h2 ⊢
  omega
/-- Joseph and Pandya. -/
theorem Rk.first {l : List Tk} {run : Nat → Int} {dn : Nat → Nat → Int} (v : Tks l) (h : Rk l run dn) {i : Nat} (hi : i < l.length) : ∀ t : Nat, (tk l i).work ≤ dn t i → ∃ q, q ≤ t ∧ dmV l i q ≤ q
  | 0, hw => by rw [h.init i hi] at hw; have := v.w1 i hi; omega
  | t + 1, hw => by
    by_cases c : (tk l i).work ≤ dn t i
    · obtain ⟨q, h1, h2⟩ := h.first v hi t c
      exact ⟨q, by omega, h2⟩
    · have hn := h.next t i hi
      by_cases e : run t = (i : Int)
      · rw [if_pos e] at hn
        exact ⟨t + 1, Nat.le_refl _, h.was hi e (by omega)⟩
      · rw [if_neg e] at hn; omega
theorem Rk.rt {l : List Tk} {run : Nat → Int} {dn : Nat → Nat → Int} (v : Tks l) (h : Rk l run dn) {i r : Nat} (hi : i < l.length) (hr : IsRt l i r) (t : Nat) : (tk l i).work ≤ dn t i ↔ r ≤ t := by
  constructor
  · intro hw
    obtain ⟨q, h1, h2⟩ := h.first v hi t hw
    have := hr.least q h2
    omega
  · intro hrt
    have h1 := h.done v hi (q := r) (by rw [hr.eq]; exact Int.le_refl _)
    have h2 := h.mono hi hrt
    omega
theorem last_of (P : Nat → Prop) (h0 : P 0) : ∀ a, ∃ s, s ≤ a ∧ P s ∧ ∀ u, s < u → u ≤ a → ¬ P u
  | 0 => ⟨0, Nat.le_refl _, h0, fun u h1 h2 => by omega⟩
  | a + 1 => by
    by_cases c : P (a + 1)
    · exact ⟨a + 1, Nat.le_refl _, c, fun u h1 h2 => by omega⟩
    · obtain ⟨s, h1, h2, h3⟩ := last_of P h0 a
      refine ⟨s, by omega, h2, fun u hu hu' => ?_⟩
      by_cases e : u = a + 1
      · rw [e]; exact c
      · exact h3 u hu (by omega)
/-- Liu and Layland: no job responds later than the first. -/
theorem Rk.meet {l : List Tk} {run : Nat → Int} {dn : Nat → Nat → Int} (v : Tks l) (h : Rk l run dn) {i r P : Nat} (hi : i < l.length) (hr : IsRt l i r) (hP : (tk l i).per = (P : Int)) (hrP : r ≤ P) : ∀ j : Nat, ((j : Int) + 1) * (tk l i).work ≤ dn (j * P + r) i := by
  have P1 := v.p1 i hi
  have w1 := v.w1 i hi
  have main : ∀ j : Nat, dn (j * P) i = (j : Int) * (tk l i).work → ((j : Int) + 1) * (tk l i).work ≤ dn (j * P + r) i := fun j ha => by
    by_cases c : dn (j * P + r) i < ((j : Int) + 1) * (tk l i).work
    · exfalso
      obtain ⟨a, ea⟩ : ∃ a, a = j * P := ⟨_, rfl⟩
      rw [← ea] at c ha
      have eaP : (a : Int) = (j : Int) * (tk l i).per := by rw [ea, hP]; simp
      obtain ⟨s, hsa, his, hlast⟩ := last_of (fun s => ∀ k, k < i → hgV l (s : Int) k ≤ dn s k) (fun k hk => by
        rw [h.init k (by omega), hgV, show ((0 : Nat) : Int) = 0 from rfl, cel_zero (v.p1 k (by omega))]; simp) a
      have lower : ∀ u, s ≤ u → u < a → ∃ k : Nat, run u = (k : Int) ∧ k < i := fun u hu hua => by
        by_cases q : ∃ k, k < i ∧ Pnd l dn u k
        · obtain ⟨k, hk, hp⟩ := q
          obtain ⟨m, hm, hmk⟩ := h.who (i := k) (by omega) hp
          exact ⟨m, hm, by omega⟩
        · exact absurd (fun k (hk : k < i) => by
            have h1 : ¬ Pnd l dn u k := fun hp => q ⟨k, hk, hp⟩
            have h2 := h.mono (i := k) (by omega) (s := u) (t := u + 1) (by omega)
            unfold Pnd at h1
            rw [show ((u + 1 : Nat) : Int) = (u : Int) + 1 by omega]
            omega) (hlast (u + 1) (by omega) (by omega))
      have upper : ∀ u, a ≤ u → u < a + r → ∃ k : Nat, run u = (k : Int) ∧ k < i + 1 := fun u hu hur => by
        have hp : Pnd l dn u i := by
          have h1 := h.mono hi (s := u) (t := a + r) (by omega)
          have h2 := hg_mono v (r := (a : Int) + 1) (q := (u : Int) + 1) (by omega) hi
          have h3 : hgV l ((a : Int) + 1) i = ((j : Int) + 1) * (tk l i).work := by rw [hgV, eaP, cel_succ P1]
          unfold Pnd; omega
        obtain ⟨k, hk, hki⟩ := h.who hi hp
        exact ⟨k, hk, by omega⟩
      have hb := h.busy (m := i + 1) (s := s) (by omega) r (fun u h1 h2 => by
        by_cases q : u < a
        · obtain ⟨k, hk, hki⟩ := lower u h1 q
          exact ⟨k, hk, by omega⟩
        · exact upper u (by omega) (by omega))
      have hs := h.rest hi (s := s) (a - s) (fun u h1 h2 => by
        obtain ⟨k, hk, hki⟩ := lower u h1 (by omega)
        rw [hk]; omega)
      rw [show s + (a - s) = a by omega] at hs
      have ht : tot (dn (s + r)) i ≤ tot (fun k => dn s k + hgV l (r : Int) k) i := tot_le i (fun k hk => by
        have h1 := h.le v (s + r) k (by omega)
        have h2 := his k hk
        have h3 : hgV l ((s : Int) + (r : Int)) k ≤ hgV l (s : Int) k + hgV l (r : Int) k := by
          unfold hgV
          rw [← Int.add_mul]
          exact Int.mul_le_mul_of_nonneg_right (cel_sub (v.p1 k (by omega))) (by have := v.w1 k (by omega); omega)
        rw [show ((s + r : Nat) : Int) = (s : Int) + (r : Int) by omega] at h1
        omega)
      have hadd : ∀ n, tot (fun k => dn s k + hgV l (r : Int) k) n = tot (dn s) n + tot (hgV l (r : Int)) n := fun n => by
        induction n with
        | zero => rfl
        | succ n ih => simp only [tot]; rw [ih]; omega
      rw [hadd] at ht
      have hi2 := h.mono hi (s := s + r) (t := a + r) (by omega)
      have e1 : tot (dn (s + r)) (i + 1) = tot (dn (s + r)) i + dn (s + r) i := rfl
      have e2 : tot (dn s) (i + 1) = tot (dn s) i + dn s i := rfl
      have e3 := hr.eq
      unfold dmV at e3
      rw [Int.add_mul, Int.one_mul] at c
      omega
    · omega
  intro j
  induction j with
  | zero => exact main 0 (by simp [h.init i hi])
  | succ j ih =>
    refine main (j + 1) ?_
    have h1 := h.mono hi (s := j * P + r) (t := (j + 1) * P) (by rw [Nat.add_mul]; omega)
    have h2 := h.le v ((j + 1) * P) i hi
    have h3 : hgV l (((j + 1) * P : Nat) : Int) i = ((j + 1 : Nat) : Int) * (tk l i).work := by
      rw [hgV, show (((j + 1) * P : Nat) : Int) = ((j + 1 : Nat) : Int) * (tk l i).per by rw [hP]; simp, cel_mul P1]
    rw [show ((j + 1 : Nat) : Int) = (j : Int) + 1 by omega] at h3 ⊢
    omega
/-- Tasks that fit ask no more than there is: A a multiple of all periods, Q i its share. -/
theorem fts_cap {l : List Tk} (v : Tks l) (f : Fts l) {A : Int} (hA : 1 ≤ A) {Q : Nat → Int} (hQ : ∀ i, i < l.length → Q i * (tk l i).per = A) : tot (fun i => Q i * (tk l i).work) l.length ≤ A := by
  rcases Nat.eq_zero_or_pos l.length with z | z
  · rw [z]; simp only [tot]; omega
  · obtain ⟨n, hn⟩ : ∃ n, l.length = n + 1 := ⟨l.length - 1, by omega⟩
    obtain ⟨r, hr, hd⟩ := f n (by omega)
    have r1 := (rt_lo v (i := n) (by omega) hr).1
    have q0 : ∀ i, i < l.length → 0 ≤ Q i := fun i hi => by
      have h1 := hQ i hi
      have h2 := v.p1 i hi
      by_cases c : Q i < 0
      · have := Int.mul_le_mul_of_nonneg_right (show Q i ≤ -1 by omega) (show 0 ≤ (tk l i).per by omega); omega
      · omega
    have each : ∀ i, i < l.length → (r : Int) * (Q i * (tk l i).work) ≤ A * hgV l (r : Int) i := fun i hi => by
      have h1 := cel_lo (r := (r : Int)) (v.p1 i hi)
      have h2 := Int.mul_le_mul_of_nonneg_right h1 (q0 i hi)
      have h3 : cl (r : Int) (tk l i).per * (tk l i).per * Q i = cl (r : Int) (tk l i).per * A := by rw [Int.mul_assoc, Int.mul_comm (tk l i).per (Q i), hQ i hi]
      rw [h3] at h2
      have h4 := Int.mul_le_mul_of_nonneg_right h2 (show 0 ≤ (tk l i).work by have := v.w1 i hi; omega)
      unfold hgV
      rw [← Int.mul_assoc, ← Int.mul_assoc, Int.mul_comm A]
      exact h4
    have mulr : ∀ (F : Nat → Int) (k : Int) n, tot (fun i => k * F i) n = k * tot F n := fun F k n => by
      induction n with
      | zero => simp [tot]
      | succ n ih => simp only [tot]; rw [ih, Int.mul_add]
    have h1 := tot_le (F := fun i => (r : Int) * (Q i * (tk l i).work)) (G := fun i => A * hgV l (r : Int) i) (n + 1) (fun i hi => each i (by omega))
    rw [mulr, mulr] at h1
    have h2 : tot (hgV l (r : Int)) (n + 1) = r := by
      have e1 := hr.eq
      unfold dmV at e1
      have e2 : hgV l (r : Int) n = (tk l n).work := by
        unfold hgV
        rw [cel_one (by omega) (by have := v.dp n (by omega); omega), Int.one_mul]
      simp only [tot]
      omega
    rw [h2, Int.mul_comm A] at h1
    rw [hn]
    exact Int.le_of_mul_le_mul_left h1 (by omega)

end Go.Proofs.Ytnpdcllfdoobeaa
