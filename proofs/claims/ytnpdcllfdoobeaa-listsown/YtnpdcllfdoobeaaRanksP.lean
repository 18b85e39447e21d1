
/-
  Plain mathematics of periodic tasks by rank: response times; Joseph and Pandya, Liu and Layland, Leung and Whitehead.
-/
import Derived.Test.YtnpdcllfdoobeaaEdfP
namespace Go.Proofs.Ytnpdcllfdoobeaa
set_option linter.all false

/-- r / T, rounded up. -/
def cl (r T : Int) : Int := (r + T - 1) / T
theorem cel_lo {r T : Int} (hT : 1 ≤ T) : r ≤ cl r T * T := by
  have h1 := Int.mul_ediv_add_emod (r + T - 1) T
  have h2 := Int.emod_lt_of_pos (r + T - 1) (show 0 < T by omega)
  unfold cl
  rw [Int.mul_comm]
  omega
theorem cel_hi {r T : Int} (hT : 1 ≤ T) : cl r T * T < r + T := by
  have h1 := Int.mul_ediv_add_emod (r + T - 1) T
  have h2 := Int.emod_nonneg (r + T - 1) (show T ≠ 0 by omega)
  unfold cl
  rw [Int.mul_comm]
  omega
theorem mul_lt {a b T : Int} (hT : 1 ≤ T) (h : a * T < b * T + T) : a ≤ b := by
  have h' : a * T < (b + 1) * T := by rw [Int.add_mul, Int.one_mul]; exact h
  have := Int.lt_of_mul_lt_mul_right h' (by omega)
  omega
theorem cel_mono {r q T : Int} (hT : 1 ≤ T) (h : r ≤ q) : cl r T ≤ cl q T := mul_lt hT (by have := cel_hi (r := r) hT; have := cel_lo (r := q) hT; omega)
theorem cel_sub {r q T : Int} (hT : 1 ≤ T) : cl (r + q) T ≤ cl r T + cl q T := mul_lt hT (by
  have h1 := cel_hi (r := r + q) hT; have h2 := cel_lo (r := r) hT; have h3 := cel_lo (r := q) hT
  rw [Int.add_mul]; omega)
theorem cel_zero {T : Int} (hT : 1 ≤ T) : cl 0 T = 0 := by
  have h1 := cel_lo (r := 0) hT; have h2 := cel_hi (r := 0) hT
  have a : cl 0 T ≤ 0 := mul_lt hT (by omega)
  have b : 0 ≤ cl 0 T := mul_lt hT (by omega)
  omega
theorem cel_one {r T : Int} (h1 : 1 ≤ r) (h2 : r ≤ T) : cl r T = 1 := by
  have hT : 1 ≤ T := by omega
  have h3 := cel_lo (r := r) hT; have h4 := cel_hi (r := r) hT
  have a : cl r T ≤ 1 := mul_lt hT (by omega)
  have b : 1 ≤ cl r T := mul_lt hT (by
    rw [Int.one_mul]
    by_cases c : cl r T ≤ 0
    · have := Int.mul_le_mul_of_nonneg_right c (show 0 ≤ T by omega); omega
    · omega)
  omega
theorem cel_pos {r T : Int} (hT : 1 ≤ T) (h : 1 ≤ r) : 1 ≤ cl r T := by
  have := cel_one (r := 1) (T := T) (by omega) hT
  have := cel_mono (r := 1) (q := r) hT h
  omega
theorem cel_nonneg {r T : Int} (hT : 1 ≤ T) (h : 0 ≤ r) : 0 ≤ cl r T := by
  have := cel_mono (r := 0) (q := r) hT h
  rw [cel_zero hT] at this
  exact this
theorem cel_mul {k T : Int} (hT : 1 ≤ T) : cl (k * T) T = k := by
  have h3 := cel_lo (r := k * T) hT; have h4 := cel_hi (r := k * T) hT
  have a : cl (k * T) T ≤ k := mul_lt hT (by omega)
  have b : k ≤ cl (k * T) T := mul_lt hT (by omega)
  omega
theorem cel_succ {k T : Int} (hT : 1 ≤ T) : cl (k * T + 1) T = k + 1 := by
  have h3 := cel_lo (r := k * T + 1) hT; have h4 := cel_hi (r := k * T + 1) hT
  have a : cl (k * T + 1) T ≤ k + 1 := mul_lt hT (by rw [Int.add_mul]; omega)
  have b : k + 1 ≤ cl (k * T + 1) T := mul_lt hT (by
    rw [Int.add_mul, Int.one_mul]
    by_cases c : cl (k * T + 1) T ≤ k
    · have := Int.mul_le_mul_of_nonneg_right c (show 0 ≤ T by omega); omega
    · have := Int.mul_le_mul_of_nonneg_right (show k + 1 ≤ cl (k * T + 1) T by omega) (show 0 ≤ T by omega); rw [Int.add_mul] at this; omega)
  omega

/-- A task. -/
structure Tk where
  per : Int
  work : Int
  due : Int
def tk (l : List Tk) (i : Nat) : Tk := l.getD i ⟨1, 1, 1⟩
structure Tks (l : List Tk) : Prop where
  p1 : ∀ i, i < l.length → 1 ≤ (tk l i).per
  w1 : ∀ i, i < l.length → 1 ≤ (tk l i).work
  wd : ∀ i, i < l.length → (tk l i).work ≤ (tk l i).due
  dp : ∀ i, i < l.length → (tk l i).due ≤ (tk l i).per
/-- What task i waits for, in r slots, and its own. -/
def hgV (l : List Tk) (r : Int) (h : Nat) : Int := cl r (tk l h).per * (tk l h).work
def dmV (l : List Tk) (i : Nat) (r : Int) : Int := (tk l i).work + tot (hgV l r) i
theorem hg_mono {l : List Tk} (v : Tks l) {r q : Int} (h : r ≤ q) {i : Nat} (hi : i < l.length) : hgV l r i ≤ hgV l q i :=
  Int.mul_le_mul_of_nonneg_right (cel_mono (v.p1 i hi) h) (by have := v.w1 i hi; omega)
theorem hg_nonneg {l : List Tk} (v : Tks l) {r : Int} (h : 0 ≤ r) {i : Nat} (hi : i < l.length) : 0 ≤ hgV l r i :=
  Int.mul_nonneg (cel_nonneg (v.p1 i hi) h) (by have := v.w1 i hi; omega)
theorem hg_pos {l : List Tk} (v : Tks l) {r : Int} (h : 1 ≤ r) {i : Nat} (hi : i < l.length) : (tk l i).work ≤ hgV l r i := by
  have := Int.mul_le_mul_of_nonneg_right (cel_pos (v.p1 i hi) h) (show 0 ≤ (tk l i).work by have := v.w1 i hi; omega)
  unfold hgV
  omega
theorem dm_mono {l : List Tk} (v : Tks l) {i : Nat} (hi : i < l.length) {r q : Int} (h : r ≤ q) : dmV l i r ≤ dmV l i q := by
  have := tot_le (F := hgV l r) (G := hgV l q) i (fun k hk => hg_mono v h (by omega))
  unfold dmV; omega
theorem dm_pos {l : List Tk} (v : Tks l) {i : Nat} (hi : i < l.length) {r : Int} (h : 0 ≤ r) : 1 ≤ dmV l i r := by
  have := tot_nonneg (F := hgV l r) i (fun k hk => hg_nonneg v h (by omega))
  have := v.w1 i hi
  unfold dmV; omega
/-- The response time of task i: the least r that equals what it waits for. -/
structure IsRt (l : List Tk) (i r : Nat) : Prop where
  eq : dmV l i r = r
  least : ∀ q : Nat, dmV l i q ≤ q → r ≤ q
theorem IsRt.uniq {l : List Tk} {i r q : Nat} (h : IsRt l i r) (k : IsRt l i q) : r = q := by
  have := h.least q (by rw [k.eq]; exact Int.le_refl _); have := k.least r (by rw [h.eq]; exact Int.le_refl _); omega
theorem least_nat (P : Nat → Prop) : ∀ n, P n → ∃ m, m ≤ n ∧ P m ∧ ∀ k, P k → m ≤ k := by
  intro n
  induction n using Nat.strongRecOn with
  | _ n ih =>
    intro hn
    by_cases c : ∃ k, k < n ∧ P k
    · obtain ⟨k, hk, hp⟩ := c
      obtain ⟨m, h1, h2, h3⟩ := ih k hk hp
      exact ⟨m, by omega, h2, h3⟩
    · refine ⟨n, Nat.le_refl _, hn, fun k hk => ?_⟩
      by_cases q : k < n
      · exact absurd ⟨k, q, hk⟩ c
      · omega
/-- Whatever suffices shows that there is one. -/
theorem rt_of {l : List Tk} (v : Tks l) {i : Nat} (hi : i < l.length) {r : Nat} (h : dmV l i r ≤ r) : ∃ q, q ≤ r ∧ IsRt l i q := by
  obtain ⟨m, h1, h2, h3⟩ := least_nat (fun r : Nat => dmV l i r ≤ r) r h
  refine ⟨m, h1, ?_, h3⟩
  have hp := dm_pos v hi (r := (m : Int)) (by omega)
  obtain ⟨p, e⟩ := Int.eq_ofNat_of_zero_le (show 0 ≤ dmV l i (m : Int) by omega)
  have hm := dm_mono v hi (r := (p : Int)) (q := (m : Int)) (by omega)
  have := h3 p (by omega)
  omega
/-- The smallest that equals is the least that suffices. -/
theorem rt_is {l : List Tk} (v : Tks l) {i : Nat} (hi : i < l.length) {r : Nat} (h : dmV l i r = r) (hl : ∀ q : Nat, q < r → dmV l i q ≠ q) : IsRt l i r := by
  obtain ⟨q, hq, k⟩ := rt_of v hi (r := r) (by omega)
  by_cases c : q < r
  · exact absurd k.eq (hl q c)
  · obtain rfl : q = r := by omega
    exact k
/-- Every task has a response time within its due. -/
def Fts (l : List Tk) : Prop := ∀ i, i < l.length → ∃ r : Nat, IsRt l i r ∧ (r : Int) ≤ (tk l i).due
theorem fts_iff {l : List Tk} (v : Tks l) : Fts l ↔ ∀ i, i < l.length → ∃ r : Nat, dmV l i r ≤ r ∧ (r : Int) ≤ (tk l i).due := by
  constructor
  · intro h i hi
    obtain ⟨r, h1, h2⟩ := h i hi
    exact ⟨r, by rw [h1.eq]; exact Int.le_refl _, h2⟩
  · intro h i hi
    obtain ⟨r, h1, h2⟩ := h i hi
    obtain ⟨q, h3, h4⟩ := rt_of v hi h1
    exact ⟨q, h4, by omega⟩
/-- Less work, or one task less at the end. -/
theorem fts_less {l m : List Tk} (v : Tks l) (vm : Tks m) (hl : m.length ≤ l.length) (h : ∀ i, i < m.length → (tk m i).per = (tk l i).per ∧ (tk m i).work ≤ (tk l i).work ∧ (tk l i).due ≤ (tk m i).due) (f : Fts l) : Fts m := by
  refine (fts_iff vm).2 (fun i hi => ?_)
  obtain ⟨r, h1, h2⟩ := (fts_iff v).1 f i (by omega)
  refine ⟨r, ?_, by have := (h i hi).2.2; omega⟩
  have hd : dmV m i r ≤ dmV l i r := by
    have a := tot_le (F := hgV m r) (G := hgV l r) i (fun k hk => by
      unfold hgV
      rw [(h k (by omega)).1]
      exact Int.mul_le_mul_of_nonneg_left (h k (by omega)).2.1 (cel_nonneg (v.p1 k (by omega)) (by omega)))
    have := (h i hi).2.1
    unfold dmV; omega
  omega
theorem rt_lo {l : List Tk} (v : Tks l) {i r : Nat} (hi : i < l.length) (h : IsRt l i r) : 1 ≤ r ∧ tot (fun k => (tk l k).work) (i + 1) ≤ r := by
  have h1 := dm_pos v hi (r := (r : Int)) (by omega)
  rw [h.eq] at h1
  refine ⟨by omega, ?_⟩
  have h2 := tot_le (F := fun k => (tk l k).work) (G := hgV l r) i (fun k hk => hg_pos v (by omega) (by omega))
  have h3 := h.eq
  unfold dmV at h3
  simp only [tot]
  omega

/-- One list of numbers inside another. -/
theorem tot_inj {F : Nat → Int} {s : Nat → Nat} {m : Nat} : ∀ (n : Nat) (F : Nat → Int), (∀ i, i < m → 0 ≤ F i) → (∀ i, i < n → s i < m) → (∀ i j, i < n → j < n → s i = s j → i = j) → tot (fun i => F (s i)) n ≤ tot F m
  | 0, F, h0, _, _ => tot_nonneg m h0
  | n + 1, F, h0, hs, hj => by
    have e := tot_one (F := fun i => if i = s n then 0 else F i) (G := F) (k := s n) (d := F (s n)) m (hs n (by omega)) (by simp) (fun i hi hne => by simp [hne])
    have ih := tot_inj (s := s) (m := m) (F := F) n (fun i => if i = s n then 0 else F i) (fun i hi => by split; exact Int.le_refl _; exact h0 i hi) (fun i hi => hs i (by omega)) (fun i j hi hj' => hj i j (by omega) (by omega))
    have e2 : tot (fun i => if s i = s n then 0 else F (s i)) n = tot (fun i => F (s i)) n := tot_eq n (fun i hi => by rw [if_neg (fun q => by have := hj i n (by omega) (by omega) q; omega)])
    simp only [tot]
    omega
/-- The position, among the first n, that stands last in another order. -/
theorem max_pos (s : Nat → Nat) : ∀ n, ∃ m, m ≤ n ∧ ∀ i, i ≤ n → s i ≤ s m
  | 0 => ⟨0, Nat.le_refl _, fun i hi => by rw [show i = 0 by omega]; exact Nat.le_refl _⟩
  | n + 1 => by
    obtain ⟨m, h1, h2⟩ := max_pos s n
    by_cases c : s m ≤ s (n + 1)
    · exact ⟨n + 1, Nat.le_refl _, fun i hi => by
        by_cases e : i = n + 1
        · rw [e]; exact Nat.le_refl _
        · exact Nat.le_trans (h2 i (by omega)) c⟩
    · exact ⟨m, by omega, fun i hi => by
        by_cases e : i = n + 1
        · rw [e]; omega
        · exact h2 i (by omega)⟩
/-- Leung and Whitehead: by their dues, if by any order. -/
theorem fts_order {l x : List Tk} (v : Tks l) (vx : Tks x) (s : Nat → Nat) (hs : ∀ i, i < x.length → s i < l.length) (hj : ∀ i j, i < x.length → j < x.length → s i = s j → i = j) (hx : ∀ i, i < x.length → tk x i = tk l (s i)) (up : ∀ i j, i ≤ j → j < x.length → (tk x i).due ≤ (tk x j).due) (f : Fts l) : Fts x := by
  refine (fts_iff vx).2 (fun k hk => ?_)
  obtain ⟨m, hm, hmax⟩ := max_pos s k
  obtain ⟨r, hr, hd⟩ := f (s m) (hs m (by omega))
  have r1 := (rt_lo v (hs m (by omega)) hr).1
  have hmk := up m k hm hk
  rw [hx m (by omega)] at hmk
  refine ⟨r, ?_, by omega⟩
  have e1 : tot (hgV x r) (k + 1) = tot (fun i => hgV l r (s i)) (k + 1) := tot_eq _ (fun i hi => by unfold hgV; rw [hx i (by omega)])
  have e2 := tot_one (F := fun i => if s i = s m then 0 else hgV l r (s i)) (G := fun i => hgV l r (s i)) (k := m) (d := hgV l r (s m)) (k + 1) (by omega) (by simp) (fun i hi hne => by
    rw [if_neg (fun q => hne (hj i m (by omega) (by omega) q))])
  have e3 := tot_inj (s := s) (m := s m + 1) (F := hgV l r) (k + 1) (fun i => if i = s m then 0 else hgV l r i) (fun i hi => by
    split
    · exact Int.le_refl _
    · exact hg_nonneg v (by omega) (by have := hs m (by omega); omega)) (fun i hi => by have := hmax i (by omega); omega) (fun i j hi hj' => hj i j (by omega) (by omega))
  have e4 : tot (fun i => if i = s m then 0 else hgV l r i) (s m + 1) = tot (hgV l r) (s m) := by
    have q : tot (fun i => if i = s m then 0 else hgV l r i) (s m + 1) = tot (fun i => if i = s m then 0 else hgV l r i) (s m) + (if s m = s m then 0 else hgV l r (s m)) := rfl
    rw [q, if_pos rfl, tot_eq (G := hgV l r) (s m) (fun i hi => by rw [if_neg (by omega)])]
    omega
  have e5 : hgV l r (s m) = (tk l (s m)).work := by
    unfold hgV
    rw [cel_one (by omega) (by have := v.dp (s m) (hs m (by omega)); omega), Int.one_mul]
  have e6 := hr.eq
  have e7 := hg_pos vx (r := (r : Int)) (by omega) hk
  have e8 : tot (hgV x r) (k + 1) = tot (hgV x r) k + hgV x r k := rfl
  unfold dmV at e6 ⊢
  omega

end Go.Proofs.Ytnpdcllfdoobeaa
