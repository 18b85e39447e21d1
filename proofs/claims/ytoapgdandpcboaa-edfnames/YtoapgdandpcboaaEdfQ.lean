
/-
  Plain mathematics of processor demand, more: easier jobs, one job less, jobs in another order, a while later; the times that matter; jobs of tasks.
-/
import Derived.Test.YtoapgdandpcboaaRanksQ
namespace Go.Proofs.Ytoapgdandpcboaa
set_option linter.all false

theorem dem_easier {l m : List Jb} (e : m.length = l.length) (w0 : ∀ i, i < l.length → 0 ≤ (jb l i).work) (h : ∀ i, i < l.length → (jb m i).at_ ≤ (jb l i).at_ ∧ (jb m i).work ≤ (jb l i).work ∧ (jb l i).due ≤ (jb m i).due) (d : Dem l) : Dem m := by
  intro s t hst
  have h1 := d s t hst
  have h2 : demV m s t ≤ demV l s t := by
    unfold demV
    rw [e]
    refine tot_le _ (fun i hi => ?_)
    have q := h i hi
    have w := w0 i hi
    by_cases c : s ≤ (jb m i).at_ ∧ (jb m i).due ≤ t
    · rw [if_pos c, if_pos ⟨by omega, by omega⟩]; exact q.2.1
    · rw [if_neg c]; split <;> omega
  omega
theorem jb_erase {l : List Jb} {i k : Nat} : jb (l.eraseIdx i) k = if k < i then jb l k else jb l (k + 1) := by
  unfold jb List.getD
  rw [List.getElem?_eraseIdx]
  split <;> rfl
theorem tot_skip {F : Nat → Int} {i : Nat} : ∀ n, i ≤ n → tot (fun k => if k < i then F k else F (k + 1)) n + F i = tot F (n + 1)
  | 0, h => by
    obtain rfl : i = 0 := by omega
    simp [tot]
  | n + 1, h => by
    by_cases e : i = n + 1
    · subst e
      have : tot (fun k => if k < n + 1 then F k else F (k + 1)) (n + 1) = tot F (n + 1) := tot_eq _ (fun k hk => by rw [if_pos hk])
      rw [this]; rfl
    · have ih := tot_skip (F := F) (i := i) n (by omega)
      have e1 : tot (fun k => if k < i then F k else F (k + 1)) (n + 1) = tot (fun k => if k < i then F k else F (k + 1)) n + (if n < i then F n else F (n + 1)) := rfl
      have e2 : tot F (n + 1 + 1) = tot F (n + 1) + F (n + 1) := rfl
      rw [e1, e2, if_neg (by omega)]
      omega
theorem dem_erase {l : List Jb} (w0 : ∀ i, i < l.length → 0 ≤ (jb l i).work) {i : Nat} (hi : i < l.length) (d : Dem l) : Dem (l.eraseIdx i) := by
  intro s t hst
  have h1 := d s t hst
  have hl : (l.eraseIdx i).length + 1 = l.length := by rw [List.length_eraseIdx, if_pos hi]; omega
  have h2 := tot_skip (F := fun k => if s ≤ (jb l k).at_ ∧ (jb l k).due ≤ t then (jb l k).work else 0) (i := i) (l.eraseIdx i).length (by omega)
  rw [hl] at h2
  have h3 : demV (l.eraseIdx i) s t = tot (fun k => if k < i then (if s ≤ (jb l k).at_ ∧ (jb l k).due ≤ t then (jb l k).work else 0) else (if s ≤ (jb l (k + 1)).at_ ∧ (jb l (k + 1)).due ≤ t then (jb l (k + 1)).work else 0)) (l.eraseIdx i).length := tot_eq _ (fun k hk => by
    rw [jb_erase]
    split <;> rfl)
  have h4 : 0 ≤ (if s ≤ (jb l i).at_ ∧ (jb l i).due ≤ t then (jb l i).work else 0) := by split; exact w0 i hi; exact Int.le_refl _
  unfold demV at h1
  omega
theorem tot_swap {F G : Nat → Int} {i k n : Nat} (hi : i < n) (hk : k < n) (h1 : G i = F k) (h2 : G k = F i) (h3 : ∀ j, j < n → j ≠ i → j ≠ k → G j = F j) : tot G n = tot F n := by
  by_cases e : i = k
  · subst e; exact tot_eq n (fun j hj => by
      by_cases c : j = i
      · rw [c, h1]
      · exact h3 j hj c c)
  · have a := tot_one (F := F) (G := fun j => if j = i then F k else F j) (k := i) (d := F k - F i) n hi (by simp; omega) (fun j hj hne => by simp [hne])
    have b := tot_one (F := fun j => if j = i then F k else F j) (G := G) (k := k) (d := F i - F k) n hk (by simp [Ne.symm e]; omega) (fun j hj hne => by
      by_cases c : j = i
      · rw [if_pos c, c, h1]
      · rw [if_neg c]; exact h3 j hj c hne)
    omega
theorem dem_swap {l m : List Jb} (e : m.length = l.length) {i k : Nat} (hi : i < l.length) (hk : k < l.length) (h1 : jb m i = jb l k) (h2 : jb m k = jb l i) (h3 : ∀ j, j < l.length → j ≠ i → j ≠ k → jb m j = jb l j) (s t : Int) : demV m s t = demV l s t := by
  unfold demV
  rw [e]
  exact tot_swap hi hk (by rw [h1]) (by rw [h2]) (fun j hj c1 c2 => by rw [h3 j hj c1 c2])
theorem dem_shift {l m : List Jb} (e : m.length = l.length) {d : Int} (h : ∀ i, i < l.length → (jb m i).at_ = (jb l i).at_ + d ∧ (jb m i).due = (jb l i).due + d ∧ (jb m i).work = (jb l i).work) : Dem m ↔ Dem l := by
  have key : ∀ s t, demV m (s + d) (t + d) = demV l s t := fun s t => by
    unfold demV
    rw [e]
    refine tot_eq _ (fun i hi => ?_)
    obtain ⟨a, b, c⟩ := h i hi
    rw [a, b, c]
    by_cases q : s ≤ (jb l i).at_ ∧ (jb l i).due ≤ t
    · rw [if_pos q, if_pos ⟨by omega, by omega⟩]
    · rw [if_neg q, if_neg (fun z => q ⟨by omega, by omega⟩)]
  constructor
  · intro dm s t hst
    have := dm (s + d) (t + d) (by omega)
    rw [key] at this
    omega
  · intro dl s t hst
    have := dl (s - d) (t - d) (by omega)
    have k := key (s - d) (t - d)
    rw [show s - d + d = s by omega, show t - d + d = t by omega] at k
    omega
/-- Only times from 0 to H matter. -/
theorem dem_range {l : List Jb} (j : Jobs l) {H : Int} (hH : ∀ i, i < l.length → (jb l i).due ≤ H) (h0 : 0 ≤ H) : Dem l ↔ ∀ s t : Int, 0 ≤ s → s ≤ t → t ≤ H → demV l s t ≤ t - s := by
  constructor
  · intro d s t _ hst _
    exact d s t hst
  · intro h s t hst
    have lo : demV l s t = demV l (max 0 s) t := tot_eq _ (fun i hi => by
      have := j.a0 i hi
      by_cases q : (jb l i).due ≤ t
      · by_cases c : s ≤ (jb l i).at_
        · rw [if_pos ⟨c, q⟩, if_pos ⟨by omega, q⟩]
        · rw [if_neg (fun z => c z.1), if_neg (fun z => c (by omega))]
      · rw [if_neg (fun z => q z.2), if_neg (fun z => q z.2)])
    have hi' : demV l (max 0 s) t = demV l (max 0 s) (min H t) := tot_eq _ (fun i hi => by
      have := hH i hi
      by_cases q : max 0 s ≤ (jb l i).at_
      · by_cases c : (jb l i).due ≤ t
        · rw [if_pos ⟨q, c⟩, if_pos ⟨q, by omega⟩]
        · rw [if_neg (fun z => c z.2), if_neg (fun z => c (by omega))]
      · rw [if_neg (fun z => q z.1), if_neg (fun z => q z.1)])
    by_cases c : max 0 s ≤ min H t
    · have := h (max 0 s) (min H t) (by omega) c (by omega)
      omega
    · have z : demV l (max 0 s) (min H t) = 0 := tot_zero _ (fun i hi => by
        have := j.ad i hi
        rw [if_neg (by omega)])
      omega
/-- Only releases and deadlines matter. -/
theorem dem_marks {l : List Jb} (j : Jobs l) (h : ∀ i k, i < l.length → k < l.length → (jb l i).at_ ≤ (jb l k).due → demV l (jb l i).at_ (jb l k).due ≤ (jb l k).due - (jb l i).at_) : Dem l := by
  intro s t hst
  by_cases c : ∃ i, i < l.length ∧ s ≤ (jb l i).at_ ∧ (jb l i).due ≤ t
  · obtain ⟨i0, hi0, ha0, hd0⟩ := c
    -- the first release and the last deadline among them
    have first : ∀ n, n ≤ l.length → ∃ i, i < l.length ∧ s ≤ (jb l i).at_ ∧ (jb l i).due ≤ t ∧ ∀ k, k < n → s ≤ (jb l k).at_ → (jb l k).due ≤ t → (jb l i).at_ ≤ (jb l k).at_ := fun n => by
      induction n with
      | zero => intro _; exact ⟨i0, hi0, ha0, hd0, fun k hk => by omega⟩
      | succ n ih =>
        intro hn
        obtain ⟨i, h1, h2, h3, h4⟩ := ih (by omega)
        by_cases q : (s ≤ (jb l n).at_ ∧ (jb l n).due ≤ t) ∧ (jb l n).at_ < (jb l i).at_
        · exact ⟨n, by omega, q.1.1, q.1.2, fun k hk a b => by
            by_cases e : k = n
            · rw [e]; exact Int.le_refl _
            · have := h4 k (by omega) a b; omega⟩
        · exact ⟨i, h1, h2, h3, fun k hk a b => by
            by_cases e : k = n
            · subst e
              by_cases z : (jb l k).at_ < (jb l i).at_
              · exact absurd ⟨⟨a, b⟩, z⟩ q
              · omega
            · exact h4 k (by omega) a b⟩
    have last : ∀ n, n ≤ l.length → ∃ i, i < l.length ∧ s ≤ (jb l i).at_ ∧ (jb l i).due ≤ t ∧ ∀ k, k < n → s ≤ (jb l k).at_ → (jb l k).due ≤ t → (jb l k).due ≤ (jb l i).due := fun n => by
      induction n with
      | zero => intro _; exact ⟨i0, hi0, ha0, hd0, fun k hk => by omega⟩
      | succ n ih =>
        intro hn
        obtain ⟨i, h1, h2, h3, h4⟩ := ih (by omega)
        by_cases q : (s ≤ (jb l n).at_ ∧ (jb l n).due ≤ t) ∧ (jb l i).due < (jb l n).due
        · exact ⟨n, by omega, q.1.1, q.1.2, fun k hk a b => by
            by_cases e : k = n
            · rw [e]; exact Int.le_refl _
            · have := h4 k (by omega) a b; omega⟩
        · exact ⟨i, h1, h2, h3, fun k hk a b => by
            by_cases e : k = n
            · subst e
              by_cases z : (jb l i).due < (jb l k).due
              · exact absurd ⟨⟨a, b⟩, z⟩ q
              · omega
            · exact h4 k (by omega) a b⟩
    obtain ⟨i, i1, i2, i3, i4⟩ := first l.length (Nat.le_refl _)
    obtain ⟨k, k1, k2, k3, k4⟩ := last l.length (Nat.le_refl _)
    have := i4 k k1 k2 k3
    have := j.ad k k1
    have q := h i k i1 k1 (by omega)
    have e : demV l s t = demV l (jb l i).at_ (jb l k).due := tot_eq _ (fun m hm => by
      by_cases z : s ≤ (jb l m).at_ ∧ (jb l m).due ≤ t
      · rw [if_pos z, if_pos ⟨i4 m hm z.1 z.2, k4 m hm z.1 z.2⟩]
      · rw [if_neg z, if_neg (fun y => z ⟨by omega, by omega⟩)])
    omega
  · have e : demV l s t = 0 := tot_zero _ (fun i hi => by rw [if_neg (fun z => c ⟨i, hi, z.1, z.2⟩)])
    omega

/-- Jobs of tasks: which task, which of its jobs. -/
structure JobsOf (l : List Tk) (m : List Jb) (ti tj : Nat → Nat) : Prop where
  lt : ∀ x, x < m.length → ti x < l.length
  is : ∀ x, x < m.length → jb m x = ⟨(tj x : Int) * (tk l (ti x)).per, (tk l (ti x)).work, (tj x : Int) * (tk l (ti x)).per + (tk l (ti x)).due⟩
  inj : ∀ x y, x < m.length → y < m.length → ti x = ti y → tj x = tj y → x = y
/-- Liu, Layland and Dertouzos: tasks that fit by rank are jobs whose demand is never too great. -/
theorem JobsOf.dem {l : List Tk} {m : List Jb} {ti tj : Nat → Nat} {run : Nat → Int} {dn : Nat → Nat → Int} (v : Tks l) (h : Rk l run dn) (f : Fts l) (J : JobsOf l m ti tj) : Dem m := by
  obtain ⟨C, hC⟩ : ∃ C : Nat → Int, C = fun x => (tk l (ti x)).work := ⟨_, rfl⟩
  have hc : ∀ x, x < m.length → 1 ≤ C x := fun x hx => by rw [hC]; exact v.w1 _ (J.lt x hx)
  have jobs : Jobs m := by
    refine ⟨fun x hx => ?_, fun x hx => ?_, fun x hx => ?_⟩ <;> rw [J.is x hx]
    · exact Int.mul_nonneg (by omega) (by have := v.p1 _ (J.lt x hx); omega)
    · have := v.w1 _ (J.lt x hx); have := v.wd _ (J.lt x hx); (try simp only); omega
    · exact v.w1 _ (J.lt x hx)
  have way : Way m (fun t x => max 0 (min (C x) (((tj x : Int) + 1) * C x - dn t (ti x)))) := by
    refine ⟨fun t x hx => by omega, fun t x hx => ?_, fun t => ?_, fun t x hx ht => ?_⟩
    · have := h.next t (ti x) (J.lt x hx)
      try simp only
      split at this <;> omega
    · -- the one job that is served
      by_cases c : ∃ x, x < m.length ∧ run t = (ti x : Int) ∧ (tj x : Int) * C x ≤ dn t (ti x) ∧ dn t (ti x) < ((tj x : Int) + 1) * C x
      · obtain ⟨x, hx, hr, h1, h2⟩ := c
        refine ⟨x, fun y hy => ⟨fun e => ?_, fun e => ?_⟩⟩
        · have := h.next t (ti y) (J.lt y hy)
          try simp only
          split at this <;> omega
        · have hn := h.next t (ti y) (J.lt y hy)
          by_cases q : ti y = ti x
          · rw [q, if_pos hr] at hn
            have hCy : C y = C x := by rw [hC]; show (tk l (ti y)).work = (tk l (ti x)).work; rw [q]
            have hne : tj y ≠ tj x := fun z => e (J.inj y x hy hx q z)
            have cx := hc x hx
            rw [q, hCy, hn]
            rcases Nat.lt_or_gt_of_ne hne with z | z
            · have := Int.mul_le_mul_of_nonneg_right (show (tj y : Int) + 1 ≤ (tj x : Int) by omega) (show 0 ≤ C x by omega)
              omega
            · have := Int.mul_le_mul_of_nonneg_right (show (tj x : Int) + 1 ≤ (tj y : Int) by omega) (show 0 ≤ C x by omega)
              rw [Int.add_mul (tj y : Int) 1, Int.one_mul]
              omega
          · rw [if_neg (by rw [hr]; omega)] at hn
            rw [hn]; simp
      · refine ⟨m.length, fun y hy => ⟨fun e => by omega, fun e => ?_⟩⟩
        have hn := h.next t (ti y) (J.lt y hy)
        by_cases q : run t = (ti y : Int)
        · rw [if_pos q] at hn
          have cy := hc y hy
          have nc : ¬ ((tj y : Int) * C y ≤ dn t (ti y) ∧ dn t (ti y) < ((tj y : Int) + 1) * C y) := fun z => c ⟨y, hy, q, z.1, z.2⟩
          have e1 : ((tj y : Int) + 1) * C y = (tj y : Int) * C y + C y := by rw [Int.add_mul, Int.one_mul]
          try simp only
          rw [hn]
          rw [e1] at nc ⊢
          omega
        · rw [if_neg q] at hn
          try simp only
          rw [hn]; simp
    · rw [J.is x hx] at ht ⊢
      simp only at ht ⊢
      have p1 := v.p1 _ (J.lt x hx)
      have h1 := h.le v t (ti x) (J.lt x hx)
      have h2 := hg_mono v ht (J.lt x hx)
      have h3 : hgV l ((tj x : Int) * (tk l (ti x)).per) (ti x) = (tj x : Int) * C x := by rw [hgV, cel_mul p1, hC]
      have e1 : ((tj x : Int) + 1) * C x = (tj x : Int) * C x + C x := by rw [Int.add_mul, Int.one_mul]
      have cx := hc x hx
      have e2 : (tk l (ti x)).work = C x := by rw [hC]
      rw [e1, e2]
      omega
  refine way.dem jobs (fun x hx t ht => ?_)
  obtain ⟨r, hr, hd⟩ := f (ti x) (J.lt x hx)
  obtain ⟨P, hP⟩ := Int.eq_ofNat_of_zero_le (show 0 ≤ (tk l (ti x)).per by have := v.p1 _ (J.lt x hx); omega)
  have hdp := v.dp _ (J.lt x hx)
  have h1 := h.meet v (J.lt x hx) hr hP (by omega) (tj x)
  rw [J.is x hx] at ht
  simp only at ht
  rw [hP] at ht
  have h2 : tj x * P + r ≤ t := by
    have : ((tj x * P : Nat) : Int) = (tj x : Int) * (P : Int) := by simp
    omega
  have h3 := h.mono (J.lt x hx) h2
  have e2 : (tk l (ti x)).work = C x := by rw [hC]
  rw [e2] at h1
  try simp only
  omega

end Go.Proofs.Ytoapgdandpcboaa
