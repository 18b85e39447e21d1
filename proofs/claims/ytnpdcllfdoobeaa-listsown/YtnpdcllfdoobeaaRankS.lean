
/-
  Plain mathematics: tasks in the order of their dues, made due by due; when a job is done; what is left of the tasks.
-/
import Derived.Test.YtnpdcllfdoobeaaEdfS
import Derived.Test.YtnpdcllfdoobeaaRankP
namespace Go.Proofs.Ytnpdcllfdoobeaa
set_option linter.all false

/-- Two lists that rise strictly and have the same members are one. -/
theorem asc_uniq {R : Nat → Nat → Prop} (asym : ∀ a b, R a b → ¬ R b a) : ∀ {l m : List Nat}, l.Pairwise R → m.Pairwise R → (∀ x, x ∈ l ↔ x ∈ m) → l = m
  | [], [], _, _, _ => rfl
  | [], b :: m, _, _, h => absurd ((h b).mpr (by simp)) (by simp)
  | a :: l, [], _, _, h => absurd ((h a).mp (by simp)) (by simp)
  | a :: l, b :: m, hl, hm, h => by
    rw [List.pairwise_cons] at hl hm
    have e : a = b := by
      have ha := (h a).mp (by simp)
      have hb := (h b).mpr (by simp)
      rw [List.mem_cons] at ha hb
      rcases ha with e | ha
      · exact e
      · rcases hb with e | hb
        · exact e.symm
        · exact absurd (hl.1 b hb) (asym _ _ (hm.1 a ha))
    subst e
    congr 1
    refine asc_uniq asym hl.2 hm.2 (fun x => ?_)
    have := h x
    rw [List.mem_cons, List.mem_cons] at this
    constructor
    · intro hx
      rcases this.mp (.inr hx) with e | e
      · subst e; exact absurd (hl.1 x hx) (fun q => asym _ _ q q)
      · exact e
    · intro hx
      rcases this.mpr (.inr hx) with e | e
      · subst e; exact absurd (hm.1 x hx) (fun q => asym _ _ q q)
      · exact e

/-- Tasks as jobs with the same dues. -/
def tj (t : Tk) : Jb := ⟨0, t.work, t.due⟩
def tjs (l : List Tk) : List Jb := l.map tj
theorem length_tjs (l : List Tk) : (tjs l).length = l.length := by simp [tjs]
theorem jb_tj {l : List Tk} {i : Nat} (hi : i < l.length) : jb (tjs l) i = tj (tk l i) := by simp [jb, tjs, tk, List.getD, hi]
theorem dlt_asym (l : List Jb) (a b : Nat) (h : DLt l a b) : ¬ DLt l b a := by unfold DLt at *; omega

/-- Indices, due by due. -/
def ordI (l : List Tk) (d k : Nat) : List Nat := (List.range k).filter (fun i => decide ((tk l i).due = (d : Int)))
def ordX (l : List Tk) : Nat → List Nat
  | 0 => []
  | d + 1 => ordX l d ++ ordI l d l.length
theorem ordI_mem {l : List Tk} {d k x : Nat} : x ∈ ordI l d k ↔ x < k ∧ (tk l x).due = (d : Int) := by simp [ordI]
theorem ordI_next (l : List Tk) (d k : Nat) : ordI l d (k + 1) = ordI l d k ++ if (tk l k).due = (d : Int) then [k] else [] := by
  unfold ordI
  rw [List.range_succ, List.filter_append]
  congr 1
  by_cases c : (tk l k).due = (d : Int) <;> simp [c]
theorem ordX_mem {l : List Tk} : ∀ {d x : Nat}, x ∈ ordX l d ↔ x < l.length ∧ ∃ e : Nat, e < d ∧ (tk l x).due = (e : Int)
  | 0, x => by simp [ordX]
  | d + 1, x => by
    rw [ordX, List.mem_append, ordX_mem (d := d), ordI_mem]
    constructor
    · rintro (⟨a, e, he, b⟩ | ⟨a, b⟩)
      · exact ⟨a, e, by omega, b⟩
      · exact ⟨a, d, by omega, b⟩
    · rintro ⟨a, e, he, b⟩
      by_cases c : e = d
      · subst c; exact .inr ⟨a, b⟩
      · exact .inl ⟨a, e, by omega, b⟩
theorem ordX_asc {l : List Tk} : ∀ d, (ordX l d).Pairwise (DLt (tjs l))
  | 0 => List.Pairwise.nil
  | d + 1 => by
    rw [ordX, List.pairwise_append]
    refine ⟨ordX_asc d, ?_, fun a ha b hb => ?_⟩
    · have h := (List.pairwise_lt_range (n := l.length)).filter (fun i => decide ((tk l i).due = (d : Int)))
      refine h.imp_of_mem (fun {a b} ha hb q => ?_)
      have ha' := ordI_mem.mp ha
      have hb' := ordI_mem.mp hb
      unfold DLt
      rw [jb_tj ha'.1, jb_tj hb'.1]
      exact .inr ⟨by simp only [tj]; rw [ha'.2, hb'.2], q⟩
    · obtain ⟨a1, e, he, a2⟩ := ordX_mem.mp ha
      obtain ⟨b1, b2⟩ := ordI_mem.mp hb
      unfold DLt
      rw [jb_tj a1, jb_tj b1]
      exact .inl (by simp only [tj]; omega)
theorem ord_uniq {l : List Tk} (v : TksB l) {f : Nat → Nat} (h : InsA (tjs l) f l.length) : (List.range l.length).map f = ordX l 61 := by
  refine asc_uniq (dlt_asym (tjs l)) ?_ (ordX_asc 61) (fun x => ?_)
  · rw [List.pairwise_map]
    exact (List.pairwise_lt_range (n := l.length)).imp_of_mem (fun {a b} ha hb q => h.ord a b q (List.mem_range.mp hb))
  · rw [List.mem_map, ordX_mem]
    constructor
    · rintro ⟨p, hp, rfl⟩
      have hp' := h.lt p (List.mem_range.mp hp)
      have a := v.wd _ hp'
      have b := v.dp _ hp'
      have c := v.p60 _ hp'
      have d := v.w1 _ hp'
      exact ⟨hp', ((tk l (f p)).due).toNat, by omega, by omega⟩
    · rintro ⟨hx, _⟩
      obtain ⟨p, hp, e⟩ := h.mem x hx
      exact ⟨p, List.mem_range.mpr hp, e⟩

/-- The tasks in that order. -/
def srtT (l : List Tk) (f : Nat → Nat) : List Tk := (List.range l.length).map (fun p => tk l (f p))
theorem length_srt (l : List Tk) (f : Nat → Nat) : (srtT l f).length = l.length := by simp [srtT]
theorem tk_srt {l : List Tk} {f : Nat → Nat} {p : Nat} (h : p < l.length) : tk (srtT l f) p = tk l (f p) := by simp [tk, srtT, List.getD, h]
theorem srt_ord {l : List Tk} (v : TksB l) {f : Nat → Nat} (h : InsA (tjs l) f l.length) : srtT l f = (ordX l 61).map (tk l) := by
  rw [← ord_uniq v h, List.map_map]; rfl
theorem srt_ok {l : List Tk} (v : TksB l) {f : Nat → Nat} (h : InsA (tjs l) f l.length) : TksB (srtT l f) := by
  have key : ∀ (P : Tk → Prop), (∀ k, k < l.length → P (tk l k)) → ∀ k, k < (srtT l f).length → P (tk (srtT l f) k) := fun P q k hk => by
    rw [length_srt] at hk
    rw [tk_srt hk]
    exact q _ (h.lt k hk)
  exact ⟨⟨key (fun t => 1 ≤ t.per) v.p1, key (fun t => 1 ≤ t.work) v.w1, key (fun t => t.work ≤ t.due) v.wd, key (fun t => t.due ≤ t.per) v.dp⟩, by rw [length_srt]; exact v.le, key (fun t => t.per ≤ 60) v.p60⟩
theorem ins_inj {l : List Jb} {f : Nat → Nat} {n : Nat} (h : InsA l f n) {p q : Nat} (hp : p < n) (hq : q < n) (e : f p = f q) : p = q := by
  rcases Nat.lt_trichotomy p q with c | c | c
  · have := h.ord p q c hq; rw [e] at this; exact absurd this (dlt_asym l _ _ this)
  · exact c
  · have := h.ord q p c hp; rw [e] at this; exact absurd this (dlt_asym l _ _ this)
theorem srt_fits {l : List Tk} (v : TksB l) {f : Nat → Nat} (h : InsA (tjs l) f l.length) (F : Fts l) : Fts (srtT l f) := by
  refine fts_order v.toTks (srt_ok v h).toTks f (fun i hi => ?_) (fun i j hi hj e => ?_) (fun i hi => ?_) (fun i j hij hj => ?_) F
  · rw [length_srt] at hi; exact h.lt i hi
  · rw [length_srt] at hi hj; exact ins_inj h hi hj e
  · rw [length_srt] at hi; exact tk_srt hi
  · rw [length_srt] at hj
    rw [tk_srt hj, tk_srt (by omega)]
    by_cases c : i = j
    · subst c; exact Int.le_refl _
    · have q := h.ord i j (by omega) hj
      unfold DLt at q
      rw [jb_tj (h.lt i (by omega)), jb_tj (h.lt j hj)] at q
      simp only [tj] at q
      omega

/-- When a task has had n units; 0: not within H slots. -/
def IsFin (l : List Tk) (i H : Nat) (n d : Int) : Prop := (d = 0 ∧ rkD l H i < n) ∨ ∃ t : Nat, t < H ∧ d = (t : Int) + 1 ∧ rkD l (t + 1) i = n ∧ rkD l t i < n
theorem rkD_mono {l : List Tk} {i : Nat} {s t : Nat} (h : s ≤ t) : rkD l s i ≤ rkD l t i := by
  obtain ⟨d, rfl⟩ : ∃ d, t = s + d := ⟨t - s, by omega⟩
  clear h
  induction d with
  | zero => exact Int.le_refl _
  | succ d ih =>
    rw [show s + (d + 1) = s + d + 1 by omega, rkD_next]
    split <;> omega
theorem rkD_le (l : List Tk) (i : Nat) : ∀ t : Nat, 0 ≤ rkD l t i ∧ rkD l t i ≤ (t : Int)
  | 0 => ⟨Int.le_refl _, Int.le_refl _⟩
  | t + 1 => by
    have := rkD_le l i t
    rw [rkD_next]
    split <;> omega
theorem IsFin.late {l : List Tk} {i H : Nat} {n d : Int} (h : IsFin l i H n d) {u : Nat} (hu : u ≤ H) : (d = 0 ∨ (u : Int) < d) ↔ rkD l u i < n := by
  rcases h with ⟨e, hH⟩ | ⟨t, ht, e, h0, h1⟩
  · have := rkD_mono (l := l) (i := i) hu
    exact ⟨fun _ => by omega, fun _ => .inl e⟩
  · constructor
    · intro c
      have := rkD_mono (l := l) (i := i) (show u ≤ t by omega)
      omega
    · intro c
      by_cases x : (u : Int) < d
      · exact .inr x
      · have := rkD_mono (l := l) (i := i) (show t + 1 ≤ u by omega)
        omega
/-- Joseph and Pandya, as the law asks it. -/
theorem fin_first {l : List Tk} (v : TksB l) {i r : Nat} (hi : i < l.length) (hr : IsRt l i r) (h60 : (r : Int) ≤ (tk l i).due) {d : Int} (h : IsFin l i 200 (tk l i).work d) : d = (r : Int) := by
  have p60 := v.p60 i hi
  have dp := v.dp i hi
  have R := fun t => (rk_rk l).rt v.toTks hi hr t
  have h1 := (rt_lo v.toTks hi hr).1
  have a := h.late (u := r) (by omega)
  have b := h.late (u := r - 1) (by omega)
  have ra := R r
  have rb := R (r - 1)
  have a' : ¬ rkD l r i < (tk l i).work := by have := ra.mpr (Nat.le_refl _); omega
  have b' : rkD l (r - 1) i < (tk l i).work := by
    by_cases c : rkD l (r - 1) i < (tk l i).work
    · exact c
    · have := rb.mp (by omega); omega
  have x : ¬ (d = 0 ∨ (r : Int) < d) := fun c => a' (a.mp c)
  have y := b.mpr b'
  omega
theorem fin_over {l : List Tk} (v : TksB l) {i : Nat} (hi : i < l.length) (hr : rtV l i = -1) {d : Int} (h : IsFin l i 200 (tk l i).work d) : d = 0 ∨ (tk l i).due < d := by
  have p60 := v.p60 i hi
  have dp := v.dp i hi
  have wd := v.wd i hi
  have w1 := v.w1 i hi
  obtain ⟨D, hD⟩ := Int.eq_ofNat_of_zero_le (show 0 ≤ (tk l i).due by omega)
  have a := h.late (u := D) (by omega)
  rw [hD]
  refine a.mpr ?_
  by_cases c : rkD l D i < (tk l i).work
  · exact c
  · obtain ⟨q, hq, e⟩ := (rk_rk l).first v.toTks hi D (by omega)
    obtain ⟨r, hr', k⟩ := rt_of v.toTks hi e
    rcases rt_spec v.toTks hi with ⟨_, b⟩ | ⟨r', x, _⟩
    · have := b r k; omega
    · omega
/-- Liu and Layland, as the law asks it. -/
theorem fin_meet {l : List Tk} (v : TksB l) {i r : Nat} (hi : i < l.length) (hr : IsRt l i r) (hd : (r : Int) ≤ (tk l i).due) {j P : Nat} (hP : (tk l i).per = (P : Int)) (hj : (j + 1) * P ≤ 200) {d : Int} (h : IsFin l i 200 ((tk l i).work * ((j : Int) + 1)) d) : ¬ d = 0 ∧ d ≤ ((j * P : Nat) : Int) + (r : Int) := by
  have dp := v.dp i hi
  have m := (rk_rk l).meet v.toTks hi hr hP (by omega) j
  rw [Nat.add_mul] at hj
  have a := h.late (u := j * P + r) (by omega)
  have x : ¬ (d = 0 ∨ (((j * P + r : Nat)) : Int) < d) := fun c => by
    have := a.mp c
    rw [Int.mul_comm] at m
    omega
  omega

/-- What is left of a task behind t slots, ahead of what comes then; with it. -/
def lfV (l : List Tk) (t i : Nat) : Int := hgV l (t : Int) i - rkD l t i
def lgV (l : List Tk) (t i : Nat) : Int := hgV l ((t : Int) + 1) i - rkD l t i
theorem cel_next {t T : Int} (hT : 1 ≤ T) (h0 : 0 ≤ t) : cl (t + 1) T = cl t T + if t % T = 0 then 1 else 0 := by
  have h1 := Int.mul_ediv_add_emod t T
  have h2 := Int.emod_nonneg t (show T ≠ 0 by omega)
  have h3 := Int.emod_lt_of_pos t (show 0 < T by omega)
  obtain ⟨q, hq⟩ : ∃ q, q = t / T := ⟨_, rfl⟩
  obtain ⟨s, hs⟩ : ∃ s, s = t % T := ⟨_, rfl⟩
  rw [← hq, ← hs, Int.mul_comm] at h1
  rw [← hs] at h2 h3 ⊢
  have a1 := cel_lo (r := t + 1) hT; have a2 := cel_hi (r := t + 1) hT
  have b1 := cel_lo (r := t) hT; have b2 := cel_hi (r := t) hT
  have A : cl (t + 1) T = q + 1 := by
    have x : cl (t + 1) T ≤ q + 1 := mul_lt hT (by rw [Int.add_mul]; omega)
    have y : q ≤ cl (t + 1) T - 1 := mul_lt hT (by rw [Int.sub_mul]; omega)
    omega
  by_cases c : s = 0
  · rw [if_pos c, A]
    have x : cl t T ≤ q := mul_lt hT (by omega)
    have y : q ≤ cl t T := mul_lt hT (by omega)
    omega
  · rw [if_neg c, A]
    have x : cl t T ≤ q + 1 := mul_lt hT (by rw [Int.add_mul]; omega)
    have y : q ≤ cl t T - 1 := mul_lt hT (by rw [Int.sub_mul]; omega)
    omega
theorem lg_lf {l : List Tk} (v : Tks l) {t i : Nat} (hi : i < l.length) : lgV l t i = lfV l t i + if (t : Int) % (tk l i).per = 0 then (tk l i).work else 0 := by
  unfold lgV lfV hgV
  rw [cel_next (v.p1 i hi) (by omega)]
  split
  · rw [Int.add_mul]; omega
  · rw [Int.add_zero]; omega
theorem lf_lg {l : List Tk} {t i : Nat} : lfV l (t + 1) i = lgV l t i - if rkR l t = (i : Int) then 1 else 0 := by
  unfold lgV lfV
  rw [rkD_next, show ((t + 1 : Nat) : Int) = (t : Int) + 1 by omega]
  omega
theorem lf_zero {l : List Tk} (v : Tks l) {i : Nat} (hi : i < l.length) : lfV l 0 i = 0 := by
  unfold lfV hgV
  rw [show ((0 : Nat) : Int) = 0 from rfl, cel_zero (v.p1 i hi)]
  simp [rkD]
theorem lf_bd {l : List Tk} (v : TksB l) {t i : Nat} (hi : i < l.length) (ht : t ≤ 201) : 0 ≤ lfV l t i ∧ lfV l t i ≤ 12060 := by
  have a := (rk_rk l).le v.toTks t i hi
  have b := cel_le (r := (t : Int)) (v.p1 i hi) (by omega)
  have c := v.w1 i hi
  have d : (tk l i).work ≤ 60 := by have := v.wd i hi; have := v.dp i hi; have := v.p60 i hi; omega
  have e : cl (t : Int) (tk l i).per * (tk l i).work ≤ (t : Int) * (tk l i).work := Int.mul_le_mul_of_nonneg_right b (by omega)
  have f : (t : Int) * (tk l i).work ≤ (t : Int) * 60 := Int.mul_le_mul_of_nonneg_left d (by omega)
  have g := rkD_le l i t
  unfold lfV
  unfold hgV at a ⊢
  omega
theorem lg_bd {l : List Tk} (v : TksB l) {t i : Nat} (hi : i < l.length) (ht : t ≤ 200) : 0 ≤ lgV l t i ∧ lgV l t i ≤ 12120 := by
  have a := lf_bd v hi (t := t) (by omega)
  have c := v.w1 i hi
  have d : (tk l i).work ≤ 60 := by have := v.wd i hi; have := v.dp i hi; have := v.p60 i hi; omega
  rw [lg_lf v.toTks hi]
  split <;> omega
theorem rkB_lg {l : List Tk} {t i : Nat} : rkB l (rkD l t) t i = decide (0 < lgV l t i) := by
  unfold rkB lgV
  by_cases c : rkD l t i < hgV l ((t : Int) + 1) i
  · rw [decide_eq_true c, decide_eq_true (by omega)]
  · rw [decide_eq_false c, decide_eq_false (by omega)]
/-- Which task a slot does: the first of which something is left. -/
theorem rkR_none {l : List Tk} {t : Nat} (h : ∀ i, i < l.length → ¬ 0 < lgV l t i) : rkR l t = -1 := by
  rcases rk_spec l (rkD l t) t l.length with ⟨e, _⟩ | ⟨k, e, hk, hp, _⟩
  · exact e
  · rw [rkB_lg] at hp
    exact absurd (of_decide_eq_true hp) (h k hk)
theorem rkR_some {l : List Tk} {t k : Nat} (hk : k < l.length) (h : 0 < lgV l t k) (hm : ∀ i, i < k → ¬ 0 < lgV l t i) : rkR l t = (k : Int) := by
  rcases rk_spec l (rkD l t) t l.length with ⟨e, hn⟩ | ⟨k', e, hk', hp, hm'⟩
  · have := hn k hk
    rw [rkB_lg, decide_eq_true h] at this
    exact absurd this (by simp)
  · rw [rkB_lg] at hp
    have hp' := of_decide_eq_true hp
    rcases Nat.lt_trichotomy k' k with c | c | c
    · exact absurd hp' (hm k' c)
    · subst c; exact e
    · have := hm' k c
      rw [rkB_lg, decide_eq_true h] at this
      exact absurd this (by simp)

end Go.Proofs.Ytnpdcllfdoobeaa
