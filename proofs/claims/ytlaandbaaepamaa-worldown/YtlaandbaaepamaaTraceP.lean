
/-
  Plain mathematics of traces, backlog and delay.
-/
import Derived.Test.YtlaandbaaepamaaCloK
import Derived.Test.YtlaandbaaepamaaSumP
namespace Go.Proofs.Ytlaandbaaepamaa
set_option linter.all false

/-- f conforms to g. -/
def Fit (f g : List Int) : Prop := ∀ s d, s + d < f.length → gt f (s + d) ≤ gt f s + gt g d

theorem fit_env {f g x : List Int} (vg : Cv g) (e : f.length = g.length) (z : Decs f f x) : Fit f g ↔ ∀ t, t < f.length → gt x t ≤ gt g t := by
  constructor
  · intro h t ht
    refine (z.iff ht (vg.lo t (by omega))).2 (fun j hj => ?_)
    have := h j t (by omega)
    rw [Nat.add_comm] at this; omega
  · intro h s d hd
    have h1 := h d (by omega)
    have h2 := z.ge d s (by omega)
    rw [Nat.add_comm] at h2; omega
theorem env_sb {f x : List Int} (z : Decs f f x) : Sb x := by
  have er := z.rlen
  have hp := z.one.pos
  refine ⟨(z.iff hp (Int.le_refl _)).2 (fun j hj => by rw [Nat.zero_add]; omega), fun s t hst => ?_⟩
  have hs := z.r.lo s (by omega); have ht := z.r.lo t (by omega)
  refine (z.iff (by omega) (by omega)).2 (fun j hj => ?_)
  have h1 := z.ge s (t + j) (by omega)
  have h2 := z.ge t j (by omega)
  rw [show s + (t + j) = s + t + j by omega] at h1
  omega
theorem env_fit {f x : List Int} (z : Decs f f x) : Fit f x := (fit_env z.r z.rlen.symm z).2 (fun _ _ => Int.le_refl _)
theorem fit_clos {f g c : List Int} (vf : Cv f) (e : f.length = g.length) (z : Clos g c) : Fit f g ↔ Fit f c := by
  have ec := z.rlen
  obtain ⟨x, zx⟩ := ex_dec vf vf rfl
  have ex := zx.rlen
  constructor
  · intro h
    have h1 := (fit_env z.one e zx).1 h
    refine (fit_env z.r (by omega) zx).2 (fun t ht => ?_)
    exact z.most (by omega) (env_sb zx) (fun t _ ht => h1 t (by omega)) t (by omega)
  · intro h s d hd
    have h1 := h s d hd
    by_cases e0 : d = 0
    · subst e0; have := z.one.lo 0 z.one.pos; rw [Nat.add_zero]; omega
    · have := z.le (t := d) (by omega) (by omega); omega
theorem fit_conv {f g x : List Int} (z : Convs f g x) : Fit f g ↔ ∀ t, t < f.length → gt f t ≤ gt x t := by
  constructor
  · intro h t ht
    obtain ⟨i, j, ij, q⟩ := z.at_ ht
    have := h i j (by omega)
    rw [ij] at this; omega
  · intro h s d hd
    have h1 := h (s + d) hd
    have h2 := z.le s d hd
    omega
theorem fit_min {f a b m : List Int} (e : f.length = a.length) (z : Zips min a b m) : Fit f m ↔ Fit f a ∧ Fit f b := by
  constructor
  · intro h
    exact ⟨fun s d hd => by have := h s d hd; have := z.val d (by omega); omega, fun s d hd => by have := h s d hd; have := z.val d (by omega); omega⟩
  · rintro ⟨h1, h2⟩ s d hd
    have := h1 s d hd; have := h2 s d hd; have := z.val d (by omega); omega

/-- The greatest backlog. -/
def backV (a b : List Int) : Int := mx (fun t => gt a t - gt b t) a.length
theorem back_iff {a b : List Int} {B : Int} (hB : 0 ≤ B) : backV a b ≤ B ↔ ∀ t, t < a.length → gt a t ≤ gt b t + B := by
  unfold backV
  rw [mx_iff _ _ hB]
  exact ⟨fun h t ht => by have := h t ht; omega, fun h t ht => by have := h t ht; omega⟩
theorem back0 (a b : List Int) : 0 ≤ backV a b := mx0 _ _
theorem back_ge {a b : List Int} {t : Nat} (ht : t < a.length) : gt a t ≤ gt b t + backV a b := (back_iff (back0 a b)).1 (Int.le_refl _) t ht

/-- d delays b so that it comes no later than a. -/
def Del (a b : List Int) (d : Nat) : Prop := ∀ t, t + d < a.length → gt a t ≤ gt b (t + d)
/-- d is the least that does. -/
structure IsDel (a b : List Int) (d : Nat) : Prop where
  lt : d < a.length
  ok : Del a b d
  least : ∀ e, e < d → ¬ Del a b e
theorem IsDel.uniq {a b : List Int} {d e : Nat} (h : IsDel a b d) (h' : IsDel a b e) : d = e := by
  rcases Nat.lt_trichotomy d e with q | q | q
  · exact absurd h.ok (h'.least d q)
  · exact q
  · exact absurd h'.ok (h.least e q)
theorem ex_del (a b : List Int) : (∃ d, IsDel a b d) ∨ ∀ d, d < a.length → ¬ Del a b d := by
  have : ∀ n, n ≤ a.length → (∃ d, IsDel a b d) ∨ ∀ d, d < n → ¬ Del a b d := by
    intro n
    induction n with
    | zero => intro _; exact .inr (fun d hd => absurd hd (by omega))
    | succ n ih =>
      intro hn
      rcases ih (by omega) with h | h
      · exact .inl h
      · by_cases q : Del a b n
        · exact .inl ⟨n, by omega, q, h⟩
        · exact .inr (fun d hd => by
            by_cases e : d = n
            · subst e; exact q
            · exact h d (by omega))
  exact this a.length (Nat.le_refl _)
theorem IsDel.le {a b : List Int} {d e : Nat} (h : IsDel a b d) (h' : Del a b e) : d ≤ e := by
  by_cases q : e < d
  · exact absurd h' (h.least e q)
  · omega
/-- Cruz: the backlog, the delay and what goes out. -/
theorem cruz_back {f g b d x : List Int} (vf : Cv f) (h : Fit f g) (z : Convs f b x) (eg : f.length = g.length) (hd : ∀ t, t < f.length → gt x t ≤ gt d t) : backV f d ≤ backV g b := by
  have e := z.len
  refine (back_iff (back0 _ _)).2 (fun t ht => ?_)
  obtain ⟨i, j, ij, q⟩ := z.at_ ht
  have h1 := h i j (by omega)
  rw [ij] at h1
  have h2 := back_ge (a := g) (b := b) (t := j) (by omega)
  have h3 := hd t ht
  omega
theorem cruz_delay {f g b d x : List Int} (vf : Cv f) (h : Fit f g) (z : Convs f b x) (eg : f.length = g.length) (hd : ∀ t, t < f.length → gt x t ≤ gt d t) {n : Nat} (hn : Del g b n) : Del f d n := by
  have e := z.len
  intro t ht
  obtain ⟨i, j, ij, q⟩ := z.at_ (t := t + n) ht
  have h3 := hd (t + n) ht
  by_cases c : i ≤ t
  · have h1 := h i (t - i) (by omega)
    rw [show i + (t - i) = t by omega] at h1
    have h2 := hn (t - i) (by omega)
    rw [show t - i + n = j by omega] at h2
    omega
  · have h1 := vf.mono (i := t) (j := i) (by omega) (by omega)
    have h2 := z.two.lo j (by omega)
    omega
theorem cruz_out {f g b d x o : List Int} (h : Fit f g) (z : Convs f b x) (eg : f.length = g.length) (zo : Decs g b o) (ed : d.length = f.length) (hd : ∀ t, t < f.length → gt x t ≤ gt d t) (hf : ∀ t, t < f.length → gt d t ≤ gt f t) : Fit d o := by
  have e := z.len
  intro s t hst
  obtain ⟨i, j, ij, q⟩ := z.at_ (t := s) (by omega)
  have h1 := h i (t + j) (by omega)
  rw [show i + (t + j) = s + t by omega] at h1
  have h2 := zo.ge t j (by omega)
  have h3 := hd s (by omega)
  have h4 := hf (s + t) (by omega)
  omega

/-- What is wrong with a trace. -/
def trkGo : List Int → Int
  | [] => 0
  | v :: vs => if v < 0 then 1 else if 10000 < v then 1 else trkGo vs
def trk (l : List Int) : Int := if 60 < l.length then 2 else trkGo l
/-- A trace. -/
structure Tr (l : List Int) : Prop where
  le : l.length ≤ 60
  lo : ∀ i, i < l.length → 0 ≤ gt l i
  hi : ∀ i, i < l.length → gt l i ≤ 10000
theorem trkGo_iff (l : List Int) : trkGo l = 0 ↔ ∀ i, i < l.length → 0 ≤ gt l i ∧ gt l i ≤ 10000 := by
  induction l with
  | nil => simp [trkGo]
  | cons v vs ih =>
    have g0 : gt (v :: vs) 0 = v := by simp [gt]
    have gs : ∀ i, gt (v :: vs) (i + 1) = gt vs i := fun i => by simp [gt]
    unfold trkGo
    by_cases h1 : v < 0
    · rw [if_pos h1]; constructor
      · intro h; omega
      · intro h; have := h 0 (by simp); rw [g0] at this; omega
    rw [if_neg h1]
    by_cases h2 : 10000 < v
    · rw [if_pos h2]; constructor
      · intro h; omega
      · intro h; have := h 0 (by simp); rw [g0] at this; omega
    rw [if_neg h2, ih]
    constructor
    · intro a i hi
      cases i with
      | zero => rw [g0]; omega
      | succ i => rw [gs]; exact a i (by simpa using hi)
    · intro a i hi
      have := a (i + 1) (by simpa using hi); rwa [gs] at this
theorem trk_iff {l : List Int} : trk l = 0 ↔ Tr l := by
  unfold trk
  by_cases h2 : 60 < l.length
  · rw [if_pos h2]; exact ⟨fun h => by omega, fun h => by have := h.le; omega⟩
  rw [if_neg h2, trkGo_iff]
  exact ⟨fun h => ⟨by omega, fun i hi => (h i hi).1, fun i hi => (h i hi).2⟩, fun h i hi => ⟨h.lo i hi, h.hi i hi⟩⟩
theorem trkGo_any (l : List Int) : trkGo l = if l.any (fun x => decide (x < 0 ∨ 10000 < x)) = true then 1 else 0 := by
  induction l with
  | nil => simp [trkGo]
  | cons v vs ih =>
    unfold trkGo
    by_cases h1 : v < 0
    · simp [h1]
    by_cases h2 : 10000 < v
    · simp [h2]
    rw [if_neg h1, if_neg h2, ih, List.any_cons, decide_eq_false (by omega), Bool.false_or]
def adL (l : List Int) : List Int := tab (l.length + 1) (sumV l)
theorem length_adL (l : List Int) : (adL l).length = l.length + 1 := length_tab _ _
theorem gt_adL {l : List Int} {t : Nat} (h : t ≤ l.length) : gt (adL l) t = sumV l t := gt_tab _ (by omega)
theorem sum_lo {l : List Int} (h : Tr l) (t : Nat) (ht : t ≤ l.length) : 0 ≤ sumV l t ∧ sumV l t ≤ 10000 * t := by
  induction t with
  | zero => exact ⟨Int.le_refl _, by simp [sumV]⟩
  | succ t ih =>
    have := ih (by omega); have := h.lo t (by omega); have := h.hi t (by omega)
    simp only [sumV]
    omega
theorem ad_cv {l : List Int} (h : Tr l) : Cv (adL l) := by
  have hl := h.le
  refine Cv.tab (by omega) (by omega) (fun i hi => (sum_lo h i (by omega)).1) (fun i hi => ?_) (fun i hi => ?_)
  · have := (sum_lo h i (by omega)).2; omega
  · have := h.lo i (by omega); simp only [sumV]; omega
/-- What comes in each slot. -/
def difL (l : List Int) : List Int := tab (l.length - 1) (fun t => gt l (t + 1) - gt l t)
theorem length_difL (l : List Int) : (difL l).length = l.length - 1 := length_tab _ _
theorem gt_difL {l : List Int} {t : Nat} (h : t + 1 < l.length) : gt (difL l) t = gt l (t + 1) - gt l t := gt_tab _ (by omega)
/-- Is it too much in one slot? -/
def jmpB (l : List Int) : Bool := (difL l).any (fun x => decide (10000 < x))
theorem jmp_iff {l : List Int} : jmpB l = true ↔ ∃ t, t + 1 < l.length ∧ 10000 < gt l (t + 1) - gt l t := by
  unfold jmpB
  rw [List.any_eq_true]
  constructor
  · rintro ⟨x, hx, h⟩
    obtain ⟨i, hi, rfl⟩ := List.getElem_of_mem hx
    have hi' : i + 1 < l.length := by rw [length_difL] at hi; omega
    refine ⟨i, hi', ?_⟩
    rw [← gt_difL hi', gt_of_get (List.getElem?_eq_getElem hi)]; exact of_decide_eq_true h
  · rintro ⟨i, hi, h⟩
    refine ⟨gt (difL l) i, List.mem_of_getElem? (get_of_lt (by rw [length_difL]; omega)), decide_eq_true ?_⟩
    rw [gt_difL hi]; exact h
theorem jmp_no {l : List Int} : jmpB l = false ↔ ∀ t, t + 1 < l.length → gt l (t + 1) - gt l t ≤ 10000 := by
  constructor
  · intro h t ht
    by_cases h' : 10000 < gt l (t + 1) - gt l t
    · rw [jmp_iff.2 ⟨t, ht, h'⟩] at h; cases h
    · omega
  · intro h
    cases e : jmpB l
    · rfl
    · obtain ⟨i, hi, h'⟩ := jmp_iff.1 e; have := h i hi; omega
def sloE (l : List Int) : Int := if chk l ≠ 0 then chk l else if gt l 0 ≠ 0 then 3 else if jmpB l = true then 2 else 0
def sloL (l : List Int) : List Int := if sloE l = 0 then difL l else []
theorem sloE_zero {l : List Int} (h : sloE l = 0) : Cv l ∧ gt l 0 = 0 ∧ jmpB l = false := by
  unfold sloE at h
  by_cases h1 : chk l = 0
  · rw [if_neg (by simpa using h1)] at h
    by_cases h2 : gt l 0 = 0
    · rw [if_neg (by simpa using h2)] at h
      cases e : jmpB l
      · exact ⟨cv_of h1, h2, rfl⟩
      · rw [if_pos e] at h; omega
    · rw [if_pos h2] at h; omega
  · rw [if_pos h1] at h; omega
theorem sloE_of {l : List Int} (v : Cv l) (h : gt l 0 = 0) (hj : jmpB l = false) : sloE l = 0 := by
  simp [sloE, chk_iff.2 v, h, hj]
theorem dif_ad (l : List Int) : difL (adL l) = l := by
  refine list_ext (by rw [length_difL, length_adL]; omega) (fun t ht => ?_)
  rw [length_difL, length_adL] at ht
  rw [gt_difL (by rw [length_adL]; omega), gt_adL (by omega), gt_adL (by omega)]
  simp only [sumV]; omega
theorem sum_dif {l : List Int} (h0 : gt l 0 = 0) (t : Nat) (ht : t < l.length) : sumV (difL l) t = gt l t := by
  induction t with
  | zero => rw [h0]; rfl
  | succ t ih => simp only [sumV]; rw [ih (by omega), gt_difL ht]; omega
theorem ad_dif {l : List Int} (hp : 0 < l.length) (h0 : gt l 0 = 0) : adL (difL l) = l := by
  refine list_ext (by rw [length_adL, length_difL]; omega) (fun t ht => ?_)
  rw [length_adL, length_difL] at ht
  rw [gt_adL (by rw [length_difL]; omega), sum_dif h0 t (by omega)]
theorem ad_slo {l : List Int} (h : Tr l) : sloE (adL l) = 0 ∧ sloL (adL l) = l := by
  have e : sloE (adL l) = 0 := by
    refine sloE_of (ad_cv h) (by rw [gt_adL (by omega)]; rfl) (jmp_no.2 (fun t ht => ?_))
    rw [length_adL] at ht
    rw [gt_adL (by omega), gt_adL (by omega)]
    have := h.hi t (by omega)
    simp only [sumV]; omega
  exact ⟨e, by rw [sloL, if_pos e, dif_ad]⟩
theorem slo_tr {l : List Int} (h : sloE l = 0) : Tr (sloL l) ∧ adL (sloL l) = l := by
  obtain ⟨v, h0, hj⟩ := sloE_zero h
  have hp := v.pos; have hl := v.le
  rw [sloL, if_pos h]
  refine ⟨⟨by rw [length_difL]; omega, fun i hi => ?_, fun i hi => ?_⟩, ad_dif hp h0⟩
  · rw [length_difL] at hi; rw [gt_difL (by omega)]; have := v.up i (by omega); omega
  · rw [length_difL] at hi; rw [gt_difL (by omega)]; exact jmp_no.1 hj i (by omega)
/-- Does f conform to g, by its envelope? -/
def fitB (f g : List Int) : Bool := leB (dcL f f) g
theorem fitB_iff {f g : List Int} (vf : Cv f) (vg : Cv g) (e : f.length = g.length) : fitB f g = true ↔ Fit f g := by
  obtain ⟨x, zx⟩ := ex_dec vf vf rfl
  rw [fit_env vg e zx]
  unfold fitB
  rw [← zx.is, leB_iff (by rw [zx.rlen, e]), zx.rlen]
theorem chk2_self (l : List Int) : chk2 l l = chk l := by
  unfold chk2
  by_cases h : chk l = 0 <;> simp [h]
theorem chk2_like {x f g : List Int} (vx : Cv x) (vf : Cv f) (e : x.length = f.length) : chk2 x g = chk2 f g := by
  unfold chk2
  rw [chk_iff.2 vx, chk_iff.2 vf, e]

end Go.Proofs.Ytlaandbaaepamaa
