
/-
  Plain mathematics of folds over parts of a time: max-plus convolution, closures.
-/
import Derived.Test.YtlaandbaaepamaaConvP
namespace Go.Proofs.Ytlaandbaaepamaa
set_option linter.all false

/-- D's values 0 to n, put together by b from the left. -/
def fo (b : Int → Int → Int) (D : Nat → Int) : Nat → Int
  | 0 => D 0
  | n + 1 => b (fo b D n) (D (n + 1))
theorem fo_congr {b : Int → Int → Int} {D D' : Nat → Int} {n : Nat} (h : ∀ i, i ≤ n → D i = D' i) : fo b D n = fo b D' n := by
  induction n with
  | zero => exact h 0 (Nat.le_refl _)
  | succ n ih => simp only [fo]; rw [ih (fun i hi => h i (by omega)), h (n + 1) (Nat.le_refl _)]
theorem fo_min (D : Nat → Int) (n : Nat) : fo min D n = mn D n := by
  induction n with
  | zero => rfl
  | succ n ih => simp only [fo, mn, ih]
theorem fo_max (D : Nat → Int) (n : Nat) : fo max D n = - mn (fun i => - D i) n := by
  induction n with
  | zero => simp only [fo, mn]; omega
  | succ n ih => simp only [fo, mn, ih]; omega
/-- The same, started with x. -/
def foS (b : Int → Int → Int) (x : Int) (D : Nat → Int) : Nat → Int
  | 0 => x
  | n + 1 => b (foS b x D n) (D n)
theorem foS_succ {b : Int → Int → Int} {x : Int} {D : Nat → Int} (h : b x (D 0) = D 0) (n : Nat) : foS b x D (n + 1) = fo b D n := by
  induction n with
  | zero => exact h
  | succ n ih => rw [foS, ih]; rfl

/-- The best of l over a first part of each time and m over the rest. -/
def twV (b : Int → Int → Int) (f g : Nat → Int) (t : Nat) : Int := fo b (fun s => f s + g (t - s)) t
def twL (b : Int → Int → Int) (l m : List Int) : List Int := tab l.length (twV b (gt l) (gt m))
theorem length_twL (b : Int → Int → Int) (l m : List Int) : (twL b l m).length = l.length := length_tab _ _
theorem twL_min (l m : List Int) : twL min l m = cvL l m := tab_ext (fun _ _ => fo_min _ _)

/-- The max-plus convolution of f and g at t. -/
def duV (f g : Nat → Int) (t : Nat) : Int := - cvV (fun i => - f i) (fun i => - g i) t
theorem tw_max (f g : Nat → Int) (t : Nat) : twV max f g t = duV f g t := by
  unfold twV duV cvV
  rw [fo_max]
  congr 2
  funext i
  simp only
  omega
theorem du_ge {f g : Nat → Int} {t : Nat} (i j : Nat) (e : i + j = t) : f i + g j ≤ duV f g t := by
  have := cv_le (f := fun i => - f i) (g := fun i => - g i) i j e; unfold duV; omega
theorem du_at (f g : Nat → Int) (t : Nat) : ∃ i j, i + j = t ∧ duV f g t = f i + g j := by
  obtain ⟨i, j, e, h⟩ := cv_at (fun i => - f i) (fun i => - g i) t
  exact ⟨i, j, e, by unfold duV; omega⟩
theorem du_le {f g : Nat → Int} {t : Nat} {x : Int} (h : ∀ i j, i + j = t → f i + g j ≤ x) : duV f g t ≤ x := by
  obtain ⟨i, j, e, q⟩ := du_at f g t
  have := h i j e; omega
theorem du_eq {f g : Nat → Int} {t : Nat} {x : Int} (h1 : ∀ i j, i + j = t → f i + g j ≤ x) (h2 : ∃ i j, i + j = t ∧ x ≤ f i + g j) : duV f g t = x := by
  obtain ⟨i, j, e, h⟩ := h2
  have a := du_le h1
  have b := du_ge (f := f) (g := g) i j e
  omega
theorem du_congr {f g f' g' : Nat → Int} {t : Nat} (hf : ∀ i, i ≤ t → f i = f' i) (hg : ∀ i, i ≤ t → g i = g' i) : duV f g t = duV f' g' t := by
  unfold duV; rw [cv_congr (fun i hi => by rw [hf i hi]) (fun i hi => by rw [hg i hi])]
theorem du_comm (f g : Nat → Int) (t : Nat) : duV f g t = duV g f t := by unfold duV; rw [cv_comm]
theorem du_assoc (f g h : Nat → Int) (t : Nat) : duV (duV f g) h t = duV f (duV g h) t := by
  unfold duV
  rw [show (fun i => - - cvV (fun i => - f i) (fun i => - g i) i) = cvV (fun i => - f i) (fun i => - g i) by funext i; omega,
    show (fun i => - - cvV (fun i => - g i) (fun i => - h i) i) = cvV (fun i => - g i) (fun i => - h i) by funext i; omega, cv_assoc]

def duL (l m : List Int) : List Int := tab l.length (duV (gt l) (gt m))
theorem twL_max (l m : List Int) : twL max l m = duL l m := tab_ext (fun _ _ => tw_max _ _ _)
theorem length_duL (l m : List Int) : (duL l m).length = l.length := length_tab _ _
theorem gt_duL {l m : List Int} {t : Nat} (h : t < l.length) : gt (duL l m) t = duV (gt l) (gt m) t := gt_tab _ h
theorem duL_comm {l m : List Int} (e : l.length = m.length) : duL l m = duL m l := by
  unfold duL; rw [e]; exact tab_ext (fun i _ => du_comm _ _ _)
theorem duL_assoc {l m k : List Int} (e : l.length = m.length) : duL (duL l m) k = duL l (duL m k) := by
  refine list_ext (by simp [length_duL]) (fun t ht => ?_)
  simp only [length_duL] at ht
  rw [gt_duL (by rwa [length_duL]), gt_duL ht]
  rw [du_congr (f' := duV (gt l) (gt m)) (g' := gt k) (fun i hi => gt_duL (by omega)) (fun _ _ => rfl), du_assoc]
  exact du_congr (fun _ _ => rfl) (fun i hi => (gt_duL (by omega)).symm)
theorem Nd.dual {l m : List Int} {B C : Int} (h : Nd B l) (h' : Nd C m) (e : l.length = m.length) : Nd (B + C) (duL l m) := by
  refine ⟨by rw [length_duL]; exact h.pos, by rw [length_duL]; exact h.le, fun i hi => ?_, fun i hi => ?_, fun i hi => ?_⟩ <;> rw [length_duL] at hi
  · rw [gt_duL hi]
    have := du_ge (f := gt l) (g := gt m) (t := i) i 0 rfl
    have := h.lo i hi; have := h'.lo 0 h'.pos; omega
  · rw [gt_duL hi]; exact du_le (fun a b ab => by have := h.hi a (by omega); have := h'.hi b (by omega); omega)
  · rw [gt_duL hi, gt_duL (by omega)]
    exact du_le (fun a b ab => by
      have := du_ge (f := gt l) (g := gt m) (t := i + 1) a (b + 1) (by omega); have := h'.up b (by omega); omega)

/-- The values 0 to n of f's closure by b. -/
def an (b : Int → Int → Int) (f : Nat → Int) : Nat → List Int
  | 0 => [0]
  | n + 1 => an b f n ++ [fo b (fun s => f (s + 1) + gt (an b f n) (n - s)) n]
def anV (b : Int → Int → Int) (f : Nat → Int) (t : Nat) : Int := gt (an b f t) t
theorem length_an (b : Int → Int → Int) (f : Nat → Int) (n : Nat) : (an b f n).length = n + 1 := by
  induction n with
  | zero => rfl
  | succ n ih => simp [an, ih]
theorem gt_left {l m : List Int} {i : Nat} (h : i < l.length) : gt (l ++ m) i = gt l i := by unfold gt List.getD; rw [List.getElem?_append_left h]
theorem gt_end {l : List Int} {x : Int} {i : Nat} (h : i = l.length) : gt (l ++ [x]) i = x := by subst h; simp [gt, List.getD]
theorem gt_an {b : Int → Int → Int} {f : Nat → Int} {t n : Nat} (h : t ≤ n) : gt (an b f n) t = anV b f t := by
  induction n with
  | zero => rw [Nat.le_zero.1 h]; rfl
  | succ n ih =>
    by_cases e : t = n + 1
    · subst e; rfl
    · rw [an, gt_left (by rw [length_an]; omega)]; exact ih (by omega)
theorem an_zero (b : Int → Int → Int) (f : Nat → Int) : anV b f 0 = 0 := rfl
theorem an_succ (b : Int → Int → Int) (f : Nat → Int) (t : Nat) : anV b f (t + 1) = twV b (fun s => f (s + 1)) (anV b f) t := by
  unfold anV
  rw [an, gt_end (by rw [length_an])]
  exact fo_congr (fun i hi => by simp only; rw [gt_an (by omega)]; rfl)
def anL (b : Int → Int → Int) (l : List Int) : List Int := tab l.length (anV b (gt l))
theorem length_anL (b : Int → Int → Int) (l : List Int) : (anL b l).length = l.length := length_tab _ _
theorem gt_anL {b : Int → Int → Int} {l : List Int} {t : Nat} (h : t < l.length) : gt (anL b l) t = anV b (gt l) t := gt_tab _ h
theorem an_neg (f : Nat → Int) (n : Nat) : ∀ t, t ≤ n → anV max f t = - anV min (fun i => - f i) t := by
  induction n with
  | zero => intro t ht; rw [Nat.le_zero.1 ht]; rfl
  | succ n ih =>
    intro t ht
    cases t with
    | zero => rfl
    | succ t =>
      rw [an_succ, an_succ, twV, twV, fo_max, ← fo_min]
      congr 1
      exact fo_congr (fun i hi => by rw [ih (t - i) (by omega)]; omega)

/-- The closure: 0 at 0; at t the least over a first part of it, and the closure of the rest. -/
def clV (f : Nat → Int) : Nat → Int := anV min f
def clL (l : List Int) : List Int := anL min l
theorem length_clL (l : List Int) : (clL l).length = l.length := length_anL _ _
theorem gt_clL {l : List Int} {t : Nat} (h : t < l.length) : gt (clL l) t = clV (gt l) t := gt_anL h
theorem cl_zero (f : Nat → Int) : clV f 0 = 0 := rfl
theorem cl_succ (f : Nat → Int) (t : Nat) : clV f (t + 1) = cvV (fun s => f (s + 1)) (clV f) t := by
  unfold clV; rw [an_succ, twV, fo_min]; rfl
theorem cl_le (f : Nat → Int) {t : Nat} (i j : Nat) (e : i + 1 + j = t) : clV f t ≤ f (i + 1) + clV f j := by
  obtain ⟨s, rfl⟩ : ∃ s, t = s + 1 := ⟨i + j, by omega⟩
  rw [cl_succ]; exact cv_le i j (by omega)
theorem cl_at (f : Nat → Int) {t : Nat} (h : 0 < t) : ∃ i j, i + 1 + j = t ∧ clV f t = f (i + 1) + clV f j := by
  obtain ⟨s, rfl⟩ : ∃ s, t = s + 1 := ⟨t - 1, by omega⟩
  obtain ⟨i, j, e, q⟩ := cv_at (fun s => f (s + 1)) (clV f) s
  exact ⟨i, j, by omega, by rw [cl_succ]; exact q⟩
theorem cl_below (f : Nat → Int) {t : Nat} (h : 0 < t) : clV f t ≤ f t := by
  obtain ⟨s, rfl⟩ : ∃ s, t = s + 1 := ⟨t - 1, by omega⟩
  have := cl_le f s 0 (t := s + 1) (by omega); rw [cl_zero] at this; omega
theorem cl_sub (f : Nat → Int) (n : Nat) : ∀ s, s ≤ n → ∀ t, clV f (s + t) ≤ clV f s + clV f t := by
  induction n with
  | zero => intro s hs t; rw [Nat.le_zero.1 hs, cl_zero, Nat.zero_add]; omega
  | succ n ih =>
    intro s hs t
    cases s with
    | zero => rw [cl_zero, Nat.zero_add]; omega
    | succ s =>
      obtain ⟨i, j, e, q⟩ := cl_at f (t := s + 1) (by omega)
      have h1 := cl_le f i (j + t) (t := s + 1 + t) (by omega)
      have h2 := ih j (by omega) t
      omega
/-- A curve that is 0 or less at 0, subadditive, and at most f behind 0, is at most f's closure. -/
theorem cl_most {f g : Nat → Int} {n : Nat} (g0 : g 0 ≤ 0) (gs : ∀ s t, s + t < n → g (s + t) ≤ g s + g t) (gf : ∀ t, 0 < t → t < n → g t ≤ f t) : ∀ k t, t ≤ k → t < n → g t ≤ clV f t := by
  intro k
  induction k with
  | zero => intro t ht _; rw [Nat.le_zero.1 ht, cl_zero]; exact g0
  | succ k ih =>
    intro t ht hn
    cases t with
    | zero => rw [cl_zero]; exact g0
    | succ t =>
      obtain ⟨i, j, e, q⟩ := cl_at f (t := t + 1) (by omega)
      have h1 := gs (i + 1) j (by omega)
      rw [e] at h1
      have h2 := gf (i + 1) (by omega) (by omega)
      have h3 := ih j (by omega) (by omega)
      omega
theorem cl_nonneg {f : Nat → Int} {n : Nat} (h : ∀ t, t < n → 0 ≤ f t) {t : Nat} (ht : t < n) : 0 ≤ clV f t :=
  cl_most (g := fun _ => 0) (n := n) (Int.le_refl _) (fun _ _ _ => by omega) (fun t _ h2 => h t h2) t t (Nat.le_refl _) ht
theorem cl_up {f : Nat → Int} {n : Nat} (h0 : ∀ t, t < n → 0 ≤ f t) (hu : ∀ t, t + 1 < n → f t ≤ f (t + 1)) : ∀ k t, t ≤ k → t + 1 < n → clV f t ≤ clV f (t + 1) := by
  intro k
  induction k with
  | zero => intro t ht hn; rw [Nat.le_zero.1 ht]; exact cl_nonneg h0 (by omega)
  | succ k ih =>
    intro t ht hn
    cases t with
    | zero => exact cl_nonneg h0 (by omega)
    | succ t =>
      obtain ⟨i, j, e, q⟩ := cl_at f (t := t + 1 + 1) (by omega)
      cases j with
      | zero =>
        rw [cl_zero] at q
        obtain rfl : i = t + 1 := by omega
        have h1 := cl_below f (t := t + 1) (by omega)
        have h2 := hu (t + 1) (by omega)
        omega
      | succ j =>
        have h1 := ih j (by omega) (by omega)
        have h2 := cl_le f i j (t := t + 1) (by omega)
        omega

theorem Cv.clos {l : List Int} (h : Cv l) : Cv (clL l) := by
  refine Cv.tab h.pos h.le (fun t ht => cl_nonneg h.lo ht) (fun t ht => ?_) (fun t ht => cl_up h.lo h.up t t (Nat.le_refl _) ht)
  cases t with
  | zero => rw [show anV min (gt l) 0 = 0 from rfl]; decide
  | succ t =>
    have := cl_below (gt l) (t := t + 1) (by omega)
    have := h.hi (t + 1) ht
    unfold clV at *
    omega

/-- Subadditive: 0 at 0, and no time is more than two parts of it. -/
structure Sb (l : List Int) : Prop where
  zero : gt l 0 ≤ 0
  two : ∀ s t, s + t < l.length → gt l (s + t) ≤ gt l s + gt l t
theorem Sb.is {l : List Int} (v : Cv l) (h : Sb l) : l = clL l := by
  refine list_ext (length_clL l).symm (fun t ht => ?_)
  rw [gt_clL ht]
  have h1 := cl_most h.zero h.two (f := gt l) (fun _ _ _ => Int.le_refl _) t t (Nat.le_refl _) ht
  cases t with
  | zero => have := v.lo 0 v.pos; have := h.zero; rw [cl_zero]; omega
  | succ t => have := cl_below (gt l) (t := t + 1) (by omega); omega
theorem Sb.clos (l : List Int) : Sb (clL l) := by
  have z : gt (clL l) 0 ≤ 0 := by
    by_cases e : 0 < l.length
    · rw [gt_clL e, cl_zero]; omega
    · have : clL l = [] := List.eq_nil_of_length_eq_zero (by rw [length_clL]; omega)
      rw [this]; decide
  refine ⟨z, fun s t h => ?_⟩
  rw [length_clL] at h
  rw [gt_clL h, gt_clL (by omega), gt_clL (by omega)]
  exact cl_sub _ s s (Nat.le_refl _) t
theorem sb_iff {l : List Int} (v : Cv l) : l = clL l ↔ Sb l := ⟨fun h => by rw [h]; exact Sb.clos l, fun h => h.is v⟩

/-- The superadditive closure. -/
def suV (f : Nat → Int) : Nat → Int := anV max f
def suL (l : List Int) : List Int := anL max l
theorem length_suL (l : List Int) : (suL l).length = l.length := length_anL _ _
theorem gt_suL {l : List Int} {t : Nat} (h : t < l.length) : gt (suL l) t = suV (gt l) t := gt_anL h
theorem su_neg (f : Nat → Int) (t : Nat) : suV f t = - clV (fun i => - f i) t := an_neg f t t (Nat.le_refl _)
theorem su_zero (f : Nat → Int) : suV f 0 = 0 := rfl
theorem su_above (f : Nat → Int) {t : Nat} (h : 0 < t) : f t ≤ suV f t := by
  have := cl_below (fun i => - f i) h; rw [su_neg]; omega
theorem su_super (f : Nat → Int) (s t : Nat) : suV f s + suV f t ≤ suV f (s + t) := by
  have := cl_sub (fun i => - f i) s s (Nat.le_refl _) t; rw [su_neg, su_neg, su_neg]; omega
theorem su_least {f g : Nat → Int} {n : Nat} (g0 : 0 ≤ g 0) (gs : ∀ s t, s + t < n → g s + g t ≤ g (s + t)) (gf : ∀ t, 0 < t → t < n → f t ≤ g t) {t : Nat} (ht : t < n) : suV f t ≤ g t := by
  have := cl_most (f := fun i => - f i) (g := fun i => - g i) (n := n) (by omega) (fun s t h => by have := gs s t h; omega) (fun t h1 h2 => by have := gf t h1 h2; omega) t t (Nat.le_refl _) ht
  rw [su_neg]; omega
theorem Nd.super {l : List Int} (h : Cv l) : Nd 60000000 (suL l) := by
  have hi : ∀ t, t < l.length → suV (gt l) t ≤ (t : Int) * 1000000 := fun t ht =>
    su_least (g := fun t => (t : Int) * 1000000) (n := l.length) (by decide) (fun s t _ => by omega) (fun t h1 h2 => by have := h.hi t h2; omega) ht
  have lo : ∀ t, t < l.length → 0 ≤ suV (gt l) t := fun t ht => by
    cases t with
    | zero => rw [su_zero]; omega
    | succ t => have := su_above (gt l) (t := t + 1) (by omega); have := h.lo (t + 1) ht; omega
  refine ⟨by rw [length_suL]; exact h.pos, by rw [length_suL]; exact h.le, fun t ht => ?_, fun t ht => ?_, fun t ht => ?_⟩ <;> rw [length_suL] at ht
  · rw [gt_suL ht]; exact lo t ht
  · rw [gt_suL ht]; have := hi t ht; have := h.le; omega
  · rw [gt_suL ht, gt_suL (by omega)]
    have := su_super (gt l) t 1; have := lo 1 (by omega); omega

end Go.Proofs.Ytlaandbaaepamaa
