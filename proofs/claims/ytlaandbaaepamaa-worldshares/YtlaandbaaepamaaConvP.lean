
/-
  Plain mathematics of min-plus convolution and deconvolution.
-/
import Derived.Test.YtlaandbaaepamaaPlain
namespace Go.Proofs.Ytlaandbaaepamaa
set_option linter.all false

/-- The least of D's values 0 to n. -/
def mn (D : Nat → Int) : Nat → Int
  | 0 => D 0
  | n + 1 => min (mn D n) (D (n + 1))

theorem le_mn (D : Nat → Int) (x : Int) (n : Nat) : x ≤ mn D n ↔ ∀ i, i ≤ n → x ≤ D i := by
  induction n with
  | zero => exact ⟨fun h i hi => by rw [Nat.le_zero.1 hi]; exact h, fun h => h 0 (Nat.le_refl _)⟩
  | succ n ih =>
    simp only [mn]
    constructor
    · intro h i hi
      by_cases e : i = n + 1
      · subst e; omega
      · exact ih.1 (by omega) i (by omega)
    · intro h
      have := ih.2 (fun i hi => h i (by omega)); have := h (n + 1) (Nat.le_refl _); omega
theorem mn_at (D : Nat → Int) (n : Nat) : ∃ i, i ≤ n ∧ mn D n = D i := by
  induction n with
  | zero => exact ⟨0, Nat.le_refl _, rfl⟩
  | succ n ih =>
    obtain ⟨i, hi, e⟩ := ih
    simp only [mn]
    by_cases h : mn D n ≤ D (n + 1)
    · exact ⟨i, by omega, by rw [← e]; omega⟩
    · exact ⟨n + 1, Nat.le_refl _, by omega⟩

/-- The convolution of f and g at t. -/
def cvV (f g : Nat → Int) (t : Nat) : Int := mn (fun s => f s + g (t - s)) t

theorem le_cv {f g : Nat → Int} {t : Nat} {x : Int} : x ≤ cvV f g t ↔ ∀ i j, i + j = t → x ≤ f i + g j := by
  unfold cvV
  rw [le_mn]
  constructor
  · intro h i j e; have := h i (by omega); rwa [show t - i = j by omega] at this
  · intro h i hi; exact h i (t - i) (by omega)
theorem cv_le {f g : Nat → Int} {t : Nat} (i j : Nat) (e : i + j = t) : cvV f g t ≤ f i + g j := le_cv.1 (Int.le_refl _) i j e
theorem cv_at (f g : Nat → Int) (t : Nat) : ∃ i j, i + j = t ∧ cvV f g t = f i + g j := by
  obtain ⟨i, hi, e⟩ := mn_at (fun s => f s + g (t - s)) t
  exact ⟨i, t - i, by omega, e⟩
theorem cv_eq {f g : Nat → Int} {t : Nat} {x : Int} (h1 : ∀ i j, i + j = t → x ≤ f i + g j) (h2 : ∃ i j, i + j = t ∧ f i + g j ≤ x) : cvV f g t = x := by
  obtain ⟨i, j, e, h⟩ := h2
  have a := le_cv.2 h1
  have b := cv_le (f := f) (g := g) i j e
  omega
theorem cv_congr {f g f' g' : Nat → Int} {t : Nat} (hf : ∀ i, i ≤ t → f i = f' i) (hg : ∀ i, i ≤ t → g i = g' i) : cvV f g t = cvV f' g' t := by
  obtain ⟨i, j, e, h⟩ := cv_at f' g' t
  refine cv_eq (fun a b ab => ?_) ⟨i, j, e, ?_⟩
  · rw [hf a (by omega), hg b (by omega)]; exact cv_le a b ab
  · rw [h, hf i (by omega), hg j (by omega)]; exact Int.le_refl _
theorem cv_comm (f g : Nat → Int) (t : Nat) : cvV f g t = cvV g f t := by
  obtain ⟨i, j, e, h⟩ := cv_at g f t
  exact cv_eq (fun a b ab => by have := cv_le (f := g) (g := f) (t := t) b a (by omega); omega) ⟨j, i, by omega, by omega⟩
theorem cv_assoc (f g h : Nat → Int) (t : Nat) : cvV (cvV f g) h t = cvV f (cvV g h) t := by
  obtain ⟨i, j, e, q⟩ := cv_at f (cvV g h) t
  obtain ⟨k, l, e', q'⟩ := cv_at g h j
  refine cv_eq (fun a b ab => ?_) ⟨i + k, l, by omega, ?_⟩
  · obtain ⟨c, d, cd, qc⟩ := cv_at f g a
    have h1 := cv_le (f := f) (g := cvV g h) (t := t) c (d + b) (by omega)
    have h2 := cv_le (f := g) (g := h) d b rfl
    omega
  · have := cv_le (f := f) (g := g) i k rfl
    omega
theorem cv_mono {f g f' g' : Nat → Int} {t : Nat} (hf : ∀ i, i ≤ t → f i ≤ f' i) (hg : ∀ i, i ≤ t → g i ≤ g' i) : cvV f g t ≤ cvV f' g' t :=
  le_cv.2 (fun i j e => by have := cv_le (f := f) (g := g) i j e; have := hf i (by omega); have := hg j (by omega); omega)
/-- What never falls has a convolution that never falls. -/
theorem cv_up {f g : Nat → Int} {t : Nat} (hf : ∀ i, i ≤ t → f i ≤ f (i + 1)) (hg : ∀ i, i ≤ t → g i ≤ g (i + 1)) : cvV f g t ≤ cvV f g (t + 1) :=
  le_cv.2 (fun i j e => by
    cases j with
    | zero =>
      obtain rfl : i = t + 1 := by omega
      have := cv_le (f := f) (g := g) (t := t) t 0 (by omega); have := hf t (Nat.le_refl _); omega
    | succ j =>
      have := cv_le (f := f) (g := g) (t := t) i j (by omega); have := hg j (by omega); omega)
theorem cv_nonneg {f g : Nat → Int} {t : Nat} (hf : ∀ i, i ≤ t → 0 ≤ f i) (hg : ∀ i, i ≤ t → 0 ≤ g i) : 0 ≤ cvV f g t :=
  le_cv.2 (fun i j e => by have := hf i (by omega); have := hg j (by omega); omega)
theorem cv_bound {f g : Nat → Int} {t : Nat} {B C : Int} (hf : ∀ i, i ≤ t → f i ≤ B) (hg : ∀ i, i ≤ t → g i ≤ C) : cvV f g t ≤ B + C := by
  have := cv_le (f := f) (g := g) (t := t) 0 t (by omega); have := hf 0 (by omega); have := hg t (Nat.le_refl _); omega

/-- The convolution as a list. -/
def cvL (l m : List Int) : List Int := tab l.length (cvV (gt l) (gt m))
theorem length_cvL (l m : List Int) : (cvL l m).length = l.length := length_tab _ _
theorem gt_cvL {l m : List Int} {t : Nat} (h : t < l.length) : gt (cvL l m) t = cvV (gt l) (gt m) t := gt_tab _ h

/-- Values from 0 to B that never fall, at 1 to 61 times. -/
structure Nd (B : Int) (l : List Int) : Prop where
  pos : 0 < l.length
  le : l.length ≤ 61
  lo : ∀ i, i < l.length → 0 ≤ gt l i
  hi : ∀ i, i < l.length → gt l i ≤ B
  up : ∀ i, i + 1 < l.length → gt l i ≤ gt l (i + 1)
theorem Cv.nd {l : List Int} (h : Cv l) : Nd 1000000 l := ⟨h.pos, h.le, h.lo, h.hi, h.up⟩
theorem Nd.cv {l : List Int} {B : Int} (h : Nd B l) (hb : bigB l = false) : Cv l := ⟨h.pos, h.le, h.lo, bigB_no.1 hb, h.up⟩
theorem Nd.mono {l : List Int} {B : Int} (h : Nd B l) {i j : Nat} (hij : i ≤ j) (hj : j < l.length) : gt l i ≤ gt l j := by
  induction j with
  | zero => rw [Nat.le_zero.1 hij]; exact Int.le_refl _
  | succ k ih =>
    by_cases e : i = k + 1
    · rw [e]; exact Int.le_refl _
    · exact Int.le_trans (ih (by omega) (by omega)) (h.up k hj)
theorem Nd.wide {l : List Int} {B C : Int} (h : Nd B l) (hc : B ≤ C) : Nd C l := ⟨h.pos, h.le, h.lo, fun i hi => Int.le_trans (h.hi i hi) hc, h.up⟩
/-- Nothing that never falls has a value beyond its last. -/
theorem Nd.big {l : List Int} {B : Int} (h : Nd B l) : bigB l = true ↔ 1000000 < gt l (l.length - 1) := by
  have hp := h.pos
  rw [bigB_iff]
  constructor
  · rintro ⟨i, hi, hb⟩; have := h.mono (i := i) (j := l.length - 1) (by omega) (by omega); omega
  · intro hb; exact ⟨l.length - 1, by omega, hb⟩
theorem Nd.conv {l m : List Int} {B C : Int} (h : Nd B l) (h' : Nd C m) (e : l.length = m.length) : Nd (B + C) (cvL l m) := by
  refine ⟨by rw [length_cvL]; exact h.pos, by rw [length_cvL]; exact h.le, fun i hi => ?_, fun i hi => ?_, fun i hi => ?_⟩ <;> rw [length_cvL] at hi
  · rw [gt_cvL hi]; exact cv_nonneg (fun j hj => h.lo j (by omega)) (fun j hj => h'.lo j (by omega))
  · rw [gt_cvL hi]; exact cv_bound (fun j hj => h.hi j (by omega)) (fun j hj => h'.hi j (by omega))
  · rw [gt_cvL hi, gt_cvL (by omega)]; exact cv_up (fun j hj => h.up j (by omega)) (fun j hj => h'.up j (by omega))

theorem cvL_comm {l m : List Int} (e : l.length = m.length) : cvL l m = cvL m l := by
  unfold cvL; rw [e]; exact tab_ext (fun i _ => cv_comm _ _ _)
theorem cvL_assoc {l m k : List Int} (e : l.length = m.length) : cvL (cvL l m) k = cvL l (cvL m k) := by
  refine list_ext (by simp [length_cvL]) (fun t ht => ?_)
  simp only [length_cvL] at ht
  rw [gt_cvL (by rwa [length_cvL]), gt_cvL ht]
  rw [cv_congr (f' := cvV (gt l) (gt m)) (g' := gt k) (fun i hi => gt_cvL (by omega)) (fun _ _ => rfl), cv_assoc]
  exact cv_congr (fun _ _ => rfl) (fun i hi => (gt_cvL (by omega)).symm)

/-- k + 1 copies of l, one after the other. -/
def pw (l : List Int) : Nat → List Int
  | 0 => l
  | k + 1 => cvL (pw l k) l
theorem length_pw (l : List Int) (k : Nat) : (pw l k).length = l.length := by
  induction k with
  | zero => rfl
  | succ k ih => simp only [pw, length_cvL, ih]
theorem pw_add (l : List Int) (a b : Nat) : cvL (pw l a) (pw l b) = pw l (a + b + 1) := by
  induction b with
  | zero => rfl
  | succ b ih =>
    rw [show a + (b + 1) + 1 = (a + b + 1) + 1 by omega]
    simp only [pw]
    rw [← cvL_assoc (by rw [length_pw, length_pw]), ih]
    rfl
theorem Nd.pw {l : List Int} {B : Int} (h : Nd B l) (k : Nat) : Nd (((k : Int) + 1) * B) (pw l k) := by
  induction k with
  | zero => simpa [Proofs.Ytlaandbaaepamaa.pw] using h
  | succ k ih =>
    have := ih.conv h (length_pw l k)
    rw [show ((k : Int) + 1) * B + B = (((k + 1 : Nat) : Int) + 1) * B by rw [show (((k + 1 : Nat) : Int) + 1) = ((k : Int) + 1) + 1 by omega, Int.add_mul ((k : Int) + 1) 1 B, Int.one_mul]] at this
    exact this
theorem nd_pw {l : List Int} (h : Cv l) {k : Nat} (hk : k < 60) : Nd 60000000 (pw l k) :=
  (h.nd.pw k).wide (by have : ((k : Int) + 1) * 1000000 ≤ 60 * 1000000 := Int.mul_le_mul_of_nonneg_right (by omega) (by decide); omega)

/-- The deconvolution of l by m at t. -/
def dcV (l m : List Int) (t : Nat) : Int := mx (fun u => gt l (t + u) - gt m u) (l.length - t)
def dcL (l m : List Int) : List Int := tab l.length (dcV l m)
theorem length_dcL (l m : List Int) : (dcL l m).length = l.length := length_tab _ _
theorem gt_dcL {l m : List Int} {t : Nat} (h : t < l.length) : gt (dcL l m) t = dcV l m t := gt_tab _ h

theorem mx0 (D : Nat → Int) (n : Nat) : 0 ≤ mx D n := by
  induction n with
  | zero => exact Int.le_refl _
  | succ n ih => simp only [mx]; omega
theorem mx_iff (D : Nat → Int) (B : Int) (hB : 0 ≤ B) (n : Nat) : mx D n ≤ B ↔ ∀ i, i < n → D i ≤ B := by
  induction n with
  | zero => exact ⟨fun _ i hi => absurd hi (by omega), fun _ => hB⟩
  | succ n ih =>
    simp only [mx]
    constructor
    · intro h i hi
      by_cases e : i = n
      · subst e; omega
      · exact ih.1 (by omega) i (by omega)
    · intro h
      have := ih.2 (fun i hi => h i (by omega)); have := h n (by omega); omega
theorem dc0 (l m : List Int) (t : Nat) : 0 ≤ dcV l m t := mx0 _ _
theorem dc_iff {l m : List Int} {t : Nat} {B : Int} (hB : 0 ≤ B) : dcV l m t ≤ B ↔ ∀ i j, i < l.length → i = t + j → gt l i - gt m j ≤ B := by
  unfold dcV
  rw [mx_iff _ _ hB]
  constructor
  · rintro h i j hi rfl; exact h j (by omega)
  · intro h j hj; exact h (t + j) j (by omega) rfl
theorem dc_ge {l m : List Int} {t : Nat} (i j : Nat) (hi : i < l.length) (e : i = t + j) : gt l i - gt m j ≤ dcV l m t := (dc_iff (dc0 l m t)).1 (Int.le_refl _) i j hi e
theorem dc_eq {l m : List Int} {t : Nat} {x : Int} (h0 : 0 ≤ x) (h1 : ∀ i j, i < l.length → i = t + j → gt l i - gt m j ≤ x) (h2 : x = 0 ∨ ∃ i j, i < l.length ∧ i = t + j ∧ x ≤ gt l i - gt m j) : dcV l m t = x := by
  have a := (dc_iff h0).2 h1
  have b := dc0 l m t
  rcases h2 with h | ⟨i, j, hi, e, h⟩
  · omega
  · have := dc_ge (l := l) (m := m) i j hi e; omega

theorem Cv.deconv {l m : List Int} (h : Cv l) (h' : Cv m) (e : l.length = m.length) : Cv (dcL l m) := by
  refine Cv.tab h.pos h.le (fun t _ => dc0 _ _ _) (fun t ht => ?_) (fun t ht => ?_)
  · refine (dc_iff (by decide)).2 (fun i j hi ej => ?_)
    have := h.hi i hi; have := h'.lo j (by omega); omega
  · refine (dc_iff (dc0 _ _ _)).2 (fun i j hi ej => ?_)
    by_cases hl : i + 1 < l.length
    · have := dc_ge (l := l) (m := m) (t := t + 1) (i + 1) j hl (by omega); have := h.up i hl; omega
    · cases j with
      | zero => omega
      | succ j =>
        have := dc_ge (l := l) (m := m) (t := t + 1) i j hi (by omega); have := h'.up j (by omega); omega

end Go.Proofs.Ytlaandbaaepamaa
