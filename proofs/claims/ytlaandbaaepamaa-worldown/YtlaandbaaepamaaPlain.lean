
/-
  Plain mathematics of curves as lists: values by time, tables, what Check says, order.
-/
import Derived.Test.YtlaandbaaepamaaWords
namespace Go.Proofs.Ytlaandbaaepamaa
set_option linter.all false

/-- The value at time i. -/
def gt (l : List Int) (i : Nat) : Int := l.getD i 0
/-- A list out of its values. -/
def tab (n : Nat) (f : Nat → Int) : List Int := (List.range n).map f

theorem gt_of_get {l : List Int} {i : Nat} {x : Int} (h : l[i]? = some x) : gt l i = x := by simp [gt, List.getD, h]
theorem get_of_lt {l : List Int} {i : Nat} (h : i < l.length) : l[i]? = some (gt l i) := by simp [gt, List.getD, List.getElem?_eq_getElem h]
theorem length_tab (n : Nat) (f : Nat → Int) : (tab n f).length = n := by simp [tab]
theorem get_tab {n i : Nat} (f : Nat → Int) (h : i < n) : (tab n f)[i]? = some (f i) := by simp [tab, h]
theorem gt_tab {n i : Nat} (f : Nat → Int) (h : i < n) : gt (tab n f) i = f i := gt_of_get (get_tab f h)
theorem list_ext {l m : List Int} (hl : l.length = m.length) (h : ∀ i, i < l.length → gt l i = gt m i) : l = m := by
  apply List.ext_getElem? 
  intro i
  by_cases hi : i < l.length
  · rw [get_of_lt hi, get_of_lt (by omega), h i hi]
  · rw [List.getElem?_eq_none (by omega), List.getElem?_eq_none (by omega)]
theorem tab_ext {n : Nat} {f g : Nat → Int} (h : ∀ i, i < n → f i = g i) : tab n f = tab n g :=
  list_ext (by simp [length_tab]) (fun i hi => by rw [length_tab] at hi; rw [gt_tab f hi, gt_tab g hi, h i hi])
theorem eq_tab {l : List Int} {n : Nat} {f : Nat → Int} (hl : l.length = n) (h : ∀ i, i < n → gt l i = f i) : l = tab n f :=
  list_ext (by rw [hl, length_tab]) (fun i hi => by rw [gt_tab f (by omega), h i (by omega)])
theorem tab_self (l : List Int) : l = tab l.length (gt l) := eq_tab rfl (fun _ _ => rfl)
theorem gt_take {l : List Int} {n i : Nat} (h : i < n) : gt (l.take n) i = gt l i := by simp [gt, List.getD, h]
theorem tab_succ (n : Nat) (f : Nat → Int) : tab (n + 1) f = tab n f ++ [f n] := by simp [tab, List.range_succ]
theorem tab_zero (f : Nat → Int) : tab 0 f = [] := by simp [tab]
theorem take_tab {n k : Nat} {f : Nat → Int} (h : k ≤ n) : (tab n f).take k = tab k f := by
  refine eq_tab (by simp [length_tab]; omega) (fun i hi => ?_)
  rw [gt_take hi, gt_tab f (by omega)]

/-- A curve. -/
structure Cv (l : List Int) : Prop where
  pos : 0 < l.length
  le : l.length ≤ 61
  lo : ∀ i, i < l.length → 0 ≤ gt l i
  hi : ∀ i, i < l.length → gt l i ≤ 1000000
  up : ∀ i, i + 1 < l.length → gt l i ≤ gt l (i + 1)

theorem Cv.mono {l : List Int} (h : Cv l) {i j : Nat} (hij : i ≤ j) (hj : j < l.length) : gt l i ≤ gt l j := by
  induction j with
  | zero => rw [Nat.le_zero.1 hij]; exact Int.le_refl _
  | succ k ih =>
    by_cases e : i = k + 1
    · rw [e]; exact Int.le_refl _
    · exact Int.le_trans (ih (by omega) (by omega)) (h.up k hj)

theorem chkGo_iff (l : List Int) (b : Int) : chkGo b l = 0 ↔ (∀ i, i < l.length → 0 ≤ gt l i ∧ gt l i ≤ 1000000) ∧ (0 < l.length → b ≤ gt l 0) ∧ ∀ i, i + 1 < l.length → gt l i ≤ gt l (i + 1) := by
  induction l generalizing b with
  | nil => simp [chkGo]
  | cons v vs ih =>
    have g0 : gt (v :: vs) 0 = v := by simp [gt]
    have gs : ∀ i, gt (v :: vs) (i + 1) = gt vs i := fun i => by simp [gt]
    unfold chkGo
    by_cases h1 : v < 0
    · rw [if_pos h1]; constructor
      · intro h; omega
      · rintro ⟨h, _⟩; have := h 0 (by simp); rw [g0] at this; omega
    rw [if_neg h1]
    by_cases h2 : 1000000 < v
    · rw [if_pos h2]; constructor
      · intro h; omega
      · rintro ⟨h, _⟩; have := h 0 (by simp); rw [g0] at this; omega
    rw [if_neg h2]
    by_cases h3 : v < b
    · rw [if_pos h3]; constructor
      · intro h; omega
      · rintro ⟨_, h, _⟩; have := h (by simp); rw [g0] at this; omega
    rw [if_neg h3, ih]
    constructor
    · rintro ⟨a, b', c⟩
      refine ⟨fun i hi => ?_, fun _ => by rw [g0]; omega, fun i hi => ?_⟩
      · cases i with
        | zero => rw [g0]; omega
        | succ i => rw [gs]; exact a i (by simpa using hi)
      · cases i with
        | zero => rw [g0, gs]; exact b' (by simpa using hi)
        | succ i => rw [gs, gs]; exact c i (by simpa using hi)
    · rintro ⟨a, _, c⟩
      refine ⟨fun i hi => ?_, fun hp => ?_, fun i hi => ?_⟩
      · have := a (i + 1) (by simpa using hi); rwa [gs] at this
      · have := c 0 (by simpa using hp); rwa [g0, gs] at this
      · have := c (i + 1) (by simpa using hi); rwa [gs, gs] at this

theorem chk_iff {l : List Int} : chk l = 0 ↔ Cv l := by
  unfold chk
  by_cases h1 : l.length = 0
  · rw [if_pos h1]; exact ⟨fun h => by omega, fun h => by have := h.pos; omega⟩
  rw [if_neg h1]
  by_cases h2 : 61 < l.length
  · rw [if_pos h2]; exact ⟨fun h => by omega, fun h => by have := h.le; omega⟩
  rw [if_neg h2, chkGo_iff]
  constructor
  · rintro ⟨a, _, c⟩; exact ⟨by omega, by omega, fun i hi => (a i hi).1, fun i hi => (a i hi).2, c⟩
  · intro h; exact ⟨fun i hi => ⟨h.lo i hi, h.hi i hi⟩, fun hp => h.lo 0 hp, h.up⟩

theorem cv_of {l : List Int} (h : chk l = 0) : Cv l := chk_iff.1 h

theorem Cv.tab {n : Nat} {f : Nat → Int} (h0 : 0 < n) (h1 : n ≤ 61) (lo : ∀ i, i < n → 0 ≤ f i) (hi : ∀ i, i < n → f i ≤ 1000000) (up : ∀ i, i + 1 < n → f i ≤ f (i + 1)) : Cv (tab n f) := by
  refine ⟨by rwa [length_tab], by rwa [length_tab], fun i h => ?_, fun i h => ?_, fun i h => ?_⟩
  · rw [length_tab] at h; rw [gt_tab f h]; exact lo i h
  · rw [length_tab] at h; rw [gt_tab f h]; exact hi i h
  · rw [length_tab] at h; rw [gt_tab f h, gt_tab f (by omega)]; exact up i h

theorem Cv.take {l : List Int} (h : Cv l) {n : Nat} (hn : 0 < n) : Cv (l.take n) := by
  have hp := h.pos; have hl := h.le
  refine ⟨by simp; omega, by simp; omega, fun i hi => ?_, fun i hi => ?_, fun i hi => ?_⟩ <;> simp at hi
  · rw [gt_take (by omega)]; exact h.lo i (by omega)
  · rw [gt_take (by omega)]; exact h.hi i (by omega)
  · rw [gt_take (by omega), gt_take (by omega)]; exact h.up i (by omega)

theorem chk2_iff {l m : List Int} : chk2 l m = 0 ↔ Cv l ∧ Cv m ∧ l.length = m.length := by
  unfold chk2
  rw [← chk_iff, ← chk_iff]
  by_cases h1 : chk l = 0 <;> by_cases h2 : chk m = 0 <;> by_cases h3 : l.length = m.length <;> simp [h1, h2, h3]

theorem leB_iff : ∀ {l m : List Int}, l.length = m.length → (leB l m = true ↔ ∀ i, i < l.length → gt l i ≤ gt m i)
  | [], [], _ => by simp [leB]
  | a :: l, b :: m, h => by
    have := leB_iff (l := l) (m := m) (by simpa using h)
    simp only [leB, Bool.and_eq_true, decide_eq_true_eq, this]
    constructor
    · rintro ⟨h1, h2⟩ i hi
      cases i with
      | zero => simpa [gt] using h1
      | succ i => simpa [gt] using h2 i (by simpa using hi)
    · intro h
      exact ⟨by simpa [gt] using h 0 (by simp), fun i hi => by simpa [gt] using h (i + 1) (by simpa using hi)⟩

/-- Is a value beyond what a curve may have? -/
def bigB (L : List Int) : Bool := L.any (fun x => decide (1000000 < x))
/-- The error, and the list, of a curve that is answered. -/
def fitE (L : List Int) : Int := if bigB L = true then 2 else 0
def fitL (L : List Int) : List Int := if bigB L = true then [] else L

theorem bigB_iff {L : List Int} : bigB L = true ↔ ∃ i, i < L.length ∧ 1000000 < gt L i := by
  unfold bigB
  rw [List.any_eq_true]
  constructor
  · rintro ⟨x, hx, h⟩
    obtain ⟨i, hi, rfl⟩ := List.getElem_of_mem hx
    exact ⟨i, hi, by rw [gt_of_get (List.getElem?_eq_getElem hi)]; exact of_decide_eq_true h⟩
  · rintro ⟨i, hi, h⟩
    refine ⟨gt L i, ?_, decide_eq_true h⟩
    exact List.mem_of_getElem? (get_of_lt hi)
theorem bigB_no {L : List Int} : bigB L = false ↔ ∀ i, i < L.length → gt L i ≤ 1000000 := by
  constructor
  · intro h i hi
    by_cases h' : 1000000 < gt L i
    · rw [bigB_iff.2 ⟨i, hi, h'⟩] at h; cases h
    · omega
  · intro h
    cases e : bigB L
    · rfl
    · obtain ⟨i, hi, h'⟩ := bigB_iff.1 e; have := h i hi; omega
theorem fit_ok {L : List Int} (h : bigB L = false) : fitE L = 0 ∧ fitL L = L := by simp [fitE, fitL, h]
theorem fit_big {L : List Int} (h : bigB L = true) : fitE L = 2 ∧ fitL L = [] := by simp [fitE, fitL, h]

/-- What a function that hands back a curve answers: its error e, else the curve L, if it fits. -/
def resE (e : Int) (L : List Int) : Int := if e ≠ 0 then e else fitE L
def resL (e : Int) (L : List Int) : List Int := if e ≠ 0 then [] else fitL L

theorem res_err {e : Int} {L : List Int} (h : e ≠ 0) : resE e L = e ∧ resL e L = [] := by simp [resE, resL, h]
theorem res_ok {L : List Int} (h : bigB L = false) : resE 0 L = 0 ∧ resL 0 L = L := by simp [resE, resL, fit_ok h]
theorem res_big {L : List Int} (h : bigB L = true) : resE 0 L = 2 ∧ resL 0 L = [] := by simp [resE, resL, fit_big h]

/-- The greatest of 0 and of D's first values. -/
def mx (D : Nat → Int) : Nat → Int
  | 0 => 0
  | n + 1 => max (mx D n) (D n)

end Go.Proofs.Ytlaandbaaepamaa
