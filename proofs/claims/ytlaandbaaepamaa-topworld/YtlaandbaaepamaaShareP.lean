
/-
  Plain mathematics of a link that is shared byte by byte: whose byte goes when.
-/
import Derived.Test.YtlaandbaaepamaaPlain
namespace Go.Proofs.Ytlaandbaaepamaa
set_option linter.all false

def sg (f : Nat → Int) : Nat → Int
  | 0 => 0
  | n + 1 => sg f n + f n
theorem sg_le {f g : Nat → Int} : ∀ n, (∀ i, i < n → f i ≤ g i) → sg f n ≤ sg g n
  | 0, _ => Int.le_refl _
  | n + 1, h => by have := sg_le n (fun i hi => h i (by omega)); have := h n (by omega); simp only [sg]; omega
theorem sg_eq {f g : Nat → Int} : ∀ n, (∀ i, i < n → f i = g i) → sg f n = sg g n
  | 0, _ => rfl
  | n + 1, h => by have := sg_eq n (fun i hi => h i (by omega)); have := h n (by omega); simp only [sg]; omega
theorem sg_one {f g : Nat → Int} {k : Nat} : ∀ n, (∀ i, i < n → f i ≤ g i) → k < n → sg f n + (g k - f k) ≤ sg g n
  | 0, _, h => by omega
  | n + 1, h, hk => by
    have := h n (by omega)
    by_cases c : k = n
    · subst c; have := sg_le k (fun i hi => h i (by omega)); simp only [sg]; omega
    · have := sg_one n (fun i hi => h i (by omega)) (show k < n by omega); simp only [sg]; omega
theorem sg_only {f g : Nat → Int} {k : Nat} : ∀ n, (∀ i, i < n → i ≠ k → f i = g i) → k < n → sg g n = sg f n + (g k - f k)
  | 0, _, h => by omega
  | n + 1, h, hk => by
    by_cases c : k = n
    · subst c; have := sg_eq k (fun i hi => h i (by omega) (by omega)); simp only [sg]; omega
    · have := sg_only n (fun i hi => h i (by omega)) (show k < n by omega); have := h n (by omega) (by omega); simp only [sg]; omega
theorem sg_const {c : Int} : ∀ n : Nat, sg (fun _ => c) n = n * c
  | 0 => by simp [sg]
  | n + 1 => by rw [sg, sg_const n, show ((n + 1 : Nat) : Int) = (n : Int) + 1 by omega, Int.add_mul, Int.one_mul]
theorem sg_nonneg {f : Nat → Int} (n : Nat) (h : ∀ i, i < n → 0 ≤ f i) : 0 ≤ sg f n := by
  have := sg_le (f := fun _ => 0) n h
  rw [sg_const] at this; omega

/-- What went of k's bytes behind r turns, and of the next turn as far as i. -/
def wentV (l : List Int) (r : Int) (i k : Nat) : Int := min (gt l k) (if k < i then r + 1 else r)
/-- How many bytes went. -/
def posV (l : List Int) (r : Int) (i : Nat) : Int := sg (wentV l r i) l.length
/-- Backlogs that may be. -/
structure Lags (l : List Int) : Prop where
  le : l.length ≤ 8
  lo : ∀ i, i < l.length → 0 ≤ gt l i
  hi : ∀ i, i < l.length → gt l i ≤ 1000
theorem pos_next {l : List Int} {r : Int} {i : Nat} (hi : i < l.length) : posV l r (i + 1) = posV l r i + if r < gt l i then 1 else 0 := by
  unfold posV
  rw [sg_only (f := wentV l r i) (g := wentV l r (i + 1)) (k := i) l.length (fun k _ hk => by
    unfold wentV
    by_cases c : k < i
    · rw [if_pos c, if_pos (show k < i + 1 by omega)]
    · rw [if_neg c, if_neg (show ¬ k < i + 1 by omega)]) hi]
  unfold wentV
  rw [if_pos (show i < i + 1 by omega), if_neg (show ¬ i < i by omega)]
  split <;> omega
theorem pos_turn {l : List Int} {r : Int} : posV l r l.length = posV l (r + 1) 0 := by
  unfold posV
  refine sg_eq _ (fun k hk => ?_)
  unfold wentV
  rw [if_pos hk, if_neg (by omega)]
theorem pos_zero {l : List Int} (v : Lags l) : posV l 0 0 = 0 := by
  unfold posV
  rw [sg_eq (g := fun _ => 0) _ (fun k hk => by have := v.lo k hk; unfold wentV; rw [if_neg (by omega)]; omega), sg_const]
  simp
theorem pos_bd {l : List Int} (v : Lags l) {r : Int} (r0 : 0 ≤ r) (i : Nat) : 0 ≤ posV l r i ∧ posV l r i ≤ sg (gt l) l.length := by
  refine ⟨sg_nonneg _ (fun k hk => ?_), sg_le _ (fun k hk => ?_)⟩ <;> have := v.lo k hk <;> unfold wentV <;> split <;> omega
theorem sum_hi {l : List Int} (v : Lags l) : 0 ≤ sg (gt l) l.length ∧ sg (gt l) l.length ≤ 8000 := by
  refine ⟨sg_nonneg _ v.lo, ?_⟩
  have := sg_le (f := gt l) (g := fun _ => 1000) l.length v.hi
  rw [sg_const] at this
  have := v.le; omega
/-- All is gone when no more goes in a turn. -/
theorem pos_all {l : List Int} {r : Int} (h : ∀ k, k < l.length → gt l k ≤ r) (i : Nat) : posV l r i = sg (gt l) l.length := by
  unfold posV
  refine sg_eq _ (fun k hk => ?_)
  have := h k hk
  unfold wentV; split <;> omega

/-- The slot in which i's last byte goes. -/
def lastV (l : List Int) (i : Nat) : Int := posV l (gt l i - 1) i
def shV (l : List Int) (rate : Int) (i : Nat) : Int := if gt l i = 0 then 0 else lastV l i / rate + 1
def shL (l : List Int) (rate : Int) : List Int := tab l.length (shV l rate)
theorem last_lo {l : List Int} (v : Lags l) {i : Nat} (hi : i < l.length) (p : 0 < gt l i) : gt l i - 1 ≤ lastV l i := by
  have h := sg_one (f := fun _ => 0) (g := wentV l (gt l i - 1) i) (k := i) l.length (fun k hk => by have := v.lo k hk; unfold wentV; split <;> omega) hi
  rw [sg_const] at h
  unfold lastV posV
  have e : wentV l (gt l i - 1) i i = gt l i - 1 := by unfold wentV; rw [if_neg (by omega)]; omega
  rw [e] at h; omega
theorem last_hi {l : List Int} (v : Lags l) {i : Nat} (hi : i < l.length) (p : 0 < gt l i) : lastV l i + 1 ≤ sg (gt l) l.length := by
  have h := sg_one (f := wentV l (gt l i - 1) i) (g := gt l) (k := i) l.length (fun k _ => by unfold wentV; split <;> omega) hi
  have e : wentV l (gt l i - 1) i i = gt l i - 1 := by unfold wentV; rw [if_neg (by omega)]; omega
  rw [e] at h
  unfold lastV posV; omega
theorem last_order {l : List Int} {i k : Nat} (h : gt l k < gt l i) : lastV l k ≤ lastV l i := by
  unfold lastV posV
  refine sg_le _ (fun j _ => ?_)
  unfold wentV; split <;> split <;> omega
theorem last_each {l : List Int} (v : Lags l) {i : Nat} (hi : i < l.length) (p : 0 < gt l i) : lastV l i < l.length * gt l i := by
  have h := sg_one (f := wentV l (gt l i - 1) i) (g := fun _ => gt l i) (k := i) l.length (fun k _ => by unfold wentV; split <;> omega) hi
  rw [sg_const] at h
  have e : wentV l (gt l i - 1) i i = gt l i - 1 := by unfold wentV; rw [if_neg (by omega)]; omega
  rw [e] at h
  unfold lastV posV; omega
/-- The last of those who lag by most is the last. -/
theorem last_is {l : List Int} {i : Nat} (hi : i < l.length) (top : ∀ k, k < l.length → gt l k ≤ gt l i) (end_ : ∀ k, k < l.length → i < k → gt l k < gt l i) : lastV l i + 1 = sg (gt l) l.length := by
  have h := sg_only (f := wentV l (gt l i - 1) i) (g := gt l) (k := i) l.length (fun k hk ne => by
    have := top k hk
    unfold wentV
    by_cases c : k < i
    · rw [if_pos c]; omega
    · rw [if_neg c]; have := end_ k hk (by omega); omega) hi
  have e : wentV l (gt l i - 1) i i = gt l i - 1 := by unfold wentV; rw [if_neg (by omega)]; omega
  rw [e] at h
  unfold lastV posV; omega
theorem last_some {l : List Int} : ∀ n, 0 < n → ∃ i, i < n ∧ (∀ k, k < n → gt l k ≤ gt l i) ∧ ∀ k, k < n → i < k → gt l k < gt l i
  | 0, h => by omega
  | n + 1, _ => by
    by_cases c : n = 0
    · subst c
      exact ⟨0, by omega, fun k hk => by have : k = 0 := by omega
                                         subst this; exact Int.le_refl _, fun k hk h => by omega⟩
    · obtain ⟨i, hi, h1, h2⟩ := last_some (l := l) n (by omega)
      by_cases d : gt l i ≤ gt l n
      · refine ⟨n, by omega, fun k hk => ?_, fun k hk h => by omega⟩
        by_cases e : k = n
        · subst e; exact Int.le_refl _
        · have := h1 k (by omega); omega
      · refine ⟨i, by omega, fun k hk => ?_, fun k hk h => ?_⟩
        · by_cases e : k = n
          · subst e; omega
          · exact h1 k (by omega)
        · by_cases e : k = n
          · subst e; omega
          · exact h2 k (by omega) h
theorem div_slot {p r : Int} (r0 : 0 < r) : (p / r) * r ≤ p ∧ p < (p / r + 1) * r := by
  have h1 := Int.emod_nonneg p (show r ≠ 0 by omega)
  have h2 := Int.emod_lt_of_pos p r0
  have h3 := Int.mul_ediv_add_emod p r
  rw [Int.mul_comm] at h3
  rw [Int.add_mul, Int.one_mul]; omega
/-- ShareLast. -/
theorem sh_zero {l : List Int} (v : Lags l) {rate : Int} (r0 : 0 < rate) {i : Nat} (hi : i < l.length) : 0 ≤ shV l rate i ∧ (shV l rate i = 0 ↔ gt l i = 0) := by
  unfold shV
  split
  · rename_i c; simp [c]
  · rename_i c
    have := last_lo v hi (by have := v.lo i hi; omega)
    have := v.lo i hi
    have := Int.ediv_nonneg (show 0 ≤ lastV l i by omega) (show 0 ≤ rate by omega)
    constructor
    · omega
    · constructor <;> intro h <;> omega
theorem sh_own {l : List Int} (v : Lags l) {rate : Int} (r0 : 0 < rate) {i : Nat} (hi : i < l.length) : gt l i ≤ shV l rate i * rate := by
  unfold shV
  split
  · omega
  · have := v.lo i hi
    have := last_lo v hi (by omega)
    have := div_slot (p := lastV l i) r0
    omega
theorem sh_order {l : List Int} (v : Lags l) {rate : Int} (r0 : 0 < rate) {i k : Nat} (hi : i < l.length) (hk : k < l.length) (h : gt l k < gt l i) : shV l rate k ≤ shV l rate i := by
  have k0 := v.lo k hk
  by_cases c : gt l k = 0
  · have := (sh_zero v r0 hi).1
    unfold shV at *; rw [if_pos c]; exact this
  · unfold shV
    rw [if_neg c, if_neg (by omega)]
    have := Int.ediv_le_ediv r0 (last_order h)
    omega
theorem sh_hi {l : List Int} (v : Lags l) {rate : Int} (r0 : 0 < rate) {i : Nat} (hi : i < l.length) (s : 0 < sg (gt l) l.length) : shV l rate i ≤ (sg (gt l) l.length - 1) / rate + 1 := by
  unfold shV
  split
  · have := Int.ediv_nonneg (show 0 ≤ sg (gt l) l.length - 1 by omega) (show 0 ≤ rate by omega); omega
  · have := v.lo i hi
    have := last_hi v hi (by omega)
    have := Int.ediv_le_ediv r0 (show lastV l i ≤ sg (gt l) l.length - 1 by omega)
    omega
theorem sh_top {l : List Int} (v : Lags l) {rate : Int} (s : 0 < sg (gt l) l.length) : ∃ i, i < l.length ∧ shV l rate i = (sg (gt l) l.length - 1) / rate + 1 := by
  have n0 : 0 < l.length := by
    by_cases c : l.length = 0
    · rw [c] at s; simp [sg] at s
    · omega
  obtain ⟨i, hi, h1, h2⟩ := last_some (l := l) l.length n0
  have e := last_is hi h1 h2
  have p : gt l i ≠ 0 := fun z => by
    have := sg_le (f := gt l) (g := fun _ => 0) l.length (fun k hk => by have := h1 k hk; omega)
    rw [sg_const] at this; omega
  exact ⟨i, hi, by unfold shV; rw [if_neg p, show lastV l i = sg (gt l) l.length - 1 by omega]⟩
theorem sh_none {l : List Int} (v : Lags l) {rate : Int} (s : sg (gt l) l.length = 0) {i : Nat} (hi : i < l.length) : shV l rate i = 0 := by
  have := sg_one (f := fun _ => 0) (g := gt l) (k := i) l.length v.lo hi
  rw [sg_const] at this
  have := v.lo i hi
  unfold shV; rw [if_pos (by omega)]
/-- ShareEach. -/
theorem sh_each {l : List Int} (v : Lags l) {rate : Int} (r0 : 0 < rate) {i : Nat} (hi : i < l.length) : shV l rate i = 0 ∨ (shV l rate i - 1) * rate < l.length * gt l i := by
  unfold shV
  split
  · exact Or.inl rfl
  · right
    have := v.lo i hi
    have := last_each v hi (by omega)
    have := (div_slot (p := lastV l i) r0).1
    rw [show lastV l i / rate + 1 - 1 = lastV l i / rate by omega]; omega
/-- ShareMore: a faster link; one who lags less. -/
theorem sh_fast {l : List Int} (v : Lags l) {r s : Int} (r0 : 0 < r) (h : r ≤ s) {i : Nat} (hi : i < l.length) : shV l s i ≤ shV l r i := by
  unfold shV
  split
  · exact Int.le_refl _
  · have := v.lo i hi
    have l0 := last_lo v hi (by omega)
    have h1 := div_slot (p := lastV l i) r0
    have h2 := div_slot (p := lastV l i) (show 0 < s by omega)
    have h3 := Int.ediv_nonneg (show 0 ≤ lastV l i by omega) (show 0 ≤ r by omega)
    have h4 := Int.ediv_nonneg (show 0 ≤ lastV l i by omega) (show 0 ≤ s by omega)
    generalize lastV l i / r = a at *
    generalize lastV l i / s = b at *
    by_cases c : b ≤ a
    · omega
    · have := Int.mul_le_mul (show a + 1 ≤ b by omega) h (by omega) h4
      omega
theorem sh_less {l m : List Int} (v : Lags l) (u : Lags m) {r : Int} (r0 : 0 < r) (e : m.length = l.length) (h : ∀ k, k < l.length → gt m k ≤ gt l k) {i : Nat} (hi : i < l.length) : shV m r i ≤ shV l r i := by
  have z := (sh_zero v r0 hi).1
  have m0 := u.lo i (by omega)
  have hh := h i hi
  by_cases c : gt m i = 0
  · unfold shV at *; rw [if_pos c]; exact z
  · unfold shV
    rw [if_neg c, if_neg (by omega)]
    have : lastV m i ≤ lastV l i := by
      unfold lastV posV
      rw [e]
      refine sg_le _ (fun k hk => ?_)
      have := h k hk
      unfold wentV; split <;> omega
    have := Int.ediv_le_ediv r0 this
    omega
/-- TopShare: the least time by which all bytes have gone. -/
theorem slot_least {s r d : Int} (s0 : 0 < s) (r0 : 0 < r) : s ≤ d * r ↔ (s - 1) / r + 1 ≤ d := by
  have h := div_slot (p := s - 1) r0
  generalize (s - 1) / r = q at *
  constructor
  · intro k
    by_cases c : q + 1 ≤ d
    · exact c
    · have := Int.mul_le_mul_of_nonneg_right (show d ≤ q by omega) (show 0 ≤ r by omega); omega
  · intro k
    have := Int.mul_le_mul_of_nonneg_right k (show 0 ≤ r by omega); omega
end Go.Proofs.Ytlaandbaaepamaa
