
/-
  Plain mathematics of a queue that is served in order: when each packet is done; Lindley, Little.
-/
import Derived.Test.YtamkadffencpgaaBucketP
import Derived.Test.YtamkadffencpgaaPlain
namespace Go.Proofs.Ytamkadffencpgaa
set_option linter.all false

/-- When the first i packets are done. -/
def dnV (l : List Pk) : Nat → Int
  | 0 => 0
  | i + 1 => max (dnV l i) (pk l i).at_ + (pk l i).size
def dnL (l : List Pk) : List Int := tab l.length (fun i => dnV l (i + 1))
theorem length_dnL (l : List Pk) : (dnL l).length = l.length := length_tab _ _
theorem gt_dnL {l : List Pk} {i : Nat} (h : i < l.length) : gt (dnL l) i = dnV l (i + 1) := gt_tab _ h
theorem dn_at (l : List Pk) (i : Nat) : (pk l i).at_ + (pk l i).size ≤ dnV l (i + 1) := by simp only [dnV]; omega
theorem dn_up (l : List Pk) (i : Nat) : dnV l i + (pk l i).size ≤ dnV l (i + 1) := by simp only [dnV]; omega
theorem dn_bd {l : List Pk} (q : Qu l) : ∀ i, i ≤ l.length → 0 ≤ dnV l i ∧ dnV l i ≤ 200 + 1000 * i
  | 0, _ => by simp [dnV]
  | i + 1, h => by
    have ih := dn_bd q i (by omega)
    have k := q.ok i (by omega)
    have := k.s0; have := k.s1; have := k.a0; have := k.a1
    simp only [dnV]; omega
def szV (l : List Pk) (j : Nat) : Int := (pk l j).size
theorem dn_le (l : List Pk) {k : Nat} : ∀ m : Nat, (pk l k).at_ + sm (szV l) k (m + 1) ≤ dnV l (k + m + 1)
  | 0 => by have := dn_at l k; simp only [sm, szV, Nat.add_zero]; omega
  | m + 1 => by
    have h := dn_le l (k := k) m
    have u := dn_up l (k + m + 1)
    rw [sm, show k + (m + 1) + 1 = k + m + 1 + 1 by omega, show k + (m + 1) = k + m + 1 by omega]
    unfold szV at *
    omega
theorem dn_hit {l : List Pk} (q : Qu l) : ∀ i : Nat, i < l.length → ∃ k m : Nat, k + m = i ∧ dnV l (i + 1) = (pk l k).at_ + sm (szV l) k (m + 1)
  | 0, h => by
    have := (q.ok 0 h).a0
    refine ⟨0, 0, rfl, ?_⟩
    simp only [dnV, sm, szV, Nat.add_zero]
    omega
  | i + 1, h => by
    obtain ⟨k, m, e, hk⟩ := dn_hit q i (by omega)
    have e1 : dnV l (i + 1 + 1) = max (dnV l (i + 1)) (pk l (i + 1)).at_ + (pk l (i + 1)).size := rfl
    by_cases c : (pk l (i + 1)).at_ ≤ dnV l (i + 1)
    · refine ⟨k, m + 1, by omega, ?_⟩
      rw [e1, sm, show k + (m + 1) = i + 1 by omega]
      show _ = _ + (_ + (pk l (i + 1)).size)
      omega
    · refine ⟨i + 1, 0, rfl, ?_⟩
      rw [e1]
      simp only [sm, szV, Nat.add_zero]
      omega

theorem qu_iff {l : List Pk} : pksE l = 0 ↔ Qu l := by
  refine ⟨qu_of, fun q => ?_⟩
  have go : ∀ (m : List Pk) (b : Int), (∀ i, i < m.length → PkOk (pk m i)) → (∀ i, i + 1 < m.length → (pk m i).at_ ≤ (pk m (i + 1)).at_) → (0 < m.length → b ≤ (pk m 0).at_) → pksGo b m = 0 := by
    intro m
    induction m with
    | nil => intro b _ _ _; rfl
    | cons p m ih =>
      intro b h1 h2 h3
      have e0 : pk (p :: m) 0 = p := by simp [pk]
      have es : ∀ i, pk (p :: m) (i + 1) = pk m i := fun i => by simp [pk]
      have k := h1 0 (by simp)
      have k3 := h3 (by simp)
      rw [e0] at k k3
      have e : pkE p b = 0 := by
        have := k.f0; have := k.f1; have := k.s0; have := k.s1; have := k.a0; have := k.a1
        unfold pkE
        rw [if_neg (by omega), if_neg (by omega)]
      rw [pksGo, if_pos e]
      refine ih _ (fun i hi => ?_) (fun i hi => ?_) (fun hp => ?_)
      · have := h1 (i + 1) (by simpa using hi); rwa [es] at this
      · have := h2 (i + 1) (by simpa using hi); rwa [es, es] at this
      · have := h2 0 (by simpa using hp); rwa [e0, es] at this
  unfold pksE
  have := q.le
  rw [if_neg (by omega)]
  exact go l 0 q.ok q.up (fun hp => (q.ok 0 hp).a0)

/-- Later packets change nothing. -/
theorem pk_app {l m : List Pk} {i : Nat} (h : i < l.length) : pk (l ++ m) i = pk l i := by simp [pk, List.getD, List.getElem?_append_left h]
theorem dn_app {l m : List Pk} : ∀ i, i ≤ l.length → dnV (l ++ m) i = dnV l i
  | 0, _ => rfl
  | i + 1, h => by simp only [dnV]; rw [dn_app i (by omega), pk_app (by omega)]
/-- A while later. -/
theorem dn_late {l m : List Pk} {d : Int} (q : Qu l) (d0 : 0 ≤ d) (h : ∀ i, i < l.length → (pk m i).at_ = (pk l i).at_ + d ∧ (pk m i).size = (pk l i).size) : ∀ i, i < l.length → dnV m (i + 1) = dnV l (i + 1) + d
  | 0, h0 => by
    have k := h 0 h0; have := (q.ok 0 h0).a0
    simp only [dnV]; omega
  | i + 1, hi => by
    have ih := dn_late q d0 h i (by omega)
    have k := h (i + 1) hi
    have e1 : dnV m (i + 1 + 1) = max (dnV m (i + 1)) (pk m (i + 1)).at_ + (pk m (i + 1)).size := rfl
    have e2 : dnV l (i + 1 + 1) = max (dnV l (i + 1)) (pk l (i + 1)).at_ + (pk l (i + 1)).size := rfl
    omega
/-- Larger packets. -/
theorem dn_more {l m : List Pk} (h : ∀ i, i < l.length → (pk m i).at_ = (pk l i).at_ ∧ (pk l i).size ≤ (pk m i).size) : ∀ i, i ≤ l.length → dnV l i ≤ dnV m i
  | 0, _ => Int.le_refl _
  | i + 1, hi => by
    have ih := dn_more h i (by omega)
    have k := h i (by omega)
    simp only [dnV]; omega
/-- One packet less. -/
theorem pk_less {l : List Pk} {i k : Nat} : pk (l.eraseIdx i) k = if k < i then pk l k else pk l (k + 1) := by
  unfold pk List.getD
  rw [List.getElem?_eraseIdx]
  split <;> rfl
theorem dn_same {l m : List Pk} {n : Nat} (h : ∀ i, i < n → pk m i = pk l i) : ∀ i, i ≤ n → dnV m i = dnV l i
  | 0, _ => rfl
  | i + 1, hi => by simp only [dnV]; rw [dn_same h i (by omega), h i (by omega)]
theorem dn_less {l : List Pk} (q : Qu l) {i : Nat} (hi : i < l.length) : ∀ k, i + k + 1 ≤ l.length → dnV (l.eraseIdx i) (i + k) ≤ dnV l (i + k + 1)
  | 0, h => by
    have e := dn_same (l := l) (m := l.eraseIdx i) (n := i) (fun j hj => by rw [pk_less, if_pos hj]) i (Nat.le_refl _)
    have := dn_up l i; have := (q.ok i hi).s0
    simp only [Nat.add_zero]
    omega
  | k + 1, h => by
    have ih := dn_less q hi k (by omega)
    have e : pk (l.eraseIdx i) (i + k) = pk l (i + k + 1) := by rw [pk_less, if_neg (by omega)]
    have e1 : dnV (l.eraseIdx i) (i + (k + 1)) = max (dnV (l.eraseIdx i) (i + k)) (pk (l.eraseIdx i) (i + k)).at_ + (pk (l.eraseIdx i) (i + k)).size := rfl
    have e2 : dnV l (i + (k + 1) + 1) = max (dnV l (i + k + 1)) (pk l (i + k + 1)).at_ + (pk l (i + k + 1)).size := rfl
    rw [e1, e2, e]
    omega
theorem qu_less {l : List Pk} (q : Qu l) {i : Nat} (hi : i < l.length) : Qu (l.eraseIdx i) := by
  have hl : (l.eraseIdx i).length = l.length - 1 := by rw [List.length_eraseIdx, if_pos hi]
  refine ⟨by have := q.le; omega, fun k hk => ?_, fun k hk => ?_⟩
  · rw [pk_less]; split <;> exact q.ok _ (by omega)
  · rw [pk_less, pk_less]
    split
    · split
      · exact q.up k (by omega)
      · exact q.mono (by omega) (by omega)
    · rw [if_neg (by omega)]; exact q.up (k + 1) (by omega)

/-- How many of the first m are there at the time t. -/
def cnV (l : List Pk) (t : Int) : Nat → Int
  | 0 => 0
  | m + 1 => cnV l t m + if (pk l m).at_ ≤ t ∧ t < dnV l (m + 1) then 1 else 0
theorem cn_bd (l : List Pk) (t : Int) : ∀ m, 0 ≤ cnV l t m ∧ cnV l t m ≤ m
  | 0 => by simp [cnV]
  | m + 1 => by have := cn_bd l t m; simp only [cnV]; split <;> omega
/-- How long those are there, all together. -/
def soV (l : List Pk) : Nat → Int
  | 0 => 0
  | m + 1 => soV l m + (dnV l (m + 1) - (pk l m).at_)

/-- A list that never falls. -/
def Up (T : List Int) : Prop := ∀ i, i + 1 < T.length → gt T i ≤ gt T (i + 1)
theorem Up.mono {T : List Int} (h : Up T) {i j : Nat} (hij : i ≤ j) (hj : j < T.length) : gt T i ≤ gt T j := by
  induction j with
  | zero => rw [Nat.le_zero.1 hij]; exact Int.le_refl _
  | succ k ih =>
    by_cases e : i = k + 1
    · rw [e]; exact Int.le_refl _
    · exact Int.le_trans (ih (by omega) (by omega)) (h k hj)
/-- How much of the first j steps of T lies from x to y. -/
def inV (T : List Int) (x y : Int) : Nat → Int
  | 0 => 0
  | j + 1 => inV T x y j + if x ≤ gt T j ∧ gt T j < y then gt T (j + 1) - gt T j else 0
theorem in_tel {T : List Int} (u : Up T) {x y : Int} (hxy : x ≤ y) {p q : Nat} (hp : p < T.length) (hq : q < T.length) (ex : gt T p = x) (ey : gt T q = y) : ∀ j, j < T.length → inV T x y j = max x (min (gt T j) y) - max x (min (gt T 0) y)
  | 0, _ => by simp only [inV]; omega
  | j + 1, hj => by
    have ih := in_tel u hxy hp hq ex ey j (by omega)
    have uj := u j hj
    have ax : x ≤ gt T j ∨ gt T (j + 1) ≤ x := by
      rcases Nat.lt_or_ge j p with c | c
      · exact .inr (by rw [← ex]; exact u.mono (by omega) hp)
      · exact .inl (by rw [← ex]; exact u.mono c (by omega))
    have ay : y ≤ gt T j ∨ gt T (j + 1) ≤ y := by
      rcases Nat.lt_or_ge j q with c | c
      · exact .inr (by rw [← ey]; exact u.mono (by omega) hq)
      · exact .inl (by rw [← ey]; exact u.mono c (by omega))
    simp only [inV]
    rw [ih]
    split <;> omega
theorem in_all {T : List Int} (u : Up T) {x y : Int} (hxy : x ≤ y) {p q : Nat} (hp : p < T.length) (hq : q < T.length) (ex : gt T p = x) (ey : gt T q = y) : inV T x y (T.length - 1) = y - x := by
  rw [in_tel u hxy hp hq ex ey _ (by omega)]
  have h0 := u.mono (i := 0) (j := p) (by omega) hp
  have h1 := u.mono (i := q) (j := T.length - 1) (by omega) (by omega)
  omega
/-- How many are there in each step, all together. -/
def alV (l : List Pk) (T : List Int) (m : Nat) : Nat → Int
  | 0 => 0
  | j + 1 => alV l T m j + cnV l (gt T j) m * (gt T (j + 1) - gt T j)
theorem al_zero (l : List Pk) (T : List Int) : ∀ j, alV l T 0 j = 0
  | 0 => rfl
  | j + 1 => by simp only [alV, cnV]; rw [al_zero l T j]; simp
theorem al_succ (l : List Pk) (T : List Int) (m : Nat) : ∀ j, alV l T (m + 1) j = alV l T m j + inV T (pk l m).at_ (dnV l (m + 1)) j
  | 0 => by simp [alV, inV]
  | j + 1 => by
    have ih := al_succ l T m j
    simp only [alV, inV, cnV]
    rw [ih]
    split
    · rw [Int.add_mul, Int.one_mul]; omega
    · rw [Int.add_zero]; omega
/-- Little. -/
theorem little {l : List Pk} (q : Qu l) {T : List Int} (u : Up T) (h : ∀ i, i < l.length → (∃ p, p < T.length ∧ gt T p = (pk l i).at_) ∧ ∃ p, p < T.length ∧ gt T p = dnV l (i + 1)) : ∀ m, m ≤ l.length → alV l T m (T.length - 1) = soV l m
  | 0, _ => al_zero _ _ _
  | m + 1, hm => by
    obtain ⟨⟨p, hp, ep⟩, ⟨r, hr, er⟩⟩ := h m (by omega)
    have hx : (pk l m).at_ ≤ dnV l (m + 1) := by have := dn_at l m; have := (q.ok m (by omega)).s0; omega
    rw [al_succ, little q u h m (by omega), in_all u hx hp hr ep er, soV]

end Go.Proofs.Ytamkadffencpgaa
