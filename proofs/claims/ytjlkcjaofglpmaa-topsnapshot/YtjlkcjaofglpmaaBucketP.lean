
/-
  Plain mathematics of queues and buckets: what Packets answers, what a bucket holds packet by packet, what passes.
-/
import Derived.Test.YtjlkcjaofglpmaaBucketB
namespace Go.Proofs.Ytjlkcjaofglpmaa
set_option linter.all false

/-- What is wrong with a packet behind one that came at a time. -/
def pkE (q : Pk) (b : Int) : Int := if (q.flow < 0 ∨ 7 < q.flow) ∨ (q.size < 1 ∨ 1000 < q.size) ∨ (q.at_ < 0 ∨ 200 < q.at_) then 1 else if q.at_ < b then 3 else 0
def pksGo : Int → List Pk → Int
  | _, [] => 0
  | b, q :: l => if pkE q b = 0 then pksGo q.at_ l else pkE q b
def pksE (l : List Pk) : Int := if 60 < l.length then 2 else pksGo 0 l

theorem pkdrop {l : List Pk} {k : Nat} {x : Pk} (h : l[k]? = some x) : l.drop k = x :: l.drop (k + 1) := by
  obtain ⟨hk, rfl⟩ := List.getElem?_eq_some_iff.1 h
  exact List.drop_eq_getElem_cons hk

/-- The i-th packet. -/
def pk (l : List Pk) (i : Nat) : Pk := l.getD i ⟨0, 0, 0⟩
theorem pk_of {l : List Pk} {i : Nat} {q : Pk} (h : l[i]? = some q) : pk l i = q := by simp [pk, List.getD, h]
theorem pk_get {l : List Pk} {i : Nat} (h : i < l.length) : l[i]? = some (pk l i) := by simp [pk, List.getD, List.getElem?_eq_getElem h]

/-- A packet that may be. -/
structure PkOk (q : Pk) : Prop where
  f0 : 0 ≤ q.flow
  f1 : q.flow ≤ 7
  s0 : 1 ≤ q.size
  s1 : q.size ≤ 1000
  a0 : 0 ≤ q.at_
  a1 : q.at_ ≤ 200
theorem pkE_ok {q : Pk} {b : Int} (h : pkE q b = 0) : PkOk q ∧ b ≤ q.at_ := by
  unfold pkE at h
  split at h
  · cases h
  · split at h
    · cases h
    · exact ⟨⟨by omega, by omega, by omega, by omega, by omega, by omega⟩, by omega⟩

/-- A queue. -/
structure Qu (l : List Pk) : Prop where
  le : l.length ≤ 60
  ok : ∀ i, i < l.length → PkOk (pk l i)
  up : ∀ i, i + 1 < l.length → (pk l i).at_ ≤ (pk l (i + 1)).at_
theorem pksGo_ok : ∀ (l : List Pk) (b : Int), pksGo b l = 0 → (∀ i, i < l.length → PkOk (pk l i)) ∧ ∀ i, i + 1 < l.length → (pk l i).at_ ≤ (pk l (i + 1)).at_
  | [], _, _ => ⟨fun i hi => absurd hi (by simp), fun i hi => absurd hi (by simp)⟩
  | q :: l, b, h => by
    unfold pksGo at h
    split at h
    · rename_i h0
      obtain ⟨k1, _⟩ := pkE_ok h0
      obtain ⟨a, c⟩ := pksGo_ok l _ h
      have e0 : pk (q :: l) 0 = q := by simp [pk]
      have es : ∀ i, pk (q :: l) (i + 1) = pk l i := fun i => by simp [pk]
      refine ⟨fun i hi => ?_, fun i hi => ?_⟩
      · cases i with
        | zero => rw [e0]; exact k1
        | succ i => rw [es]; exact a i (by simpa using hi)
      · cases i with
        | zero =>
          rw [e0, es]
          cases l with
          | nil => simp at hi
          | cons p l =>
            have e1 : pk (p :: l) 0 = p := by simp [pk]
            rw [e1]
            unfold pksGo at h
            split at h
            · rename_i h1; exact (pkE_ok h1).2
            · rename_i h1; exact absurd h h1
        | succ i => rw [es, es]; exact c i (by simpa using hi)
    · rename_i h0; exact absurd h h0
theorem qu_of {l : List Pk} (h : pksE l = 0) : Qu l := by
  unfold pksE at h
  split at h
  · cases h
  · obtain ⟨a, c⟩ := pksGo_ok l 0 h
    exact ⟨by omega, a, c⟩
theorem Qu.mono {l : List Pk} (h : Qu l) {i j : Nat} (hij : i ≤ j) (hj : j < l.length) : (pk l i).at_ ≤ (pk l j).at_ := by
  induction j with
  | zero => rw [Nat.le_zero.1 hij]; exact Int.le_refl _
  | succ k ih =>
    by_cases e : i = k + 1
    · rw [e]; exact Int.le_refl _
    · exact Int.le_trans (ih (by omega) (by omega)) (h.up k hj)

/-- When the packet before the k-th came. -/
def nowV (l : List Pk) : Nat → Int
  | 0 => 0
  | k + 1 => (pk l k).at_
theorem Qu.now {l : List Pk} (h : Qu l) {k : Nat} (hk : k < l.length) : 0 ≤ nowV l k ∧ nowV l k ≤ (pk l k).at_ := by
  cases k with
  | zero => exact ⟨Int.le_refl _, (h.ok 0 hk).a0⟩
  | succ k => exact ⟨(h.ok k (by omega)).a0, h.up k hk⟩

/-- What passes; what the bucket holds behind the first k packets; what it holds when the k-th comes. -/
def fil (r b f : Int) (l : List Pk) : Nat → Int
  | 0 => f
  | k + 1 => if (pk l k).size ≤ tkV r b (fil r b f l k) ((pk l k).at_ - nowV l k) then tkV r b (fil r b f l k) ((pk l k).at_ - nowV l k) - (pk l k).size else tkV r b (fil r b f l k) ((pk l k).at_ - nowV l k)
def bef (r b f : Int) (l : List Pk) (k : Nat) : Int := tkV r b (fil r b f l k) ((pk l k).at_ - nowV l k)
def okV (r b f : Int) (l : List Pk) (k : Nat) : Bool := decide ((pk l k).size ≤ bef r b f l k)
def runL (r b f : Int) (l : List Pk) : List Bool := (List.range l.length).map (okV r b f l)
theorem length_runL (r b f : Int) (l : List Pk) : (runL r b f l).length = l.length := by simp [runL]
theorem get_runL {r b f : Int} {l : List Pk} {k : Nat} (h : k < l.length) : (runL r b f l)[k]? = some (okV r b f l k) := by simp [runL, h]
theorem fil_yes {r b f : Int} {l : List Pk} {k : Nat} (h : (pk l k).size ≤ bef r b f l k) : fil r b f l (k + 1) = bef r b f l k - (pk l k).size := by
  unfold bef at *; rw [fil, if_pos h]
theorem fil_no {r b f : Int} {l : List Pk} {k : Nat} (h : ¬ (pk l k).size ≤ bef r b f l k) : fil r b f l (k + 1) = bef r b f l k := by
  unfold bef at *; rw [fil, if_neg h]
theorem bk_fil {r b f : Int} {l : List Pk} (h : Bk r b f) (q : Qu l) : ∀ k, k ≤ l.length → Bk r b (fil r b f l k)
  | 0, _ => h
  | k + 1, hk => by
    have ih := bk_fil h q k (by omega)
    have nw := q.now (k := k) (by omega)
    have hb : Bk r b (bef r b f l k) := ih.tick (by omega)
    by_cases e : (pk l k).size ≤ bef r b f l k
    · rw [fil_yes e]
      exact hb.take (by have := (q.ok k (by omega)).s0; omega) e
    · rw [fil_no e]; exact hb
theorem bk_bef {r b f : Int} {l : List Pk} (h : Bk r b f) (q : Qu l) {k : Nat} (hk : k < l.length) : Bk r b (bef r b f l k) := by
  have nw := q.now hk
  exact (bk_fil h q k (by omega)).tick (by omega)

/-- A sum of m terms from i on. -/
def sm (T : Nat → Int) (i : Nat) : Nat → Int
  | 0 => 0
  | m + 1 => sm T i m + T (i + m)
theorem sm_bd {T : Nat → Int} {i n : Nat} (h : ∀ j, j < n → 0 ≤ T j ∧ T j ≤ 1000) : ∀ m, i + m ≤ n → 0 ≤ sm T i m ∧ sm T i m ≤ 1000 * m
  | 0, _ => by simp [sm]
  | m + 1, hm => by
    have := sm_bd (i := i) h m (by omega)
    have := h (i + m) (by omega)
    simp only [sm]
    omega
/-- What is taken by the j-th packet. -/
def tkn (r b f : Int) (l : List Pk) (j : Nat) : Int := if okV r b f l j = true then (pk l j).size else 0
theorem tkn_fil {r b f : Int} {l : List Pk} {k : Nat} : tkn r b f l k + fil r b f l (k + 1) = bef r b f l k := by
  unfold tkn okV
  by_cases e : (pk l k).size ≤ bef r b f l k
  · rw [if_pos (decide_eq_true e), fil_yes e]; omega
  · rw [if_neg (by simp [e]), fil_no e]; omega
theorem bef_le {r b f : Int} {l : List Pk} {k : Nat} : bef r b f l k ≤ fil r b f l k + ((pk l k).at_ - nowV l k) * r := by unfold bef tkV; omega
theorem passed {r b f : Int} {l : List Pk} {i : Nat} : ∀ m, sm (tkn r b f l) i (m + 1) + fil r b f l (i + m + 1) ≤ bef r b f l i + r * ((pk l (i + m)).at_ - (pk l i).at_)
  | 0 => by
    have h := tkn_fil (r := r) (b := b) (f := f) (l := l) (k := i)
    simp only [sm, Nat.add_zero, Int.sub_self, Int.mul_zero]
    omega
  | m + 1 => by
    have ih := passed (r := r) (b := b) (f := f) (l := l) (i := i) m
    have h := tkn_fil (r := r) (b := b) (f := f) (l := l) (k := i + (m + 1))
    have k := bef_le (r := r) (b := b) (f := f) (l := l) (k := i + (m + 1))
    have e : nowV l (i + (m + 1)) = (pk l (i + m)).at_ := rfl
    rw [e, Int.mul_comm, Int.mul_sub] at k
    rw [Int.mul_sub] at ih ⊢
    rw [sm]
    have e2 : i + (m + 1) = i + m + 1 := by omega
    rw [e2] at h k ⊢
    omega
/-- What passes between two times is no more than the bucket allows. -/
theorem fits_bucket {r b f : Int} {l : List Pk} (h : Bk r b f) (q : Qu l) {i m : Nat} (hm : i + m < l.length) : sm (tkn r b f l) i (m + 1) ≤ b + r * ((pk l (i + m)).at_ - (pk l i).at_) := by
  have h1 := passed (r := r) (b := b) (f := f) (l := l) (i := i) m
  have h2 := (bk_fil h q (i + m + 1) (by omega)).f0
  have h3 := (bk_bef h q (k := i) (by omega)).f1
  omega

/-- If there is never more than that, all pass. -/
theorem all_low {r b : Int} {l : List Pk} (h : Bk r b b) (q : Qu l) (no : ∀ i m, i + m < l.length → sm (fun j => (pk l j).size) i (m + 1) ≤ b + r * ((pk l (i + m)).at_ - (pk l i).at_)) :
    ∀ k, k < l.length → ∃ i m, i + m = k ∧ b + r * ((pk l k).at_ - (pk l i).at_) - sm (fun j => (pk l j).size) i m ≤ bef r b b l k
  | 0, _ => by
    refine ⟨0, 0, rfl, ?_⟩
    have hn := q.now (k := 0) (by omega)
    have h0 := Int.mul_nonneg (show 0 ≤ (pk l 0).at_ - nowV l 0 by omega) h.r0
    have e : bef r b b l 0 = b := by unfold bef tkV; rw [fil]; omega
    rw [e, Int.sub_self, Int.mul_zero, sm]
    omega
  | k + 1, hk => by
    obtain ⟨i, m, e, low⟩ := all_low h q no k (by omega)
    have hn := no i m (by omega)
    rw [sm, e] at hn
    have ok : (pk l k).size ≤ bef r b b l k := by omega
    have hf := fil_yes ok
    have en : nowV l (k + 1) = (pk l k).at_ := rfl
    have hb : bef r b b l (k + 1) = min b (fil r b b l (k + 1) + ((pk l (k + 1)).at_ - (pk l k).at_) * r) := by unfold bef tkV; rw [en]
    by_cases c : b ≤ fil r b b l (k + 1) + ((pk l (k + 1)).at_ - (pk l k).at_) * r
    · refine ⟨k + 1, 0, rfl, ?_⟩
      rw [hb, Int.sub_self, Int.mul_zero, sm]
      omega
    · refine ⟨i, m + 1, by omega, ?_⟩
      rw [Int.mul_comm, Int.mul_sub] at c hb
      rw [Int.mul_sub] at low ⊢
      rw [sm, e]
      omega
theorem all_pass {r b : Int} {l : List Pk} (h : Bk r b b) (q : Qu l) (no : ∀ i m, i + m < l.length → sm (fun j => (pk l j).size) i (m + 1) ≤ b + r * ((pk l (i + m)).at_ - (pk l i).at_)) {k : Nat} (hk : k < l.length) : okV r b b l k = true := by
  obtain ⟨i, m, e, low⟩ := all_low h q no k hk
  have hn := no i m (by omega)
  rw [sm, e] at hn
  exact decide_eq_true (by omega)

/-- What the bucket holds at the time t, behind the first k packets. -/
def ftV (r b f : Int) (l : List Pk) (k : Nat) (t : Int) : Int := tkV r b (fil r b f l k) (t - nowV l k)
theorem bk_ft {r b f : Int} {l : List Pk} (h : Bk r b f) (q : Qu l) {k : Nat} {t : Int} (hk : k ≤ l.length) (ht : nowV l k ≤ t) : Bk r b (ftV r b f l k t) := (bk_fil h q k hk).tick (by omega)
theorem ft_zero {r b f : Int} {l : List Pk} (h : Bk r b f) : ftV r b f l 0 0 = f := by have := h.f1; unfold ftV tkV; rw [fil, nowV]; simp; omega
theorem ft_step {r b f : Int} {l : List Pk} (h : Bk r b f) (q : Qu l) {k : Nat} {t : Int} (hk : k ≤ l.length) (ht : nowV l k ≤ t) : ftV r b f l k (t + 1) = min b (ftV r b f l k t + r) := by
  have e := tk_add (m := t - nowV l k) (n := 1) (bk_fil h q k hk) (by omega) (by omega)
  rw [show t - nowV l k + 1 = t + 1 - nowV l k by omega] at e
  unfold ftV
  rw [← e]
  generalize tkV r b (fil r b f l k) (t - nowV l k) = y
  unfold tkV
  omega
theorem ft_bef {r b f : Int} {l : List Pk} {k : Nat} : ftV r b f l k (pk l k).at_ = bef r b f l k := rfl
theorem ft_next {r b f : Int} {l : List Pk} (h : Bk r b f) (q : Qu l) {k : Nat} (hk : k < l.length) : ftV r b f l (k + 1) (pk l k).at_ = fil r b f l (k + 1) := by
  have := (bk_fil h q (k + 1) (by omega)).f1
  unfold ftV tkV
  rw [show nowV l (k + 1) = (pk l k).at_ from rfl, Int.sub_self, Int.zero_mul]
  omega
/-- The first k are those that have come ahead of the time t, or at it among the first j. -/
def Came (l : List Pk) (k : Nat) (t : Int) (j : Nat) : Prop := k ≤ l.length ∧ ∀ i, i < l.length → (i < k ↔ (pk l i).at_ < t ∨ (pk l i).at_ = t ∧ i < j)
theorem Came.init {l : List Pk} (q : Qu l) : Came l 0 0 0 := ⟨Nat.zero_le _, fun i hi => by have := (q.ok i hi).a0; omega⟩
theorem Came.now {l : List Pk} {k j : Nat} {t : Int} (h : Came l k t j) (ht : 0 ≤ t) : nowV l k ≤ t := by
  cases k with
  | zero => exact ht
  | succ k => have := (h.2 k (by have := h.1; omega)).1 (by omega); show (pk l k).at_ ≤ t; omega
theorem Came.at_ {l : List Pk} {k j : Nat} {t : Int} (h : Came l k t j) (q : Qu l) (hj : j < l.length) (e : (pk l j).at_ = t) : k = j := by
  have h1 := h.2 j hj
  have h2 : ¬ j < k := by rw [h1]; omega
  rcases Nat.lt_or_ge k j with c | c
  · have h3 := h.2 k (by omega)
    have h4 := q.mono (i := k) (j := j) (by omega) hj
    have : k < k := h3.2 (by omega)
    omega
  · omega
theorem Came.take {l : List Pk} {j : Nat} {t : Int} (h : Came l j t j) (hj : j < l.length) (e : (pk l j).at_ = t) : Came l (j + 1) t (j + 1) := by
  refine ⟨by omega, fun i hi => ?_⟩
  have := h.2 i hi
  by_cases c : i = j
  · subst c; omega
  · omega
theorem Came.skip {l : List Pk} {k j : Nat} {t : Int} (h : Came l k t j) (e : (pk l j).at_ ≠ t) : Came l k t (j + 1) := by
  refine ⟨h.1, fun i hi => ?_⟩
  have := h.2 i hi
  by_cases c : i = j
  · subst c; omega
  · omega
theorem Came.next {l : List Pk} {k : Nat} {t : Int} (h : Came l k t l.length) : Came l k (t + 1) 0 := ⟨h.1, fun i hi => by have := h.2 i hi; omega⟩
theorem Came.all {l : List Pk} {k j : Nat} (q : Qu l) (h : Came l k 201 j) : k = l.length := by
  rcases Nat.lt_or_ge k l.length with c | c
  · have h1 := h.2 k c
    have h2 := (q.ok k c).a1
    have : k < k := h1.2 (by omega)
    omega
  · have := h.1; omega

end Go.Proofs.Ytjlkcjaofglpmaa
