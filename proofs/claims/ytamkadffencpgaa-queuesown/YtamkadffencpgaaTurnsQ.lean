
/-
  Plain mathematics of turns: the order in which all flows send, round by round.
-/
import Derived.Test.YtamkadffencpgaaTurnsP
namespace Go.Proofs.Ytamkadffencpgaa
set_option linter.all false

structure Flw where
  q : Int
  z : List Int
def flw (l : List Flw) (k : Nat) : Flw := l.getD k ⟨1, []⟩
structure FlwOk (f : Flw) : Prop where
  q0 : 1 ≤ f.q
  q1 : f.q ≤ 1000
  sz : Sz f.z
structure Flws (l : List Flw) : Prop where
  le : l.length ≤ 8
  ok : ∀ k, k < l.length → FlwOk (flw l k)
/-- How many of its packets a flow has sent behind m rounds. -/
def Flw.cn (f : Flw) (m : Nat) : Nat := cgN f.z (m * f.q)
theorem FlwOk.bud {f : Flw} (h : FlwOk f) (m : Nat) : 0 ≤ (m : Int) * f.q := Int.mul_nonneg (by omega) (by have := h.q0; omega)
theorem cn_le (f : Flw) (m : Nat) : f.cn m ≤ f.z.length := cg_le f.z _ _
theorem cn_zero {f : Flw} (h : FlwOk f) : f.cn 0 = 0 := by unfold Flw.cn; rw [show ((0 : Nat) : Int) * f.q = 0 by simp]; exact cg_zero h.sz
theorem cn_up {f : Flw} (h : FlwOk f) {m n : Nat} (k : m ≤ n) : f.cn m ≤ f.cn n :=
  cg_mono (h.bud m) (Int.mul_le_mul_of_nonneg_right (by omega) (by have := h.q0; omega))
theorem cn_end {f : Flw} (h : FlwOk f) {m : Nat} (hm : 60000 ≤ m) : f.cn m = f.z.length := by
  refine cg_is h.sz (Nat.le_refl _) ?_ (fun c => absurd c (by omega))
  have := (h.sz.bd f.z.length (Nat.le_refl _)).2
  have := h.sz.le
  have := Int.mul_le_mul_of_nonneg_left h.q0 (show (0 : Int) ≤ m by omega)
  omega
/-- A turn ends where the next packet is too large. -/
theorem cn_is {f : Flw} (h : FlwOk f) {m c : Nat} (hc : c ≤ f.z.length) (h1 : sumV f.z c ≤ m * f.q) (h2 : c < f.z.length → (m : Int) * f.q < sumV f.z (c + 1)) : f.cn m = c := cg_is h.sz hc h1 h2

abbrev Snd := Nat × Nat
/-- A turn of flow k: its packets from a to b. -/
def segL (k a : Nat) : Nat → List Snd
  | 0 => []
  | d + 1 => segL k a d ++ [(k, a + d)]
def turnL (l : List Flw) (m k : Nat) : List Snd := segL k ((flw l k).cn m) ((flw l k).cn (m + 1) - (flw l k).cn m)
def rndL (l : List Flw) (m : Nat) : Nat → List Snd
  | 0 => []
  | k + 1 => rndL l m k ++ turnL l m k
def ordL (l : List Flw) : Nat → List Snd
  | 0 => []
  | m + 1 => ordL l m ++ rndL l m l.length
/-- How many of flow f there are. -/
def cntL (x : List Snd) (f : Nat) : Nat := x.countP (fun s => decide (s.1 = f))
theorem cnt_app (x y : List Snd) (f : Nat) : cntL (x ++ y) f = cntL x f + cntL y f := by simp [cntL, List.countP_append]
theorem cnt_one (k i f : Nat) : cntL [(k, i)] f = if k = f then 1 else 0 := by
  unfold cntL; rw [List.countP_singleton]; simp
/-- Those of a flow in order: each has the number of those ahead of it. -/
def InOrd (x : List Snd) : Prop := ∀ p s, x[p]? = some s → s.2 = cntL (x.take p) s.1
theorem InOrd.nil : InOrd [] := fun p s h => by simp at h
theorem InOrd.snoc {x : List Snd} (h : InOrd x) (k : Nat) : InOrd (x ++ [(k, cntL x k)]) := fun p s e => by
  by_cases c : p < x.length
  · rw [List.getElem?_append_left c] at e
    rw [List.take_append_of_le_length (by omega)]
    exact h p s e
  · rw [List.getElem?_append_right (by omega)] at e
    have : p - x.length = 0 := by
      by_cases d : p - x.length = 0
      · exact d
      · rw [List.getElem?_eq_none (by simp; omega)] at e; exact absurd e (by simp)
    rw [this] at e
    simp at e
    subst e
    rw [show p = x.length by omega]
    simp
theorem seg_keep {x : List Snd} {k a : Nat} (h : InOrd x) (e : cntL x k = a) : ∀ d, InOrd (x ++ segL k a d) ∧ ∀ f, cntL (x ++ segL k a d) f = cntL x f + if k = f then d else 0
  | 0 => by simp [segL]; exact h
  | d + 1 => by
    obtain ⟨i1, i2⟩ := seg_keep h e d
    have c := i2 k
    rw [if_pos rfl, e] at c
    have s := i1.snoc k
    rw [c] at s
    have e1 : x ++ segL k a (d + 1) = x ++ segL k a d ++ [(k, a + d)] := by rw [segL, List.append_assoc]
    rw [e1]
    refine ⟨s, fun f => ?_⟩
    rw [cnt_app, i2 f, cnt_one]
    split <;> omega
theorem rnd_keep {l : List Flw} (v : Flws l) {m : Nat} {x : List Snd} (h : InOrd x) (e : ∀ k, k < l.length → cntL x k = (flw l k).cn m) : ∀ k, k ≤ l.length → InOrd (x ++ rndL l m k) ∧ ∀ f, f < l.length → cntL (x ++ rndL l m k) f = if f < k then (flw l f).cn (m + 1) else (flw l f).cn m
  | 0, _ => by simp [rndL]; exact ⟨h, e⟩
  | k + 1, hk => by
    obtain ⟨i1, i2⟩ := rnd_keep v h e k (by omega)
    have ck := i2 k (by omega)
    rw [if_neg (by omega)] at ck
    have s := seg_keep i1 ck ((flw l k).cn (m + 1) - (flw l k).cn m)
    have e1 : x ++ rndL l m (k + 1) = x ++ rndL l m k ++ turnL l m k := by rw [rndL, List.append_assoc]
    rw [e1]
    refine ⟨s.1, fun f hf => ?_⟩
    have := s.2 f
    unfold turnL
    rw [this, i2 f hf]
    have up := cn_up (v.ok k (by omega)) (show m ≤ m + 1 by omega)
    by_cases c : k = f
    · subst c; rw [if_pos rfl, if_neg (by omega), if_pos (by omega)]; omega
    · rw [if_neg c]
      by_cases d : f < k
      · rw [if_pos d, if_pos (by omega)]; rfl
      · rw [if_neg d, if_neg (by omega)]; rfl
theorem ord_keep {l : List Flw} (v : Flws l) : ∀ m, InOrd (ordL l m) ∧ ∀ f, f < l.length → cntL (ordL l m) f = (flw l f).cn m
  | 0 => ⟨InOrd.nil, fun f hf => by rw [cn_zero (v.ok f hf)]; rfl⟩
  | m + 1 => by
    obtain ⟨i1, i2⟩ := ord_keep v m
    have r := rnd_keep v i1 i2 l.length (Nat.le_refl _)
    exact ⟨r.1, fun f hf => by rw [ordL, r.2 f hf, if_pos hf]⟩
/-- Only flows that are there. -/
theorem seg_flow {k a : Nat} {s : Snd} : ∀ d, s ∈ segL k a d → s.1 = k ∧ a ≤ s.2 ∧ s.2 < a + d
  | 0, h => by simp [segL] at h
  | d + 1, h => by
    rw [segL, List.mem_append, List.mem_singleton] at h
    rcases h with h | h
    · have := seg_flow d h; omega
    · subst h; exact ⟨rfl, by show a ≤ a + d; omega, by show a + d < _; omega⟩
theorem rnd_flow {l : List Flw} {m : Nat} {s : Snd} : ∀ k, s ∈ rndL l m k → s.1 < k ∧ s.2 < (flw l s.1).z.length
  | 0, h => by simp [rndL] at h
  | k + 1, h => by
    rw [rndL, List.mem_append] at h
    rcases h with h | h
    · have := rnd_flow k h; exact ⟨by omega, this.2⟩
    · have := seg_flow _ h
      have c := cn_le (flw l k) (m + 1)
      rw [this.1]; exact ⟨by omega, by omega⟩
theorem ord_flow {l : List Flw} {s : Snd} : ∀ m, s ∈ ordL l m → s.1 < l.length ∧ s.2 < (flw l s.1).z.length
  | 0, h => by simp [ordL] at h
  | m + 1, h => by
    rw [ordL, List.mem_append] at h
    rcases h with h | h
    · exact ord_flow m h
    · exact rnd_flow _ h
/-- When all have sent all, nothing more comes. -/
def AllSent (l : List Flw) (m : Nat) : Prop := ∀ k, k < l.length → (flw l k).cn m = (flw l k).z.length
theorem seg_len (k a : Nat) : ∀ d, (segL k a d).length = d
  | 0 => rfl
  | d + 1 => by rw [segL, List.length_append, seg_len k a d]; rfl
theorem rnd_none {l : List Flw} (v : Flws l) {m : Nat} (h : AllSent l m) : ∀ k, k ≤ l.length → rndL l m k = []
  | 0, _ => rfl
  | k + 1, hk => by
    rw [rndL, rnd_none v h k (by omega), turnL]
    have := h k (by omega); have := cn_le (flw l k) (m + 1); have := cn_up (v.ok k (by omega)) (show m ≤ m + 1 by omega)
    rw [show (flw l k).cn (m + 1) - (flw l k).cn m = 0 by omega]; rfl
theorem AllSent.up {l : List Flw} (v : Flws l) {m n : Nat} (h : AllSent l m) (k : m ≤ n) : AllSent l n := fun j hj => by
  have := h j hj; have := cn_le (flw l j) n; have := cn_up (v.ok j hj) k; omega
theorem ord_more {l : List Flw} (v : Flws l) {m : Nat} (h : AllSent l m) : ∀ d, ordL l (m + d) = ordL l m
  | 0 => rfl
  | d + 1 => by
    rw [show m + (d + 1) = m + d + 1 by omega, ordL, ord_more v h d, rnd_none v (h.up v (by omega)) _ (Nat.le_refl _)]; simp
theorem ord_same {l : List Flw} (v : Flws l) {m n : Nat} (h : AllSent l m) (k : AllSent l n) : ordL l m = ordL l n := by
  by_cases c : m ≤ n
  · have := ord_more v h (n - m); rw [show m + (n - m) = n by omega] at this; exact this.symm
  · have := ord_more v k (m - n); rw [show n + (m - n) = m by omega] at this; exact this
theorem all_sent {l : List Flw} (v : Flws l) {m : Nat} (hm : 60000 ≤ m) : AllSent l m := fun k hk => cn_end (v.ok k hk) hm
/-- All that is sent, by counts. -/
def cnS (l : List Flw) (c : Nat → Nat) : Nat → Nat
  | 0 => 0
  | k + 1 => cnS l c k + c k
theorem rnd_len {l : List Flw} (v : Flws l) {m : Nat} : ∀ k, k ≤ l.length → (rndL l m k).length + cnS l (fun j => (flw l j).cn m) k = cnS l (fun j => (flw l j).cn (m + 1)) k
  | 0, _ => rfl
  | k + 1, hk => by
    have ih := rnd_len v (m := m) k (by omega)
    have := cn_up (v.ok k (by omega)) (show m ≤ m + 1 by omega)
    rw [rndL, List.length_append, turnL, seg_len, cnS, cnS]; omega
theorem ord_len {l : List Flw} (v : Flws l) : ∀ m, (ordL l m).length = cnS l (fun j => (flw l j).cn m) l.length
  | 0 => by
    have z : ∀ k, k ≤ l.length → cnS l (fun j => (flw l j).cn 0) k = 0 := fun k => by
      induction k with
      | zero => intro _; rfl
      | succ k ih => intro h; rw [cnS, ih (by omega), cn_zero (v.ok k (by omega))]
    rw [z _ (Nat.le_refl _)]; rfl
  | m + 1 => by
    have := rnd_len v (m := m) l.length (Nat.le_refl _)
    rw [ordL, List.length_append, ord_len v m]; omega
/-- All are sent just when as many are as there are. -/
theorem sent_iff {l : List Flw} (v : Flws l) (m : Nat) : AllSent l m ↔ (ordL l m).length = cnS l (fun j => (flw l j).z.length) l.length := by
  rw [ord_len v]
  have go : ∀ k, k ≤ l.length → cnS l (fun j => (flw l j).cn m) k ≤ cnS l (fun j => (flw l j).z.length) k ∧ (cnS l (fun j => (flw l j).cn m) k = cnS l (fun j => (flw l j).z.length) k ↔ ∀ j, j < k → (flw l j).cn m = (flw l j).z.length) := by
    intro k
    induction k with
    | zero => intro _; exact ⟨Nat.le_refl _, fun _ j hj => by omega, fun _ => rfl⟩
    | succ k ih =>
      intro hk
      obtain ⟨a, b⟩ := ih (by omega)
      have c := cn_le (flw l k) m
      rw [cnS, cnS]
      refine ⟨by omega, fun e j hj => ?_, fun h => ?_⟩
      · by_cases d : j = k
        · subst d; omega
        · exact b.mp (by omega) j (by omega)
      · have := b.mpr (fun j hj => h j (by omega)); have := h k (by omega); omega
  exact (go _ (Nat.le_refl _)).2.symm
/-- A flow alone is sent in order. -/
theorem alone {f : Flw} (v : Flws [f]) {m : Nat} : ordL [f] m = segL 0 0 (f.cn m) := by
  have seg_app : ∀ (a d : Nat), segL 0 0 a ++ segL 0 a d = segL 0 0 (a + d) := fun a d => by
    induction d with
    | zero => simp [segL]
    | succ d ih => rw [segL, ← List.append_assoc, ih, show a + (d + 1) = a + d + 1 by omega, segL, Nat.zero_add]
  have fo : FlwOk f := v.ok 0 (by simp)
  induction m with
  | zero => rw [cn_zero fo]; rfl
  | succ m ih =>
    have up := cn_up fo (show m ≤ m + 1 by omega)
    rw [ordL, ih]
    show segL 0 0 (f.cn m) ++ (([] : List Snd) ++ segL 0 (f.cn m) (f.cn (m + 1) - f.cn m)) = _
    rw [List.nil_append, seg_app, show f.cn m + (f.cn (m + 1) - f.cn m) = f.cn (m + 1) by omega]
end Go.Proofs.Ytamkadffencpgaa
