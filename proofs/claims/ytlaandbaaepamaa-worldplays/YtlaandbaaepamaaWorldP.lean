
/-
  Plain mathematics of a leader with followers: a byte, a slot, a crash; whose turn it is.
-/
import Derived.Test.YtlaandbaaepamaaPlain
namespace Go.Proofs.Ytlaandbaaepamaa
set_option linter.all false

structure Per where
  lag : Int
  part : Int
  done : Bool
def pr (l : List Per) (i : Nat) : Per := l.getD i ⟨0, 0, true⟩
theorem pr_set {l : List Per} {i : Nat} {p : Per} (h : i < l.length) : pr (l.set i p) i = p := by simp [pr, List.getD, h]
theorem pr_other {l : List Per} {i j : Nat} {p : Per} (h : i ≠ j) : pr (l.set i p) j = pr l j := by simp [pr, List.getD, List.getElem?_set_ne h]
theorem pr_ext {l m : List Per} (e : l.length = m.length) (h : ∀ i, i < l.length → pr l i = pr m i) : l = m := by
  refine List.ext_getElem e (fun i h1 h2 => ?_)
  have := h i h1
  simpa [pr, List.getD, List.getElem?_eq_getElem h1, List.getElem?_eq_getElem h2] using this
/-- A peer as it may be. -/
structure PrOk (unit : Int) (p : Per) : Prop where
  done : p.done = true ↔ p.lag = 0
  lag0 : 0 ≤ p.lag
  part0 : 0 ≤ p.part
  less : p.part < unit
  part1 : 0 < p.part → p.part < p.lag
def Per.need (p : Per) : Int := p.lag - p.part
theorem PrOk.need {unit : Int} {p : Per} (h : PrOk unit p) : 0 ≤ p.need ∧ (p.need = 0 ↔ p.done = true) := by
  have := h.lag0; have := h.part0; have := h.part1
  rw [h.done]; unfold Per.need
  by_cases c : 0 < p.part
  · have := h.part1 c; constructor
    · omega
    · constructor <;> intro _ <;> omega
  · constructor
    · omega
    · constructor <;> intro _ <;> omega
theorem PrOk.wait {unit : Int} {p : Per} (h : PrOk unit p) (d : p.done = false) : 0 < p.need := by
  have n := h.need
  rcases Int.lt_or_eq_of_le n.1 with c | c
  · exact c
  · have := n.2.mp c.symm; rw [d] at this; exact absurd this (by simp)
/-- A byte for it; more behind; a crash. -/
def Per.byte (unit : Int) (p : Per) : Per :=
  if p.part + 1 = unit ∨ p.part + 1 = p.lag then ⟨p.lag - (p.part + 1), 0, decide (p.lag - (p.part + 1) = 0)⟩ else ⟨p.lag, p.part + 1, p.done⟩
def Per.more (n : Int) (p : Per) : Per := ⟨p.lag + n, p.part, decide (p.lag + n = 0)⟩
def Per.crash (p : Per) : Per := ⟨p.lag, 0, p.done⟩
theorem byte_ok {unit : Int} {p : Per} (u : 1 ≤ unit) (h : PrOk unit p) (d : p.done = false) : PrOk unit (p.byte unit) ∧ (p.byte unit).need = p.need - 1 := by
  have w := h.wait d
  have l0 := h.lag0; have p0 := h.part0; have ps := h.less
  unfold Per.need at w
  unfold Per.byte Per.need
  split
  · refine ⟨⟨by simp, ?_, ?_, ?_, ?_⟩, ?_⟩ <;> simp only <;> omega
  · refine ⟨⟨h.done, l0, ?_, ?_, ?_⟩, ?_⟩ <;> simp only <;> omega
theorem more_ok {unit n : Int} {p : Per} (h : PrOk unit p) (n0 : 0 ≤ n) : PrOk unit (p.more n) ∧ (p.more n).need = p.need + n := by
  have l0 := h.lag0; have p0 := h.part0; have ps := h.less; have p1 := h.part1
  unfold Per.more Per.need
  refine ⟨⟨by simp, ?_, ?_, ?_, ?_⟩, ?_⟩ <;> simp only <;> omega
theorem crash_ok {unit : Int} {p : Per} (u : 1 ≤ unit) (h : PrOk unit p) : PrOk unit p.crash ∧ p.crash.need = p.need + p.part := by
  have l0 := h.lag0
  unfold Per.crash Per.need
  refine ⟨⟨h.done, l0, ?_, ?_, ?_⟩, ?_⟩ <;> simp only <;> omega

/-- All peers, and whose turn it is. -/
structure Wd where
  l : List Per
  turn : Nat
structure WdOk (unit : Int) (s : Wd) : Prop where
  turn : s.turn < s.l.length
  ok : ∀ i, i < s.l.length → PrOk unit (pr s.l i)
/-- How far it is to i's turn. -/
def Wd.far (s : Wd) (i : Nat) : Nat := if s.turn ≤ i then i - s.turn else i + s.l.length - s.turn
theorem far_lt {unit : Int} {s : Wd} (h : WdOk unit s) {i : Nat} (hi : i < s.l.length) : s.far i < s.l.length := by
  have := h.turn; unfold Wd.far; split <;> omega
theorem far_inj {unit : Int} {s : Wd} (h : WdOk unit s) {i j : Nat} (hi : i < s.l.length) (hj : j < s.l.length) (e : s.far i = s.far j) : i = j := by
  have := h.turn; unfold Wd.far at e; split at e <;> split at e <;> omega
/-- The first that waits, from the turn on. -/
structure Wd.Pick (s : Wd) (i : Nat) : Prop where
  lt : i < s.l.length
  wait : (pr s.l i).done = false
  first : ∀ k, k < s.l.length → (pr s.l k).done = false → s.far i ≤ s.far k
theorem Wd.Pick.uniq {unit : Int} {s : Wd} (h : WdOk unit s) {i j : Nat} (a : s.Pick i) (b : s.Pick j) : i = j :=
  far_inj h a.lt b.lt (Nat.le_antisymm (a.first j b.lt b.wait) (b.first i a.lt a.wait))
def Wd.after (s : Wd) (i : Nat) : Nat := if i + 1 = s.l.length then 0 else i + 1
def Wd.byte (unit : Int) (s : Wd) (i : Nat) : Wd := ⟨s.l.set i ((pr s.l i).byte unit), s.after i⟩
theorem Wd.length_byte (unit : Int) (s : Wd) (i : Nat) : (s.byte unit i).l.length = s.l.length := by simp [Wd.byte]
theorem far_or (s : Wd) (i : Nat) : (s.turn ≤ i ∧ s.far i = i - s.turn) ∨ (i < s.turn ∧ s.far i = i + s.l.length - s.turn) := by
  unfold Wd.far; split <;> omega
theorem after_or (unit : Int) (s : Wd) (i : Nat) : (i + 1 = s.l.length ∧ (s.byte unit i).turn = 0) ∨ (i + 1 ≠ s.l.length ∧ (s.byte unit i).turn = i + 1) := by
  simp only [Wd.byte, Wd.after]; split <;> omega
theorem Wd.byte_ok {unit : Int} {s : Wd} {i : Nat} (u : 1 ≤ unit) (h : WdOk unit s) (p : s.Pick i) : WdOk unit (s.byte unit i) := by
  refine ⟨?_, fun j hj => ?_⟩
  · rw [Wd.length_byte]; have := p.lt; simp only [Wd.byte, Wd.after]; split <;> omega
  · rw [Wd.length_byte] at hj
    simp only [Wd.byte]
    by_cases c : i = j
    · subst c; rw [pr_set hj]; exact (Go.Proofs.Ytlaandbaaepamaa.byte_ok u (h.ok i hj) p.wait).1
    · rw [pr_other c]; exact h.ok j hj
/-- What all need. -/
def needs (l : List Per) : Nat → Int
  | 0 => 0
  | n + 1 => needs l n + (pr l n).need
def Wd.sum (s : Wd) : Int := needs s.l s.l.length
theorem needs_same {l m : List Per} : ∀ n, (∀ i, i < n → (pr l i).need = (pr m i).need) → needs l n = needs m n
  | 0, _ => rfl
  | n + 1, h => by rw [needs, needs, needs_same n (fun i hi => h i (by omega)), h n (by omega)]
theorem needs_one {l m : List Per} {k : Nat} : ∀ n, (∀ i, i < n → i ≠ k → (pr l i).need = (pr m i).need) → k < n → needs l n = needs m n + ((pr l k).need - (pr m k).need)
  | 0, _, h => by omega
  | n + 1, h, hk => by
    rw [needs, needs]
    by_cases c : k = n
    · subst c; rw [needs_same k (fun i hi => h i (by omega) (by omega))]; omega
    · have := needs_one n (fun i hi => h i (by omega)) (show k < n by omega); rw [h n (by omega) (by omega)]; omega
theorem needs_lo {l : List Per} : ∀ n, (∀ i, i < n → 0 ≤ (pr l i).need) → 0 ≤ needs l n ∧ ∀ i, i < n → (pr l i).need ≤ needs l n
  | 0, _ => ⟨Int.le_refl _, fun i hi => by omega⟩
  | n + 1, h => by
    have ih := needs_lo n (fun i hi => h i (by omega))
    have hn := h n (by omega)
    rw [needs]
    refine ⟨by omega, fun i hi => ?_⟩
    by_cases c : i = n
    · subst c; omega
    · have := ih.2 i (by omega); omega
theorem needs_zero {l : List Per} : ∀ n, (∀ i, i < n → (pr l i).need = 0) → needs l n = 0
  | 0, _ => rfl
  | n + 1, h => by rw [needs, needs_zero n (fun i hi => h i (by omega)), h n (by omega)]; rfl
theorem WdOk.sum {unit : Int} {s : Wd} (h : WdOk unit s) : 0 ≤ s.sum ∧ (s.sum = 0 ↔ ∀ i, i < s.l.length → (pr s.l i).done = true) := by
  have n := needs_lo (l := s.l) s.l.length (fun i hi => (h.ok i hi).need.1)
  refine ⟨n.1, fun e i hi => ?_, fun d => needs_zero _ (fun i hi => (h.ok i hi).need.2.mpr (d i hi))⟩
  have a := (h.ok i hi).need
  have b := n.2 i hi
  unfold Wd.sum at e
  exact a.2.mp (by omega)
theorem Wd.need_byte {unit : Int} {s : Wd} {i : Nat} (u : 1 ≤ unit) (h : WdOk unit s) (p : s.Pick i) (j : Nat) : (pr (s.byte unit i).l j).need = (pr s.l j).need - if j = i then 1 else 0 := by
  simp only [Wd.byte]
  by_cases c : j = i
  · subst c; rw [pr_set p.lt, (Go.Proofs.Ytlaandbaaepamaa.byte_ok u (h.ok j p.lt) p.wait).2, if_pos rfl]
  · rw [pr_other (Ne.symm c), if_neg c]; omega
theorem Wd.sum_byte {unit : Int} {s : Wd} {i : Nat} (u : 1 ≤ unit) (h : WdOk unit s) (p : s.Pick i) : (s.byte unit i).sum = s.sum - 1 := by
  unfold Wd.sum
  rw [Wd.length_byte, needs_one (m := s.l) (k := i) s.l.length (fun j _ ne => by rw [Wd.need_byte u h p j, if_neg ne]; omega) p.lt, Wd.need_byte u h p i, if_pos rfl]
  omega
/-- There is one to pick while one waits. -/
theorem Wd.pick {s : Wd} (h : ∃ i, i < s.l.length ∧ (pr s.l i).done = false) : ∃ i, s.Pick i := by
  obtain ⟨i, hi, d⟩ := h
  have go : ∀ n i, s.far i ≤ n → i < s.l.length → (pr s.l i).done = false → ∃ i, s.Pick i := by
    intro n
    induction n with
    | zero => intro i a b c; exact ⟨i, b, c, fun k _ _ => by omega⟩
    | succ n ih =>
      intro i a b c
      by_cases e : ∃ k, k < s.l.length ∧ (pr s.l k).done = false ∧ s.far k < s.far i
      · obtain ⟨k, k1, k2, k3⟩ := e
        exact ih k (by omega) k1 k2
      · refine ⟨i, b, c, fun k k1 k2 => ?_⟩
        by_cases f : s.far k < s.far i
        · exact absurd ⟨k, k1, k2, f⟩ e
        · omega
  exact go _ i (Nat.le_refl _) hi d
/-- m bytes. -/
inductive Bys (unit : Int) : Nat → Wd → Wd → Prop
  | none (s : Wd) : Bys unit 0 s s
  | byte {m : Nat} {s t : Wd} (i : Nat) : Bys unit m s t → t.Pick i → Bys unit (m + 1) s (t.byte unit i)
theorem Bys.keep {unit : Int} (u : 1 ≤ unit) {m : Nat} {s t : Wd} (b : Bys unit m s t) (h : WdOk unit s) : WdOk unit t ∧ t.l.length = s.l.length ∧ t.sum = s.sum - m := by
  induction b with
  | none => exact ⟨h, rfl, by simp⟩
  | byte i _ p ih =>
    obtain ⟨a, b, c⟩ := ih h
    refine ⟨Wd.byte_ok u a p, by rw [Wd.length_byte, b], ?_⟩
    rw [Wd.sum_byte u a p, c]; omega
theorem Bys.le {unit : Int} (u : 1 ≤ unit) {m : Nat} {s t : Wd} (b : Bys unit m s t) (h : WdOk unit s) : (m : Int) ≤ s.sum := by
  have k := b.keep u h
  have := k.1.sum.1; omega
theorem Bys.uniq {unit : Int} (u : 1 ≤ unit) {m : Nat} {s t v : Wd} (b : Bys unit m s t) (c : Bys unit m s v) (h : WdOk unit s) : t = v := by
  induction b generalizing v with
  | none => cases c; rfl
  | byte i b' p ih => cases c with
    | byte j c' q =>
      cases ih c' h
      rw [p.uniq (b'.keep u h).1 q]
theorem Bys.trans {unit : Int} {m n : Nat} {s t v : Wd} (b : Bys unit m s t) (c : Bys unit n t v) : Bys unit (m + n) s v := by
  induction c with
  | none => exact b
  | byte i _ p ih => exact Bys.byte i (ih b) p
/-- A slot: as many bytes as the link gives, as long as one waits. -/
structure Tick (unit rate : Int) (s t : Wd) (m : Nat) : Prop where
  bys : Bys unit m s t
  le : (m : Int) ≤ rate
  all : (m : Int) = rate ∨ ∀ i, i < t.l.length → (pr t.l i).done = true
theorem Tick.is {unit rate : Int} (u : 1 ≤ unit) {s t : Wd} {m : Nat} (h : WdOk unit s) (k : Tick unit rate s t m) : (m : Int) = min rate s.sum ∧ t.sum = s.sum - m := by
  have a := k.bys.keep u h
  have b := k.bys.le u h
  have c := k.le
  refine ⟨?_, a.2.2⟩
  rcases k.all with e | e
  · omega
  · have := a.1.sum.2.mpr e; omega
theorem Tick.uniq {unit rate : Int} (u : 1 ≤ unit) {s t v : Wd} {m n : Nat} (h : WdOk unit s) (k : Tick unit rate s t m) (q : Tick unit rate s v n) : m = n ∧ t = v := by
  have e : m = n := by have := (k.is u h).1; have := (q.is u h).1; omega
  subst e
  exact ⟨rfl, k.bys.uniq u q.bys h⟩
/-- A peer's wait: bytes until it is done. -/
def Wd.long (s : Wd) (i : Nat) : Int := s.l.length * ((pr s.l i).need - 1) + s.far i + 1
theorem long_le {unit : Int} {s : Wd} (h : WdOk unit s) {i : Nat} (hi : i < s.l.length) : s.long i ≤ s.l.length * (pr s.l i).need := by
  have := far_lt h hi
  unfold Wd.long; rw [Int.mul_sub, Int.mul_one]; omega
theorem long_byte {unit : Int} {s : Wd} {i k : Nat} (u : 1 ≤ unit) (h : WdOk unit s) (p : s.Pick i) (hk : k < s.l.length) (d : (pr s.l k).done = false) : (s.byte unit i).long k + 1 ≤ s.long k := by
  have tn := h.turn
  have il := p.lt
  have f := p.first k hk d
  have e := Wd.need_byte u h p k
  unfold Wd.long
  rw [Wd.length_byte, e]
  by_cases c : k = i
  · subst c
    rw [if_pos rfl, Int.mul_sub, Int.mul_sub, Int.mul_one]
    have : ((s.byte unit k).far k : Int) + 1 = s.l.length := by
      have g := far_or (s.byte unit k) k; have o := after_or unit s k
      rw [Wd.length_byte] at g
      omega
    omega
  · rw [if_neg c, Int.sub_zero]
    have ne : s.far i ≠ s.far k := fun q => c (far_inj h hk il q.symm)
    have : (s.byte unit i).far k + 1 ≤ s.far k := by
      have a := far_or s i; have b := far_or s k; have g := far_or (s.byte unit i) k; have o := after_or unit s i
      rw [Wd.length_byte] at g
      omega
    omega
theorem done_byte {unit : Int} {s : Wd} {i k : Nat} (p : s.Pick i) (d : (pr s.l k).done = true) : (pr (s.byte unit i).l k).done = true := by
  have c : i ≠ k := fun e => by have := p.wait; rw [e, d] at this; exact absurd this (by simp)
  simp only [Wd.byte]; rw [pr_other c]; exact d
theorem Bys.done {unit : Int} {m : Nat} {s t : Wd} (b : Bys unit m s t) {k : Nat} (d : (pr s.l k).done = true) : (pr t.l k).done = true := by
  induction b with
  | none => exact d
  | byte i _ p ih => exact done_byte p (ih d)
theorem Bys.long {unit : Int} (u : 1 ≤ unit) {m : Nat} {s t : Wd} (b : Bys unit m s t) (h : WdOk unit s) {k : Nat} (hk : k < s.l.length) : (pr t.l k).done = true ∨ t.long k + m ≤ s.long k := by
  induction b with
  | none => right; simp
  | @byte m s t i b' p ih =>
    rcases ih h hk with d | e
    · exact Or.inl (done_byte p d)
    · cases c : (pr t.l k).done with
      | true => exact Or.inl (done_byte p c)
      | false =>
        have a := b'.keep u h
        have := long_byte u a.1 p (by rw [a.2.1]; exact hk) c
        right; omega
/-- Who needs so much is done when all could have had as much. -/
theorem Bys.each {unit : Int} (u : 1 ≤ unit) {m : Nat} {s t : Wd} (b : Bys unit m s t) (h : WdOk unit s) {k : Nat} (hk : k < s.l.length) (e : s.l.length * (pr s.l k).need ≤ m) : (pr t.l k).done = true := by
  have a := b.keep u h
  rcases b.long u h hk with d | f
  · exact d
  · have hk' : k < t.l.length := by rw [a.2.1]; exact hk
    have n := (a.1.ok k hk').need
    have l1 := long_le h hk
    cases c : (pr t.l k).done with
    | true => rfl
    | false =>
      have w := (a.1.ok k hk').wait c
      have := Int.mul_nonneg (show (0 : Int) ≤ t.l.length by omega) (show 0 ≤ (pr t.l k).need - 1 by omega)
      unfold Wd.long at f; unfold Wd.long at l1; omega
/-- While all wait, the turn goes round: two never differ by more than a byte. -/
theorem Bys.round {unit : Int} (u : 1 ≤ unit) {m : Nat} {s t : Wd} (b : Bys unit m s t) (h : WdOk unit s) (t0 : s.turn = 0) (w : ∀ i, i < s.l.length → (m : Int) < (pr s.l i).need) :
    ∃ a : Nat, m = a * s.l.length + t.turn ∧ ∀ i, i < s.l.length → (pr t.l i).need = (pr s.l i).need - a - if i < t.turn then 1 else 0 := by
  induction b with
  | none s => exact ⟨0, by omega, fun i hi => by rw [if_neg (by omega)]; simp⟩
  | @byte m s t i b' p ih =>
    obtain ⟨a, e, f⟩ := ih h t0 (fun i hi => by have := w i hi; omega)
    have k := b'.keep u h
    have tn := k.1.turn
    rw [k.2.1] at tn
    -- the one whose turn it is waits
    have am : a ≤ m := by
      have := Nat.le_mul_of_pos_right a (show 0 < s.l.length by omega); omega
    have wt : ∀ j, j < s.l.length → (pr t.l j).done = false := fun j hj => by
      have n := (k.1.ok j (by omega)).need
      have := w j hj; have fj := f j hj
      cases c : (pr t.l j).done with
      | false => rfl
      | true =>
        have := n.2.mpr c
        split at fj <;> omega
    have z : t.far t.turn = 0 := by unfold Wd.far; rw [if_pos (Nat.le_refl _)]; omega
    have fi := p.first t.turn (by omega) (wt _ tn)
    have ei : i = t.turn := far_inj k.1 p.lt (by omega) (by omega)
    subst ei
    have nb := Wd.need_byte u k.1 p
    have o := after_or unit t t.turn
    by_cases c : t.turn + 1 = s.l.length
    · refine ⟨a + 1, ?_, fun j hj => ?_⟩
      · rw [Nat.add_mul, Nat.one_mul]; omega
      · rw [nb j, f j hj]
        split <;> split <;> split <;> omega
    · refine ⟨a, by omega, fun j hj => ?_⟩
      rw [nb j, f j hj]
      split <;> split <;> split <;> omega
/-- The same from as much behind, to the end. -/
theorem Bys.even {unit N : Int} (u : 1 ≤ unit) {m : Nat} {s t : Wd} (b : Bys unit m s t) (h : WdOk unit s) (t0 : s.turn = 0) (w : ∀ i, i < s.l.length → (pr s.l i).need = N) :
    ∃ a : Nat, m = a * s.l.length + t.turn ∧ ∀ i, i < s.l.length → (pr t.l i).need = N - a - if i < t.turn then 1 else 0 := by
  induction b with
  | none s => exact ⟨0, by omega, fun i hi => by rw [w i hi, if_neg (by omega)]; simp⟩
  | @byte m s t i b' p ih =>
    obtain ⟨a, e, f⟩ := ih h t0 w
    have k := b'.keep u h
    have tn := k.1.turn
    rw [k.2.1] at tn
    have il := p.lt
    have wi := (k.1.ok i il).wait p.wait
    have fi := f i (by omega)
    have ft := f t.turn tn
    rw [if_neg (by omega)] at ft
    have wt : (pr t.l t.turn).done = false := by
      have n := (k.1.ok t.turn (by omega)).need
      cases c : (pr t.l t.turn).done with
      | false => rfl
      | true => have := n.2.mpr c; split at fi <;> omega
    have z : t.far t.turn = 0 := by unfold Wd.far; rw [if_pos (Nat.le_refl _)]; omega
    have g := p.first t.turn (by omega) wt
    have ei : i = t.turn := far_inj k.1 p.lt (by omega) (by omega)
    subst ei
    have nb := Wd.need_byte u k.1 p
    have o := after_or unit t t.turn
    by_cases c : t.turn + 1 = s.l.length
    · refine ⟨a + 1, ?_, fun j hj => ?_⟩
      · rw [Nat.add_mul, Nat.one_mul]; omega
      · rw [nb j, f j hj]
        split <;> split <;> split <;> omega
    · refine ⟨a, by omega, fun j hj => ?_⟩
      rw [nb j, f j hj]
      split <;> split <;> split <;> omega
/-- Who is done behind m bytes. -/
theorem Bys.even_done {unit : Int} {N : Nat} (u : 1 ≤ unit) {m : Nat} {s t : Wd} (b : Bys unit m s t) (h : WdOk unit s) (t0 : s.turn = 0) (w : ∀ i, i < s.l.length → (pr s.l i).need = N) {i : Nat} (hi : i < s.l.length) :
    (pr t.l i).done = true ↔ N = 0 ∨ (N - 1) * s.l.length + i + 1 ≤ m := by
  obtain ⟨a, e, f⟩ := b.even u h t0 w
  have k := b.keep u h
  have tn := k.1.turn
  rw [k.2.1] at tn
  have fi := f i hi
  have n := (k.1.ok i (by omega)).need
  rw [← n.2, fi]
  by_cases z : N = 0
  · subst z
    constructor
    · intro _; exact Or.inl rfl
    · intro _; have := n.1; split at fi <;> split <;> omega
  · have n0 := n.1
    rw [fi] at n0
    -- compare a with N - 1
    have key : (N - 1) * s.l.length + i + 1 ≤ a * s.l.length + t.turn ↔ N - 1 < a ∨ N - 1 = a ∧ i < t.turn := by
      by_cases c : N - 1 < a
      · have := Nat.mul_le_mul_right s.l.length (show N - 1 + 1 ≤ a by omega)
        rw [Nat.add_mul, Nat.one_mul] at this
        constructor
        · intro _; exact Or.inl c
        · intro _; omega
      · by_cases d : N - 1 = a
        · rw [d]; constructor
          · intro _; right; exact ⟨rfl, by omega⟩
          · intro q; omega
        · have := Nat.mul_le_mul_right s.l.length (show a + 1 ≤ N - 1 by omega)
          rw [Nat.add_mul, Nat.one_mul] at this
          constructor
          · intro q; omega
          · intro q; omega
    rw [e, key]
    split at n0 <;> split <;> constructor <;> intro q <;> omega
end Go.Proofs.Ytlaandbaaepamaa
