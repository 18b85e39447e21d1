
/-
  What package world owes.
-/
import Derived.Test.YtlaandbaaepamaaWldA
namespace Go.Proofs.Ytlaandbaaepamaa
set_option linter.all false
open Go.RowKit Go.Shelf Go.Lib

/-- A leader with followers: the link, the pieces, who lags and whose turn it is. -/
structure WSt where
  rate : Int
  unit : Int
  d : Wd
/-- As it may be. -/
structure StOk (s : WSt) : Prop where
  r0 : 0 ≤ s.rate
  r1 : s.rate ≤ 1000
  u0 : 1 ≤ s.unit
  u1 : s.unit ≤ 1000
  n0 : 1 ≤ s.d.l.length
  n1 : s.d.l.length ≤ 8
  ok : WdOk s.unit s.d
  lag : ∀ i, i < s.d.l.length → (pr s.d.l i).lag ≤ 1000000
structure NewOk (n r u : Int) : Prop where
  n0 : 1 ≤ n
  n1 : n ≤ 8
  r0 : 0 ≤ r
  r1 : r ≤ 1000
  u0 : 1 ≤ u
  u1 : u ≤ 1000
def newW (n : Nat) (r u : Int) : WSt := ⟨r, u, ⟨List.replicate n ⟨0, 0, true⟩, 0⟩⟩
/-- Would one lag by too much? -/
def overB (k : Int) (l : List Per) : Bool := l.any (fun p => decide (1000000 < p.lag + k))
def apE (k : Int) (s : WSt) : Int := if k < 0 then 1 else if overB k s.d.l = true then 2 else 0
def moreW (k : Int) (s : WSt) : WSt := { s with d := ⟨s.d.l.map (Per.more k), s.d.turn⟩ }
def apW (k : Int) (s : WSt) : WSt := if apE k s = 0 then moreW k s else s
def crashW (i : Nat) (s : WSt) : WSt := { s with d := ⟨s.d.l.set i (pr s.d.l i).crash, s.d.turn⟩ }
def tickW (t : Wd) (s : WSt) : WSt := { s with d := t }
theorem pr_rep {n i : Nat} {p : Per} (h : i < n) : pr (List.replicate n p) i = p := by simp [pr, List.getD, h]
theorem pr_map {l : List Per} {f : Per → Per} {i : Nat} (h : i < l.length) : pr (l.map f) i = f (pr l i) := by simp [pr, List.getD, List.getElem?_eq_getElem h]
theorem new_ok {n : Nat} {r u : Int} (h : NewOk n r u) : StOk (newW n r u) := by
  obtain ⟨n0, n1, r0, r1, u0, u1⟩ := h
  refine ⟨r0, r1, u0, u1, by simp [newW]; omega, by simp [newW]; omega, ⟨by simp [newW]; omega, fun i hi => ?_⟩, fun i hi => ?_⟩
  · simp [newW] at hi ⊢
    rw [pr_rep hi]
    exact ⟨by simp, by simp, by simp, by simp; omega, by simp⟩
  · simp [newW] at hi ⊢
    rw [pr_rep hi]; simp
theorem over_iff {k : Int} {l : List Per} : overB k l = false ↔ ∀ i, i < l.length → (pr l i).lag + k ≤ 1000000 := by
  unfold overB
  rw [Bool.eq_false_iff, Ne, List.any_eq_true]
  constructor
  · intro h i hi
    by_cases c : (pr l i).lag + k ≤ 1000000
    · exact c
    · refine absurd ⟨l[i], List.getElem_mem hi, ?_⟩ h
      have e : pr l i = l[i] := by simp [pr, List.getD, List.getElem?_eq_getElem hi]
      rw [← e]; exact decide_eq_true (by omega)
  · rintro h ⟨p, hp, q⟩
    obtain ⟨i, hi, rfl⟩ := List.getElem_of_mem hp
    have := h i hi
    have e : pr l i = l[i] := by simp [pr, List.getD, List.getElem?_eq_getElem hi]
    rw [e] at this
    have := of_decide_eq_true q
    omega
theorem more_st {k : Int} {s : WSt} (h : StOk s) (hE : apE k s = 0) : StOk (moreW k s) := by
  have k0 : 0 ≤ k := by
    unfold apE at hE
    by_cases c : k < 0
    · rw [if_pos c] at hE; exact absurd hE (by decide)
    · omega
  have ho : overB k s.d.l = false := by
    unfold apE at hE
    rw [if_neg (by omega)] at hE
    cases c : overB k s.d.l with
    | false => rfl
    | true => rw [c] at hE; exact absurd hE (by decide)
  obtain ⟨r0, r1, u0, u1, n0, n1, ⟨tn, ok⟩, lag⟩ := h
  refine ⟨r0, r1, u0, u1, by simp [moreW]; exact n0, by simp [moreW]; exact n1, ⟨by simp [moreW]; exact tn, fun i hi => ?_⟩, fun i hi => ?_⟩
  · simp [moreW] at hi ⊢
    rw [pr_map hi]; exact (more_ok (ok i hi) k0).1
  · simp [moreW] at hi ⊢
    rw [pr_map hi]
    exact over_iff.1 ho i hi
theorem ap_st {k : Int} {s : WSt} (h : StOk s) : StOk (apW k s) := by
  unfold apW
  split
  · rename_i c; exact more_st h c
  · exact h
theorem crash_st {i : Nat} {s : WSt} (h : StOk s) (hi : i < s.d.l.length) : StOk (crashW i s) := by
  obtain ⟨r0, r1, u0, u1, n0, n1, ⟨tn, ok⟩, lag⟩ := h
  refine ⟨r0, r1, u0, u1, by simp [crashW]; exact n0, by simp [crashW]; exact n1, ⟨by simp [crashW]; exact tn, fun j hj => ?_⟩, fun j hj => ?_⟩
  · simp [crashW] at hj ⊢
    by_cases c : i = j
    · subst c; rw [pr_set hi]; exact (crash_ok u0 (ok i hi)).1
    · rw [pr_other c]; exact ok j hj
  · simp [crashW] at hj ⊢
    by_cases c : i = j
    · subst c; rw [pr_set hi]; exact lag i hi
    · rw [pr_other c]; exact lag j hj
theorem byte_lag {unit : Int} {p : Per} (u : 1 ≤ unit) (h : PrOk unit p) : (p.byte unit).lag ≤ p.lag := by
  have := h.part0
  unfold Per.byte
  split
  · simp only; omega
  · simp
theorem bys_lag {unit : Int} (u : 1 ≤ unit) {m : Nat} {s t : Wd} (b : Bys unit m s t) (h : WdOk unit s) (k : ∀ i, i < s.l.length → (pr s.l i).lag ≤ 1000000) : ∀ i, i < s.l.length → (pr t.l i).lag ≤ 1000000 := by
  induction b with
  | none => exact k
  | @byte m s t i b' p ih =>
    intro j hj
    have a := b'.keep u h
    have ij := ih h k
    simp only [Wd.byte]
    by_cases c : i = j
    · subst c
      rw [pr_set p.lt]
      have := byte_lag u (a.1.ok i p.lt); have := ij i hj; omega
    · rw [pr_other c]; exact ij j hj
theorem tick_st {s : WSt} {t : Wd} {m : Nat} (h : StOk s) (k : Tick s.unit s.rate s.d t m) : StOk (tickW t s) ∧ t.l.length = s.d.l.length := by
  obtain ⟨r0, r1, u0, u1, n0, n1, ok, lag⟩ := h
  have a := k.bys.keep u0 ok
  have e := a.2.1
  exact ⟨⟨r0, r1, u0, u1, by simp only [tickW]; omega, by simp only [tickW]; omega, a.1, fun i hi => bys_lag u0 k.bys ok lag i (by simp only [tickW] at hi; omega)⟩, e⟩
/-- A slot can always be. -/
theorem bys_more {unit : Int} (u : 1 ≤ unit) {s : Wd} (h : WdOk unit s) : ∀ n : Nat, (∃ t, Bys unit n s t) ∨ ∃ m t, m < n ∧ Bys unit m s t ∧ ∀ i, i < t.l.length → (pr t.l i).done = true
  | 0 => .inl ⟨s, .none s⟩
  | n + 1 => by
    rcases bys_more u h n with ⟨t, b⟩ | ⟨m, t, hm, b, d⟩
    · by_cases c : ∃ i, i < t.l.length ∧ (pr t.l i).done = false
      · obtain ⟨i, p⟩ := Wd.pick c
        exact .inl ⟨_, .byte i b p⟩
      · refine .inr ⟨n, t, by omega, b, fun i hi => ?_⟩
        cases q : (pr t.l i).done with
        | true => rfl
        | false => exact absurd ⟨i, hi, q⟩ c
    · exact .inr ⟨m, t, by omega, b, d⟩
theorem ex_tick {s : WSt} (h : StOk s) : ∃ t m, Tick s.unit s.rate s.d t m := by
  have hr := h.r0
  rcases bys_more h.u0 h.ok s.rate.toNat with ⟨t, b⟩ | ⟨m, t, hm, b, d⟩
  · exact ⟨t, _, b, by omega, .inl (by omega)⟩
  · exact ⟨t, m, b, by omega, .inr d⟩

/-- Only what lies in S has turned, and what was not there before is new. -/
structure Mv (w w' : World) (S S' : Nat → Prop) : Prop where
  os : w'.os = w.os
  tape : w'.tape = w.tape
  output : w'.output = w.output
  size : w.heap.size ≤ w'.heap.size
  block : ∀ b, b < w.heap.size → ¬ S b → w'.heap[b]? = w.heap[b]?
  new : ∀ b, S' b → S b ∨ w.heap.size ≤ b
theorem Mv.below {w w' : World} {S S' : Nat → Prop} {B : Nat} (h : Mv w w' S S') (hB : B ≤ w.heap.size) (hS : ∀ b, S b → B ≤ b) : Below B w w' :=
  ⟨h.os, h.tape, h.output, h.size, fun b hb => h.block b (by omega) (fun k => by have := hS b k; omega)⟩
theorem Mv.from_ {w w' : World} {S S' : Nat → Prop} {B : Nat} (h : Mv w w' S S') (hB : B ≤ w.heap.size) (hS : ∀ b, S b → B ≤ b) : ∀ b, S' b → B ≤ b := fun b k => by
  rcases h.new b k with q | q
  · exact hS b q
  · omega
/-- What package world owes: Rep w p S s: at p there is, in w, a world that is as s says, in the blocks of S. -/
structure WldC (Rep : World → Value → (Nat → Prop) → WSt → Prop) : Prop where
  keep : ∀ (w w' : World) (p : Value) (S : Nat → Prop) (s : WSt), Rep w p S s → (∀ b, S b → w'.heap[b]? = w.heap[b]?) → Rep w' p S s
  lt : ∀ (w : World) (p : Value) (S : Nat → Prop) (s : WSt), Rep w p S s → ∀ b, S b → b < w.heap.size
  ptr : ∀ (w : World) (p : Value) (S : Nat → Prop) (s : WSt), Rep w p S s → ∃ a, p = .pointer (some a)
  ok : ∀ (w : World) (p : Value) (S : Nat → Prop) (s : WSt), Rep w p S s → StOk s
  new : ∀ (n : Nat) (r u : Int) (w : World), NewOk n r u → Calls Try.prog 10 #[.int .i64 n, .int .i64 r, .int .i64 u] w fun e w' => ∃ p S, e = .returned (.tuple #[p, .int .i64 0]) ∧ Rep w' p S (newW n r u) ∧ (∀ b, S b → w.heap.size ≤ b) ∧ Below w.heap.size w w'
  new_no : ∀ (n r u : Int) (w : World), ¬ NewOk n r u → Calls Try.prog 10 #[.int .i64 n, .int .i64 r, .int .i64 u] w fun e w' => e = .returned (.tuple #[.pointer none, .int .i64 1]) ∧ Below w.heap.size w w'
  append : ∀ (k : Int) (w : World) (p : Value) (S : Nat → Prop) (s : WSt), Rep w p S s → Calls Try.prog 13 #[p, .int .i64 k] w fun e w' => e = .returned (.int .i64 (apE k s)) ∧ ∃ S', Rep w' p S' (apW k s) ∧ Mv w w' S S'
  tick : ∀ (w : World) (p : Value) (S : Nat → Prop) (s : WSt) (t : Wd) (m : Nat), Rep w p S s → Tick s.unit s.rate s.d t m → Calls Try.prog 15 #[p] w fun e w' => e = .returned (.int .i64 m) ∧ ∃ S', Rep w' p S' (tickW t s) ∧ Mv w w' S S'
  crash : ∀ (i : Nat) (w : World) (p : Value) (S : Nat → Prop) (s : WSt), Rep w p S s → i < s.d.l.length → Calls Try.prog 17 #[p, .int .i64 i] w fun e w' => e = .returned (.int .i64 0) ∧ ∃ S', Rep w' p S' (crashW i s) ∧ Mv w w' S S'
  crash_no : ∀ (i : Int) (w : World) (p : Value) (S : Nat → Prop) (s : WSt), Rep w p S s → ¬ (0 ≤ i ∧ i < s.d.l.length) → Calls Try.prog 17 #[p, .int .i64 i] w fun e w' => e = .returned (.int .i64 1) ∧ ∃ S', Rep w' p S' s ∧ Mv w w' S S'
  peers : ∀ (w : World) (p : Value) (S : Nat → Prop) (s : WSt), Rep w p S s → Calls Try.prog 19 #[p] w fun e w' => ∃ A c, e = .returned (.slice A s.d.l.length c) ∧ w'.ownsRow w.heap.size 34 3 (.slice A s.d.l.length c) s.d.l.length (pecs s.d.l) ∧ Below w.heap.size w w'

end Go.Proofs.Ytlaandbaaepamaa
