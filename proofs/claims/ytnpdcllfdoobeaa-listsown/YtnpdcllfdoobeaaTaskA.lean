
/-
  Tasks in memory: how a slice of them reads; arguments opened.
-/
import Derived.Test.YtnpdcllfdoobeaaPcsA
import Derived.Test.YtnpdcllfdoobeaaRanksQ
import Derived.Test.YtnpdcllfdoobeaaRefA
namespace Go.Proofs.Ytnpdcllfdoobeaa
set_option linter.all false
open Go.RowKit Go.Shelf Go.Lib Go.ChangeShapes Go.WideShapes Go.Deep Go.Joins

section
variable {H : Type} {enc : TypeId × Value → H} {w : World}

set_option maxRecDepth 100000 in
theorem tas_openP {A : Option Addr} {len cap : Nat} {d : DataW H} {p : List MemPlace} (h : DataW.Trod enc Try.prog w 0 (fun _ => true) true 62 (.slice A len cap) d p) :
    ∃ l : List Pk, Pks w A l ∧ len = l.length ∧ l.length ≤ cap := by
  obtain ⟨fuel, hf⟩ := h
  rcases open_slice Try.underlying62 hf with ⟨hcs, _⟩ | ⟨a, ln, cp, m, n, D, Pl, hcs, _, hl, hm, hmm, _, hi⟩
  · simp [Value.cells] at hcs
    obtain ⟨rfl, rfl, rfl⟩ := hcs
    exact ⟨[], Pks.nil_ _ _, rfl, Nat.zero_le _⟩
  · simp [Value.cells] at hcs
    obtain ⟨rfl, rfl, rfl⟩ := hcs
    have hmm' : m = cap := by simpa using hmm
    subst hmm'
    have hC : Try.prog.cellsOf 68 = 3 := by kernel_rfl
    rw [hC] at hi
    have each : ∀ i, ∃ q : Pk, i < m → w.cell? (a.add (i * 3)) = some (.int .i64 q.at_) ∧ w.cell? ((a.add (i * 3)).add 1) = some (.int .i64 q.size) ∧ w.cell? ((a.add (i * 3)).add 2) = some (.int .i64 q.flow) := by
      intro i
      by_cases him : i < m
      · obtain ⟨cs, hc, ht⟩ := hi i him
        obtain ⟨_, hcl, hat⟩ := World.cells?_some hc
        obtain ⟨y0, y1, y2, n', _, _, t0, t1, t2⟩ := trod_struct3 Try.underlying68 ht
        match cs, hcl with
        | [c0, c1, c2], _ =>
          have e1 : Try.prog.cellsOf 3 = 1 := by kernel_rfl
          obtain ⟨x, rfl, _⟩ := one_int (by simpa [e1] using t0)
          obtain ⟨y, rfl, _⟩ := one_int (by simpa [e1] using t1)
          obtain ⟨z, rfl, _⟩ := one_int (by simpa [e1] using t2)
          exact ⟨⟨x, y, z⟩, fun _ => ⟨by simpa [Addr.add] using hat 0 (by omega), by simpa using hat 1 (by omega), by simpa using hat 2 (by omega)⟩⟩
      · exact ⟨⟨0, 0, 0⟩, fun h => absurd h him⟩
    obtain ⟨f, hf'⟩ := Classical.axiomOfChoice each
    refine ⟨(List.range len).map f, ⟨by simp; unfold maxLen at hm; omega, fun h0 => ?_⟩, by simp, by simpa using hl⟩
    simp at h0
    obtain ⟨b, off, spot⟩ := a
    have hc := (hf' 0 (by omega)).1
    have hspot : spot = none := by simpa [Addr.add] using World.cell?_spot hc
    subst hspot
    refine ⟨b, off, rfl, fun j q hj => ?_⟩
    have hjl : j < len := by
      have := (List.getElem?_eq_some_iff.1 hj).1
      simpa using this
    have hq : q = f j := by simp [hjl] at hj; exact hj.symm
    subst hq
    obtain ⟨k0, k1, k2⟩ := hf' j (by omega)
    by_cases hz : j * 3 = 0
    · rw [hz] at k0 k1 k2 ⊢
      exact ⟨by simpa [Addr.add] using k0, by simpa [Addr.add] using k1, by simpa [Addr.add] using k2⟩
    · exact ⟨by simpa [Addr.add, hz] using k0, by simpa [Addr.add, hz] using k1, by simpa [Addr.add, hz] using k2⟩
set_option maxRecDepth 100000 in
theorem tas_form {A : Option Addr} {len cap : Nat} {d : DataW H} {p : List MemPlace} (h : DataW.Trod enc Try.prog w 0 (fun _ => true) true 62 (.slice A len cap) d p) :
    (A = none → cap = 0) ∧ (0 < len → ∃ elems spare, d = .slice elems spare ∧ elems.length = len) := by
  obtain ⟨fuel, hf⟩ := h
  rcases Go.Deep.open_slice Try.underlying62 hf with ⟨hcs, _⟩ | ⟨a, ln, cp, m, n, D, Pl, hcs, _, hl, hm, hmm, hx, hi⟩
  · simp [Value.cells] at hcs
    obtain ⟨rfl, rfl, rfl⟩ := hcs
    exact ⟨fun _ => rfl, fun h => by omega⟩
  · simp [Value.cells] at hcs
    obtain ⟨rfl, rfl, rfl⟩ := hcs
    exact ⟨fun e => (by cases e), fun _ => ⟨_, _, (Prod.mk.inj hx).1, by simp⟩⟩
end

/-- A task's three numbers. -/
def tp (j : Tk) : Pk := ⟨j.per, j.work, j.due⟩
def pt (p : Pk) : Tk := ⟨p.at_, p.size, p.flow⟩
theorem tp_pt (l : List Pk) : (l.map pt).map tp = l := by
  rw [List.map_map]
  have : (tp ∘ pt) = id := by funext p; cases p; rfl
  rw [this, List.map_id]
def qcs (l : List Tk) : List Value := pcs (l.map tp)
theorem length_qcs (l : List Tk) : (qcs l).length = l.length * 3 := by rw [qcs, length_pcs, List.length_map]
/-- The slice at A reads, in w, as the list l of tasks. -/
def Tas (w : World) (A : Option Addr) (l : List Tk) : Prop := Pks w A (l.map tp)
theorem Tas.le {w : World} {A : Option Addr} {l : List Tk} (h : Tas w A l) : l.length ≤ 9223372036854775807 := by have := h.1; simpa using this
theorem Tas.nil_ (w : World) (A : Option Addr) : Tas w A [] := Pks.nil_ _ _
theorem Tas.below {w w' : World} {A : Option Addr} {l : List Tk} (h : Tas w A l) (hb : Below w.heap.size w w') : Tas w' A l := Pks.below h hb
theorem Tas.alloc {w : World} {A : Option Addr} {l : List Tk} (h : Tas w A l) (o : Obj) : Tas (w.alloc o) A l := Pks.alloc h o
theorem Tas.drewN {w : World} {A : Option Addr} {l : List Tk} (h : Tas w A l) (n : Nat) : Tas (w.drewN n) A l := h
theorem Tas.get {w : World} {A : Option Addr} {l : List Tk} {k : Nat} (h : Tas w A l) (hk : k < l.length) :
    ∃ b off j, A = some ⟨b, off, none⟩ ∧ b < w.heap.size ∧ w.cell? ⟨b, off + k * 3, none⟩ = some (.int .i64 (j : Tk).per) ∧ w.cell? ⟨b, off + k * 3 + 1, none⟩ = some (.int .i64 j.work) ∧ w.cell? ⟨b, off + k * 3 + 2, none⟩ = some (.int .i64 j.due) ∧ Hid (l[k]? = some j) := by
  obtain ⟨b, off, p, e, hb, c0, c1, c2, HP⟩ := Pks.get h (k := k) (by simpa using hk)
  have hg := List.getElem?_eq_getElem hk
  have : p = tp l[k] := by
    have := HP.out
    rw [List.getElem?_map, hg] at this
    exact (Option.some.inj this).symm
  subst this
  exact ⟨b, off, l[k], e, hb, c0, c1, c2, Lib.hid hg⟩
theorem tk_of {l : List Tk} {k : Nat} {j : Tk} (h : l[k]? = some j) : tk l k = j := by simp [tk, List.getD, h]
theorem Tas.lit (w : World) (l : List Tk) (cs : Array Value) (t : TypeId) (h : cs = (qcs l).toArray) (hl : l.length ≤ 1000) : Tas (w.alloc (.cells cs t)) (some ⟨w.heap.size, 0, none⟩) l := Pks.litN w _ cs t h (by simpa using hl)
theorem Tas.of_row {w : World} {base : Nat} {t : TypeId} {A : Option Addr} {c : Nat} {l : List Tk} (h : w.ownsRow base t 3 (.slice A l.length c) l.length (qcs l)) : Tas w A l := by
  refine Pks.of_row (base := base) (t := t) (c := c) ?_
  rw [List.length_map]; exact h
theorem tas_open {H : Type} {enc : TypeId × Value → H} {w : World} {A : Option Addr} {len cap : Nat} {d : DataW H} {p : List MemPlace} (h : DataW.Trod enc Try.prog w 0 (fun _ => true) true 62 (.slice A len cap) d p) :
    ∃ l : List Tk, Tas w A l ∧ len = l.length ∧ l.length ≤ cap := by
  obtain ⟨l, a, b, c⟩ := tas_openP h
  exact ⟨l.map pt, by unfold Tas; rw [tp_pt]; exact a, by rw [List.length_map]; exact b, by rw [List.length_map]; exact c⟩

/-- The error of Check. -/
def taBad (t : Tk) : Bool := decide (t.per < 1 ∨ 60 < t.per ∨ t.work < 1 ∨ t.due < t.work ∨ t.per < t.due)
def tasE (l : List Tk) : Int := if 5 < l.length then 2 else if l.any taBad = true then 1 else 0
structure TksB (l : List Tk) : Prop extends Tks l where
  le : l.length ≤ 5
  p60 : ∀ i, i < l.length → (tk l i).per ≤ 60
theorem tas_iff {l : List Tk} : tasE l = 0 ↔ TksB l := by
  unfold tasE
  by_cases c : 5 < l.length
  · rw [if_pos c]
    exact ⟨fun h => absurd h (by decide), fun h => by have := h.le; omega⟩
  · rw [if_neg c]
    have key : l.any taBad = false ↔ ∀ i, i < l.length → taBad (tk l i) = false := by
      rw [List.any_eq_false]
      constructor
      · intro h i hi
        have e : tk l i = l[i] := by simp [tk, List.getD, hi]
        rw [e]; simpa using h _ (List.getElem_mem hi)
      · intro h x hx
        obtain ⟨i, hi, rfl⟩ := List.getElem_of_mem hx
        have e : tk l i = l[i] := by simp [tk, List.getD, hi]
        have := h i hi
        rw [e] at this; simpa using this
    by_cases d : l.any taBad = true
    · rw [if_pos d]
      refine ⟨fun h => absurd h (by decide), fun h => ?_⟩
      have : l.any taBad = false := key.mpr (fun i hi => by
        have := h.p1 i hi; have := h.w1 i hi; have := h.wd i hi; have := h.dp i hi; have := h.p60 i hi
        unfold taBad; exact decide_eq_false (by omega))
      rw [d] at this; exact absurd this (by simp)
    · rw [if_neg d]
      have k := key.mp (by simpa using d)
      have g : ∀ i, i < l.length → 1 ≤ (tk l i).per ∧ (tk l i).per ≤ 60 ∧ 1 ≤ (tk l i).work ∧ (tk l i).work ≤ (tk l i).due ∧ (tk l i).due ≤ (tk l i).per := fun i hi => by
        have := k i hi
        unfold taBad at this
        have := of_decide_eq_false this
        omega
      exact ⟨fun _ => ⟨⟨fun i hi => (g i hi).1, fun i hi => (g i hi).2.2.1, fun i hi => (g i hi).2.2.2.1, fun i hi => (g i hi).2.2.2.2⟩, by omega, fun i hi => (g i hi).2.1⟩, fun _ => rfl⟩

end Go.Proofs.Ytnpdcllfdoobeaa
