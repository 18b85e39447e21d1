
/-
  A slice of slices of numbers: how it reads, and how an argument opens (nil let in).
-/
import Derived.Test.YtlaandbaaepamaaRowA
import Derived.Test.YtlaandbaaepamaaBucketA
namespace Go.Proofs.Ytlaandbaaepamaa
set_option linter.all false
open Go.RowKit Go.ChangeShapes Go.WideShapes Go.Deep Go.Joins

/-- A slice in memory: where it lies, and its numbers. -/
structure Lw where
  a : Option Addr
  c : Nat
  z : List Int
/-- The slice at A reads, in w, as the list l of slices. -/
def Lls (w : World) (A : Option Addr) (l : List Lw) : Prop :=
  l.length ≤ 9223372036854775807 ∧ (0 < l.length → ∃ b off, A = some ⟨b, off, none⟩ ∧ ∀ j f, l[j]? = some f →
    w.cell? ⟨b, off + j, none⟩ = some (.slice f.a f.z.length f.c) ∧ Ints w f.a f.z ∧ f.z.length ≤ f.c)
theorem Lls.nil_ (w : World) (A : Option Addr) : Lls w A [] := ⟨by simp, fun h => absurd h (by simp)⟩
theorem Lls.below {w w' : World} {A : Option Addr} {l : List Lw} (h : Lls w A l) (hb : Below w.heap.size w w') : Lls w' A l := by
  refine ⟨h.1, fun hl => ?_⟩
  obtain ⟨b, off, rfl, hc⟩ := h.2 hl
  refine ⟨b, off, rfl, fun j p hj => ?_⟩
  obtain ⟨h0, h2, h3⟩ := hc j p hj
  exact ⟨(hb.cell (p := ⟨b, _, none⟩) (cell_lt h0)).trans h0, h2.below hb, h3⟩
theorem Lls.get {w : World} {A : Option Addr} {l : List Lw} {k : Nat} (h : Lls w A l) (hk : k < l.length) :
    ∃ b off f, A = some ⟨b, off, none⟩ ∧ b < w.heap.size ∧ w.cell? ⟨b, off + k, none⟩ = some (.slice f.a f.z.length f.c) ∧ Ints w f.a f.z ∧ f.z.length ≤ f.c ∧ Hid (l[k]? = some f) := by
  obtain ⟨b, off, rfl, hc⟩ := h.2 (by omega)
  obtain ⟨h0, h2, h3⟩ := hc k l[k] (List.getElem?_eq_getElem hk)
  exact ⟨b, off, l[k], rfl, cell_lt h0, h0, h2, h3, Lib.hid (List.getElem?_eq_getElem hk)⟩

section
variable {H : Type} {enc : TypeId × Value → H} {w : World}

set_option maxRecDepth 100000 in
theorem one_listW {n : Nat} {u : Value} {y : DataW H × List MemPlace} (h : DataW.trod enc Try.prog w 0 (fun _ => true) true n 29 [u] = some y) :
    ∃ (a : Option Addr) (c : Nat) (z : List Int), u = .slice a z.length c ∧ Ints w a z ∧ z.length ≤ c := by
  rcases open_ints Try.underlying29 Try.underlying3 (by kernel_rfl) h with ⟨hcs, _⟩ | ⟨x, l, c, zs, hcs, _, hl, hm, hz, _, hcell, hwz⟩
  · simp at hcs
    subst hcs
    exact ⟨none, 0, [], rfl, Ints.nil_ _ _, Nat.zero_le _⟩
  · simp at hcs
    subst hcs
    obtain ⟨q, q1, q2, q3⟩ := ints_of_open hl hm (by simpa using hz) hcell
    subst q2
    exact ⟨some x, c, q, rfl, q1, q3⟩

set_option maxRecDepth 100000 in
theorem lls_open {A : Option Addr} {len cap : Nat} {d : DataW H} {p : List MemPlace} (h : DataW.Trod enc Try.prog w 0 (fun _ => true) true 22 (.slice A len cap) d p) :
    ∃ l : List Lw, Lls w A l ∧ len = l.length ∧ l.length ≤ cap := by
  obtain ⟨fuel, hf⟩ := h
  rcases open_slice Try.underlying22 hf with ⟨hcs, _⟩ | ⟨a, ln, cp, m, n, D, Pl, hcs, _, hl, hm, hmm, _, hi⟩
  · simp [Value.cells] at hcs
    obtain ⟨rfl, rfl, rfl⟩ := hcs
    exact ⟨[], Lls.nil_ _ _, rfl, Nat.zero_le _⟩
  · simp [Value.cells] at hcs
    obtain ⟨rfl, rfl, rfl⟩ := hcs
    have hmm' : m = cap := by simpa using hmm
    subst hmm'
    have hC : Try.prog.cellsOf 29 = 1 := by kernel_rfl
    rw [hC] at hi
    have each : ∀ i, ∃ q : Lw, i < m → w.cell? (a.add i) = some (.slice q.a q.z.length q.c) ∧ Ints w q.a q.z ∧ q.z.length ≤ q.c := by
      intro i
      by_cases him : i < m
      · obtain ⟨cs, hc, ht⟩ := hi i him
        obtain ⟨_, hcl, hat⟩ := World.cells?_some hc
        match cs, hcl with
        | [c0], _ =>
          obtain ⟨a', c', z, rfl, iz, kz⟩ := one_listW ht
          exact ⟨⟨a', c', z⟩, fun _ => ⟨by simpa [Addr.add] using hat 0 (by omega), iz, kz⟩⟩
      · exact ⟨⟨none, 0, []⟩, fun h => absurd h him⟩
    obtain ⟨f, hf'⟩ := Classical.axiomOfChoice each
    refine ⟨(List.range len).map f, ⟨by simp; unfold maxLen at hm; omega, fun h0 => ?_⟩, by simp, by simpa using hl⟩
    simp at h0
    obtain ⟨b, off, spot⟩ := a
    have hc := (hf' 0 (by omega)).1
    have hspot : spot = none := by simpa [Addr.add] using World.cell?_spot hc
    subst hspot
    refine ⟨b, off, rfl, fun j q hj => ?_⟩
    have hjl : j < len := by
      have := (List.getElem?_eq_some_iff.1 hj).1
      simpa using this
    have hq : q = f j := by simp [hjl] at hj; exact hj.symm
    subst hq
    obtain ⟨k0, k2, k3⟩ := hf' j (by omega)
    by_cases hz : j = 0
    · subst hz
      exact ⟨by simpa [Addr.add] using k0, k2, k3⟩
    · exact ⟨by simpa [Addr.add, hz] using k0, k2, k3⟩
end

end Go.Proofs.Ytlaandbaaepamaa
