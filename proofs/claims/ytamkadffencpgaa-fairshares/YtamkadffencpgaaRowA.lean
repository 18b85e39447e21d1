
/-
  Arguments opened: a bucket by value, a slice of packets (nil let in).
-/
import Derived.Test.YtamkadffencpgaaRefA
import Derived.Lib.SmallJoins
import Derived.Deep.Slices
import Derived.ProofKit
import Derived.ChangeSame
namespace Go.Proofs.Ytamkadffencpgaa
set_option linter.all false
open Go.RowKit Go.ChangeShapes Go.WideShapes Go.Deep Go.Joins

section
variable {H : Type} {enc : TypeId × Value → H} {w : World}

theorem one_int {n : Nat} {u : Value} {y : DataW H × List MemPlace} (h : DataW.trod enc Try.prog w 0 (fun _ => true) true n 3 [u] = some y) : ∃ a, u = .int .i64 a ∧ (Lit.int .i64 a).wf = true := by
  obtain ⟨a, e, _, k⟩ := DataW.trod_int Try.underlying3 h
  exact ⟨a, by simpa using e, k⟩

set_option maxRecDepth 100000 in
theorem bk_open {base : Nat} {v : Value} {d : DataW H} {p : List MemPlace} (hv : Value.okWide Try.prog w .any base 42 v) (h : DataW.Trod enc Try.prog w 0 (fun _ => true) true 42 v d p) :
    ∃ x y z : Int, v = .agg #[.int .i64 x, .int .i64 y, .int .i64 z] ∧ (Lit.int .i64 x).wf = true ∧ (Lit.int .i64 y).wf = true ∧ (Lit.int .i64 z).wf = true := by
  obtain ⟨v0, v1, v2, y0, y1, y2, n, rfl, _, _, h0, h1, h2⟩ := open_agg3 Try.underlying42 (by kernel_rfl) (by kernel_rfl) hv h
  obtain ⟨x, rfl, k0⟩ := one_int h0
  obtain ⟨y, rfl, k1⟩ := one_int h1
  obtain ⟨z, rfl, k2⟩ := one_int h2
  exact ⟨x, y, z, rfl, k0, k1, k2⟩

end

/-- A packet: when it comes, its size, whose it is. -/
structure Pk where
  at_ : Int
  size : Int
  flow : Int

/-- The slice at A reads, in w, as the list l of packets. -/
def Pks (w : World) (A : Option Addr) (l : List Pk) : Prop :=
  l.length ≤ 9223372036854775807 ∧ (0 < l.length → ∃ b off, A = some ⟨b, off, none⟩ ∧ ∀ j p, l[j]? = some p →
    w.cell? ⟨b, off + j * 3, none⟩ = some (.int .i64 p.at_) ∧ w.cell? ⟨b, off + j * 3 + 1, none⟩ = some (.int .i64 p.size) ∧ w.cell? ⟨b, off + j * 3 + 2, none⟩ = some (.int .i64 p.flow))

theorem Pks.nil_ (w : World) (A : Option Addr) : Pks w A [] := ⟨by simp, fun h => absurd h (by simp)⟩
theorem Pks.below {w w' : World} {A : Option Addr} {l : List Pk} (h : Pks w A l) (hb : Below w.heap.size w w') : Pks w' A l := by
  refine ⟨h.1, fun hl => ?_⟩
  obtain ⟨b, off, rfl, hc⟩ := h.2 hl
  refine ⟨b, off, rfl, fun j p hj => ?_⟩
  obtain ⟨h0, h1, h2⟩ := hc j p hj
  exact ⟨(hb.cell (p := ⟨b, _, none⟩) (cell_lt h0)).trans h0, (hb.cell (p := ⟨b, _, none⟩) (cell_lt h0)).trans h1, (hb.cell (p := ⟨b, _, none⟩) (cell_lt h0)).trans h2⟩
theorem Pks.alloc {w : World} {A : Option Addr} {l : List Pk} (h : Pks w A l) (o : Obj) : Pks (w.alloc o) A l := h.below ((Below.refl _ _).alloc (Nat.le_refl _) _)
theorem Pks.drewN {w : World} {A : Option Addr} {l : List Pk} (h : Pks w A l) (n : Nat) : Pks (w.drewN n) A l := h
theorem Pks.get {w : World} {A : Option Addr} {l : List Pk} {k : Nat} (h : Pks w A l) (hk : k < l.length) :
    ∃ b off p, A = some ⟨b, off, none⟩ ∧ b < w.heap.size ∧ w.cell? ⟨b, off + k * 3, none⟩ = some (.int .i64 p.at_) ∧ w.cell? ⟨b, off + k * 3 + 1, none⟩ = some (.int .i64 p.size) ∧ w.cell? ⟨b, off + k * 3 + 2, none⟩ = some (.int .i64 p.flow) ∧ Hid (l[k]? = some p) := by
  obtain ⟨b, off, rfl, hc⟩ := h.2 (by omega)
  obtain ⟨h0, h1, h2⟩ := hc k l[k] (List.getElem?_eq_getElem hk)
  exact ⟨b, off, l[k], rfl, cell_lt h0, h0, h1, h2, Lib.hid (List.getElem?_eq_getElem hk)⟩

section
variable {H : Type} {enc : TypeId × Value → H} {w : World}

set_option maxRecDepth 100000 in
theorem pks_open {A : Option Addr} {len cap : Nat} {d : DataW H} {p : List MemPlace} (h : DataW.Trod enc Try.prog w 0 (fun _ => true) true 23 (.slice A len cap) d p) :
    ∃ l : List Pk, Pks w A l ∧ len = l.length ∧ l.length ≤ cap := by
  obtain ⟨fuel, hf⟩ := h
  rcases open_slice Try.underlying23 hf with ⟨hcs, _⟩ | ⟨a, ln, cp, m, n, D, Pl, hcs, _, hl, hm, hmm, _, hi⟩
  · simp [Value.cells] at hcs
    obtain ⟨rfl, rfl, rfl⟩ := hcs
    exact ⟨[], Pks.nil_ _ _, rfl, Nat.zero_le _⟩
  · simp [Value.cells] at hcs
    obtain ⟨rfl, rfl, rfl⟩ := hcs
    have hmm' : m = cap := by simpa using hmm
    subst hmm'
    have hC : Try.prog.cellsOf 32 = 3 := by kernel_rfl
    rw [hC] at hi
    have each : ∀ i, ∃ q : Pk, i < m → w.cell? (a.add (i * 3)) = some (.int .i64 q.at_) ∧ w.cell? ((a.add (i * 3)).add 1) = some (.int .i64 q.size) ∧ w.cell? ((a.add (i * 3)).add 2) = some (.int .i64 q.flow) := by
      intro i
      by_cases him : i < m
      · obtain ⟨cs, hc, ht⟩ := hi i him
        obtain ⟨_, hcl, hat⟩ := World.cells?_some hc
        obtain ⟨y0, y1, y2, n', _, _, t0, t1, t2⟩ := trod_struct3 Try.underlying32 ht
        match cs, hcl with
        | [c0, c1, c2], _ =>
          have e1 : Try.prog.cellsOf 3 = 1 := by kernel_rfl
          obtain ⟨x, rfl, _⟩ := one_int (by simpa [e1] using t0)
          obtain ⟨y, rfl, _⟩ := one_int (by simpa [e1] using t1)
          obtain ⟨z, rfl, _⟩ := one_int (by simpa [e1] using t2)
          exact ⟨⟨x, y, z⟩, fun _ => ⟨by simpa [Addr.add] using hat 0 (by omega), by simpa using hat 1 (by omega), by simpa using hat 2 (by omega)⟩⟩
      · exact ⟨⟨0, 0, 0⟩, fun h => absurd h him⟩
    obtain ⟨f, hf'⟩ := Classical.axiomOfChoice each
    refine ⟨(List.range len).map f, ⟨by simp; unfold maxLen at hm; omega, fun h0 => ?_⟩, by simp, by simpa using hl⟩
    simp at h0
    obtain ⟨b, off, spot⟩ := a
    have hc := (hf' 0 (by omega)).1
    have hspot : spot = none := by simpa [Addr.add] using World.cell?_spot hc
    subst hspot
    refine ⟨b, off, rfl, fun j q hj => ?_⟩
    have hjl : j < len := by
      have := (List.getElem?_eq_some_iff.1 hj).1
      simpa using this
    have hq : q = f j := by simp [hjl] at hj; exact hj.symm
    subst hq
    obtain ⟨k0, k1, k2⟩ := hf' j (by omega)
    by_cases hz : j * 3 = 0
    · rw [hz] at k0 k1 k2 ⊢
      exact ⟨by simpa [Addr.add] using k0, by simpa [Addr.add] using k1, by simpa [Addr.add] using k2⟩
    · exact ⟨by simpa [Addr.add, hz] using k0, by simpa [Addr.add, hz] using k1, by simpa [Addr.add, hz] using k2⟩

end

end Go.Proofs.Ytamkadffencpgaa
