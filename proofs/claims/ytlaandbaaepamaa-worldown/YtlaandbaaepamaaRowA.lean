
/-
  Arguments opened: a bucket by value, a slice of packets (nil let in).
-/
import Derived.Test.YtlaandbaaepamaaRefA
import Derived.Lib.SmallJoins
import Derived.Deep.Slices
import Derived.ProofKit
import Derived.ChangeSame
namespace Go.Proofs.Ytlaandbaaepamaa
set_option linter.all false
open Go.RowKit Go.ChangeShapes Go.WideShapes Go.Deep Go.Joins

section
variable {H : Type} {enc : TypeId × Value → H} {w : World}

theorem one_int {n : Nat} {u : Value} {y : DataW H × List MemPlace} (h : DataW.trod enc Try.prog w 0 (fun _ => true) true n 3 [u] = some y) : ∃ a, u = .int .i64 a ∧ (Lit.int .i64 a).wf = true := by
  obtain ⟨a, e, _, k⟩ := DataW.trod_int Try.underlying3 h
  exact ⟨a, by simpa using e, k⟩

end

/-- A packet: when it comes, its size, whose it is. -/
structure Pk where
  at_ : Int
  size : Int
  flow : Int

/-- The slice at A reads, in w, as the list l of packets. -/
def Pks (w : World) (A : Option Addr) (l : List Pk) : Prop :=
  l.length ≤ 9223372036854775807 ∧ (0 < l.length → ∃ b off, A = some ⟨b, off, none⟩ ∧ ∀ j p, l[j]? = some p →
    w.cell? ⟨b, off + j * 3, none⟩ = some (.int .i64 p.at_) ∧ w.cell? ⟨b, off + j * 3 + 1, none⟩ = some (.int .i64 p.size) ∧ w.cell? ⟨b, off + j * 3 + 2, none⟩ = some (.int .i64 p.flow))

theorem Pks.nil_ (w : World) (A : Option Addr) : Pks w A [] := ⟨by simp, fun h => absurd h (by simp)⟩
theorem Pks.below {w w' : World} {A : Option Addr} {l : List Pk} (h : Pks w A l) (hb : Below w.heap.size w w') : Pks w' A l := by
  refine ⟨h.1, fun hl => ?_⟩
  obtain ⟨b, off, rfl, hc⟩ := h.2 hl
  refine ⟨b, off, rfl, fun j p hj => ?_⟩
  obtain ⟨h0, h1, h2⟩ := hc j p hj
  exact ⟨(hb.cell (p := ⟨b, _, none⟩) (cell_lt h0)).trans h0, (hb.cell (p := ⟨b, _, none⟩) (cell_lt h0)).trans h1, (hb.cell (p := ⟨b, _, none⟩) (cell_lt h0)).trans h2⟩
theorem Pks.alloc {w : World} {A : Option Addr} {l : List Pk} (h : Pks w A l) (o : Obj) : Pks (w.alloc o) A l := h.below ((Below.refl _ _).alloc (Nat.le_refl _) _)
theorem Pks.drewN {w : World} {A : Option Addr} {l : List Pk} (h : Pks w A l) (n : Nat) : Pks (w.drewN n) A l := h
theorem Pks.get {w : World} {A : Option Addr} {l : List Pk} {k : Nat} (h : Pks w A l) (hk : k < l.length) :
    ∃ b off p, A = some ⟨b, off, none⟩ ∧ b < w.heap.size ∧ w.cell? ⟨b, off + k * 3, none⟩ = some (.int .i64 p.at_) ∧ w.cell? ⟨b, off + k * 3 + 1, none⟩ = some (.int .i64 p.size) ∧ w.cell? ⟨b, off + k * 3 + 2, none⟩ = some (.int .i64 p.flow) ∧ Hid (l[k]? = some p) := by
  obtain ⟨b, off, rfl, hc⟩ := h.2 (by omega)
  obtain ⟨h0, h1, h2⟩ := hc k l[k] (List.getElem?_eq_getElem hk)
  exact ⟨b, off, l[k], rfl, cell_lt h0, h0, h1, h2, Lib.hid (List.getElem?_eq_getElem hk)⟩

section
variable {H : Type} {enc : TypeId × Value → H} {w : World}

end

end Go.Proofs.Ytlaandbaaepamaa
