/-
  Words for memory: a slice that reads as a list of integers (nil let in), and what keeps it so; plain functions that say what the curve layer answers.
-/
import Derived.Below
import Derived.Calls
import Derived.Lib.Hide
import Derived.Laws.OwnMore
import Derived.Deep.Draws
namespace Go.Proofs.Ythigjcbdlijfbaa
open Go.RowKit

/-- The slice at A reads, in w, as the list l. -/
def Ints (w : World) (A : Option Addr) (l : List Int) : Prop :=
  l.length ≤ 9223372036854775807 ∧ (0 < l.length → ∃ b off, A = some ⟨b, off, none⟩ ∧ ∀ j, j < l.length → w.cell? ⟨b, off + j, none⟩ = some (.int .i64 (l.getD j 0)))

theorem cell_lt {w : World} {b off : Nat} {u : Value} (h : w.cell? ⟨b, off, none⟩ = some u) : b < w.heap.size := by
  rcases Nat.lt_or_ge b w.heap.size with hlt | hge
  · exact hlt
  · unfold World.cell? at h
    simp [Array.getElem?_eq_none hge] at h

theorem Ints.at_ {w : World} {A : Option Addr} {l : List Int} {k : Nat} (h : Ints w A l) (hk : k < l.length) :
    ∃ b off x, A = some ⟨b, off, none⟩ ∧ w.cell? ⟨b, off + k, none⟩ = some (.int .i64 x) ∧ Hid (l[k]? = some x) := by
  obtain ⟨b, off, rfl, hc⟩ := h.2 (by omega)
  refine ⟨b, off, l[k], rfl, ?_, Lib.hid (List.getElem?_eq_getElem hk)⟩
  have := hc k hk
  simpa [List.getD, List.getElem?_eq_getElem hk] using this

theorem Ints.nil_ (w : World) (A : Option Addr) : Ints w A [] := ⟨by simp, fun h => absurd h (by simp)⟩

theorem Ints.below {w w' : World} {A : Option Addr} {l : List Int} (h : Ints w A l) (hb : Below w.heap.size w w') : Ints w' A l := by
  refine ⟨h.1, fun hl => ?_⟩
  obtain ⟨b, off, rfl, hc⟩ := h.2 hl
  exact ⟨b, off, rfl, fun j hj => (hb.cell (p := ⟨b, off + j, none⟩) (cell_lt (hc j hj))).trans (hc j hj)⟩

theorem Ints.drew {w : World} {A : Option Addr} {l : List Int} (h : Ints w A l) : Ints w.drew A l := h
theorem Ints.drewN {w : World} {A : Option Addr} {l : List Int} (h : Ints w A l) (n : Nat) : Ints (w.drewN n) A l := h

theorem drop_of_get {l : List Int} {k : Nat} {x : Int} (h : l[k]? = some x) : l.drop k = x :: l.drop (k + 1) := by
  obtain ⟨hk, rfl⟩ := List.getElem?_eq_some_iff.1 h
  exact List.drop_eq_getElem_cons hk

/-- What Check answers of the values from one on. -/
def chkGo : Int → List Int → Int
  | _, [] => 0
  | b, v :: vs => if v < 0 then 1 else if 1000000 < v then 2 else if v < b then 3 else chkGo v vs
def chk (l : List Int) : Int := if l.length = 0 then 1 else if 61 < l.length then 2 else chkGo 0 l

/-- From a slice of integers as the row opens it. -/
theorem ints_of_open {W : World} {x : Addr} {len cap : Nat} {zs : List Int} (hl : len ≤ cap) (hm : cap ≤ maxLen) (hz : zs.length = cap)
    (hcell : ∀ i, i < zs.length → W.cell? (x.add i) = some (.int .i64 (zs.getD i 0))) : ∃ l : List Int, Ints W (some x) l ∧ len = l.length := by
  refine ⟨zs.take len, ⟨by simp; unfold maxLen at hm; omega, fun h0 => ?_⟩, by simp; omega⟩
  simp at h0
  obtain ⟨b, off, spot⟩ := x
  have hc := hcell 0 (by omega)
  have hspot : spot = none := by simpa [Addr.add] using World.cell?_spot hc
  subst hspot
  refine ⟨b, off, rfl, fun j hj => ?_⟩
  simp at hj
  have := hcell j (by omega)
  rw [show (zs.take len).getD j 0 = zs.getD j 0 by simp [List.getD, show j < len by omega]]
  by_cases h0 : j = 0
  · subst h0; simpa [Addr.add] using this
  · simpa [Addr.add, h0] using this

end Go.Proofs.Ythigjcbdlijfbaa
