
/-
  The law PieceMoves over what package piece owes.
-/
import Derived.Test.YtjlkcjaofglpmaaPieE
namespace Go.Proofs.Ytjlkcjaofglpmaa
set_option linter.all false
open Go.RowKit Go.Shelf Go.Lib

theorem bls_put {w : World} {base : Nat} {e : TypeId} {Q : Option Addr} {r : Nat} {z : List Bool} {I : Nat} (h : w.ownsRow base e 1 (.slice Q z.length r) z.length (z.map Value.bool)) (hI : I < z.length) :
    ∃ g, Q = some ⟨g, 0, none⟩ ∧ base ≤ g ∧ g < w.heap.size ∧ w.cell? ⟨g, I, none⟩ = some (.bool (hv z I)) ∧ w.frozen? ⟨g, I, none⟩ = false ∧ Bls (w.setCell ⟨g, I, none⟩ (.bool true)) (some ⟨g, 0, none⟩) (z.set I true) := by
  rcases h.2 with ⟨hv0, h0⟩ | ⟨g, cap, cur, hv0, hg, hh, hn, hm, hs, ht⟩
  · omega
  · have hA : Q = some ⟨g, 0, none⟩ := by injection hv0
    subst hA
    have K : Blk w g e cur := hh
    have hc : ∀ j, j < z.length → cur[j]? = some (.bool (z.getD j false)) := fun j hj => by
      have hc := h.cells (g := g) rfl j (.bool (z.getD j false)) (by simp [List.getD, List.getElem?_eq_getElem hj])
      rw [← K.cell j]
      by_cases h0 : j = 0
      · subst h0; simpa [Addr.add] using hc
      · simpa [Addr.add, h0] using hc
    refine ⟨g, rfl, hg, K.lt, by rw [K.cell, hc I hI]; rfl, K.frozen I, by simp; unfold maxLen at hm; omega, fun _ => ⟨g, 0, rfl, fun j hj => ?_⟩⟩
    rw [List.length_set] at hj
    rw [Nat.zero_add, (K.set_ I (.bool true)).cell j, Array.getElem?_setIfInBounds]
    have hs' : j < cur.size := by have := hc j hj; exact (Array.getElem?_eq_some_iff.1 this).1
    by_cases c : I = j
    · subst c
      rw [if_pos rfl, if_pos hs']
      simp [List.getD, hj]
    · rw [if_neg c, hc j hj]
      simp [List.getD, List.getElem?_set, c]

/-- What Next answers. -/
def NxIs (z : List Bool) (V T : Int) : Prop := (∃ k : Nat, k < z.length ∧ V = k ∧ T = 0 ∧ hv z k = false ∧ ∀ j, j < k → hv z j = true) ∨ (V = 0 ∧ T = 5 ∧ ∀ j, j < z.length → hv z j = true)
theorem PieceC.next_any (E : PieceC) (s u : Int) (A : Option Addr) (c : Nat) (z : List Bool) (w : World) (h : Bls w A z) (h0 : stE s u z.length = 0) : Calls Try.prog 28 #[.agg #[.int .i64 s, .int .i64 u, .slice A z.length c]] w fun e w' => (∃ V T : Int, e = .returned (.tuple #[.int .i64 V, .int .i64 T]) ∧ Hid (NxIs z V T)) ∧ Below w.heap.size w w' := by
  refine (E.next s u A c z w h h0).mono ?_
  rintro e w' ⟨⟨i, hi, no, all, he⟩ | ⟨all, he⟩, b⟩
  · exact ⟨⟨_, _, he, Lib.hid (Or.inl ⟨i, hi, rfl, rfl, no, all⟩)⟩, b⟩
  · exact ⟨⟨_, _, he, Lib.hid (Or.inr ⟨rfl, rfl, all⟩)⟩, b⟩
theorem hv_get {z : List Bool} {k : Nat} (hk : k < z.length) (h : hv z k = true) : z[k]? = some true := by
  unfold hv at h
  rw [List.getD, List.getElem?_eq_getElem hk] at h
  rw [List.getElem?_eq_getElem hk]
  simpa using h
theorem got_max {s u : Int} (v : WhOk s u) {h : Nat → Bool} {n : Nat} (hn : n ≤ pcN s u) : 0 ≤ gotS s u h n ∧ gotS s u h n ≤ 1000000 := by
  have := got_bd v.s0 v.u0 (h := h) hn
  have := v.s1
  omega
end Go.Proofs.Ytjlkcjaofglpmaa
