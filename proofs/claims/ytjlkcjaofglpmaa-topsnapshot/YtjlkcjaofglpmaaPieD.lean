
/-
  The law PieceSays over what package piece owes.
-/
import Derived.Test.YtjlkcjaofglpmaaPieC
namespace Go.Proofs.Ytjlkcjaofglpmaa
set_option linter.all false
open Go.RowKit Go.Shelf Go.Lib

theorem Bls.of_ownP {w : World} {base : Nat} {e : TypeId} {A : Option Addr} {c : Nat} {l : List Bool} (h : w.ownsRow base e 1 (.slice A l.length c) l.length (l.map Value.bool)) : Bls w A l := by
  rcases h.2 with ⟨hv, h0⟩ | ⟨g, cap, cur, hv, _, hh, hn, hm, hs, ht⟩
  · rw [List.eq_nil_of_length_eq_zero h0]
    exact Bls.nil_ _ _
  · refine ⟨by unfold maxLen at hm; omega, fun hl => ?_⟩
    have hA : A = some ⟨g, 0, none⟩ := by injection hv
    subst hA
    refine ⟨g, 0, rfl, fun j hj => ?_⟩
    have hc := h.cells (g := g) rfl j (.bool (l.getD j false)) (by simp [List.getD, List.getElem?_eq_getElem hj])
    by_cases h0 : j = 0
    · subst h0; simpa [Addr.add] using hc
    · simpa [Addr.add, h0] using hc
def nots (n : Nat) : List Bool := List.replicate n false
theorem length_nots (n : Nat) : (nots n).length = n := by simp [nots]
theorem nots_made (n : Nat) : madeCells #[Value.bool false] n = ((nots n).map Value.bool).toArray := by
  apply Array.ext_getElem?
  intro i
  by_cases c : i < n
  · simp [madeCells, c, Nat.mod_one, nots]
  · simp [madeCells, c, nots]
theorem made_nots (n : Nat) (hn : n ≤ 200) (W : World) : (Instr.makeSlice 32 (.int .i64 n) (.int .i64 n)).run Try.prog W = .ok (.slice (some ⟨W.heap.size, 0, none⟩) n n) (W.alloc (.cells ((nots n).map Value.bool).toArray 4)) := by
  obtain ⟨i, hi, hz⟩ := Option.map_eq_some_iff.1 bool_info
  simp only [Prod.mk.injEq] at hz
  obtain ⟨hz, hs, hb⟩ := hz
  have hr := run_make (P := Try.prog) W 32 4 i _ Try.underlying32 hi hz .i64 .i64 n n (by omega) (by omega) (by rw [hb]; omega) (by omega)
  simp only [Int.toNat_natCast, hs, Nat.mul_one] at hr
  rw [← nots_made]
  exact hr
end Go.Proofs.Ytjlkcjaofglpmaa
