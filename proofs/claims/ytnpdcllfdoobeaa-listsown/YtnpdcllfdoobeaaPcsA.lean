
/-
  The cells of a list of structs of three numbers (packets, jobs, tasks).
-/
import Derived.Test.YtnpdcllfdoobeaaRowA
import Derived.OwnWalk
namespace Go.Proofs.Ytnpdcllfdoobeaa
set_option linter.all false
open Go.RowKit Go.Shelf Go.Lib

/-- The cells of a list of packets. -/
def pcs (l : List Pk) : List Value := l.flatMap (fun q => [Value.int .i64 q.at_, .int .i64 q.size, .int .i64 q.flow])
theorem pcs_cons (p : Pk) (l : List Pk) : pcs (p :: l) = [Value.int .i64 p.at_, .int .i64 p.size, .int .i64 p.flow] ++ pcs l := by simp [pcs]
theorem pcs_append (l m : List Pk) : pcs (l ++ m) = pcs l ++ pcs m := by simp [pcs]
theorem length_pcs (l : List Pk) : (pcs l).length = l.length * 3 := by
  induction l with
  | nil => rfl
  | cons p l ih => rw [pcs_cons, List.length_append, ih]; simp; omega
theorem pcs_get : ∀ {l : List Pk} {k : Nat} {p : Pk}, l[k]? = some p → (pcs l)[k * 3]? = some (.int .i64 p.at_) ∧ (pcs l)[k * 3 + 1]? = some (.int .i64 p.size) ∧ (pcs l)[k * 3 + 2]? = some (.int .i64 p.flow)
  | [], k, p, h => by simp at h
  | q :: l, 0, p, h => by simp at h; subst h; rw [pcs_cons]; simp
  | q :: l, k + 1, p, h => by
    have ih := pcs_get (l := l) (k := k) (p := p) (by simpa using h)
    rw [pcs_cons]
    refine ⟨?_, ?_, ?_⟩
    · rw [List.getElem?_append_right (by simp; omega)]; simpa [show (k + 1) * 3 - 3 = k * 3 by omega] using ih.1
    · rw [List.getElem?_append_right (by simp; omega)]; simpa [show (k + 1) * 3 + 1 - 3 = k * 3 + 1 by omega] using ih.2.1
    · rw [List.getElem?_append_right (by simp; omega)]; simpa [show (k + 1) * 3 + 2 - 3 = k * 3 + 2 by omega] using ih.2.2
theorem pcs_one (l : List Pk) : ∀ u ∈ pcs l, u.oneCell' = true := by
  intro u hu
  simp only [pcs, List.mem_flatMap] at hu
  obtain ⟨q, _, hq⟩ := hu
  simp at hq
  rcases hq with rfl | rfl | rfl <;> rfl
theorem pcs_size : ∀ {l : List Pk} {k : Nat} {p : Pk} (v : Int), l[k]? = some p → (pcs l).set (k * 3 + 1) (.int .i64 v) = pcs (l.set k ⟨p.at_, v, p.flow⟩)
  | [], k, p, v, h => by simp at h
  | q :: l, 0, p, v, h => by simp at h; subst h; simp [pcs_cons]
  | q :: l, k + 1, p, v, h => by
    have ih := pcs_size (l := l) (k := k) (p := p) v (by simpa using h)
    rw [pcs_cons, List.set_append_right _ _ (by simp; omega), List.set_cons_succ, pcs_cons, ← ih]
    simp [show (k + 1) * 3 + 1 - 3 = k * 3 + 1 by omega]
theorem pcs_at : ∀ {l : List Pk} {k : Nat} {p : Pk} (v : Int), l[k]? = some p → (pcs l).set (k * 3) (.int .i64 v) = pcs (l.set k ⟨v, p.size, p.flow⟩)
  | [], k, p, v, h => by simp at h
  | q :: l, 0, p, v, h => by simp at h; subst h; simp [pcs_cons]
  | q :: l, k + 1, p, v, h => by
    have ih := pcs_at (l := l) (k := k) (p := p) v (by simpa using h)
    rw [pcs_cons, List.set_append_right _ _ (by simp; omega), List.set_cons_succ, pcs_cons, ← ih]
    simp [show (k + 1) * 3 - 3 = k * 3 by omega]
/-- Every cell of a slice that reads as packets. -/
theorem Pks.cells {w : World} {b off : Nat} {l : List Pk} (h : Pks w (some ⟨b, off, none⟩) l) : ∀ j u, (pcs l)[j]? = some u → w.cell? ⟨b, off + j, none⟩ = some u := by
  intro j u hu
  have hj : j < l.length * 3 := by have := (List.getElem?_eq_some_iff.1 hu).1; rwa [length_pcs] at this
  obtain ⟨b', off', e, hc⟩ := h.2 (by omega)
  obtain ⟨rfl, rfl⟩ : b' = b ∧ off' = off := by injection e with e; injection e with e1 e2; exact ⟨e1.symm, e2.symm⟩
  have hk : j / 3 < l.length := by omega
  have hg := List.getElem?_eq_getElem hk
  have g := pcs_get hg
  obtain ⟨c0, c1, c2⟩ := hc (j / 3) _ hg
  rcases (show j = j / 3 * 3 ∨ j = j / 3 * 3 + 1 ∨ j = j / 3 * 3 + 2 by omega) with e | e | e
  · rw [e] at hu ⊢
    rw [g.1] at hu
    rw [← hu]; exact c0
  · rw [e] at hu ⊢
    rw [g.2.1] at hu
    rw [← hu, ← Nat.add_assoc]; exact c1
  · rw [e] at hu ⊢
    rw [g.2.2] at hu
    rw [← hu, ← Nat.add_assoc]; exact c2
theorem Pks.mk_cells {w : World} {b off : Nat} {l : List Pk} (hl : l.length ≤ 9223372036854775807) (h : ∀ j u, (pcs l)[j]? = some u → w.cell? ⟨b, off + j, none⟩ = some u) : Pks w (some ⟨b, off, none⟩) l := by
  refine ⟨hl, fun _ => ⟨b, off, rfl, fun j p hj => ?_⟩⟩
  obtain ⟨g0, g1, g2⟩ := pcs_get hj
  exact ⟨h _ _ g0, by have := h _ _ g1; rwa [← Nat.add_assoc] at this, by have := h _ _ g2; rwa [← Nat.add_assoc] at this⟩
/-- A literal. -/
theorem Pks.litN (w : World) (l : List Pk) (cs : Array Value) (t : TypeId) (h : cs = (pcs l).toArray) (hl : l.length ≤ 1000) : Pks (w.alloc (.cells cs t)) (some ⟨w.heap.size, 0, none⟩) l := by
  refine Pks.mk_cells (by omega) (fun j u hu => ?_)
  rw [Nat.zero_add, cell_of_row (w.alloc (.cells cs t)) w.heap.size j cs t (0, 0) (heap_alloc_new w _), h]
  simpa using hu
/-- Out of a row of its own, whatever its type. -/
theorem Pks.of_row {w : World} {base : Nat} {t : TypeId} {A : Option Addr} {c : Nat} {l : List Pk} (h : w.ownsRow base t 3 (.slice A l.length c) l.length (pcs l)) : Pks w A l := by
  rcases h.2 with ⟨hv, h0⟩ | ⟨g, cap, cur, hv, _, hh, hn, hm, hs, ht⟩
  · rw [List.eq_nil_of_length_eq_zero h0]
    exact Pks.nil_ _ _
  · have hA : A = some ⟨g, 0, none⟩ := by injection hv
    subst hA
    refine Pks.mk_cells (by unfold maxLen at hm; omega) (fun i u hu => ?_)
    have := h.cells (g := g) rfl i u hu
    by_cases h0 : i = 0
    · subst h0; simpa [Addr.add] using this
    · simpa [Addr.add, h0] using this

end Go.Proofs.Ytnpdcllfdoobeaa
