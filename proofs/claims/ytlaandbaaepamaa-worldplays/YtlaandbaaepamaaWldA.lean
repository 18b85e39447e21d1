
/-
  Peers in memory: the cells of a list of them; how a slice of them reads.
-/
import Derived.Test.YtlaandbaaepamaaWorldP
import Derived.Test.YtlaandbaaepamaaBucketA
import Derived.Test.YtlaandbaaepamaaRefA
import Derived.OwnWalk
namespace Go.Proofs.Ytlaandbaaepamaa
set_option linter.all false
open Go.RowKit Go.Shelf Go.Lib

/-- The cells of a list of peers. -/
def pecs (l : List Per) : List Value := l.flatMap (fun q => [Value.int .i64 q.lag, .int .i64 q.part, .bool q.done])
theorem pecs_cons (p : Per) (l : List Per) : pecs (p :: l) = [Value.int .i64 p.lag, .int .i64 p.part, .bool p.done] ++ pecs l := by simp [pecs]
theorem pecs_append (l m : List Per) : pecs (l ++ m) = pecs l ++ pecs m := by simp [pecs]
theorem length_pecs (l : List Per) : (pecs l).length = l.length * 3 := by
  induction l with
  | nil => rfl
  | cons p l ih => rw [pecs_cons, List.length_append, ih]; simp; omega
theorem pecs_get : ∀ {l : List Per} {k : Nat} {p : Per}, l[k]? = some p → (pecs l)[k * 3]? = some (.int .i64 p.lag) ∧ (pecs l)[k * 3 + 1]? = some (.int .i64 p.part) ∧ (pecs l)[k * 3 + 2]? = some (.bool p.done)
  | [], k, p, h => by simp at h
  | q :: l, 0, p, h => by simp at h; subst h; rw [pecs_cons]; simp
  | q :: l, k + 1, p, h => by
    have ih := pecs_get (l := l) (k := k) (p := p) (by simpa using h)
    rw [pecs_cons]
    refine ⟨?_, ?_, ?_⟩
    · rw [List.getElem?_append_right (by simp; omega)]; simpa [show (k + 1) * 3 - 3 = k * 3 by omega] using ih.1
    · rw [List.getElem?_append_right (by simp; omega)]; simpa [show (k + 1) * 3 + 1 - 3 = k * 3 + 1 by omega] using ih.2.1
    · rw [List.getElem?_append_right (by simp; omega)]; simpa [show (k + 1) * 3 + 2 - 3 = k * 3 + 2 by omega] using ih.2.2
theorem pecs_one (l : List Per) : ∀ u ∈ pecs l, u.oneCell' = true := by
  intro u hu
  simp only [pecs, List.mem_flatMap] at hu
  obtain ⟨q, _, hq⟩ := hu
  simp at hq
  rcases hq with rfl | rfl | rfl <;> rfl
theorem pecs_set : ∀ {l : List Per} {k : Nat} (p : Per), k < l.length → (((pecs l).set (k * 3) (.int .i64 p.lag)).set (k * 3 + 1) (.int .i64 p.part)).set (k * 3 + 2) (.bool p.done) = pecs (l.set k p)
  | [], k, p, h => by simp at h
  | q :: l, 0, p, h => by simp [pecs_cons]
  | q :: l, k + 1, p, h => by
    have ih := pecs_set (l := l) (k := k) p (by simpa using h)
    rw [pecs_cons, List.set_append_right _ _ (by simp; omega), List.set_append_right _ _ (by simp; omega), List.set_append_right _ _ (by simp; omega), List.set_cons_succ, pecs_cons, ← ih]
    simp [show (k + 1) * 3 - 3 = k * 3 by omega, show (k + 1) * 3 + 1 - 3 = k * 3 + 1 by omega, show (k + 1) * 3 + 2 - 3 = k * 3 + 2 by omega]
/-- The slice at A reads, in w, as the list l of peers. -/
def Prs (w : World) (A : Option Addr) (l : List Per) : Prop :=
  l.length ≤ 9223372036854775807 ∧ (0 < l.length → ∃ b off, A = some ⟨b, off, none⟩ ∧ ∀ k p, l[k]? = some p → w.cell? ⟨b, off + k * 3, none⟩ = some (.int .i64 p.lag) ∧ w.cell? ⟨b, off + k * 3 + 1, none⟩ = some (.int .i64 p.part) ∧ w.cell? ⟨b, off + k * 3 + 2, none⟩ = some (.bool p.done))
theorem Prs.nil_ (w : World) (A : Option Addr) : Prs w A [] := ⟨by simp, fun h => absurd h (by simp)⟩
theorem Prs.below {w w' : World} {A : Option Addr} {l : List Per} (h : Prs w A l) (hb : Below w.heap.size w w') : Prs w' A l := by
  refine ⟨h.1, fun hl => ?_⟩
  obtain ⟨b, off, rfl, hc⟩ := h.2 hl
  refine ⟨b, off, rfl, fun j p hj => ?_⟩
  obtain ⟨h0, h1, h2⟩ := hc j p hj
  exact ⟨(hb.cell (p := ⟨b, _, none⟩) (cell_lt h0)).trans h0, (hb.cell (p := ⟨b, _, none⟩) (cell_lt h0)).trans h1, (hb.cell (p := ⟨b, _, none⟩) (cell_lt h0)).trans h2⟩
theorem Prs.alloc {w : World} {A : Option Addr} {l : List Per} (h : Prs w A l) (o : Obj) : Prs (w.alloc o) A l := h.below ((Below.refl _ _).alloc (Nat.le_refl _) _)
theorem Prs.drewN {w : World} {A : Option Addr} {l : List Per} (h : Prs w A l) (n : Nat) : Prs (w.drewN n) A l := h
theorem Prs.get {w : World} {A : Option Addr} {l : List Per} {k : Nat} (h : Prs w A l) (hk : k < l.length) :
    ∃ b off, A = some ⟨b, off, none⟩ ∧ b < w.heap.size ∧ w.cell? ⟨b, off + k * 3, none⟩ = some (.int .i64 (pr l k).lag) ∧ w.cell? ⟨b, off + k * 3 + 1, none⟩ = some (.int .i64 (pr l k).part) ∧ w.cell? ⟨b, off + k * 3 + 2, none⟩ = some (.bool (pr l k).done) := by
  obtain ⟨b, off, rfl, hc⟩ := h.2 (by omega)
  obtain ⟨h0, h1, h2⟩ := hc k l[k] (List.getElem?_eq_getElem hk)
  have e : pr l k = l[k] := by simp [pr, List.getD, List.getElem?_eq_getElem hk]
  rw [e]
  exact ⟨b, off, rfl, cell_lt h0, h0, h1, h2⟩
theorem Prs.of_own {w : World} {base : Nat} {A : Option Addr} {c : Nat} {l : List Per} (h : w.ownsRow base 34 3 (.slice A l.length c) l.length (pecs l)) : Prs w A l := by
  rcases h.2 with ⟨hv, h0⟩ | ⟨g, cap, cur, hv, _, hh, hn, hm, hs, ht⟩
  · rw [List.eq_nil_of_length_eq_zero h0]
    exact Prs.nil_ _ _
  · refine ⟨by unfold maxLen at hm; omega, fun hl => ?_⟩
    have hA : A = some ⟨g, 0, none⟩ := by injection hv
    subst hA
    have cell : ∀ i u, (pecs l)[i]? = some u → w.cell? ⟨g, 0 + i, none⟩ = some u := fun i u hu => by
      have := h.cells (g := g) rfl i u hu
      by_cases h0 : i = 0
      · subst h0; simpa [Addr.add] using this
      · simpa [Addr.add, h0] using this
    refine ⟨g, 0, rfl, fun j p hj => ?_⟩
    obtain ⟨g0, g1, g2⟩ := pecs_get hj
    exact ⟨cell _ _ g0, by have := cell _ _ g1; rwa [← Nat.add_assoc] at this, by have := cell _ _ g2; rwa [← Nat.add_assoc] at this⟩

end Go.Proofs.Ytlaandbaaepamaa
