
/-
  A slice of packets in memory of its own: cells, clones, one field stored.
-/
import Derived.Test.YtamkadffencpgaaBucketE
import Derived.OwnWalk
import Derived.Lib.AppendZerosOnto
import Derived.Lib.SliceRun
namespace Go.Proofs.Ytamkadffencpgaa
set_option linter.all false
open Go.RowKit Go.Shelf Go.Lib

/-- The cells of a list of packets. -/
def pcs (l : List Pk) : List Value := l.flatMap (fun q => [Value.int .i64 q.at_, .int .i64 q.size, .int .i64 q.flow])
theorem pcs_cons (p : Pk) (l : List Pk) : pcs (p :: l) = [Value.int .i64 p.at_, .int .i64 p.size, .int .i64 p.flow] ++ pcs l := by simp [pcs]
theorem pcs_append (l m : List Pk) : pcs (l ++ m) = pcs l ++ pcs m := by simp [pcs]
theorem length_pcs (l : List Pk) : (pcs l).length = l.length * 3 := by
  induction l with
  | nil => rfl
  | cons p l ih => rw [pcs_cons, List.length_append, ih]; simp; omega
theorem pcs_get : ∀ {l : List Pk} {k : Nat} {p : Pk}, l[k]? = some p → (pcs l)[k * 3]? = some (.int .i64 p.at_) ∧ (pcs l)[k * 3 + 1]? = some (.int .i64 p.size) ∧ (pcs l)[k * 3 + 2]? = some (.int .i64 p.flow)
  | [], k, p, h => by simp at h
  | q :: l, 0, p, h => by simp at h; subst h; rw [pcs_cons]; simp
  | q :: l, k + 1, p, h => by
    have ih := pcs_get (l := l) (k := k) (p := p) (by simpa using h)
    rw [pcs_cons]
    refine ⟨?_, ?_, ?_⟩
    · rw [List.getElem?_append_right (by simp; omega)]; simpa [show (k + 1) * 3 - 3 = k * 3 by omega] using ih.1
    · rw [List.getElem?_append_right (by simp; omega)]; simpa [show (k + 1) * 3 + 1 - 3 = k * 3 + 1 by omega] using ih.2.1
    · rw [List.getElem?_append_right (by simp; omega)]; simpa [show (k + 1) * 3 + 2 - 3 = k * 3 + 2 by omega] using ih.2.2
theorem pcs_one (l : List Pk) : ∀ u ∈ pcs l, u.oneCell' = true := by
  intro u hu
  simp only [pcs, List.mem_flatMap] at hu
  obtain ⟨q, _, hq⟩ := hu
  simp at hq
  rcases hq with rfl | rfl | rfl <;> rfl
theorem pcs_size : ∀ {l : List Pk} {k : Nat} {p : Pk} (v : Int), l[k]? = some p → (pcs l).set (k * 3 + 1) (.int .i64 v) = pcs (l.set k ⟨p.at_, v, p.flow⟩)
  | [], k, p, v, h => by simp at h
  | q :: l, 0, p, v, h => by simp at h; subst h; simp [pcs_cons]
  | q :: l, k + 1, p, v, h => by
    have ih := pcs_size (l := l) (k := k) (p := p) v (by simpa using h)
    rw [pcs_cons, List.set_append_right _ _ (by simp; omega), List.set_cons_succ, pcs_cons, ← ih]
    simp [show (k + 1) * 3 + 1 - 3 = k * 3 + 1 by omega]
theorem pcs_at : ∀ {l : List Pk} {k : Nat} {p : Pk} (v : Int), l[k]? = some p → (pcs l).set (k * 3) (.int .i64 v) = pcs (l.set k ⟨v, p.size, p.flow⟩)
  | [], k, p, v, h => by simp at h
  | q :: l, 0, p, v, h => by simp at h; subst h; simp [pcs_cons]
  | q :: l, k + 1, p, v, h => by
    have ih := pcs_at (l := l) (k := k) (p := p) v (by simpa using h)
    rw [pcs_cons, List.set_append_right _ _ (by simp; omega), List.set_cons_succ, pcs_cons, ← ih]
    simp [show (k + 1) * 3 - 3 = k * 3 by omega]
/-- Every cell of a slice that reads as packets. -/
theorem Pks.cells {w : World} {b off : Nat} {l : List Pk} (h : Pks w (some ⟨b, off, none⟩) l) : ∀ j u, (pcs l)[j]? = some u → w.cell? ⟨b, off + j, none⟩ = some u := by
  intro j u hu
  have hj : j < l.length * 3 := by have := (List.getElem?_eq_some_iff.1 hu).1; rwa [length_pcs] at this
  obtain ⟨b', off', e, hc⟩ := h.2 (by omega)
  obtain ⟨rfl, rfl⟩ : b' = b ∧ off' = off := by injection e with e; injection e with e1 e2; exact ⟨e1.symm, e2.symm⟩
  have hk : j / 3 < l.length := by omega
  have g := pcs_get (pk_get hk)
  obtain ⟨c0, c1, c2⟩ := hc (j / 3) _ (pk_get hk)
  rcases (show j = j / 3 * 3 ∨ j = j / 3 * 3 + 1 ∨ j = j / 3 * 3 + 2 by omega) with e | e | e
  · rw [e] at hu ⊢
    rw [g.1] at hu
    rw [← hu]; exact c0
  · rw [e] at hu ⊢
    rw [g.2.1] at hu
    rw [← hu, ← Nat.add_assoc]; exact c1
  · rw [e] at hu ⊢
    rw [g.2.2] at hu
    rw [← hu, ← Nat.add_assoc]; exact c2
theorem Pks.mk_cells {w : World} {b off : Nat} {l : List Pk} (hl : l.length ≤ 9223372036854775807) (h : ∀ j u, (pcs l)[j]? = some u → w.cell? ⟨b, off + j, none⟩ = some u) : Pks w (some ⟨b, off, none⟩) l := by
  refine ⟨hl, fun _ => ⟨b, off, rfl, fun j p hj => ?_⟩⟩
  obtain ⟨g0, g1, g2⟩ := pcs_get hj
  exact ⟨h _ _ g0, by have := h _ _ g1; rwa [← Nat.add_assoc] at this, by have := h _ _ g2; rwa [← Nat.add_assoc] at this⟩
theorem Pks.of_own {w : World} {base : Nat} {A : Option Addr} {c : Nat} {l : List Pk} (h : w.ownsRow base 32 3 (.slice A l.length c) l.length (pcs l)) : Pks w A l := by
  rcases h.2 with ⟨hv, h0⟩ | ⟨g, cap, cur, hv, _, hh, hn, hm, hs, ht⟩
  · rw [List.eq_nil_of_length_eq_zero h0]
    exact Pks.nil_ _ _
  · refine ⟨by unfold maxLen at hm; omega, fun hl => ?_⟩
    have hA : A = some ⟨g, 0, none⟩ := by injection hv
    subst hA
    have cell : ∀ i u, (pcs l)[i]? = some u → w.cell? ⟨g, 0 + i, none⟩ = some u := fun i u hu => by
      have := h.cells (g := g) rfl i u hu
      by_cases h0 : i = 0
      · subst h0; simpa [Addr.add] using this
      · simpa [Addr.add, h0] using this
    refine ⟨g, 0, rfl, fun j p hj => ?_⟩
    obtain ⟨g0, g1, g2⟩ := pcs_get hj
    exact ⟨cell _ _ g0, by have := cell _ _ g1; rwa [← Nat.add_assoc] at this, by have := cell _ _ g2; rwa [← Nat.add_assoc] at this⟩

section
variable {H : Type} {enc : TypeId × Value → H} {w : World}
set_option maxRecDepth 100000 in
theorem pks_form {A : Option Addr} {len cap : Nat} {d : DataW H} {p : List MemPlace} (h : DataW.Trod enc Try.prog w 0 (fun _ => true) true 23 (.slice A len cap) d p) :
    (A = none → cap = 0) ∧ (0 < len → ∃ elems spare, d = .slice elems spare ∧ elems.length = len) := by
  obtain ⟨fuel, hf⟩ := h
  rcases Go.Deep.open_slice Try.underlying23 hf with ⟨hcs, _⟩ | ⟨a, ln, cp, m, n, D, Pl, hcs, _, hl, hm, hmm, hx, hi⟩
  · simp [Value.cells] at hcs
    obtain ⟨rfl, rfl, rfl⟩ := hcs
    exact ⟨fun _ => rfl, fun h => by omega⟩
  · simp [Value.cells] at hcs
    obtain ⟨rfl, rfl, rfl⟩ := hcs
    exact ⟨fun e => (by cases e), fun _ => ⟨_, _, (Prod.mk.inj hx).1, by simp⟩⟩
end

/-- What a call leaves that hands back a list of packets in new memory. -/
def AnsP (L : List Pk) (w : World) (e : Ending) (w' : World) : Prop :=
  ∃ A c, e = .returned (.slice A L.length c) ∧ w'.ownsRow w.heap.size 32 3 (.slice A L.length c) L.length (pcs L) ∧ Below w.heap.size w w'
theorem AnsP.of {L : List Pk} {w : World} {v : Value} {w' : World} (h : w'.ownsRow w.heap.size 32 3 v L.length (pcs L)) (hb : Below w.heap.size w w') : AnsP L w (.returned v) w' := by
  rcases h.2 with ⟨rfl, h0⟩ | ⟨g, cap, cur, rfl, h1⟩
  · have : L = [] := List.eq_nil_of_length_eq_zero h0
    subst this
    exact ⟨none, 0, rfl, h, hb⟩
  · exact ⟨some ⟨g, 0, none⟩, cap, rfl, h, hb⟩
theorem pk_info : (Try.prog.info? 32).map (fun i => (i.zero, i.size, i.bytes)) = some (some (.agg #[.int .i64 0, .int .i64 0, .int .i64 0]), 3, 24) := by kernel_rfl

set_option maxHeartbeats 400000 in
theorem clone_pk (A : Option Addr) (l : List Pk) (c : Nat) (w : World) (h : Pks w A l) (hp : 0 < l.length) (h61 : l.length ≤ 61) :
    Calls Try.prog 16 #[.slice A l.length c] w (AnsP l w) := by
  obtain ⟨i0, hi0, hz0, hz1, hz2⟩ := info_parts pk_info
  obtain ⟨b, off, rfl, hc⟩ := h.2 hp
  have HC := Lib.hid h.cells
  have hlt : b < w.heap.size := cell_lt (hc 0 _ (pk_get hp)).1
  clear hc
  have q : ∀ (w : World) (a : Option Addr) (n c n' c' : Nat), (binOp .eql 23 (.slice a n c) (.slice none n' c')).run Try.prog w = .ok (.bool a.isNone) w := fun w a n c n' c' => Lib.run_eql_slice_nil w _ _ a n c n' c' Try.underlying23
  go_enter Try.func16, Try.ntmps16
  go_wp2_with (at_builtin; refine wpList_append_own _ rfl _ _ 23 rfl w.heap.size 32 i0 (.agg #[.int .i64 0, .int .i64 0, .int .i64 0]) 3 24 Try.underlying23 hi0 hz0 hz1 hz2 rfl (by decide) _ _ _ rfl (World.ownsRow_made w #[] 0 (Nat.le_refl _) (Nat.zero_le _) rfl) ⟨b, off, none⟩ l.length c (pcs l) rfl ?qc1 ?qc2 ?qc3 ?qc4 ?qc5 ?qc6 ?_)
  case qc1 => exact length_pcs l
  case qc2 =>
    intro j u hj
    rw [Addr.add_lit]
    exact (Below.cell ((Below.refl w.heap.size w).alloc (Nat.le_refl _) _) (p := ⟨b, off + j, none⟩) hlt).trans (HC.out j u hj)
  case qc3 => exact pcs_one l
  case qc4 => unfold maxLen; omega
  case qc5 => omega
  case qc6 => simp
  intro v' w1 hown hgrow hnil
  go_wp2
  go_ret
  exact AnsP.of (by simpa using hown) (((Below.refl _ w).alloc (Nat.le_refl _) _).grown hgrow (by simp) (by intro k hk; simp [Value.ownBlock] at hk; omega))

end Go.Proofs.Ytamkadffencpgaa
