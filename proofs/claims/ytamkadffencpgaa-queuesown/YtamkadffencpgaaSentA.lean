
/-
  Slices of sent packets: their cells, how they read.
-/
import Derived.Test.YtamkadffencpgaaTurnsB
import Derived.Test.YtamkadffencpgaaPointB
namespace Go.Proofs.Ytamkadffencpgaa
set_option linter.all false
open Go.RowKit Go.Shelf Go.Lib

/-- The cells of a list of sent packets. -/
def scs (l : List Snd) : List Value := l.flatMap (fun s => [Value.int .i64 (s.1 : Nat), .int .i64 (s.2 : Nat)])
theorem scs_cons (s : Snd) (l : List Snd) : scs (s :: l) = [Value.int .i64 (s.1 : Nat), .int .i64 (s.2 : Nat)] ++ scs l := by simp [scs]
theorem scs_app (l m : List Snd) : scs (l ++ m) = scs l ++ scs m := by simp [scs]
theorem length_scs (l : List Snd) : (scs l).length = l.length * 2 := by
  induction l with
  | nil => rfl
  | cons p l ih => rw [scs_cons, List.length_append, ih]; simp; omega
theorem scs_get : ∀ {l : List Snd} {k : Nat} {s : Snd}, l[k]? = some s → (scs l)[k * 2]? = some (.int .i64 (s.1 : Nat)) ∧ (scs l)[k * 2 + 1]? = some (.int .i64 (s.2 : Nat))
  | [], k, p, h => by simp at h
  | q :: l, 0, p, h => by simp at h; subst h; rw [scs_cons]; simp
  | q :: l, k + 1, p, h => by
    have ih := scs_get (l := l) (k := k) (s := p) (by simpa using h)
    rw [scs_cons]
    refine ⟨?_, ?_⟩
    · rw [List.getElem?_append_right (by simp; omega)]; simpa [show (k + 1) * 2 - 2 = k * 2 by omega] using ih.1
    · rw [List.getElem?_append_right (by simp; omega)]; simpa [show (k + 1) * 2 + 1 - 2 = k * 2 + 1 by omega] using ih.2
theorem scs_one (l : List Snd) : ∀ u ∈ scs l, u.oneCell' = true := by
  intro u hu
  simp only [scs, List.mem_flatMap] at hu
  obtain ⟨q, _, hq⟩ := hu
  simp at hq
  rcases hq with rfl | rfl <;> rfl
theorem sent_info : (Try.prog.info? 60).map (fun i => (i.zero, i.size, i.bytes)) = some (some (.agg #[.int .i64 0, .int .i64 0]), 2, 16) := by kernel_rfl

/-- The slice at A reads, in w, as the list l of sent packets. -/
def Sns (w : World) (A : Option Addr) (l : List Snd) : Prop :=
  l.length ≤ 9223372036854775807 ∧ (0 < l.length → ∃ b off, A = some ⟨b, off, none⟩ ∧ ∀ j s, l[j]? = some s →
    w.cell? ⟨b, off + j * 2, none⟩ = some (.int .i64 (s.1 : Nat)) ∧ w.cell? ⟨b, off + j * 2 + 1, none⟩ = some (.int .i64 (s.2 : Nat)))
theorem Sns.nil_ (w : World) (A : Option Addr) : Sns w A [] := ⟨by simp, fun h => absurd h (by simp)⟩
theorem Sns.below {w w' : World} {A : Option Addr} {l : List Snd} (h : Sns w A l) (hb : Below w.heap.size w w') : Sns w' A l := by
  refine ⟨h.1, fun hl => ?_⟩
  obtain ⟨b, off, rfl, hc⟩ := h.2 hl
  refine ⟨b, off, rfl, fun j p hj => ?_⟩
  obtain ⟨h0, h1⟩ := hc j p hj
  exact ⟨(hb.cell (p := ⟨b, _, none⟩) (cell_lt h0)).trans h0, (hb.cell (p := ⟨b, _, none⟩) (cell_lt h0)).trans h1⟩
theorem Sns.alloc {w : World} {A : Option Addr} {l : List Snd} (h : Sns w A l) (o : Obj) : Sns (w.alloc o) A l := h.below ((Below.refl _ _).alloc (Nat.le_refl _) _)
theorem Sns.get {w : World} {A : Option Addr} {l : List Snd} {k : Nat} (h : Sns w A l) (hk : k < l.length) :
    ∃ b off s, A = some ⟨b, off, none⟩ ∧ b < w.heap.size ∧ w.cell? ⟨b, off + k * 2, none⟩ = some (.int .i64 ((s : Snd).1 : Nat)) ∧ w.cell? ⟨b, off + k * 2 + 1, none⟩ = some (.int .i64 (s.2 : Nat)) ∧ Hid (l[k]? = some s) := by
  obtain ⟨b, off, rfl, hc⟩ := h.2 (by omega)
  obtain ⟨h0, h1⟩ := hc k l[k] (List.getElem?_eq_getElem hk)
  exact ⟨b, off, l[k], rfl, cell_lt h0, h0, h1, Lib.hid (List.getElem?_eq_getElem hk)⟩
theorem Sns.of_own {w : World} {base : Nat} {A : Option Addr} {c : Nat} {l : List Snd} (h : w.ownsRow base 60 2 (.slice A l.length c) l.length (scs l)) : Sns w A l := by
  rcases h.2 with ⟨hv, h0⟩ | ⟨g, cap, cur, hv, _, hh, hn, hm, hs, ht⟩
  · rw [List.eq_nil_of_length_eq_zero h0]
    exact Sns.nil_ _ _
  · refine ⟨by unfold maxLen at hm; omega, fun hl => ?_⟩
    have hA : A = some ⟨g, 0, none⟩ := by injection hv
    subst hA
    have cell : ∀ i u, (scs l)[i]? = some u → w.cell? ⟨g, 0 + i, none⟩ = some u := fun i u hu => by
      have := h.cells (g := g) rfl i u hu
      by_cases h0 : i = 0
      · subst h0; simpa [Addr.add] using this
      · simpa [Addr.add, h0] using this
    refine ⟨g, 0, rfl, fun j p hj => ?_⟩
    obtain ⟨g0, g1⟩ := scs_get hj
    exact ⟨cell _ _ g0, by have := cell _ _ g1; rwa [← Nat.add_assoc] at this⟩
theorem Sns.cells {w : World} {b off : Nat} {l : List Snd} (h : Sns w (some ⟨b, off, none⟩) l) : ∀ j u, (scs l)[j]? = some u → w.cell? ⟨b, off + j, none⟩ = some u := by
  intro j u hu
  have hj : j < l.length * 2 := by have := (List.getElem?_eq_some_iff.1 hu).1; rwa [length_scs] at this
  obtain ⟨b', off', e, hc⟩ := h.2 (by omega)
  obtain ⟨rfl, rfl⟩ : b' = b ∧ off' = off := by injection e with e; injection e with e1 e2; exact ⟨e1.symm, e2.symm⟩
  have hk : j / 2 < l.length := by omega
  have hg := List.getElem?_eq_getElem hk
  have g := scs_get hg
  obtain ⟨c0, c1⟩ := hc (j / 2) _ hg
  rcases (show j = j / 2 * 2 ∨ j = j / 2 * 2 + 1 by omega) with e | e
  · rw [e] at hu ⊢
    rw [g.1] at hu
    rw [← hu]; exact c0
  · rw [e] at hu ⊢
    rw [g.2] at hu
    rw [← hu, ← Nat.add_assoc]; exact c1
/-- One sent packet, new in memory. -/
theorem new_sent (w : World) (x y : Value) (t : TypeId) : ∀ (j : Nat) (v : Value), [x, y][j]? = some v → (w.alloc (.cells #[x, y] t)).cell? ((⟨w.heap.size, 0, none⟩ : Addr).add j) = some v := by
  intro j v hj
  have b := Blk.new w t #[x, y]
  match j, hj with
  | 0, hj => simp at hj; subst hj; simpa [Addr.add] using b.cell 0
  | 1, hj => simp at hj; subst hj; simpa [Addr.add] using b.cell 1

/-- No more than there are. -/
theorem cnS_le (l : List Flw) {c : Nat → Nat} (h : ∀ j, j < l.length → c j ≤ 60) : ∀ k, k ≤ l.length → cnS l c k ≤ 60 * k
  | 0, _ => Nat.le_refl _
  | k + 1, hk => by have := cnS_le l h k (by omega); have := h k (by omega); rw [cnS]; omega
theorem rnd_bd {l : List Flw} (v : Flws l) (m k : Nat) (hk : k ≤ l.length) : (rndL l m k).length ≤ 480 := by
  have h1 := rnd_len v (m := m) k hk
  have h2 := cnS_le l (c := fun j => (flw l j).cn (m + 1)) (fun j hj => by have := cn_le (flw l j) (m + 1); have := (v.ok j hj).sz.le; omega) k hk
  have := v.le
  omega
theorem ord_bd {l : List Flw} (v : Flws l) (m : Nat) : (ordL l m).length ≤ 480 := by
  rw [ord_len v]
  have h2 := cnS_le l (c := fun j => (flw l j).cn m) (fun j hj => by have := cn_le (flw l j) m; have := (v.ok j hj).sz.le; omega) l.length (Nat.le_refl _)
  have := v.le
  omega

end Go.Proofs.Ytamkadffencpgaa
