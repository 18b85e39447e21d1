
/-
  The law EdfEasier over what package edf owes.
-/
import Derived.Test.YtccjegnflienhaaJobG
import Derived.Test.YtccjegnflienhaaKeepA
import Derived.StillTailTactics
import Derived.Deep.DeepCutAuto
namespace Go.Proofs.Ytccjegnflienhaa
set_option linter.all false
open Go.RowKit Go.Shelf Go.Lib

theorem wiN (n m : Int) (h : 1 ≤ m) : ∃ k : Nat, wi n m = (k : Int) ∧ (k : Int) < m := by
  have h0 := Int.emod_nonneg (n % 18446744073709551616) (show m ≠ 0 by omega)
  have h1 := Int.emod_lt_of_pos (n % 18446744073709551616) (show 0 < m by omega)
  refine ⟨(wi n m).toNat, ?_, ?_⟩
  · unfold wi; omega
  · unfold wi; omega
theorem pcs_three : ∀ {l : List Pk} {k : Nat} (p : Pk), k < l.length → (((pcs l).set (k * 3) (.int .i64 p.at_)).set (k * 3 + 1) (.int .i64 p.size)).set (k * 3 + 2) (.int .i64 p.flow) = pcs (l.set k p)
  | [], k, p, h => by simp at h
  | q :: l, 0, p, h => by simp [pcs_cons]
  | q :: l, k + 1, p, h => by
    have ih := pcs_three (l := l) (k := k) p (by simpa using h)
    rw [pcs_cons, List.set_append_right _ _ (by simp; omega), List.set_append_right _ _ (by simp; omega), List.set_append_right _ _ (by simp; omega), List.set_cons_succ, pcs_cons, ← ih]
    simp [show (k + 1) * 3 - 3 = k * 3 by omega, show (k + 1) * 3 + 1 - 3 = k * 3 + 1 by omega, show (k + 1) * 3 + 2 - 3 = k * 3 + 2 by omega]
theorem jcs_three {l : List Jb} {k : Nat} (j : Jb) (h : k < l.length) : (((jcs l).set (k * 3) (.int .i64 j.at_)).set (k * 3 + 1) (.int .i64 j.work)).set (k * 3 + 2) (.int .i64 j.due) = jcs (l.set k j) := by
  have := pcs_three (l := l.map jp) (k := k) (jp j) (by simpa using h)
  unfold jcs
  rw [List.map_set]
  exact this
theorem jb_set {l : List Jb} {k : Nat} {j : Jb} (h : k < l.length) (i : Nat) : jb (l.set k j) i = if i = k then j else jb l i := by
  unfold jb
  by_cases c : i = k
  · subst c; simp [List.getD, h]
  · rw [if_neg c]; simp [List.getD, List.getElem?_set_ne (fun e : k = i => c e.symm)]
theorem clone_job (A : Option Addr) (l : List Jb) (n c : Nat) (w : World) (h : Jbs w A l) (hp : 0 < n) (h12 : n ≤ 12) (hn : n = l.length) :
    Calls Try.prog 52 #[.slice A n c] w fun e w' => ∃ g d, e = .returned (.slice (some ⟨g, 0, none⟩) n d) ∧ w'.ownsRow w.heap.size 50 3 (.slice (some ⟨g, 0, none⟩) n d) n (jcs l) ∧ Below w.heap.size w w' := by
  have := clone_jp A (l.map jp) c w h (by simp; omega) (by simp; omega)
  rw [List.length_map, ← hn] at this
  refine this.mono ?_
  rintro e w' ⟨B, d, rfl, o, b⟩
  rw [List.length_map, ← hn] at o
  rcases o.2 with ⟨_, h0⟩ | ⟨g, cap, cur, hv, _⟩
  · omega
  · injection hv with e1 _ e3
    subst e1 e3
    exact ⟨g, d, by rw [List.length_map, ← hn], o, b⟩
theorem jobsB_set {l : List Jb} (v : JobsB l) {k : Nat} (hk : k < l.length) {j : Jb} (a0 : 0 ≤ j.at_) (ad : j.at_ < j.due) (d1 : j.due ≤ 200) (w0 : 1 ≤ j.work) (w1 : j.work ≤ 200) : JobsB (l.set k j) := by
  have key : ∀ (P : Jb → Prop), P j → (∀ i, i < l.length → P (jb l i)) → ∀ i, i < (l.set k j).length → P (jb (l.set k j) i) := fun P pj pl i hi => by
    rw [List.length_set] at hi
    rw [jb_set hk]
    by_cases c : i = k
    · rw [if_pos c]; exact pj
    · rw [if_neg c]; exact pl i hi
  exact ⟨⟨key (fun x => 0 ≤ x.at_) a0 v.a0, key (fun x => x.at_ < x.due) ad v.ad, key (fun x => 1 ≤ x.work) w0 v.w0⟩, by rw [List.length_set]; exact v.le, key (fun x => x.due ≤ 200) d1 v.d1, key (fun x => x.work ≤ 200) w1 v.w1⟩
theorem jobsB_erase {l : List Jb} (v : JobsB l) {k : Nat} (hk : k < l.length) : JobsB (l.eraseIdx k) := by
  have hl : (l.eraseIdx k).length = l.length - 1 := by rw [List.length_eraseIdx, if_pos hk]
  have key : ∀ (P : Jb → Prop), (∀ i, i < l.length → P (jb l i)) → ∀ i, i < (l.eraseIdx k).length → P (jb (l.eraseIdx k) i) := fun P pl i hi => by
    rw [hl] at hi
    rw [jb_erase]
    split
    · exact pl i (by omega)
    · exact pl (i + 1) (by omega)
  exact ⟨⟨key (fun x => 0 ≤ x.at_) v.a0, key (fun x => x.at_ < x.due) v.ad, key (fun x => 1 ≤ x.work) v.w0⟩, by have := v.le; omega, key (fun x => x.due ≤ 200) v.d1, key (fun x => x.work ≤ 200) v.w1⟩
abbrev je1 : List Jb := [⟨0, 2, 1⟩]
abbrev je2 : List Jb := [⟨0, 1, 1⟩]
theorem je1_not : demB je1 = false := demB_not 0 1 (by omega) (by decide)
theorem je2_fit : demB je2 = true := demB_of (by decide) (by decide)

end Go.Proofs.Ytccjegnflienhaa
