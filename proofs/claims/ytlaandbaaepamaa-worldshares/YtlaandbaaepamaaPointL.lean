
/-
  Less, Late, Up and Sum of curves that may be, as relations between lists; the walk of headkeep.same.
-/
import Derived.Test.YtlaandbaaepamaaPointK
namespace Go.Proofs.Ytlaandbaaepamaa
set_option linter.all false
open Go.RowKit

/-- R is what Less answers. -/
structure Lesses (l m R : List Int) : Prop where
  one : Cv l
  two : Cv m
  len : l.length = m.length
  rlen : R.length = l.length
  r : Cv R
  val : ∀ t, t < l.length → gt R t = lessV l m t

theorem mx_nonneg' (D : Nat → Int) (n : Nat) : 0 ≤ mx D n := by
  induction n with
  | zero => exact Int.le_refl _
  | succ n ih => simp only [mx]; omega
theorem mx_le_iff (D : Nat → Int) (B : Int) (hB : 0 ≤ B) (n : Nat) : mx D n ≤ B ↔ ∀ i, i < n → D i ≤ B := by
  induction n with
  | zero => exact ⟨fun _ i hi => absurd hi (by omega), fun _ => hB⟩
  | succ n ih =>
    simp only [mx]
    constructor
    · intro h i hi
      by_cases e : i = n
      · subst e; omega
      · exact ih.1 (by omega) i (by omega)
    · intro h
      have := ih.2 (fun i hi => h i (by omega)); have := h n (by omega); omega

theorem ex_less {l m : List Int} (hl : Cv l) (hm : Cv m) (e : l.length = m.length) : ∃ R, Lesses l m R := by
  refine ⟨tab l.length (lessV l m), hl, hm, e, length_tab _ _, Cv.tab hl.pos hl.le (fun t _ => mx_nonneg' _ _) (fun t ht => ?_) (fun t _ => ?_), fun t ht => gt_tab _ ht⟩
  · refine (mx_le_iff _ _ (by decide) _).2 (fun i hi => ?_)
    have := hl.hi i (by omega); have := hm.lo i (by omega); omega
  · unfold lessV
    rw [mx.eq_2 _ (t + 1)]
    omega

theorem Lesses.ans {l m R : List Int} (h : Lesses l m R) : resE (chk2 l m) (tab l.length (lessV l m)) = 0 ∧ resL (chk2 l m) (tab l.length (lessV l m)) = R := by
  rw [← eq_tab h.rlen (fun t ht => h.val t ht), chk2_iff.2 ⟨h.one, h.two, h.len⟩]
  exact res_ok h.r.small

/-- R is what Late answers. -/
structure Lates (l : List Int) (d : Int) (R : List Int) : Prop where
  one : Cv l
  nn : 0 ≤ d
  rlen : R.length = l.length
  r : Cv R
  val : ∀ t, t < l.length → gt R t = lateV l d t

theorem lateV_ok {l : List Int} (hl : Cv l) {d : Int} (hd : 0 ≤ d) : Cv (tab l.length (lateV l d)) := by
  refine Cv.tab hl.pos hl.le (fun t ht => ?_) (fun t ht => ?_) (fun t ht => ?_)
  · unfold lateV; split
    · exact Int.le_refl _
    · exact hl.lo _ (by omega)
  · unfold lateV; split
    · decide
    · exact hl.hi _ (by omega)
  · unfold lateV; split
    · split
      · exact Int.le_refl _
      · exact hl.lo _ (by omega)
    · rw [if_neg (by omega)]
      exact hl.mono (by omega) (by omega)

theorem ex_late {l : List Int} (hl : Cv l) {d : Int} (hd : 0 ≤ d) : ∃ R, Lates l d R :=
  ⟨_, hl, hd, length_tab _ _, lateV_ok hl hd, fun t ht => gt_tab _ ht⟩

theorem Lates.ans {l : List Int} {d : Int} {R : List Int} (h : Lates l d R) : resE (lateE l d) (tab l.length (lateV l d)) = 0 ∧ resL (lateE l d) (tab l.length (lateV l d)) = R := by
  have e : lateE l d = 0 := by have := h.nn; simp [lateE, chk_iff.2 h.one]; omega
  rw [← eq_tab h.rlen (fun t ht => h.val t ht), e]
  exact res_ok h.r.small

/-- S is the sum of two curves of one length, whether or not it fits. -/
structure Sums (l m S : List Int) : Prop where
  one : Cv l
  two : Cv m
  len : l.length = m.length
  rlen : S.length = l.length
  val : ∀ t, t < l.length → gt S t = gt l t + gt m t

theorem ex_sum {l m : List Int} (hl : Cv l) (hm : Cv m) (e : l.length = m.length) : ∃ S, Sums l m S := ⟨tab l.length fun t => gt l t + gt m t, hl, hm, e, length_tab _ _, fun t ht => gt_tab _ ht⟩
theorem Sums.symm {l m S : List Int} (h : Sums l m S) : Sums m l S := ⟨h.two, h.one, h.len.symm, by rw [h.rlen, h.len], fun t ht => by rw [h.val t (by rw [h.len]; exact ht)]; omega⟩
theorem Sums.curve {l m S : List Int} (h : Sums l m S) (hb : bigB S = false) : Cv S := by
  have hn := h.rlen; have hl := h.len
  refine ⟨by have := h.one.pos; omega, by have := h.one.le; omega, fun t ht => ?_, bigB_no.1 hb, fun t ht => ?_⟩
  · rw [h.val t (by omega)]; have := h.one.lo t (by omega); have := h.two.lo t (by omega); omega
  · rw [h.val t (by omega), h.val (t + 1) (by omega)]; have := h.one.up t (by omega); have := h.two.up t (by omega); omega

/-- S is l, n more at each time, whether or not it fits. -/
structure Ups (l : List Int) (n : Int) (S : List Int) : Prop where
  one : Cv l
  n0 : 0 ≤ n
  n1 : n ≤ 1000000
  rlen : S.length = l.length
  val : ∀ t, t < l.length → gt S t = gt l t + n

theorem ex_up {l : List Int} (hl : Cv l) {n : Int} (h0 : 0 ≤ n) (h1 : n ≤ 1000000) : ∃ S, Ups l n S := ⟨tab l.length fun t => gt l t + n, hl, h0, h1, length_tab _ _, fun t ht => gt_tab _ ht⟩
theorem Ups.curve {l : List Int} {n : Int} {S : List Int} (h : Ups l n S) (hb : bigB S = false) : Cv S := by
  have hn := h.rlen
  refine ⟨by have := h.one.pos; omega, by have := h.one.le; omega, fun t ht => ?_, bigB_no.1 hb, fun t ht => ?_⟩
  · rw [h.val t (by omega)]; have := h.one.lo t (by omega); have := h.n0; omega
  · rw [h.val t (by omega), h.val (t + 1) (by omega)]; have := h.one.up t (by omega); omega

end Go.Proofs.Ytlaandbaaepamaa
