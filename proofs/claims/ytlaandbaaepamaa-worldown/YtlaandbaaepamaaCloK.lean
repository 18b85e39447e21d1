
/-
  closure.Of, closure.Is, dual.Of and dual.Super of curves that may be, as relations between lists.
-/
import Derived.Test.YtlaandbaaepamaaConvK
import Derived.Test.YtlaandbaaepamaaCloA
namespace Go.Proofs.Ytlaandbaaepamaa
set_option linter.all false
open Go.RowKit Go.Shelf

/-- R is the closure of a curve. -/
structure Clos (l R : List Int) : Prop where
  one : Cv l
  is : R = clL l
theorem ex_clos {l : List Int} (h : Cv l) : ∃ R, Clos l R := ⟨_, h, rfl⟩
theorem Clos.r {l R : List Int} (z : Clos l R) : Cv R := by rw [z.is]; exact z.one.clos
theorem Clos.rlen {l R : List Int} (z : Clos l R) : R.length = l.length := by rw [z.is, length_clL]
theorem Clos.sb {l R : List Int} (z : Clos l R) : Sb R := by rw [z.is]; exact Sb.clos l
theorem Clos.twice {l R : List Int} (z : Clos l R) : Clos R R := ⟨z.r, z.sb.is z.r⟩
theorem Clos.zero {l R : List Int} (z : Clos l R) : gt R 0 = 0 := by
  have := z.sb.zero; have := z.r.lo 0 z.r.pos; omega
theorem Clos.le {l R : List Int} (z : Clos l R) {t : Nat} (h0 : 0 < t) (ht : t < l.length) : gt R t ≤ gt l t := by
  rw [z.is, gt_clL ht]; exact cl_below _ h0
theorem Clos.most {l R g : List Int} (z : Clos l R) (e : g.length = l.length) (s : Sb g) (h : ∀ t, 0 < t → t < l.length → gt g t ≤ gt l t) : ∀ t, t < l.length → gt g t ≤ gt R t := fun t ht => by
  rw [z.is, gt_clL ht]
  exact cl_most s.zero (fun a b hab => s.two a b (by omega)) h t t (Nat.le_refl _) ht
theorem Clos.part {l R : List Int} (z : Clos l R) {t : Nat} (h0 : 0 < t) (ht : t < l.length) : ∃ i j, i + 1 + j = t ∧ gt R t = gt l (i + 1) + gt R j := by
  obtain ⟨i, j, e, h⟩ := cl_at (gt l) h0
  exact ⟨i, j, e, by rw [z.is, gt_clL ht, gt_clL (by omega)]; exact h⟩

theorem subB_iff {l : List Int} (v : Cv l) : subB l = true ↔ Sb l := by
  rw [← sb_iff v]; simp [subB, chk_iff.2 v, eqB]

/-- R is the max-plus convolution of two curves of one length, whether or not it fits. -/
structure Duals (l m R : List Int) : Prop where
  one : Cv l
  two : Cv m
  len : l.length = m.length
  is : R = duL l m
theorem ex_dual {l m : List Int} (hl : Cv l) (hm : Cv m) (e : l.length = m.length) : ∃ R, Duals l m R := ⟨_, hl, hm, e, rfl⟩
theorem Duals.rlen {l m R : List Int} (z : Duals l m R) : R.length = l.length := by rw [z.is, length_duL]
theorem Duals.nd {l m R : List Int} (z : Duals l m R) : Nd 2000000 R := by rw [z.is]; exact z.one.nd.dual z.two.nd z.len
theorem Duals.curve {l m R : List Int} (z : Duals l m R) (hb : bigB R = false) : Cv R := z.nd.cv hb
theorem Duals.symm {l m R : List Int} (z : Duals l m R) : Duals m l R := ⟨z.two, z.one, z.len.symm, by rw [z.is, duL_comm z.len]⟩
theorem Duals.ge {l m R : List Int} (z : Duals l m R) (i j : Nat) (h : i + j < l.length) : gt l i + gt m j ≤ gt R (i + j) := by rw [z.is, gt_duL h]; exact du_ge i j rfl
theorem dual_assoc {l m k a c x : List Int} (za : Duals l m a) (zc : Duals m k c) (vc : Cv c) (zx : Duals a k x) : Duals l c x :=
  ⟨za.one, vc, by rw [zc.rlen, za.len], by rw [zx.is, za.is, duL_assoc za.len, ← zc.is]⟩
/-- R is the superadditive closure of a curve, whether or not it fits. -/
structure Sups (l R : List Int) : Prop where
  one : Cv l
  is : R = suL l
theorem ex_sup {l : List Int} (h : Cv l) : ∃ R, Sups l R := ⟨_, h, rfl⟩
theorem Sups.nd {l R : List Int} (z : Sups l R) : Nd 60000000 R := by rw [z.is]; exact Nd.super z.one
theorem Sups.rlen {l R : List Int} (z : Sups l R) : R.length = l.length := by rw [z.is, length_suL]
theorem Sups.curve {l R : List Int} (z : Sups l R) (hb : bigB R = false) : Cv R := z.nd.cv hb
theorem Sups.zero {l R : List Int} (z : Sups l R) : gt R 0 = 0 := by rw [z.is, gt_suL z.one.pos, su_zero]
theorem Sups.ge {l R : List Int} (z : Sups l R) {t : Nat} (h0 : 0 < t) (ht : t < l.length) : gt l t ≤ gt R t := by rw [z.is, gt_suL ht]; exact su_above _ h0
theorem Sups.two {l R : List Int} (z : Sups l R) (s t : Nat) (h : s + t < l.length) : gt R s + gt R t ≤ gt R (s + t) := by
  rw [z.is, gt_suL h, gt_suL (by omega), gt_suL (by omega)]; exact su_super _ _ _
theorem Sups.twice {l R : List Int} (z : Sups l R) (hb : bigB R = false) : Sups R R := by
  have v := z.curve hb
  have er := z.rlen
  refine ⟨v, list_ext (length_suL R).symm (fun t ht => ?_)⟩
  rw [gt_suL ht]
  have h1 := su_least (f := gt R) (g := gt R) (n := R.length) (v.lo 0 v.pos) (fun a b hab => z.two a b (by omega)) (fun _ _ _ => Int.le_refl _) ht
  cases t with
  | zero => rw [su_zero, z.zero]
  | succ t => have := su_above (gt R) (t := t + 1) (by omega); omega
theorem Sups.self {l R : List Int} (z : Sups l R) (hb : bigB R = false) : Duals R R R := by
  have v := z.curve hb
  have er := z.rlen
  refine ⟨v, v, rfl, list_ext (length_duL R R).symm (fun t ht => ?_)⟩
  rw [gt_duL ht]
  exact (du_eq (fun i j e => by have := z.two i j (by omega); rwa [e] at this) ⟨0, t, by omega, by rw [z.zero]; omega⟩).symm
/-- N is a curve that is put to 0 at 0. -/
structure Noughts (l N : List Int) : Prop where
  one : Cv l
  is : N = l.set 0 0
theorem ex_nought {l : List Int} (h : Cv l) : ∃ N, Noughts l N := ⟨_, h, rfl⟩
theorem Noughts.rlen {l N : List Int} (z : Noughts l N) : N.length = l.length := by rw [z.is]; simp
theorem Noughts.val {l N : List Int} (z : Noughts l N) (t : Nat) : gt N t = if t = 0 then 0 else gt l t := by rw [z.is, gt_set z.one.pos]
theorem Noughts.zero {l N : List Int} (z : Noughts l N) : gt N 0 = 0 := by rw [z.val, if_pos rfl]
theorem Noughts.pos {l N : List Int} (z : Noughts l N) {t : Nat} (h : 0 < t) : gt N t = gt l t := by rw [z.val, if_neg (by omega)]
theorem Noughts.r {l N : List Int} (z : Noughts l N) : Cv N := by
  have v := z.one; have e := z.rlen; have vp := v.pos; have vl := v.le
  refine ⟨by omega, by omega, fun t ht => ?_, fun t ht => ?_, fun t ht => ?_⟩
  · rw [z.val]; split
    · omega
    · exact v.lo t (by omega)
  · rw [z.val]; split
    · omega
    · exact v.hi t (by omega)
  · rw [z.pos (t := t + 1) (by omega), z.val]; split
    · exact v.lo (t + 1) (by omega)
    · exact v.up t (by omega)
/-- A closure behind itself is itself; two closures, one behind the other, are the closure of the lesser. -/
theorem Clos.self {l R : List Int} (z : Clos l R) : Convs R R R := by
  have s := z.sb
  refine ⟨z.r, z.r, rfl, list_ext (length_cvL R R).symm (fun t ht => ?_)⟩
  rw [gt_cvL ht]
  exact (cv_eq (fun i j e => by have := s.two i j (by omega); rwa [e] at this) ⟨0, t, by omega, by rw [z.zero]; omega⟩).symm
theorem clos_conv {f g x y m v : List Int} (zx : Clos f x) (zy : Clos g y) (zm : Zips min f g m) (zv : Clos m v) : Convs x y v := by
  have e1 := zm.len; have e2 := zm.rlen; have e3 := zx.rlen; have e4 := zy.rlen; have e5 := zv.rlen
  obtain ⟨W, zw⟩ := ex_conv zx.r zy.r (by omega)
  have e6 := zw.rlen
  have sv := zv.sb
  have vx := zx.most (g := v) (by omega) sv (fun t h0 ht => by have := zv.le h0 (by omega); have := zm.val t ht; omega)
  have vy := zy.most (g := v) (by omega) sv (fun t h0 ht => by have := zv.le h0 (by omega); have := zm.val t (by omega); omega)
  have sw : Sb W := by
    refine ⟨?_, fun s t hst => ?_⟩
    · have := zw.le 0 0 (by have := zx.r.pos; omega); have := zx.zero; have := zy.zero; simp only [Nat.add_zero] at *; omega
    · obtain ⟨i, j, ij, h1⟩ := zw.at_ (t := s) (by omega)
      obtain ⟨i', j', ij', h2⟩ := zw.at_ (t := t) (by omega)
      have h3 := zw.le (i + i') (j + j') (by omega)
      rw [show i + i' + (j + j') = s + t by omega] at h3
      have := zx.sb.two i i' (by omega); have := zy.sb.two j j' (by omega)
      omega
  have wv := zv.most (g := W) (by omega) sw (fun t h0 ht => by
    have h1 := zw.le t 0 (by omega); have h2 := zw.le 0 t (by omega)
    rw [Nat.add_zero] at h1; rw [Nat.zero_add] at h2
    have := zx.zero; have := zy.zero; have := zx.le h0 (by omega); have := zy.le h0 (by omega); have := zm.val t (by omega)
    omega)
  refine ⟨zx.r, zy.r, by omega, ?_⟩
  rw [← zw.is]
  refine list_ext (by omega) (fun t ht => ?_)
  have h1 := wv t (by omega)
  obtain ⟨i, j, ij, h2⟩ := zw.at_ (t := t) (by omega)
  have h3 := sv.two i j (by omega)
  rw [ij] at h3
  have := vx i (by omega); have := vy j (by omega)
  omega

/-- As many copies as there are times make the closure. -/
theorem clos_pow {l N x : List Int} (zx : Clos l x) (zn : Noughts l N) {K : Int} (hK : K = max 1 ((l.length : Int) - 1)) : Pows N K x := by
  have v := zx.one; have vp := v.pos; have vl := v.le
  have en := zn.rlen; have ex := zx.rlen
  refine ⟨zn.r, by omega, by omega, ?_⟩
  obtain ⟨k, hk⟩ : ∃ k, k = K.toNat - 1 := ⟨_, rfl⟩
  rw [← hk]
  have lower : ∀ k t, t < l.length → gt x t ≤ gt (pw N k) t := by
    intro k
    induction k with
    | zero =>
      intro t ht
      cases t with
      | zero => have := zx.zero; have := zn.zero; simp only [pw]; omega
      | succ t => have := zx.le (t := t + 1) (by omega) ht; have := zn.pos (t := t + 1) (by omega); simp only [pw]; omega
    | succ k ih =>
      intro t ht
      simp only [pw]
      rw [gt_cvL (by rw [length_pw]; omega)]
      refine le_cv.2 (fun i j e => ?_)
      have h1 := zx.sb.two i j (by omega)
      rw [e] at h1
      have h2 := ih i (by omega)
      have h3 : gt x j ≤ gt N j := by
        cases j with
        | zero => have := zx.zero; have := zn.zero; omega
        | succ j => have := zx.le (t := j + 1) (by omega) (by omega); have := zn.pos (t := j + 1) (by omega); omega
      omega
  have upper : ∀ k t, t ≤ k + 1 → t < l.length → gt (pw N k) t ≤ gt x t := by
    intro k
    induction k with
    | zero =>
      intro t h1 ht
      simp only [pw]
      cases t with
      | zero => have := zx.zero; have := zn.zero; omega
      | succ t =>
        obtain ⟨i, j, e, h2⟩ := zx.part (t := t + 1) (by omega) ht
        obtain ⟨rfl, rfl⟩ : i = t ∧ j = 0 := by omega
        have := zx.zero; have := zn.pos (t := i + 1) (by omega); omega
    | succ k ih =>
      intro t h1 ht
      simp only [pw]
      rw [gt_cvL (by rw [length_pw]; omega)]
      cases t with
      | zero =>
        have h2 := cv_le (f := gt (pw N k)) (g := gt N) (t := 0) 0 0 rfl
        have := ih 0 (by omega) ht; have := zn.zero; omega
      | succ t =>
        obtain ⟨i, j, e, h2⟩ := zx.part (t := t + 1) (by omega) ht
        have h3 := cv_le (f := gt (pw N k)) (g := gt N) (t := t + 1) j (i + 1) (by omega)
        have := ih j (by omega) (by omega); have := zn.pos (t := i + 1) (by omega); omega
  refine list_ext (by rw [length_pw]; omega) (fun t ht => ?_)
  have := lower k t (by omega)
  have := upper k t (by omega) (by omega)
  omega

end Go.Proofs.Ytlaandbaaepamaa
