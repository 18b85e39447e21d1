
/-
  What point's functions answer of curves that may be, as relations between lists.
-/
import Derived.Test.YtlaandbaaepamaaPointD
import Derived.Test.YtlaandbaaepamaaKeepA
namespace Go.Proofs.Ytlaandbaaepamaa
set_option linter.all false
open Go.RowKit

/-- R is, time by time, what F says, of two curves of one length, and is a curve. -/
structure Zips (F : Int → Int → Int) (l m R : List Int) : Prop where
  one : Cv l
  two : Cv m
  len : l.length = m.length
  rlen : R.length = l.length
  r : Cv R
  val : ∀ t, t < l.length → gt R t = F (gt l t) (gt m t)

theorem Zips.eq {F : Int → Int → Int} {l m R : List Int} (h : Zips F l m R) : tab l.length (fun t => F (gt l t) (gt m t)) = R :=
  (eq_tab h.rlen (fun t ht => h.val t ht)).symm
theorem Cv.small {R : List Int} (h : Cv R) : bigB R = false := bigB_no.2 h.hi

theorem Zips.ans {F : Int → Int → Int} {l m R : List Int} (h : Zips F l m R) :
    resE (chk2 l m) (tab l.length fun t => F (gt l t) (gt m t)) = 0 ∧ resL (chk2 l m) (tab l.length fun t => F (gt l t) (gt m t)) = R := by
  rw [h.eq, chk2_iff.2 ⟨h.one, h.two, h.len⟩]
  exact res_ok h.r.small

theorem mk_zips {F : Int → Int → Int} {l m : List Int} (hl : Cv l) (hm : Cv m) (e : l.length = m.length)
    (lo : ∀ t, t < l.length → 0 ≤ F (gt l t) (gt m t)) (hi : ∀ t, t < l.length → F (gt l t) (gt m t) ≤ 1000000) (up : ∀ t, t + 1 < l.length → F (gt l t) (gt m t) ≤ F (gt l (t + 1)) (gt m (t + 1))) :
    ∃ R, Zips F l m R :=
  ⟨tab l.length fun t => F (gt l t) (gt m t), hl, hm, e, length_tab _ _, Cv.tab hl.pos hl.le lo hi up, fun t ht => gt_tab _ ht⟩

theorem ex_min {l m : List Int} (hl : Cv l) (hm : Cv m) (e : l.length = m.length) : ∃ R, Zips min l m R :=
  mk_zips hl hm e (fun t ht => by have := hl.lo t ht; have := hm.lo t (by omega); omega) (fun t ht => by have := hl.hi t ht; omega)
    (fun t ht => by have := hl.up t ht; have := hm.up t (by omega); omega)
theorem ex_max {l m : List Int} (hl : Cv l) (hm : Cv m) (e : l.length = m.length) : ∃ R, Zips max l m R :=
  mk_zips hl hm e (fun t ht => by have := hl.lo t ht; omega) (fun t ht => by have := hl.hi t ht; have := hm.hi t (by omega); omega)
    (fun t ht => by have := hl.up t ht; have := hm.up t (by omega); omega)

theorem leK_iff {l m : List Int} (hl : Cv l) (hm : Cv m) (e : l.length = m.length) : leK l m = true ↔ ∀ t, t < l.length → gt l t ≤ gt m t := by
  unfold leK
  rw [chk2_iff.2 ⟨hl, hm, e⟩]
  simp only [decide_true, Bool.true_and]
  exact leB_iff e

theorem bool_eq {a b : Bool} (h : a = true ↔ b = true) : a = b := by cases a <;> cases b <;> simp_all

end Go.Proofs.Ytlaandbaaepamaa
