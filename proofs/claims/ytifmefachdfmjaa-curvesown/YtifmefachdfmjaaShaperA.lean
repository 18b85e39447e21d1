
/-
  The walk of shaper.Of; what a shaper lets out, as a relation between lists.
-/
import Derived.Test.YtifmefachdfmjaaBoundK
namespace Go.Proofs.Ytifmefachdfmjaa
set_option linter.all false
open Go.RowKit Go.Shelf

/-- R is what a shaper lets out of a, by the curve g, whose closure is c. -/
structure Shaps (a g c R : List Int) : Prop where
  zc : Clos g c
  zx : Convs a c R
theorem ex_shap {a g : List Int} (va : Cv a) (vg : Cv g) (e : a.length = g.length) : ∃ c R, Shaps a g c R := by
  obtain ⟨c, zc⟩ := ex_clos vg
  obtain ⟨R, zx⟩ := ex_conv va zc.r (by rw [zc.rlen, e])
  exact ⟨c, R, zc, zx⟩
theorem Shaps.rlen {a g c R : List Int} (z : Shaps a g c R) : R.length = a.length := z.zx.rlen
theorem Shaps.glen {a g c R : List Int} (z : Shaps a g c R) : a.length = g.length := by rw [z.zx.len, z.zc.rlen]
theorem Shaps.le {a g c R : List Int} (z : Shaps a g c R) : ∀ t, t < a.length → gt R t ≤ gt a t := fun t ht => by
  have := z.zx.le t 0 (by omega); have := z.zc.zero; simp only [Nat.add_zero] at *; omega
theorem Shaps.small {a g c R : List Int} (z : Shaps a g c R) : bigB R = false := bigB_no.2 (fun i hi => by
  have e := z.rlen
  have := z.le i (by omega); have := z.zx.one.hi i (by omega); omega)
theorem Shaps.r {a g c R : List Int} (z : Shaps a g c R) : Cv R := z.zx.curve z.small
/-- Let out twice is let out once. -/
theorem Shaps.twice {a g c R : List Int} (z : Shaps a g c R) : Shaps R g c R := by
  obtain ⟨y, zy⟩ := ex_conv z.r z.zc.r (by rw [z.rlen, z.zx.len])
  have h := conv_assoc z.zx z.zc.self z.zc.r zy
  have e : y = R := by rw [h.is, z.zx.is]
  exact ⟨z.zc, by rw [← e] at zy ⊢; exact zy⟩
theorem Shaps.fit {a g c R : List Int} (z : Shaps a g c R) : Fit R g := by
  rw [fit_clos z.r (by rw [z.rlen, z.glen]) z.zc, fit_conv z.twice.zx]
  exact fun _ _ => Int.le_refl _
theorem Shaps.most {a g c R d : List Int} (z : Shaps a g c R) (vd : Cv d) (ed : d.length = a.length) (hf : Fit d g) (hd : ∀ t, t < a.length → gt d t ≤ gt a t) : ∀ t, t < a.length → gt d t ≤ gt R t := fun t ht => by
  have hc := (fit_clos vd (by rw [ed, z.glen]) z.zc).1 hf
  obtain ⟨i, j, e, h⟩ := z.zx.at_ ht
  have h1 := hc i j (by omega)
  have h2 := hd i (by omega)
  rw [e] at h1
  omega
theorem Shaps.same {a g c R : List Int} (z : Shaps a g c R) : R = a ↔ Fit a g := by
  constructor
  · intro e; have := z.fit; rwa [e] at this
  · intro h
    refine list_ext z.rlen (fun t ht => ?_)
    have e := z.rlen
    have := z.le t (by omega)
    have := z.most z.zx.one rfl h (fun _ _ => Int.le_refl _) t (by omega)
    omega
/-- One limit behind the other is the lesser of both. -/
theorem shap_two {a f g m x y v cf cg cg' cm : List Int} (zx : Shaps a f cf x) (zy : Shaps x g cg y) (zm : Zips min f g m) (zv : Shaps a m cm v) : y = v := by
  have h := clos_conv zx.zc zy.zc zm zv.zc
  have k := conv_assoc zx.zx h zv.zc.r zy.zx
  rw [k.is, zv.zx.is]

set_option maxHeartbeats 800000 in
theorem shaper_any (A A' : Option Addr) (l m : List Int) (c d : Nat) (w : World) (h : Ints w A l) (h' : Ints w A' m) (hd : m.length ≤ d) :
    Calls Try.prog 44 #[.slice A l.length c, .slice A' m.length d] w (Ans (resL (chk2 l m) (cvL l (clL m))) (resE (chk2 l m) (cvL l (clL m))) w) := by
  have hb : Below w.heap.size w w := Below.refl _ _
  by_cases h2 : chk2 l m = 0
  · obtain ⟨v0, v1, e1⟩ := chk2_iff.1 h2
    obtain ⟨k, R, z⟩ := ex_shap v0 v1 e1
    have q1 : resL (chk2 l m) (cvL l (clL m)) = R := by rw [h2, ← z.zc.is, ← z.zx.is]; exact (res_ok z.small).2
    have q2 : resE (chk2 l m) (cvL l (clL m)) = 0 := by rw [h2, ← z.zc.is, ← z.zx.is]; exact (res_ok z.small).1
    rw [q1, q2]
    have H2 : Hid (chk2 l m = 0) := Lib.hid h2
    have Z := Lib.hid z
    clear h2 e1 q1 q2 z
    go_enter Try.func44, Try.ntmps44
    go_wp2_with fail
    refine (le_any A A' l m c d _ h h').mono ?_
    rintro e w1 ⟨rfl, nw1, hww1⟩
    have bw1 := below_of_drewN hww1
    clear hww1
    replace h := h.below bw1
    replace h' := h'.below bw1
    replace hb := below_trans hb bw1
    clear bw1
    rw [H2.out]
    go_wp2_with fail
    refine (clos_yes A' m k _ d _ Z.out.zc h' hd rfl).mono ?_
    rintro e w2 ⟨Ak, ck, rfl, ok, bw2⟩
    replace h := h.below bw2
    replace h' := h'.below bw2
    replace hb := below_trans hb bw2
    have hk := Ints.of_own ok
    clear bw2 ok
    go_wp2_with fail
    refine (conv_yes A Ak l k R _ _ c ck _ Z.out.zx Z.out.small h hk rfl rfl).mono ?_
    rintro e w3 ⟨Ax, cx, rfl, ox, b3⟩
    have hsz := hb.size
    have hb3 := below_trans hb b3
    go_wp2
    go_ret2
    exact ⟨Ax, cx, rfl, own_lower ox hsz, hb3⟩
  · have H : Hid (resL (chk2 l m) (cvL l (clL m)) = [] ∧ resE (chk2 l m) (cvL l (clL m)) = chk2 l m) := Lib.hid ⟨(res_err h2).2, (res_err h2).1⟩
    have e1 : (chk2 l m != 0) = true := by simp [h2]
    rw [H.out.1, H.out.2]
    clear h2
    go_enter Try.func44, Try.ntmps44
    go_wp2_with fail
    refine (le_any A A' l m c d _ h h').mono ?_
    rintro e w1 ⟨rfl, nw1, hww1⟩
    have bw1 := below_of_drewN hww1
    clear hww1
    replace h := h.below bw1
    replace h' := h'.below bw1
    replace hb := below_trans hb bw1
    clear bw1
    go_wp2
    go_ret2
    exact ⟨none, 0, rfl, World.ownsRow_nil _ _ _ _, hb⟩

theorem shaper_yes (A A' : Option Addr) (l m k S : List Int) (nl nm c d : Nat) (w : World) (z : Shaps l m k S) (h : Ints w A l) (h' : Ints w A' m) (hd : m.length ≤ d) (hl : nl = l.length) (hm : nm = m.length) :
    Calls Try.prog 44 #[.slice A nl c, .slice A' nm d] w (Ans S 0 w) := by
  subst hl hm
  have := shaper_any A A' l m c d w h h' hd
  rw [← z.zc.is, ← z.zx.is, chk2_iff.2 ⟨z.zx.one, z.zc.one, z.glen⟩, (res_ok z.small).1, (res_ok z.small).2] at this
  exact this
theorem shap_lits {a g c R : List Int} (h : chk2 a g = 0) (hc : c = clL g) (hR : R = cvL a c) : Shaps a g c R := by
  obtain ⟨v0, v1, e1⟩ := chk2_iff.1 h
  have zc : Clos g c := ⟨v1, hc⟩
  exact ⟨zc, v0, zc.r, by rw [zc.rlen, e1], hR⟩

end Go.Proofs.Ytifmefachdfmjaa
