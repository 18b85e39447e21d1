
/-
  Plain mathematics of what stands behind a limit: a link's waits within the bound; a link behind a curve.
-/
import Derived.Test.YthngolnflogdnaaLineP
namespace Go.Proofs.Ythngolnflogdnaa
set_option linter.all false

/-- What fits a limit waits no more than the bound says. -/
theorem wa_back {a g : List Int} {r : Int} (hf : Fit (adL a) g) (hg : g.length = a.length + 1) {t : Nat} (ht : t ≤ a.length) : waV a r t ≤ backV g (tab (a.length + 1) (liV r 0)) := by
  obtain ⟨s, d, e, h⟩ := lind_at a r t
  have h1 := hf s d (by rw [length_adL]; omega)
  rw [gt_adL (by omega), gt_adL (by omega), e] at h1
  have h2 := back_ge (a := g) (b := tab (a.length + 1) (liV r 0)) (t := d) (by omega)
  rw [gt_tab _ (by omega), li_nat] at h2
  omega
theorem conv_le {f g h x y : List Int} (zx : Convs f h x) (zy : Convs g h y) (hl : ∀ t, t < f.length → gt f t ≤ gt g t) (e : f.length = g.length) : ∀ t, t < f.length → gt x t ≤ gt y t := fun t ht => by
  obtain ⟨i, j, e', q⟩ := zy.at_ (t := t) (by omega)
  have h1 := zx.le i j (by omega)
  have h2 := hl i (by omega)
  rw [e'] at h1
  omega

theorem line_curve {l s : List Int} {r : Int} (v : Tr s) (h : adL s = l) (r0 : 0 ≤ r) (r1 : r ≤ 10000) : ∃ o, Convs l (tab (s.length + 1) (liV r 0)) o ∧ Cv o := by
  subst h
  exact ⟨_, conv_line v r0 r1, ad_cv (tr_go v r0 r1)⟩

end Go.Proofs.Ythngolnflogdnaa
