
/-
  Plain mathematics of two traces on a link: what the first leaves, as a curve; who goes second waits within the bound.
-/
import Derived.Test.YthngolnflogdnaaPrioP
import Derived.Test.YthngolnflogdnaaTopQ
namespace Go.Proofs.Ythngolnflogdnaa
set_option linter.all false

/-- What is left of the rate behind a limit. -/
def leftV (g : List Int) (r : Int) (t : Nat) : Int := mx (fun s => r * (s : Int) - gt g s) (t + 1)
def leftL (g : List Int) (r : Int) : List Int := tab g.length (leftV g r)
theorem length_leftL (g : List Int) (r : Int) : (leftL g r).length = g.length := length_tab _ _
theorem gt_leftL {g : List Int} {r : Int} {t : Nat} (h : t < g.length) : gt (leftL g r) t = leftV g r t := gt_tab _ h
/-- It is what point.Less makes of the line and the limit. -/
theorem left_less {g : List Int} {r : Int} {t : Nat} (h : t < g.length) : mx (fun s => gt (tab g.length (liV r 0)) s - gt g s) (t + 1) = leftV g r t := by
  unfold leftV
  have go : ∀ n, n ≤ g.length → mx (fun s => gt (tab g.length (liV r 0)) s - gt g s) n = mx (fun s => r * (s : Int) - gt g s) n := fun n => by
    induction n with
    | zero => intro _; rfl
    | succ n ih => intro hn; rw [mx, mx, ih (by omega), gt_tab _ (by omega), li_nat]
  exact go _ (by omega)
theorem left_at {a b g : List Int} {r : Int} (va : Tr a) (vb : Tr b) (r0 : 0 ≤ r) (r1 : r ≤ 10000) (e : a.length = b.length) (hf : Fit (adL a) g) {t : Nat} (ht : t ≤ a.length) :
    ∃ s d, s + d = t ∧ sumV b s + leftV g r d ≤ sumV (gbL a b r) t := by
  obtain ⟨s, d, ed, h⟩ := left_serves va vb r0 r1 e hf ht
  refine ⟨s, d, ed, ?_⟩
  have h0 := (h 0 (by omega)).1
  have : leftV g r d ≤ sumV (gbL a b r) t - sumV b s := by
    unfold leftV
    rw [mx_iff _ _ (by omega)]
    intro v hv
    have := (h v (by omega)).2
    omega
  omega
/-- PrioLeaves. -/
theorem left_conv {a b g x : List Int} {r : Int} (va : Tr a) (vb : Tr b) (r0 : 0 ≤ r) (r1 : r ≤ 10000) (e : a.length = b.length) (hf : Fit (adL a) g) (hg : g.length = a.length + 1) (z : Convs (adL b) (leftL g r) x) {t : Nat} (ht : t ≤ a.length) : gt x t ≤ sumV (gbL a b r) t := by
  obtain ⟨s, d, ed, h⟩ := left_at va vb r0 r1 e hf ht
  have h1 := z.le s d (by rw [length_adL]; omega)
  rw [gt_adL (by omega), gt_leftL (by omega), ed] at h1
  omega
/-- TopFirst. -/
theorem top_first {a b fa fb : List Int} {r : Int} (va : Tr a) (vb : Tr b) (r0 : 0 ≤ r) (r1 : r ≤ 10000) (e : a.length = b.length) (ha : Fit (adL a) fa) (hb : Fit (adL b) fb) (la : fa.length = a.length + 1) (lb : fb.length = b.length + 1) :
    backV (adL b) (adL (gbL a b r)) ≤ backV fb (leftL fa r) := by
  rw [back_iff (back0 _ _)]
  intro t ht
  rw [length_adL] at ht
  obtain ⟨s, d, ed, h⟩ := left_at va vb r0 r1 e ha (show t ≤ a.length by omega)
  have h1 := hb s d (by rw [length_adL]; omega)
  rw [gt_adL (by omega), gt_adL (by omega), ed] at h1
  have h2 := back_ge (a := fb) (b := leftL fa r) (t := d) (by omega)
  rw [gt_leftL (by omega)] at h2
  rw [gt_adL (by omega), gt_adL (by rw [length_gbL]; omega)]
  omega
theorem left_cv {g : List Int} {r : Int} (v : Cv g) (r0 : 0 ≤ r) (r1 : r ≤ 10000) : ∀ t, t < g.length → 0 ≤ leftV g r t ∧ leftV g r t ≤ r * t := fun t ht => by
  refine ⟨mx0 _ _, ?_⟩
  unfold leftV
  rw [mx_iff _ _ (Int.mul_nonneg r0 (by omega))]
  intro s hs
  have := Int.mul_le_mul_of_nonneg_left (show (s : Int) ≤ t by omega) r0
  have := v.lo s (by omega)
  omega
end Go.Proofs.Ythngolnflogdnaa
