
/-
  Walks of package ranks: Check, demand; the document's own look at tasks.
-/
import Derived.Test.YtnpdcllfdoobeaaRankP
import Derived.Test.YtnpdcllfdoobeaaBucketA
namespace Go.Proofs.Ytnpdcllfdoobeaa
set_option linter.all false
open Go.RowKit Go.Shelf Go.Lib

theorem lim_yesT {x lo hi : Int} (h : x < lo ∨ hi < x) : Hid (decide (x < lo ∨ hi < x) = true) := Lib.hid (decide_eq_true h)
theorem any_dropT {l : List Tk} {k : Nat} {j : Tk} (h : l[k]? = some j) : (l.drop k).any taBad = (taBad j || (l.drop (k + 1)).any taBad) := by
  have hk := (List.getElem?_eq_some_iff.1 h).1
  rw [List.drop_eq_getElem_cons hk, List.any_cons]
  have : l[k] = j := by rw [List.getElem?_eq_getElem hk] at h; exact Option.some.inj h
  rw [this]
set_option maxHeartbeats 1600000 in
theorem rcheck_any (A : Option Addr) (l : List Tk) (c : Nat) (w : World) (h : Tas w A l) :
    Calls Try.prog 66 #[.slice A l.length c] w fun e w' => e = .returned (.int .i64 (tasE l)) ∧ Below w.heap.size w w' := by
  have hl := h.le
  by_cases h12 : 5 < l.length
  · have HE : Hid (tasE l = 2) := Lib.hid (if_pos h12)
    have i1 : (5 : Int) < (l.length : Int) := by omega
    go_enter Try.func66, Try.ntmps66
    go_wp2
    go_ret
    exact ⟨ret_int HE.out.symm, Below.refl _ _⟩
  have HE : Hid (tasE l = if l.any taBad = true then 1 else 0) := Lib.hid (if_neg h12)
  have i1 : ¬ (5 : Int) < (l.length : Int) := by omega
  go_enter Try.func66, Try.ntmps66
  go_wp2
  go_loopw [10] (fun i wr => ∃ k : Nat, k ≤ l.length ∧ i = .int .i64 k ∧ Hid (l.any taBad = (l.drop k).any taBad) ∧ Below w.heap.size w wr) (fun i _ => l.length - (intOf i).toNat)
  case atStart => exact ⟨0, Nat.zero_le _, rfl, Lib.hid rfl, Below.refl _ _⟩
  obtain ⟨k, hk, rfl, HG, hbel⟩ := hrel
  by_cases hlt : k < l.length
  rotate_left
  · have HQ : Hid (tasE l = 0) := Lib.hid (by rw [HE.out, HG.out, List.drop_of_length_le (by omega)]; rfl)
    go_wp2
    go_ret
    exact ⟨ret_int HQ.out.symm, hbel⟩
  obtain ⟨bb, off, j, rfl, hbl, c0, c1, c2, HJ⟩ := (h.below hbel).get hlt
  have i2 : (k : Int) < (l.length : Int) := by omega
  have HS : Hid (l.any taBad = (taBad j || (l.drop (k + 1)).any taBad)) := Lib.hid (by rw [HG.out, any_dropT HJ.out])
  obtain ⟨p, m, d⟩ := j
  simp only at c0 c1 c2
  have YES : Hid (taBad ⟨p, m, d⟩ = true → tasE l = 1) := Lib.hid (fun q => by rw [HE.out, HS.out, q]; rfl)
  have NO : Hid (taBad ⟨p, m, d⟩ = false → l.any taBad = (l.drop (k + 1)).any taBad) := Lib.hid (fun q => by rw [HS.out, q]; rfl)
  clear HS HE HG HJ
  by_cases h1 : p < 1 ∨ 60 < p
  · have HQ : Hid (tasE l = 1) := Lib.hid (YES.out (decide_eq_true (by simp only; omega)))
    have q1 := lim_yesT h1
    clear h1
    go_wp2_with fail
    refine (lim_any p 1 60 true _ q1).mono ?_
    rintro e w' ⟨rfl, rfl⟩
    go_wp2
    go_ret
    exact ⟨ret_int HQ.out.symm, hbel.alloc hbel.size _⟩
  · have q1 : Hid (decide (p < 1 ∨ 60 < p) = false) := Lib.hid (decide_eq_false h1)
    by_cases h2 : m < 1
    · have HQ : Hid (tasE l = 1) := Lib.hid (YES.out (decide_eq_true (by simp only; omega)))
      have e2 : decide (m < 1) = true := decide_eq_true h2
      clear h1
      go_wp2_with fail
      refine (lim_any p 1 60 false _ q1).mono ?_
      rintro e w' ⟨rfl, rfl⟩
      go_wp2
      go_ret
      exact ⟨ret_int HQ.out.symm, hbel.alloc hbel.size _⟩
    · have e2 : decide (m < 1) = false := decide_eq_false h2
      by_cases h3 : d < m ∨ p < d
      · have HQ : Hid (tasE l = 1) := Lib.hid (YES.out (decide_eq_true (by simp only; omega)))
        have q3 := lim_yesT h3
        clear h1 h3
        go_wp2_with fail
        refine (lim_any p 1 60 false _ q1).mono ?_
        rintro e w' ⟨rfl, rfl⟩
        go_wp2_with fail
        refine (lim_any d m p true _ q3).mono ?_
        rintro e w' ⟨rfl, rfl⟩
        go_wp2
        go_ret
        exact ⟨ret_int HQ.out.symm, hbel.alloc hbel.size _⟩
      · have HN := Lib.hid (NO.out (decide_eq_false (by simp only; omega)))
        have q3 : Hid (decide (d < m ∨ p < d) = false) := Lib.hid (decide_eq_false h3)
        clear h1 h3
        go_wp2_with fail
        refine (lim_any p 1 60 false _ q1).mono ?_
        rintro e w' ⟨rfl, rfl⟩
        go_wp2_with fail
        refine (lim_any d m p false _ q3).mono ?_
        rintro e w' ⟨rfl, rfl⟩
        go_wp2
        go_roundw
        case rel => exact ⟨k + 1, by omega, by go_num, HN, hbel.alloc hbel.size _⟩
        case measure => simp [intOf]; omega
theorem rdiv {r p : Int} (h0 : 0 ≤ r) (h1 : 1 ≤ p) : Int.tdiv (r + p - 1) p = cl r p := by
  unfold cl
  exact Int.tdiv_eq_ediv_of_nonneg (by omega)
end Go.Proofs.Ytnpdcllfdoobeaa
