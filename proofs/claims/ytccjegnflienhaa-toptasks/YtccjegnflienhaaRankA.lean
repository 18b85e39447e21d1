
/-
  Walks of package ranks: Check, demand; the document's own look at tasks.
-/
import Derived.Test.YtccjegnflienhaaRankP
import Derived.Test.YtccjegnflienhaaBucketA
namespace Go.Proofs.Ytccjegnflienhaa
set_option linter.all false
open Go.RowKit Go.Shelf Go.Lib

theorem lim_yesT {x lo hi : Int} (h : x < lo ∨ hi < x) : Hid (decide (x < lo ∨ hi < x) = true) := Lib.hid (decide_eq_true h)
theorem any_dropT {l : List Tk} {k : Nat} {j : Tk} (h : l[k]? = some j) : (l.drop k).any taBad = (taBad j || (l.drop (k + 1)).any taBad) := by
  have hk := (List.getElem?_eq_some_iff.1 h).1
  rw [List.drop_eq_getElem_cons hk, List.any_cons]
  have : l[k] = j := by rw [List.getElem?_eq_getElem hk] at h; exact Option.some.inj h
  rw [this]
set_option maxHeartbeats 1600000 in
theorem rcheck_any (A : Option Addr) (l : List Tk) (c : Nat) (w : World) (h : Tas w A l) :
    Calls Try.prog 14 #[.slice A l.length c] w fun e w' => e = .returned (.int .i64 (tasE l)) ∧ Below w.heap.size w w' := by
  have hl := h.le
  by_cases h12 : 5 < l.length
  · have HE : Hid (tasE l = 2) := Lib.hid (if_pos h12)
    have i1 : (5 : Int) < (l.length : Int) := by omega
    go_enter Try.func14, Try.ntmps14
    go_wp2
    go_ret
    exact ⟨ret_int HE.out.symm, Below.refl _ _⟩
  have HE : Hid (tasE l = if l.any taBad = true then 1 else 0) := Lib.hid (if_neg h12)
  have i1 : ¬ (5 : Int) < (l.length : Int) := by omega
  go_enter Try.func14, Try.ntmps14
  go_wp2
  go_loopw [10] (fun i wr => ∃ k : Nat, k ≤ l.length ∧ i = .int .i64 k ∧ Hid (l.any taBad = (l.drop k).any taBad) ∧ Below w.heap.size w wr) (fun i _ => l.length - (intOf i).toNat)
  case atStart => exact ⟨0, Nat.zero_le _, rfl, Lib.hid rfl, Below.refl _ _⟩
  obtain ⟨k, hk, rfl, HG, hbel⟩ := hrel
  by_cases hlt : k < l.length
  rotate_left
  · have HQ : Hid (tasE l = 0) := Lib.hid (by rw [HE.out, HG.out, List.drop_of_length_le (by omega)]; rfl)
    go_wp2
    go_ret
    exact ⟨ret_int HQ.out.symm, hbel⟩
  obtain ⟨bb, off, j, rfl, hbl, c0, c1, c2, HJ⟩ := (h.below hbel).get hlt
  have i2 : (k : Int) < (l.length : Int) := by omega
  have HS : Hid (l.any taBad = (taBad j || (l.drop (k + 1)).any taBad)) := Lib.hid (by rw [HG.out, any_dropT HJ.out])
  obtain ⟨p, m, d⟩ := j
  simp only at c0 c1 c2
  have YES : Hid (taBad ⟨p, m, d⟩ = true → tasE l = 1) := Lib.hid (fun q => by rw [HE.out, HS.out, q]; rfl)
  have NO : Hid (taBad ⟨p, m, d⟩ = false → l.any taBad = (l.drop (k + 1)).any taBad) := Lib.hid (fun q => by rw [HS.out, q]; rfl)
  clear HS HE HG HJ
  by_cases h1 : p < 1 ∨ 60 < p
  · have HQ : Hid (tasE l = 1) := Lib.hid (YES.out (decide_eq_true (by simp only; omega)))
    have q1 := lim_yesT h1
    clear h1
    go_wp2_with fail
    refine (lim_any p 1 60 true _ q1).mono ?_
    rintro e w' ⟨rfl, rfl⟩
    go_wp2
    go_ret
    exact ⟨ret_int HQ.out.symm, hbel.alloc hbel.size _⟩
  · have q1 : Hid (decide (p < 1 ∨ 60 < p) = false) := Lib.hid (decide_eq_false h1)
    by_cases h2 : m < 1
    · have HQ : Hid (tasE l = 1) := Lib.hid (YES.out (decide_eq_true (by simp only; omega)))
      have e2 : decide (m < 1) = true := decide_eq_true h2
      clear h1
      go_wp2_with fail
      refine (lim_any p 1 60 false _ q1).mono ?_
      rintro e w' ⟨rfl, rfl⟩
      go_wp2
      go_ret
      exact ⟨ret_int HQ.out.symm, hbel.alloc hbel.size _⟩
    · have e2 : decide (m < 1) = false := decide_eq_false h2
      by_cases h3 : d < m ∨ p < d
      · have HQ : Hid (tasE l = 1) := Lib.hid (YES.out (decide_eq_true (by simp only; omega)))
        have q3 := lim_yesT h3
        clear h1 h3
        go_wp2_with fail
        refine (lim_any p 1 60 false _ q1).mono ?_
        rintro e w' ⟨rfl, rfl⟩
        go_wp2_with fail
        refine (lim_any d m p true _ q3).mono ?_
        rintro e w' ⟨rfl, rfl⟩
        go_wp2
        go_ret
        exact ⟨ret_int HQ.out.symm, hbel.alloc hbel.size _⟩
      · have HN := Lib.hid (NO.out (decide_eq_false (by simp only; omega)))
        have q3 : Hid (decide (d < m ∨ p < d) = false) := Lib.hid (decide_eq_false h3)
        clear h1 h3
        go_wp2_with fail
        refine (lim_any p 1 60 false _ q1).mono ?_
        rintro e w' ⟨rfl, rfl⟩
        go_wp2_with fail
        refine (lim_any d m p false _ q3).mono ?_
        rintro e w' ⟨rfl, rfl⟩
        go_wp2
        go_roundw
        case rel => exact ⟨k + 1, by omega, by go_num, HN, hbel.alloc hbel.size _⟩
        case measure => simp [intOf]; omega
set_option maxHeartbeats 1600000 in
theorem refTasks_any (A : Option Addr) (l : List Tk) (c : Nat) (w : World) (h : Tas w A l) :
    Calls Try.prog 13 #[.slice A l.length c] w fun e w' => e = .returned (.int .i64 (tasE l)) ∧ Below w.heap.size w w' := by
  have hl := h.le
  by_cases h12 : 5 < l.length
  · have HE : Hid (tasE l = 2) := Lib.hid (if_pos h12)
    have i1 : (5 : Int) < (l.length : Int) := by omega
    go_enter Try.func13, Try.ntmps13
    go_wp2
    go_ret
    exact ⟨ret_int HE.out.symm, Below.refl _ _⟩
  have HE : Hid (tasE l = if l.any taBad = true then 1 else 0) := Lib.hid (if_neg h12)
  have i1 : ¬ (5 : Int) < (l.length : Int) := by omega
  go_enter Try.func13, Try.ntmps13
  go_wp2
  go_loopw [10] (fun i wr => ∃ k : Nat, k ≤ l.length ∧ i = .int .i64 k ∧ Hid (l.any taBad = (l.drop k).any taBad) ∧ Below w.heap.size w wr) (fun i _ => l.length - (intOf i).toNat)
  case atStart => exact ⟨0, Nat.zero_le _, rfl, Lib.hid rfl, Below.refl _ _⟩
  obtain ⟨k, hk, rfl, HG, hbel⟩ := hrel
  by_cases hlt : k < l.length
  rotate_left
  · have HQ : Hid (tasE l = 0) := Lib.hid (by rw [HE.out, HG.out, List.drop_of_length_le (by omega)]; rfl)
    go_wp2
    go_ret
    exact ⟨ret_int HQ.out.symm, hbel⟩
  obtain ⟨bb, off, j, rfl, hbl, c0, c1, c2, HJ⟩ := (h.below hbel).get hlt
  have i2 : (k : Int) < (l.length : Int) := by omega
  have HS : Hid (l.any taBad = (taBad j || (l.drop (k + 1)).any taBad)) := Lib.hid (by rw [HG.out, any_dropT HJ.out])
  obtain ⟨p, m, d⟩ := j
  simp only at c0 c1 c2
  have YES : Hid (taBad ⟨p, m, d⟩ = true → tasE l = 1) := Lib.hid (fun q => by rw [HE.out, HS.out, q]; rfl)
  have NO : Hid (taBad ⟨p, m, d⟩ = false → l.any taBad = (l.drop (k + 1)).any taBad) := Lib.hid (fun q => by rw [HS.out, q]; rfl)
  clear HS HE HG HJ
  by_cases h1 : p < 1 ∨ 60 < p
  · have HQ : Hid (tasE l = 1) := Lib.hid (YES.out (decide_eq_true (by simp only; omega)))
    have q1 : Hid (decide (p < 1 ∨ 60 < p) = !false) := Lib.hid (decide_eq_true h1)
    clear h1
    go_wp2_with fail
    refine (wit_any p 1 60 false _ q1).mono ?_
    rintro e w' ⟨rfl, rfl⟩
    go_wp2
    go_ret
    exact ⟨ret_int HQ.out.symm, hbel.alloc hbel.size _⟩
  · have q1 : Hid (decide (p < 1 ∨ 60 < p) = !true) := Lib.hid (decide_eq_false h1)
    by_cases h2 : m < 1
    · have HQ : Hid (tasE l = 1) := Lib.hid (YES.out (decide_eq_true (by simp only; omega)))
      have e2 : decide (m < 1) = true := decide_eq_true h2
      clear h1
      go_wp2_with fail
      refine (wit_any p 1 60 true _ q1).mono ?_
      rintro e w' ⟨rfl, rfl⟩
      go_wp2
      go_ret
      exact ⟨ret_int HQ.out.symm, hbel.alloc hbel.size _⟩
    · have e2 : decide (m < 1) = false := decide_eq_false h2
      by_cases h3 : d < m
      · have HQ : Hid (tasE l = 1) := Lib.hid (YES.out (decide_eq_true (by simp only; omega)))
        have e3 : decide (d < m) = true := decide_eq_true h3
        clear h1
        go_wp2_with fail
        refine (wit_any p 1 60 true _ q1).mono ?_
        rintro e w' ⟨rfl, rfl⟩
        go_wp2
        go_ret
        exact ⟨ret_int HQ.out.symm, hbel.alloc hbel.size _⟩
      · have e3 : decide (d < m) = false := decide_eq_false h3
        by_cases h4 : p < d
        · have HQ : Hid (tasE l = 1) := Lib.hid (YES.out (decide_eq_true (by simp only; omega)))
          have e4 : decide (p < d) = true := decide_eq_true h4
          clear h1
          go_wp2_with fail
          refine (wit_any p 1 60 true _ q1).mono ?_
          rintro e w' ⟨rfl, rfl⟩
          go_wp2
          go_ret
          exact ⟨ret_int HQ.out.symm, hbel.alloc hbel.size _⟩
        · have HN := Lib.hid (NO.out (decide_eq_false (by simp only; omega)))
          have e4 : decide (p < d) = false := decide_eq_false h4
          clear h1
          go_wp2_with fail
          refine (wit_any p 1 60 true _ q1).mono ?_
          rintro e w' ⟨rfl, rfl⟩
          go_wp2
          go_roundw
          case rel => exact ⟨k + 1, by omega, by go_num, HN, hbel.alloc hbel.size _⟩
          case measure => simp [intOf]; omega

theorem rdiv {r p : Int} (h0 : 0 ≤ r) (h1 : 1 ≤ p) : Int.tdiv (r + p - 1) p = cl r p := by
  unfold cl
  exact Int.tdiv_eq_ediv_of_nonneg (by omega)
set_option maxHeartbeats 1600000 in
theorem rdemand_any (A : Option Addr) (l : List Tk) (n c : Nat) (r D : Int) (w : World) (h : Tas w A l) (hn : l.length = n) (v : TksB l) (r0 : 0 ≤ r) (r1 : r ≤ 60) (HD : Hid (tot (hgV l r) n = D)) :
    Calls Try.prog 29 #[.slice A n c, .int .i64 r] w fun e w' => e = .returned (.int .i64 D) ∧ Below w.heap.size w w' := by
  subst hn
  have hle := v.le
  go_enter Try.func29, Try.ntmps29
  go_wp2
  go_loopw [5, 10] (fun s i wr => ∃ k : Nat, k ≤ l.length ∧ i = .int .i64 k ∧ s = .int .i64 (tot (hgV l r) k) ∧ Below w.heap.size w wr) (fun _ i _ => l.length - (intOf i).toNat)
  case atStart => exact ⟨0, Nat.zero_le _, rfl, rfl, Below.refl _ _⟩
  case round =>
    obtain ⟨k, hk, rfl, rfl, hbel⟩ := hrel
    obtain ⟨m, hm⟩ : ∃ m, m = tot (hgV l r) k := ⟨_, rfl⟩
    have mb := hg_tot v r0 r1 k hk
    rw [← hm] at mb ⊢
    obtain ⟨m0, m1⟩ := mb
    by_cases hlk : k < l.length
    · obtain ⟨bb, off, q, hA', hbl, c0, c1, c2, HJ⟩ := (h.below hbel).get hlk
      subst hA'
      have hq := tk_of HJ.out
      have w0 := v.w1 k hlk
      have w1 : q.work ≤ 60 := by have := v.wd k hlk; have := v.dp k hlk; have := v.p60 k hlk; rw [hq] at *; omega
      have p0 := v.p1 k hlk
      have p1 := v.p60 k hlk
      have hb := hg_bd v r0 r1 hlk
      rw [hq] at w0 p0 p1
      have ha : hgV l r k = cl r q.per * q.work := by unfold hgV; rw [hq]
      obtain ⟨C, hC⟩ : ∃ C, C = cl r q.per := ⟨_, rfl⟩
      obtain ⟨X, hX⟩ : ∃ X, X = C * q.work := ⟨_, rfl⟩
      rw [ha, ← hC, ← hX] at hb
      obtain ⟨X0, X1⟩ := hb
      have HN : Hid (tot (hgV l r) (k + 1) = m + X) := Lib.hid (by simp only [tot]; rw [← hm, ha, ← hC, ← hX])
      have i3 : (k : Int) < (l.length : Int) := by omega
      have t1 : IntKind.i64.wrap (r + q.per) = r + q.per := IntWalk.i64_in _ ⟨by omega, by omega⟩
      have t2 : IntKind.i64.wrap (r + q.per - 1) = r + q.per - 1 := IntWalk.i64_in _ ⟨by omega, by omega⟩
      have t3 : Int.tdiv (r + q.per - 1) q.per = C := by rw [hC]; exact rdiv r0 p0
      have C0 : 0 ≤ C := by rw [hC]; exact cel_nonneg p0 r0
      have C1 : C ≤ 60 := by rw [hC]; have := cel_le p0 r0; omega
      have t4 : IntKind.i64.wrap C = C := IntWalk.i64_in _ ⟨by omega, by omega⟩
      have t5 : IntKind.i64.wrap (C * q.work) = X := by rw [← hX]; exact IntWalk.i64_in _ ⟨by omega, by omega⟩
      have t6 : IntKind.i64.wrap (m + X) = m + X := IntWalk.i64_in _ ⟨by omega, by omega⟩
      have pz : ¬ q.per = 0 := by omega
      clear hm hq ha hC hX
      go_wp2
      go_quiet (fail)
      go_wp2
      go_roundw
      case rel =>
        have b2 := hbel.alloc hbel.size (.cells #[.int .i64 q.per, .int .i64 q.work, .int .i64 q.due] 30)
        exact ⟨k + 1, by omega, by go_num, by rw [HN.out], ⟨b2.os, b2.tape, b2.output, b2.size, b2.block⟩⟩
      case measure => simp [intOf]; omega
    · obtain rfl : k = l.length := by omega
      have HM : Hid (m = D) := Lib.hid (by rw [← HD.out, hm])
      have i3 : ¬ (l.length : Int) < (l.length : Int) := by omega
      clear hm
      go_wp2
      go_ret
      exact ⟨ret_int HM.out, hbel⟩

end Go.Proofs.Ytccjegnflienhaa
