
/-
  The walk of the law ShareLast over the contracts of package share.
-/
import Derived.Test.YtjlkcjaofglpmaaShrC
import Derived.Test.YtjlkcjaofglpmaaKeepA
namespace Go.Proofs.Ytjlkcjaofglpmaa
set_option linter.all false
open Go.RowKit Go.Shelf


/-- The last so far. -/
def mxS (l : List Int) (r : Int) : Nat → Int
  | 0 => 0
  | n + 1 => max (mxS l r n) (shV l r n)
theorem mxS_le (l : List Int) (r : Int) : ∀ n i, i < n → shV l r i ≤ mxS l r n
  | n + 1, i, h => by
    simp only [mxS]
    by_cases e : i = n
    · subst e; omega
    · have := mxS_le l r n i (by omega); omega
theorem mxS_hit (l : List Int) (r : Int) : ∀ n, mxS l r n = 0 ∨ ∃ i, i < n ∧ mxS l r n = shV l r i
  | 0 => .inl rfl
  | n + 1 => by
    simp only [mxS]
    by_cases c : mxS l r n ≤ shV l r n
    · exact .inr ⟨n, by omega, by omega⟩
    · rcases mxS_hit l r n with h | ⟨i, hi, h⟩
      · exact .inl (by omega)
      · exact .inr ⟨i, by omega, by omega⟩
theorem mxS_lo (l : List Int) (r : Int) : ∀ n, 0 ≤ mxS l r n
  | 0 => Int.le_refl _
  | n + 1 => by have := mxS_lo l r n; simp only [mxS]; omega
theorem mxS_bd {l : List Int} {r : Int} (v : Lags l) (r0 : 1 ≤ r) {n : Nat} (h : n ≤ l.length) : 0 ≤ mxS l r n ∧ mxS l r n ≤ 8000 := by
  refine ⟨mxS_lo l r n, ?_⟩
  rcases mxS_hit l r n with e | ⟨i, hi, e⟩
  · omega
  · have := sh_bd v r0 (i := i) (by omega); omega
theorem sg_bd {l : List Int} (v : Lags l) {n : Nat} (h : n ≤ l.length) : 0 ≤ sg (gt l) n ∧ sg (gt l) n ≤ 8000 := by
  refine ⟨sg_nonneg _ (fun i hi => v.lo i (by omega)), ?_⟩
  have := sg_le (f := gt l) (g := fun _ => 1000) n (fun i hi => v.hi i (by omega))
  rw [sg_const] at this
  have := v.le; omega
/-- The last of all, and all. -/
theorem mxS_all {l : List Int} {r : Int} (v : Lags l) (r0 : 1 ≤ r) : (mxS l r l.length - 1) * r < sg (gt l) l.length ∧ sg (gt l) l.length ≤ mxS l r l.length * r := by
  have s0 := (sum_hi v).1
  by_cases s : sg (gt l) l.length = 0
  · have e : mxS l r l.length = 0 := by
      rcases mxS_hit l r l.length with e | ⟨i, hi, e⟩
      · exact e
      · rw [e, sh_none v s hi]
    rw [e, s]; omega
  · have e : mxS l r l.length = (sg (gt l) l.length - 1) / r + 1 := by
      obtain ⟨i, hi, h⟩ := sh_top v (rate := r) (by omega)
      have h1 := mxS_le l r l.length i hi
      rcases mxS_hit l r l.length with e | ⟨k, hk, e⟩
      · have := (sh_zero v (show 0 < r by omega) hi).1
        have h2 := Int.ediv_nonneg (show 0 ≤ sg (gt l) l.length - 1 by omega) (show 0 ≤ r by omega)
        omega
      · have := sh_hi v (show 0 < r by omega) hk (by omega)
        omega
    have := div_slot (p := sg (gt l) l.length - 1) (show 0 < r by omega)
    rw [e, show (sg (gt l) l.length - 1) / r + 1 - 1 = (sg (gt l) l.length - 1) / r by omega]
    omega

set_option maxRecDepth 100000 in
set_option maxHeartbeats 6400000 in
theorem v_ShareLast (K : ShrC) (a0 : Option Addr) (c0 : Nat) (l0 : List Int) (n1 : Int) (w : World)
    (h0 : Ints w a0 l0) (_k0 : l0.length ≤ c0) (_1 : (Lit.int .i64 n1).wf = true) :
    Calls Try.prog 5 #[.slice a0 l0.length c0, .int .i64 n1] w fun e w' => e = .returned (.bool true) ∧ Below w.heap.size w w' := by
  have hb : Below w.heap.size w w := Below.refl _ _
  clear _k0 _1
  by_cases hE : shE l0 n1 = 0
  · have ok := sh_iff.1 hE
    have v := ok.lags
    have r0 := ok.r0
    have r1 := ok.r1
    have HE := Lib.hid hE
    have hle := v.le
    clear hE ok
    go_enter Try.func5, Try.ntmps5
    go_wp2_with fail
    refine (K.done_yes _ [3, 1] [2, 1] _ 2 _ 2 _ (by exact Ints.lit _ [3, 1] _ _ rfl (by decide)) (Lib.hid (by decide)) (Lib.hid (by decide)) rfl rfl).mono ?_
    rintro e w1 ⟨Ax, cx, rfl, hx, kx, bw1⟩
    replace bw1 := below_of1 bw1
    replace h0 := h0.below bw1
    replace hb := below_trans hb bw1
    clear bw1
    go_wp2_with fail
    refine (equal_at Ax _ [2, 1] [2, 1] _ _ _ _ _ (by exact Ints.alloc hx _) (by exact Ints.lit _ [2, 1] _ _ rfl (by decide)) rfl rfl).mono ?_
    rintro e w2 ⟨rfl, nw2, hww2⟩
    have bw2 := below_of_drewN hww2
    clear hww2
    replace bw2 := below_of1 bw2
    replace h0 := h0.below bw2
    replace hb := below_trans hb bw2
    clear bw2
    rw [eqB_true rfl]
    clear hx kx
    go_wp2_with fail
    refine (K.done_yes a0 l0 (shL l0 n1) _ l0.length c0 n1 _ h0 HE (Lib.hid rfl) rfl rfl).mono ?_
    rintro e w3 ⟨Ax, cx, rfl, hx, kx, bw3⟩
    replace h0 := h0.below bw3
    replace hb := below_trans hb bw3
    clear bw3
    go_wp2
    go_loopw [9, 10, 55] (fun s m i wr => ∃ t n : Nat, t ≤ l0.length ∧ s = .int .i64 (sg (gt l0) t) ∧ m = .int .i64 (mxS l0 n1 t) ∧ i = .int .i64 t ∧ wr = w3.drewN n) (fun _ _ i _ => l0.length - (intOf i).toNat)
    case atStart => exact ⟨0, 0, Nat.zero_le _, rfl, rfl, rfl, rfl⟩
    case round =>
      obtain ⟨t, n, ht, rfl, rfl, rfl, rfl⟩ := hrel
      obtain ⟨s, hs⟩ : ∃ s, s = sg (gt l0) t := ⟨_, rfl⟩
      obtain ⟨m, hm⟩ : ∃ m, m = mxS l0 n1 t := ⟨_, rfl⟩
      have sb := sg_bd v ht
      have mb := mxS_bd v r0 ht
      rw [← hs] at sb
      rw [← hm] at mb
      rw [← hs, ← hm]
      obtain ⟨s0, s1⟩ := sb
      obtain ⟨m0, m1⟩ := mb
      by_cases hlt : t < l0.length
      · obtain ⟨b1, o1, y, e1, hc1, HY⟩ := h0.at_ (k := t) hlt
        obtain ⟨b2, o2, x, e2, hc2, HX⟩ := hx.at_ (k := t) (by rw [length_shL]; exact hlt)
        subst e1 e2
        have hy := gt_of_get HY.out
        have hx' := gt_of_get HX.out
        rw [gt_shL hlt] at hx'
        have y0 : 0 ≤ y := by rw [← hy]; exact v.lo t hlt
        have y1 : y ≤ 1000 := by rw [← hy]; exact v.hi t hlt
        have xb := sh_bd v r0 hlt
        rw [hx'] at xb
        obtain ⟨x0, x1⟩ := xb
        have HYV := Lib.hid hy
        have HXV := Lib.hid hx'
        obtain ⟨P, hP⟩ : ∃ P, P = x * n1 := ⟨_, rfl⟩
        have P0 : 0 ≤ P := by rw [hP]; exact Int.mul_nonneg x0 (by omega)
        have P1 : P ≤ 80000000 := by rw [hP]; have := Int.mul_le_mul x1 r1 (by omega) (by omega); omega
        have i2 : ¬ P < y := by
          have := sh_own v (rate := n1) (by omega) hlt
          rw [hx', hy, ← hP] at this; omega
        have z2 : ((x == 0) == (y == 0)) = true := by
          have := (sh_zero v (rate := n1) (by omega) hlt).2
          rw [hx', hy] at this
          by_cases c : x = 0
          · have d := this.1 c; subst c d; rfl
          · have d : ¬ y = 0 := fun e => c (this.2 e)
            rw [beq_eq_false_iff_ne.2 c, beq_eq_false_iff_ne.2 d]; rfl
        have z3 : ((x == 0) != (y == 0)) = false := by rw [bne, z2]; rfl
        have s2 : IntKind.i64.wrap (x * n1) = P := by rw [← hP]; exact IntWalk.i64_in _ ⟨by omega, by omega⟩
        have s3 : IntKind.i64.wrap (s + y) = s + y := IntWalk.i64_in _ ⟨by omega, by omega⟩
        have HS : Hid (sg (gt l0) (t + 1) = s + y) := Lib.hid (by rw [sg, ← hs, hy])
        have HM : Hid (mxS l0 n1 (t + 1) = max m x) := Lib.hid (by rw [mxS, ← hm, hx'])
        have i1 : (t : Int) < (l0.length : Int) := by omega
        clear hP hx' hy hs hm
        rcases Int.lt_trichotomy m x with q | q | q
        · go_wp2
          go_loopw [89] (fun j wi => ∃ k m : Nat, k ≤ l0.length ∧ j = .int .i64 k ∧ wi = w3.drewN m) (fun j _ => l0.length - (intOf j).toNat)
          case atStart => exact ⟨0, n, Nat.zero_le _, rfl, rfl⟩
          case round =>
            obtain ⟨k, m, hk, rfl, rfl⟩ := hrel
            by_cases hkl : k < l0.length
            · obtain ⟨b3, o3, y2, e3, hc3, HY2⟩ := h0.at_ (k := k) hkl
              obtain ⟨rfl, rfl⟩ : b3 = b1 ∧ o3 = o1 := by injection e3 with e1; injection e1 with e1 e2; exact ⟨e1.symm, e2.symm⟩
              clear e3
              obtain ⟨b4, o4, x2, e4, hc4, HX2⟩ := hx.at_ (k := k) (by rw [length_shL]; exact hkl)
              obtain ⟨rfl, rfl⟩ : b4 = b2 ∧ o4 = o2 := by injection e4 with e1; injection e1 with e1 e2; exact ⟨e1.symm, e2.symm⟩
              clear e4
              have hy2 := gt_of_get HY2.out
              have hx2 := gt_of_get HX2.out
              rw [gt_shL hkl] at hx2
              have j1 : (k : Int) < (l0.length : Int) := by omega
              by_cases hlt2 : y2 < y
              · have j2 : ¬ x < x2 := by
                  have := sh_order v (rate := n1) (by omega) hlt hkl (by rw [HYV.out, hy2]; exact hlt2)
                  rw [HXV.out, hx2] at this; omega
                clear hy2 hx2
                go_wp2
                go_quiet (fail)
                go_wp2
                go_roundw
                case rel => exact ⟨k + 1, m + nq, by omega, by go_num, by simp [World.drewN, Nat.add_assoc]⟩
                case measure => simp [intOf]; omega
              · have gd : decide (y2 < y) = false := decide_eq_false hlt2
                clear hy2 hx2 hlt2
                go_wp2
                go_quiet (fail)
                go_wp2
                go_roundw
                case rel => exact ⟨k + 1, m + nq, by omega, by go_num, by simp [World.drewN, Nat.add_assoc]⟩
                case measure => simp [intOf]; omega
            · obtain rfl : k = l0.length := by omega
              go_wp2
              go_roundw
              case rel => exact ⟨t + 1, m, by omega, by rw [HS.out], by rw [HM.out]; congr 1; omega, by go_num, rfl⟩
              case measure => simp [intOf]; omega
        · go_wp2
          go_loopw [89] (fun j wi => ∃ k m : Nat, k ≤ l0.length ∧ j = .int .i64 k ∧ wi = w3.drewN m) (fun j _ => l0.length - (intOf j).toNat)
          case atStart => exact ⟨0, n, Nat.zero_le _, rfl, rfl⟩
          case round =>
            obtain ⟨k, m, hk, rfl, rfl⟩ := hrel
            by_cases hkl : k < l0.length
            · obtain ⟨b3, o3, y2, e3, hc3, HY2⟩ := h0.at_ (k := k) hkl
              obtain ⟨rfl, rfl⟩ : b3 = b1 ∧ o3 = o1 := by injection e3 with e1; injection e1 with e1 e2; exact ⟨e1.symm, e2.symm⟩
              clear e3
              obtain ⟨b4, o4, x2, e4, hc4, HX2⟩ := hx.at_ (k := k) (by rw [length_shL]; exact hkl)
              obtain ⟨rfl, rfl⟩ : b4 = b2 ∧ o4 = o2 := by injection e4 with e1; injection e1 with e1 e2; exact ⟨e1.symm, e2.symm⟩
              clear e4
              have hy2 := gt_of_get HY2.out
              have hx2 := gt_of_get HX2.out
              rw [gt_shL hkl] at hx2
              have j1 : (k : Int) < (l0.length : Int) := by omega
              by_cases hlt2 : y2 < y
              · have j2 : ¬ x < x2 := by
                  have := sh_order v (rate := n1) (by omega) hlt hkl (by rw [HYV.out, hy2]; exact hlt2)
                  rw [HXV.out, hx2] at this; omega
                clear hy2 hx2
                go_wp2
                go_quiet (fail)
                go_wp2
                go_roundw
                case rel => exact ⟨k + 1, m + nq, by omega, by go_num, by simp [World.drewN, Nat.add_assoc]⟩
                case measure => simp [intOf]; omega
              · have gd : decide (y2 < y) = false := decide_eq_false hlt2
                clear hy2 hx2 hlt2
                go_wp2
                go_quiet (fail)
                go_wp2
                go_roundw
                case rel => exact ⟨k + 1, m + nq, by omega, by go_num, by simp [World.drewN, Nat.add_assoc]⟩
                case measure => simp [intOf]; omega
            · obtain rfl : k = l0.length := by omega
              go_wp2
              go_roundw
              case rel => exact ⟨t + 1, m, by omega, by rw [HS.out], by rw [HM.out]; congr 1; omega, by go_num, rfl⟩
              case measure => simp [intOf]; omega
        · go_wp2
          go_loopw [89] (fun j wi => ∃ k m : Nat, k ≤ l0.length ∧ j = .int .i64 k ∧ wi = w3.drewN m) (fun j _ => l0.length - (intOf j).toNat)
          case atStart => exact ⟨0, n, Nat.zero_le _, rfl, rfl⟩
          case round =>
            obtain ⟨k, m, hk, rfl, rfl⟩ := hrel
            by_cases hkl : k < l0.length
            · obtain ⟨b3, o3, y2, e3, hc3, HY2⟩ := h0.at_ (k := k) hkl
              obtain ⟨rfl, rfl⟩ : b3 = b1 ∧ o3 = o1 := by injection e3 with e1; injection e1 with e1 e2; exact ⟨e1.symm, e2.symm⟩
              clear e3
              obtain ⟨b4, o4, x2, e4, hc4, HX2⟩ := hx.at_ (k := k) (by rw [length_shL]; exact hkl)
              obtain ⟨rfl, rfl⟩ : b4 = b2 ∧ o4 = o2 := by injection e4 with e1; injection e1 with e1 e2; exact ⟨e1.symm, e2.symm⟩
              clear e4
              have hy2 := gt_of_get HY2.out
              have hx2 := gt_of_get HX2.out
              rw [gt_shL hkl] at hx2
              have j1 : (k : Int) < (l0.length : Int) := by omega
              by_cases hlt2 : y2 < y
              · have j2 : ¬ x < x2 := by
                  have := sh_order v (rate := n1) (by omega) hlt hkl (by rw [HYV.out, hy2]; exact hlt2)
                  rw [HXV.out, hx2] at this; omega
                clear hy2 hx2
                go_wp2
                go_quiet (fail)
                go_wp2
                go_roundw
                case rel => exact ⟨k + 1, m + nq, by omega, by go_num, by simp [World.drewN, Nat.add_assoc]⟩
                case measure => simp [intOf]; omega
              · have gd : decide (y2 < y) = false := decide_eq_false hlt2
                clear hy2 hx2 hlt2
                go_wp2
                go_quiet (fail)
                go_wp2
                go_roundw
                case rel => exact ⟨k + 1, m + nq, by omega, by go_num, by simp [World.drewN, Nat.add_assoc]⟩
                case measure => simp [intOf]; omega
            · obtain rfl : k = l0.length := by omega
              go_wp2
              go_roundw
              case rel => exact ⟨t + 1, m, by omega, by rw [HS.out], by rw [HM.out]; congr 1; omega, by go_num, rfl⟩
              case measure => simp [intOf]; omega
      · obtain rfl : t = l0.length := by omega
        have fa := mxS_all v r0
        rw [← hs, ← hm] at fa
        obtain ⟨f0, f1⟩ := fa
        obtain ⟨P, hP⟩ : ∃ P, P = (m - 1) * n1 := ⟨_, rfl⟩
        obtain ⟨Q, hQ⟩ : ∃ Q, Q = m * n1 := ⟨_, rfl⟩
        have Q0 : 0 ≤ Q := by rw [hQ]; exact Int.mul_nonneg m0 (by omega)
        have Q1 : Q ≤ 80000000 := by rw [hQ]; have := Int.mul_le_mul m1 r1 (by omega) (by omega); omega
        have PQ : P = Q - n1 := by rw [hP, hQ, Int.sub_mul, Int.one_mul]
        have t1 : IntKind.i64.wrap (m - 1) = m - 1 := IntWalk.i64_in _ ⟨by omega, by omega⟩
        have t2 : IntKind.i64.wrap ((m - 1) * n1) = P := by rw [← hP]; exact IntWalk.i64_in _ ⟨by omega, by omega⟩
        have t3 : IntKind.i64.wrap (m * n1) = Q := by rw [← hQ]; exact IntWalk.i64_in _ ⟨by omega, by omega⟩
        rw [← hP] at f0
        rw [← hQ] at f1
        clear hP hQ hs hm PQ
        go_wp2
        go_ret
        exact ⟨rfl, below_trans hb (below_of_drewN rfl)⟩
  · have e1 : (shE l0 n1 != 0) = true := by simp [hE]
    have HE := Lib.hid hE
    clear hE
    go_enter Try.func5, Try.ntmps5
    go_wp2_with fail
    refine (K.done_yes _ [3, 1] [2, 1] _ 2 _ 2 _ (by exact Ints.lit _ [3, 1] _ _ rfl (by decide)) (Lib.hid (by decide)) (Lib.hid (by decide)) rfl rfl).mono ?_
    rintro e w1 ⟨Ax, cx, rfl, hx, kx, bw1⟩
    replace bw1 := below_of1 bw1
    replace h0 := h0.below bw1
    replace hb := below_trans hb bw1
    clear bw1
    go_wp2_with fail
    refine (equal_at Ax _ [2, 1] [2, 1] _ _ _ _ _ (by exact Ints.alloc hx _) (by exact Ints.lit _ [2, 1] _ _ rfl (by decide)) rfl rfl).mono ?_
    rintro e w2 ⟨rfl, nw2, hww2⟩
    have bw2 := below_of_drewN hww2
    clear hww2
    replace bw2 := below_of1 bw2
    replace h0 := h0.below bw2
    replace hb := below_trans hb bw2
    clear bw2
    rw [eqB_true rfl]
    clear hx kx
    go_wp2_with fail
    refine (K.done_no a0 l0 _ c0 n1 _ h0 HE rfl).mono ?_
    rintro e w3 ⟨⟨B, d, rfl⟩, b3⟩
    replace h0 := h0.below b3
    replace hb := below_trans hb b3
    clear b3
    go_wp2_with fail
    refine (K.check_at a0 l0 _ c0 n1 _ _ h0 (Lib.hid rfl) rfl).mono ?_
    rintro e w4 ⟨rfl, bw4⟩
    replace h0 := h0.below bw4
    replace hb := below_trans hb bw4
    clear bw4
    go_wp2
    go_ret
    exact ⟨by simp, hb⟩

end Go.Proofs.Ytjlkcjaofglpmaa
