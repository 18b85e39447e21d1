
/-
  The walk of the law TurnsAlone.
-/
import Derived.Test.YthjeokdabdjhfaaTurnsE
import Derived.Test.YthjeokdabdjhfaaBucketB
namespace Go.Proofs.Ythjeokdabdjhfaa
set_option linter.all false
open Go.RowKit Go.Shelf


theorem ad_inj {b o b' o' : Nat} (h : (some ⟨b, o, none⟩ : Option Addr) = some ⟨b', o', none⟩) : b' = b ∧ o' = o := by
  injection h with e; injection e with e1 e2; exact ⟨e1.symm, e2.symm⟩
theorem seg_get (k a : Nat) : ∀ d i, i < d → (segL k a d)[i]? = some (k, a + i)
  | d + 1, i, h => by
    rw [segL]
    by_cases c : i < d
    · rw [List.getElem?_append_left (by rw [seg_len]; exact c)]; exact seg_get k a d i c
    · obtain rfl : i = d := by omega
      rw [List.getElem?_append_right (by rw [seg_len]; exact Nat.le_refl _), seg_len]; simp
theorem one_fls {f : Flw} (h : FlwOk f) : Flws [f] := ⟨by simp, fun k hk => by
  obtain rfl : k = 0 := by simp at hk; exact hk
  exact h⟩
theorem one_ord {f : Flw} (h : FlwOk f) : ordF [f] = segL 0 0 f.z.length := by
  rw [ordF, alone (one_fls h), cn_end h (Nat.le_refl _)]
theorem one_aft (f : Flw) (m : Nat) : aftL [f] m = [sumV f.z (f.cn m)] := rfl
theorem Fls.part {w : World} {b off : Nat} {l : List Fw} {k : Nat} {f : Fw} (h : Fls w (some ⟨b, off, none⟩) l) (hk : l[k]? = some f) : Fls w (some ⟨b, off + k * 2, none⟩) [f] := by
  have hl := (List.getElem?_eq_some_iff.1 hk).1
  obtain ⟨b', off', e, hc⟩ := h.2 (by omega)
  obtain ⟨rfl, rfl⟩ : b' = b ∧ off' = off := by injection e with e; injection e with e1 e2; exact ⟨e1.symm, e2.symm⟩
  refine ⟨by simp, fun _ => ⟨b', off' + k * 2, rfl, fun j f' hj => ?_⟩⟩
  match j, hj with
  | 0, hj =>
    simp at hj
    subst hj
    exact hc k f hk
  | j + 1, hj => simp at hj

set_option maxRecDepth 100000 in
set_option maxHeartbeats 6400000 in
theorem walk_TurnsAlone (a0 : Option Addr) (c0 : Nat) (l0 : List Fw) (m n : Int) (w : World)
    (h0 : Fls w a0 l0) (k0 : l0.length ≤ c0) (_hm : (Lit.int .i64 m).wf = true) (_h1 : (Lit.int .i64 n).wf = true) :
    Calls Try.prog 8 #[.slice a0 l0.length c0, .int .i64 m, .int .i64 n] w fun e w' => e = .returned (.bool true) ∧ Below w.heap.size w w' := by
  have hb : Below w.heap.size w w := Below.refl _ _
  clear _hm _h1
  obtain ⟨p, hp, p1⟩ := wi_nat m 61 (by omega)
  have HP := Lib.hid hp
  clear hp
  have LF := Lib.hid (length_fls l0)
  go_enter Try.func8, Try.ntmps8
  go_wp2_with fail
  refine (flow_any 9 _ _ _ _).mono ?_
  rintro e w1 ⟨rfl, bw1⟩
  have zw1 := Ints.below (l := [1]) (Ints.lit _ [1] _ _ rfl (by decide)) bw1
  replace bw1 := below_of1 bw1
  replace h0 := h0.below bw1
  replace hb := below_trans hb bw1
  go_wp2_with fail
  refine (flow_any 2 _ _ _ _).mono ?_
  rintro e w2 ⟨rfl, bw2⟩
  have zw2 := Ints.below (l := [3,1]) (Ints.lit _ [3,1] _ _ rfl (by decide)) bw2
  replace bw2 := below_of1 bw2
  replace h0 := h0.below bw2
  replace hb := below_trans hb bw2
  replace zw1 := zw1.below bw2
  go_wp2_with fail
  refine (aft_at _ [⟨9, _, _, [1]⟩, ⟨2, _, _, [3,1]⟩] [1,4] _ _ 2 _ _ (by exact Fls.lit2 _ _ _ _ _ _ _ _ _ [1] [3,1] _ zw1 rfl (by decide) zw2 rfl (by decide)) (Lib.hid (by show flE [⟨9, [1]⟩, ⟨2, [3,1]⟩] = 0; decide)) (by omega) (Lib.hid (by show aftL [⟨9, [1]⟩, ⟨2, [3,1]⟩] 2 = [1,4]; decide)) rfl rfl).mono ?_
  rintro e w3 ⟨Ax, cx, rfl, ox, bw3⟩
  replace bw3 := below_of1 bw3
  replace h0 := h0.below bw3
  replace hb := below_trans hb bw3
  have hx := Ints.of_own ox
  clear bw3 ox
  go_wp2_with fail
  refine (equal_at Ax _ [1,4] [1,4] _ _ _ _ _ (by exact Ints.alloc hx _) (by exact Ints.lit _ [1,4] _ _ rfl (by decide)) rfl rfl).mono ?_
  rintro e we ⟨rfl, nwe, hwwe⟩
  have bwe := below_of_drewN hwwe
  clear hwwe
  replace bwe := below_of1 bwe
  replace h0 := h0.below bwe
  replace hb := below_trans hb bwe
  clear bwe
  rw [eqB_true rfl]
  clear hx zw1 zw2 bw1 bw2
  go_wp2_with fail
  refine (within_any m 61 _ (by omega) (by omega)).mono ?_
  rintro e w' ⟨rfl, rfl⟩
  rw [HP.out]
  by_cases hE : flE (fls l0) = 0
  · have v := flE_iff.1 hE
    have HE := Lib.hid hE
    have h8 : l0.length ≤ 8 := by have := v.le; rwa [length_fls] at this
    clear hE
    go_wp2_with fail
    refine (aft_at a0 l0 (aftL (fls l0) p) _ c0 p _ _ h0 HE (by omega) (Lib.hid rfl) rfl rfl).mono ?_
    rintro e w7 ⟨Ax, cx, rfl, ox, bw7⟩
    replace h0 := h0.below bw7
    replace hb := below_trans hb bw7
    have hx := Ints.of_own ox
    clear bw7 ox
    rw [length_aftL, LF.out]
    by_cases hl0 : l0.length = 0
    · have e0 : ((l0.length : Int) == 0) = true := by simp [hl0]
      go_wp2
      go_ret
      exact ⟨rfl, hb⟩
    have e0 : ((l0.length : Int) == 0) = false := by rw [beq_eq_false_iff_ne]; omega
    obtain ⟨I, hI, I1⟩ := wi_nat n (l0.length : Int) (by omega)
    have HI := Lib.hid hI
    clear hI
    go_wp2_with fail
    refine (within_any n (l0.length : Int) _ (by omega) (by omega)).mono ?_
    rintro e w' ⟨rfl, rfl⟩
    rw [HI.out]
    obtain ⟨bb, off, f, hA, hbl, d0, d1, iz, kz, HF⟩ := h0.get (k := I) (by omega)
    subst hA
    have hpart := h0.part HF.out
    have ok : FlwOk f.f := by
      have := v.ok I (by rw [LF.out]; omega)
      rwa [flw_of HF.out] at this
    have HE1 : Hid (flE (fls [f]) = 0) := Lib.hid (flE_iff.2 (one_fls ok))
    obtain ⟨b1, o1, y, e1, hc1, HY⟩ := hx.at_ (k := I) (by rw [length_aftL, LF.out]; omega)
    subst e1
    have hy := gt_of_get HY.out
    rw [gt_aftL (by rw [LF.out]; omega), flw_of HF.out] at hy
    have HA : Hid (aftL (fls [f]) p = [y]) := Lib.hid (by rw [← hy]; exact one_aft f.f p)
    have i1 : (I : Int) < (l0.length : Int) := by omega
    have hic : I < c0 := by omega
    have HYY := HY
    clear hy HY
    clear d0 d1 hc1
    go_wp2_with fail
    refine (aft_at (some ⟨bb, off + I * 2, none⟩) [f] [y] _ _ p _ _ hpart HE1 (by omega) HA rfl rfl).mono ?_
    rintro e w8 ⟨Au, cu, rfl, ou, bw8⟩
    replace h0 := h0.below bw8
    replace hpart := hpart.below bw8
    replace hx := hx.below bw8
    replace hb := below_trans hb bw8
    have hu := Ints.of_own ou
    clear bw8 ou
    go_wp2_with fail
    refine (trun_yes (some ⟨bb, off + I * 2, none⟩) [f] _ _ _ hpart HE1 rfl).mono ?_
    rintro e w9 ⟨Az, cz, rfl, oz, b9⟩
    have hz := Sns.of_own oz
    replace h0 := h0.below b9
    replace hx := hx.below b9
    replace hu := hu.below b9
    replace hb := below_trans hb b9
    have hL : ordF (fls [f]) = segL 0 0 f.z.length := one_ord ok
    rw [hL] at hz
    rw [hL, seg_len]
    have zl : f.z.length ≤ 60 := ok.sz.le
    obtain ⟨bb', off', f', hA, hbl, d0, d1, iz', kz', HF'⟩ := h0.get (k := I) (by omega)
    obtain ⟨rfl, rfl⟩ := ad_inj hA
    obtain rfl : f' = f := Option.some.inj (HF'.out.symm.trans HF.out)
    obtain ⟨b2, o2, y', e1, hc1, HY⟩ := hx.at_ (k := I) (by rw [length_aftL, LF.out]; omega)
    obtain ⟨rfl, rfl⟩ := ad_inj e1
    obtain rfl : y' = y := Option.some.inj (HY.out.symm.trans HYY.out)
    obtain ⟨b3, o3, e3, hc3⟩ := hu.first (by simp)
    subst e3
    replace hc3 : w9.cell? ⟨b3, o3, none⟩ = some (.int .i64 y') := hc3
    clear hL oz b9 hA e1 hpart HF' HY
    have t1 : (y' != y') = false := by simp
    have t2 : ((f'.z.length : Int) != (f'.z.length : Int)) = false := by simp
    go_wp2
    go_quiet (fail)
    obtain ⟨W2, hW2⟩ : ∃ W2, W2 = w9.drewN nq := ⟨_, rfl⟩
    replace hz := hz.below (below_of_drewN hW2)
    replace hb := below_trans hb (below_of_drewN hW2)
    rw [← hW2]
    clear hW2 hx hu hc1 hc3 h0 d0 d1 iz iz' HYY
    go_wp2
    go_loopw [125] (fun i wr => ∃ k : Nat, k ≤ f'.z.length ∧ i = .int .i64 k ∧ Below W2.heap.size W2 wr) (fun i _ => f'.z.length - (intOf i).toNat)
    case atStart => exact ⟨0, Nat.zero_le _, rfl, Below.refl _ _⟩
    case round =>
      obtain ⟨k, hk, rfl, hbel⟩ := hrel
      by_cases hlt : k < f'.z.length
      · obtain ⟨b4, o4, s, hA4, hb4, c0', c1', HS⟩ := (hz.below hbel).get (k := k) (by rw [seg_len]; exact hlt)
        subst hA4
        obtain rfl : s = (0, k) := Option.some.inj (HS.out.symm.trans (by have := seg_get 0 0 f'.z.length k hlt; rwa [Nat.zero_add] at this))
        simp only at c0' c1'
        have i4 : (k : Int) < (f'.z.length : Int) := by omega
        go_wp2
        go_roundw
        case rel => exact ⟨k + 1, by omega, by go_num, hbel.alloc hbel.size _⟩
        case measure => simp [intOf]; omega
      · go_wp2
        go_ret
        exact ⟨rfl, below_trans hb hbel⟩
  · have e1 : (flE (fls l0) != 0) = true := by simp [hE]
    go_wp2_with fail
    refine (aft_no a0 l0 c0 p _ h0 hE).mono ?_
    rintro e w7 ⟨Ax, cx, rfl, ox, bw7⟩
    replace h0 := h0.below bw7
    replace hb := below_trans hb bw7
    have hx := Ints.of_own ox
    clear bw7 ox
    go_wp2
    go_ret
    exact ⟨rfl, hb⟩

end Go.Proofs.Ythjeokdabdjhfaa
