
/-
  The walk of the law RanksMeet.
-/
import Derived.Test.YtccjegnflienhaaRankE
namespace Go.Proofs.Ytccjegnflienhaa
set_option linter.all false
open Go.RowKit Go.Shelf Go.Lib

set_option maxRecDepth 100000 in
set_option maxHeartbeats 3200000 in
theorem walk_RanksMeet (a0 : Option Addr) (c0 : Nat) (l0 : List Tk) (w : World) (h0 : Tas w a0 l0) (k0 : l0.length ≤ c0) :
    Calls Try.prog 6 #[.slice a0 l0.length c0] w fun e w' => e = .returned (.bool true) ∧ Below w.heap.size w w' := by
  have hb := Below.refl w.heap.size w
  have hl := h0.le
  go_enter Try.func6, Try.ntmps6
  go_wp2_with fail
  refine (rank_any _).mono ?_
  rintro e w1 ⟨⟨g, rfl, hx⟩, b1⟩
  replace h0 := h0.below b1
  replace hb := below_trans hb b1
  clear b1
  go_wp2_with fail
  refine (rfits_yes _ rkX 2 2 true _ hx (by decide) rkX_ok rfl (Lib.hid rkX_fits)).mono ?_
  rintro e w2 ⟨rfl, b2⟩
  replace h0 := h0.below b2
  replace hb := below_trans hb b2
  clear b2 hx
  by_cases hE : tasE l0 = 0
  · have v := tas_iff.1 hE
    have hle := v.le
    cases q1 : ftB l0
    all_goals
      have HQ := Lib.hid q1
      clear q1
      go_wp2_with fail
      refine (rfits_yes a0 l0 _ c0 _ _ h0 k0 hE rfl HQ).mono ?_
      rintro e w3 ⟨rfl, b3⟩
      replace h0 := h0.below b3
      replace hb := below_trans hb b3
      clear b3
      go_wp2_with fail
      refine (rrun_yes a0 l0 c0 200 _ h0 hE (Nat.le_refl _)).mono ?_
      rintro e w4 ⟨B, kk, rfl, o4, b4⟩
      replace h0 := h0.below b4
      replace hb := below_trans hb b4
      have ix : Ints w4 B (tab 200 (rkR l0)) := Ints.of_own (by rw [length_tab]; exact o4)
      clear b4 o4
    · clear hE
      go_wp2
      go_ret
      exact ⟨rfl, hb⟩
    · have HE := Lib.hid hE
      have HRT : Hid (∀ i, i < l0.length → ∃ r : Nat, rtV l0 i = (r : Int) ∧ IsRt l0 i r ∧ (r : Int) ≤ (tk l0 i).due ∧ 0 < (r : Int)) := Lib.hid (fun i hi => by
        have p := ftB_all.mp HQ.out i hi
        rcases rt_spec v.toTks hi with ⟨x, _⟩ | ⟨r, x, y, z, u⟩
        · omega
        · exact ⟨r, x, u, z, by omega⟩)
      clear hE
      go_wp2
      go_loopw [51] (fun s wr => ∃ i : Nat, i ≤ l0.length ∧ s = .int .i64 i ∧ Ints wr B (tab 200 (rkR l0)) ∧ Tas wr a0 l0 ∧ Below w.heap.size w wr) (fun s _ => l0.length - (intOf s).toNat)
      case atStart => exact ⟨0, Nat.zero_le _, rfl, ix, h0, hb⟩
      case round =>
        clear ix h0 hb
        obtain ⟨i, hi, rfl, ix, h0, hb⟩ := hrel
        by_cases hlt : i < l0.length
        · obtain ⟨bb, off, q, rfl, hbl, c0_, c1_, c2_, HJ⟩ := h0.get hlt
          have hq := tk_of HJ.out
          have w1 := v.w1 i hlt
          have wd := v.wd i hlt
          have dp := v.dp i hlt
          have p60 := v.p60 i hlt
          obtain ⟨r, hr, hrt, hrd, hr0⟩ := HRT.out i hlt
          rw [hq] at w1 wd dp p60 hrd
          have i1 : (i : Int) < (l0.length : Int) := by omega
          have HR := Lib.hid hr
          have HR0 := Lib.hid hr0
          have HQ2 := Lib.hid hq
          have HRR := Lib.hid hrt
          obtain ⟨g1, hg1⟩ : ∃ g, g = wr.heap.size := ⟨_, rfl⟩
          obtain ⟨W1, hW1⟩ : ∃ W, W = wr.alloc (.cells #[.int .i64 q.per, .int .i64 q.work, .int .i64 q.due] 30) := ⟨_, rfl⟩
          have B1 : Blk W1 g1 30 #[.int .i64 q.per, .int .i64 q.work, .int .i64 q.due] := by rw [hW1, hg1]; exact Blk.new _ _ _
          have hb1 : Below w.heap.size w W1 := by rw [hW1]; exact hb.alloc hb.size _
          have ix1 : Ints W1 B (tab 200 (rkR l0)) := by rw [hW1]; exact ix.alloc _
          have h1 : Tas W1 (some ⟨bb, off, none⟩) l0 := by rw [hW1]; exact h0.alloc _
          have HW1 := Lib.hid hW1
          have HG1 := Lib.hid hg1
          clear hW1 hg1 hq hr hrt
          go_wp2_with fail
          rw [← HG1.out, ← HW1.out]
          clear c0_ c1_ c2_ HW1 HG1 ix h0 hb hbl
          refine (resp_yes _ l0 c0 i _ h1 k0 HE.out hlt r 0 (Lib.hid (.inl ⟨HR.out, rfl, HR0.out⟩))).mono ?_
          rintro e w5 ⟨rfl, b5⟩
          have B5 := B1.below b5
          have ix5 := ix1.below b5
          have h5 := h1.below b5
          have hb5 := below_trans hb1 b5
          have L5 := B5.lt
          obtain ⟨x0, x1, x2⟩ := three_read B5
          clear b5 B1 ix1 h1 hb1
          obtain ⟨P, hP⟩ := Int.eq_ofNat_of_zero_le (show 0 ≤ q.per by omega)
          rw [hP] at x0
          go_wp2
          go_loopw [13] (fun s wr => ∃ j : Nat, j ≤ 200 ∧ s = .int .i64 j ∧ wr = w5) (fun s _ => 201 - (intOf s).toNat)
          case atStart => exact ⟨0, by omega, rfl, rfl⟩
          case round =>
            obtain ⟨j, hj, rfl, rfl⟩ := hrel
            obtain ⟨Q, hQ⟩ : ∃ Q, Q = ((j : Int) + 1) * (P : Int) := ⟨_, rfl⟩
            have Qb : 0 ≤ Q ∧ Q ≤ 12060 := by
              have a : ((j : Int) + 1) * (P : Int) ≤ ((j : Int) + 1) * 60 := Int.mul_le_mul_of_nonneg_left (by omega) (by omega)
              have b : 0 ≤ ((j : Int) + 1) * (P : Int) := Int.mul_nonneg (by omega) (by omega)
              omega
            obtain ⟨Q0, Q1⟩ := Qb
            have m1 : IntKind.i64.wrap ((j : Int) + 1) = (j : Int) + 1 := IntWalk.i64_in _ ⟨by omega, by omega⟩
            have m2 : IntKind.i64.wrap (((j : Int) + 1) * (P : Int)) = Q := by rw [← hQ]; exact IntWalk.i64_in _ ⟨by omega, by omega⟩
            have HQ3 := Lib.hid hQ
            clear hQ
            by_cases hle2 : Q ≤ 200
            · obtain ⟨R, hR⟩ : ∃ R, R = (j : Int) * (P : Int) := ⟨_, rfl⟩
              have RQ : Q = R + P := by rw [HQ3.out, hR, Int.add_mul, Int.one_mul]
              have R0 : 0 ≤ R := by rw [hR]; exact Int.mul_nonneg (by omega) (by omega)
              have m3 : IntKind.i64.wrap ((j : Int) * (P : Int)) = R := by rw [← hR]; exact IntWalk.i64_in _ ⟨by omega, by omega⟩
              have m4 : IntKind.i64.wrap (R + (r : Int)) = R + r := IntWalk.i64_in _ ⟨by omega, by omega⟩
              have j199 : j ≤ 199 := by
                have : (j : Int) + 1 ≤ Q := by
                  rw [HQ3.out]
                  have := Int.mul_le_mul_of_nonneg_left (show (1 : Int) ≤ (P : Int) by omega) (show 0 ≤ (j : Int) + 1 by omega)
                  omega
                omega
              have HF : Hid (∀ d, IsFin l0 i 200 (q.work * ((j : Int) + 1)) d → ¬ d = 0 ∧ d ≤ R + r) := Lib.hid (fun d hd => by
                rw [← HQ2.out] at hd
                have := fin_meet v hlt HRR.out (by rw [HQ2.out]; exact hrd) (P := P) (by rw [HQ2.out]; exact hP) (j := j) (by
                  have : (((j + 1) * P : Nat) : Int) = Q := by rw [HQ3.out]; simp
                  omega) hd
                have e : ((j * P : Nat) : Int) = R := by rw [hR]; simp
                omega)
              clear hR
              go_wp2_with fail
              refine (finished_any B l0 200 kk i q.work j _ _ ix5 (Nat.le_refl _) w1 (by omega) (by omega) (by omega) (Lib.hid rfl)).mono ?_
              rintro e w9 ⟨⟨d, hd, rfl⟩, rfl⟩
              have HD := HF.out d hd
              have e1 : (d == 0) = false := by simp [HD.1]
              have e2 : decide (R + (r : Int) < d) = false := decide_eq_false (by omega)
              clear hd HD HF
              go_wp2
              go_roundw
              case rel => exact ⟨j + 1, by omega, by go_num, by first | rfl | trivial⟩
              case measure => simp [intOf]; omega
            · go_wp2
              go_roundw
              case rel => exact ⟨i + 1, by omega, by go_num, ix5, h5, hb5⟩
              case measure => simp [intOf]; omega
        · go_wp2
          go_ret
          exact ⟨rfl, hb⟩
  · have e1 : (tasE l0 != 0) = true := by simp [hE]
    go_wp2_with fail
    refine (rfits_no a0 l0 c0 _ h0 hE).mono ?_
    rintro e w3 ⟨rfl, b3⟩
    replace h0 := h0.below b3
    replace hb := below_trans hb b3
    clear b3
    go_wp2_with fail
    refine (rrun_no a0 l0 c0 200 _ h0 hE).mono ?_
    rintro e w4 ⟨rfl, b4⟩
    replace hb := below_trans hb b4
    clear b4 hE
    go_wp2
    go_ret
    exact ⟨rfl, hb⟩

end Go.Proofs.Ytccjegnflienhaa
