
/-
  The laws WindowSays, WindowForm over what package window owes.
-/
import Derived.Test.YtmefekgbljhclaaWinC
import Derived.Test.YtmefekgbljhclaaCurveB
namespace Go.Proofs.Ytmefekgbljhclaa
set_option linter.all false
open Go.RowKit Go.Shelf Go.Lib

theorem new_oneW (w : World) (u : Value) (t : TypeId) : ∀ (j : Nat) (v : Value), [u][j]? = some v → (w.alloc (.cells #[u] t)).cell? ((⟨w.heap.size, 0, none⟩ : Addr).add j) = some v := by
  intro j v hj
  match j, hj with
  | 0, hj =>
    simp at hj
    subst hj
    rw [Addr.add_lit]
    exact (Blk.new w t #[u]).cell 0
theorem win_lit1 : WnOk 5 2 4 := ⟨by omega, by omega, by omega, by omega, by omega⟩
theorem win_row1 : tab 5 (swV 2 4) = [0, 1, 4, 5, 8] := by decide
set_option maxRecDepth 100000 in
set_option maxHeartbeats 3200000 in
theorem v_WindowForm (E : WinC) (n1 n2 n3 : Int) (w : World) (_h1 : (Lit.int .i64 n1).wf = true) (_h2 : (Lit.int .i64 n2).wf = true) (_h3 : (Lit.int .i64 n3).wf = true) :
    Calls Try.prog 9 #[.int .i64 n1, .int .i64 n2, .int .i64 n3] w fun e w' => e = .returned (.bool true) ∧ Below w.heap.size w w' := by
  have hb := Below.refl w.heap.size w
  go_enter Try.func9, Try.ntmps9
  go_wp2_with fail
  refine (E.sent' 5 2 4 _ win_lit1).mono ?_
  rintro e w1 ⟨A, c, rfl, ix, hc, b1⟩
  rw [win_row1] at ix
  replace hb := below_trans hb b1
  clear b1
  go_wp2_with fail
  refine (equal_at A _ [0, 1, 4, 5, 8] [0, 1, 4, 5, 8] _ _ _ _ _ (ix.alloc _) (by exact Ints.lit _ _ _ _ rfl (by decide)) rfl rfl).mono ?_
  rintro e w2 ⟨rfl, m2, hw2⟩
  rw [eqB_true rfl]
  have b2 := below_of1 (below_of_drewN hw2)
  replace hb := below_trans hb b2
  clear b2 hw2 ix hc
  by_cases hE : wnE n1 n2 n3 = 0
  · obtain ⟨N, W, P, rfl, rfl, rfl, v⟩ := wn_of hE
    have v1 := v.n1
    have v2 := v.w0
    have v3 := v.w1
    have v4 := v.p0
    have v5 := v.p1
    clear hE
    go_wp2_with fail
    refine (E.sent' N W P _ v).mono ?_
    rintro e w3 ⟨A, c, rfl, ix, hc, b3⟩
    replace hb := below_trans hb b3
    clear b3
    go_wp2_with fail
    refine (E.done N W P _ v).mono ?_
    rintro e w4 ⟨rfl, b4⟩
    replace hb := below_trans hb b4
    replace ix := ix.below b4
    clear b4
    by_cases hN : N = 0
    · subst hN
      rw [show ((dnV W P 0 : Nat) : Int) = 0 from rfl]
      go_wp2
      go_ret
      exact ⟨rfl, hb⟩
    · have e1 : ((N : Int) == 0) = false := by rw [beq_eq_false_iff_ne]; omega
      obtain ⟨K, hK⟩ : ∃ K : Nat, dnV W P N = K := ⟨_, rfl⟩
      have HK : Hid (swV W P (N - 1) + P = (K : Int)) := Lib.hid (by rw [← hK, dnV, if_neg hN]; unfold swV; omega)
      rw [hK]
      clear hK
      go_wp2
      go_loopw [65] (fun s wr => ∃ i : Nat, i ≤ N ∧ s = .int .i64 i ∧ Ints wr A (tab N (swV W P)) ∧ Below w.heap.size w wr) (fun s _ => N - (intOf s).toNat)
      case atStart => exact ⟨0, Nat.zero_le _, rfl, ix, hb⟩
      case round =>
        clear ix hb
        obtain ⟨i, hi, rfl, ix, hb⟩ := hrel
        by_cases hlt : i < N
        · obtain ⟨bb, off, t, rfl, hcell, HX⟩ := ix.at_ (k := i) (by rw [length_tab]; exact hlt)
          have ht : t = swV W P i := by have := HX.out; rw [get_tab _ hlt] at this; exact (Option.some.inj this).symm
          have i1 : (i : Int) < (N : Int) := by omega
          by_cases c1 : P ≤ W
          · have HT : t = (i : Int) := by rw [ht, swV, sfV, if_pos c1]
            have e2 : decide ((P : Int) ≤ (W : Int)) = true := decide_eq_true (by omega)
            have e3 : decide (P ≤ W) = true := decide_eq_true c1
            have e4 : decide ((W : Int) < (P : Int)) = false := decide_eq_false (by omega)
            have e5 : decide (W < P) = false := decide_eq_false (by omega)
            have c2 : (P : Int) ≤ (W : Int) := by omega
            have c3 : ¬ (W : Int) < (P : Int) := by omega
            subst HT
            clear ht
            go_wp2
            go_quiet (fail)
            go_wp2
            go_roundw
            case rel => exact ⟨i + 1, by omega, by go_num, ix.drewN _, ⟨hb.os, hb.tape, hb.output, hb.size, hb.block⟩⟩
            case measure => simp [intOf]; omega
          · have e2 : decide ((P : Int) ≤ (W : Int)) = false := decide_eq_false (by omega)
            have e3 : decide (P ≤ W) = false := decide_eq_false c1
            have e4 : decide ((W : Int) < (P : Int)) = true := decide_eq_true (by omega)
            have e5 : decide (W < P) = true := decide_eq_true (by omega)
            have c2 : ¬ (P : Int) ≤ (W : Int) := by omega
            have c3 : (W : Int) < (P : Int) := by omega
            obtain ⟨q, hq⟩ : ∃ q, q = i / W := ⟨_, rfl⟩
            obtain ⟨r, hr⟩ : ∃ r, r = i % W := ⟨_, rfl⟩
            obtain ⟨X, hX⟩ : ∃ X, X = (q : Int) * (P : Int) := ⟨_, rfl⟩
            have qa : q ≤ i := by rw [hq]; exact Nat.div_le_self _ _
            have ra : r ≤ i := by rw [hr]; exact Nat.mod_le _ _
            have HT : t = X + (r : Int) := by rw [ht, swV, sfV, if_neg c1, hX, hq, hr]; simp
            have Xb : 0 ≤ X ∧ X ≤ 40000 := by
              rw [hX]
              have x : (q : Int) * (P : Int) ≤ (q : Int) * 200 := Int.mul_le_mul_of_nonneg_left (by omega) (by omega)
              have y : 0 ≤ (q : Int) * (P : Int) := Int.mul_nonneg (by omega) (by omega)
              omega
            obtain ⟨X0, X1⟩ := Xb
            have m1 : Int.tdiv (i : Int) (W : Int) = (q : Int) := by rw [hq, Int.tdiv_eq_ediv_of_nonneg (by omega)]; simp
            have m2 : Int.tmod (i : Int) (W : Int) = (r : Int) := by rw [hr, Int.tmod_eq_emod_of_nonneg (by omega)]; simp
            have m3 : IntKind.i64.wrap (q : Int) = (q : Int) := IntWalk.i64_in _ ⟨by omega, by omega⟩
            have m4 : IntKind.i64.wrap (r : Int) = (r : Int) := IntWalk.i64_in _ ⟨by omega, by omega⟩
            have m5 : IntKind.i64.wrap ((q : Int) * (P : Int)) = X := by rw [← hX]; exact IntWalk.i64_in _ ⟨by omega, by omega⟩
            have m6 : IntKind.i64.wrap (X + (r : Int)) = X + r := IntWalk.i64_in _ ⟨by omega, by omega⟩
            have z : ¬ (W : Int) = 0 := by omega
            have z2 : ¬ W = 0 := by omega
            subst HT
            clear ht hX hq hr
            go_wp2
            go_quiet (fail)
            go_wp2
            go_roundw
            case rel => exact ⟨i + 1, by omega, by go_num, ix.drewN _, ⟨hb.os, hb.tape, hb.output, hb.size, hb.block⟩⟩
            case measure => simp [intOf]; omega
        · obtain rfl : i = N := by omega
          obtain ⟨k, hk⟩ : ∃ k, i = k + 1 := ⟨i - 1, by omega⟩
          subst hk
          obtain ⟨bb, off, t, rfl, hcell, HX⟩ := ix.at_ (k := k) (by rw [length_tab]; omega)
          have HT : Hid (t + (P : Int) = (K : Int)) := Lib.hid (by
            have := HX.out
            rw [get_tab _ (by omega)] at this
            rw [← Option.some.inj this, ← HK.out, Nat.add_sub_cancel])
          have tb : 0 ≤ t ∧ t ≤ 40200 := by
            have := HX.out
            rw [get_tab _ (by omega)] at this
            rw [← Option.some.inj this]
            have := sf_max v (i := k) (by omega)
            unfold swV
            omega
          obtain ⟨t0, t1⟩ := tb
          have m1 : IntKind.i64.wrap ((((k + 1 : Nat) : Int)) - 1) = (k : Int) := by rw [IntWalk.i64_in _ ⟨by omega, by omega⟩]; omega
          have m2 : IntKind.i64.wrap (((k : Int) + 1) - 1) = (k : Int) := by rw [IntWalk.i64_in _ ⟨by omega, by omega⟩]; omega
          have m3 : IntKind.i64.wrap (t + (P : Int)) = (K : Int) := by rw [HT.out]; exact IntWalk.i64_in _ ⟨by omega, by have := HT.out; omega⟩
          have i2 : (k : Int) < ((k : Int) + 1) := by omega
          have i3 : (k : Int) < (((k + 1 : Nat)) : Int) := by omega
          go_wp2
          first
            | (go_ret
               exact ⟨rfl, hb⟩)
            | (go_quiet (fail)
               go_wp2
               go_ret
               exact ⟨rfl, ⟨hb.os, hb.tape, hb.output, hb.size, hb.block⟩⟩)
  · go_wp2_with fail
    refine (E.sent_no n1 n2 n3 _ hE).mono ?_
    rintro e w3 ⟨⟨A, c, rfl⟩, b3⟩
    replace hb := below_trans hb b3
    clear b3
    go_wp2_with fail
    refine (E.done_no n1 n2 n3 _ hE).mono ?_
    rintro e w4 ⟨rfl, b4⟩
    replace hb := below_trans hb b4
    clear b4 hE
    go_wp2
    go_ret
    exact ⟨rfl, hb⟩

end Go.Proofs.Ytmefekgbljhclaa
