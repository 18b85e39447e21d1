
/-
  What package piece owes, read; the law PieceTwo over it.
-/
import Derived.Test.YtmefekgbljhclaaPieceC
import Derived.Test.YtmefekgbljhclaaRefA
import Derived.Test.YtmefekgbljhclaaWinC
namespace Go.Proofs.Ytmefekgbljhclaa
set_option linter.all false
open Go.RowKit Go.Shelf Go.Lib

/-- Sizes, read. -/
theorem PieceC.sizes_at (E : PieceC) {s u : Int} (S U : Int) (n : Nat) (w : World) (h : whE S U = 0) (hn : pcN S U = n) (e1 : s = S) (e2 : u = U) : Calls Try.prog 14 #[.int .i64 s, .int .i64 u] w fun e w' => ∃ (A : Option Addr) (c : Nat), e = .returned (.tuple #[.slice A n c, .int .i64 0]) ∧ Ints w' A (tab n (pcV S U)) ∧ n ≤ c ∧ Below w.heap.size w w' := by
  subst hn e1 e2
  refine (E.sizes s u w h).mono ?_
  rintro e w' ⟨A, c, he, o, b⟩
  refine ⟨A, c, he, Ints.of_own (by rw [length_tab]; exact o), ?_, b⟩
  rcases o.2 with ⟨_, h0⟩ | ⟨g, cap, cur, hv, _, _, hn, _⟩
  · omega
  · injection hv with _ _ e
    subst e
    exact hn
theorem pie_lit1 : whE 5 2 = 0 := by decide
theorem pie_lit2 : pcN 5 2 = 3 := by decide
theorem pie_row1 : tab 3 (pcV 5 2) = [2, 2, 1] := by decide
set_option maxRecDepth 100000 in
set_option maxHeartbeats 3200000 in
theorem v_PieceTwo (E : PieceC) (n1 n2 : Int) (w : World) (_h1 : (Lit.int .i64 n1).wf = true) (_h2 : (Lit.int .i64 n2).wf = true) :
    Calls Try.prog 7 #[.int .i64 n1, .int .i64 n2] w fun e w' => e = .returned (.bool true) ∧ Below w.heap.size w w' := by
  have hb := Below.refl w.heap.size w
  go_enter Try.func7, Try.ntmps7
  go_wp2_with fail
  refine (E.sizes_at 5 2 3 _ pie_lit1 pie_lit2 rfl rfl).mono ?_
  rintro e w1 ⟨A, c, rfl, ix, hc, b1⟩
  rw [pie_row1] at ix
  replace hb := below_trans hb b1
  clear b1
  go_wp2_with fail
  refine (equal_at A _ [2, 2, 1] [2, 2, 1] _ _ _ _ _ (ix.alloc _) (by exact Ints.lit _ _ _ _ rfl (by decide)) rfl rfl).mono ?_
  rintro e w2 ⟨rfl, m2, hw2⟩
  rw [eqB_true rfl]
  have b2 := below_of1 (below_of_drewN hw2)
  replace hb := below_trans hb b2
  clear b2 hw2 ix hc
  by_cases hE : whE n1 n2 = 0
  · have v := wh_iff.mp hE
    have v1 := v.s0
    have v2 := v.s1
    have v3 := v.u0
    have v4 := v.u1
    have v5 := v.le
    obtain ⟨N, hN⟩ : ∃ N, pcN n1 n2 = N := ⟨_, rfl⟩
    have hN2 := pcn_max v
    rw [hN] at hN2
    go_wp2_with fail
    refine (E.sizes_at n1 n2 N _ hE hN rfl rfl).mono ?_
    rintro e w3 ⟨A, c, rfl, ix, hc, b3⟩
    replace hb := below_trans hb b3
    clear b3
    by_cases hW : 500000 < n2
    · have e1 : decide (500000 < n2) = true := decide_eq_true hW
      clear hN hE v
      go_wp2
      go_ret
      exact ⟨rfl, hb⟩
    · have e1 : decide (500000 < n2) = false := decide_eq_false hW
      have vW : whE n1 (2 * n2) = 0 := wh_iff.mpr ⟨by omega, by omega, by omega, by omega, by omega⟩
      have m1 : IntKind.i64.wrap (2 * n2) = 2 * n2 := IntWalk.i64_in _ ⟨by omega, by omega⟩
      obtain ⟨M, hM⟩ : ∃ M, M = (N + 1) / 2 := ⟨_, rfl⟩
      have hPM : pcN n1 (2 * n2) = M := by rw [pcn_two v1 v3, hN, hM]
      have m2 : IntKind.i64.wrap ((N : Int) + 1) = (N : Int) + 1 := IntWalk.i64_in _ ⟨by omega, by omega⟩
      have m3 : Int.tdiv ((N : Int) + 1) 2 = (M : Int) := by rw [hM, Int.tdiv_eq_ediv_of_nonneg (by omega)]; simp
      have m4 : IntKind.i64.wrap (M : Int) = (M : Int) := IntWalk.i64_in _ ⟨by omega, by omega⟩
      have hM2 : M ≤ 200 := by omega
      have HN := Lib.hid hN
      have HM := Lib.hid hM
      have HPM := Lib.hid hPM
      clear hN hM hPM hE v
      go_wp2_with fail
      refine (E.sizes_at n1 (2 * n2) M _ vW HPM.out rfl rfl).mono ?_
      rintro e w4 ⟨B, d, rfl, iy, hd, b4⟩
      replace hb := below_trans hb b4
      replace ix := ix.below b4
      clear b4
      go_wp2
      go_loopw [64] (fun s wr => ∃ i : Nat, i ≤ M ∧ s = .int .i64 i ∧ Ints wr A (tab N (pcV n1 n2)) ∧ Ints wr B (tab M (pcV n1 (2 * n2))) ∧ Below w.heap.size w wr) (fun s _ => M - (intOf s).toNat)
      case atStart => exact ⟨0, Nat.zero_le _, rfl, ix, iy, hb⟩
      case round =>
        clear ix iy hb
        obtain ⟨i, hi, rfl, ix, iy, hb⟩ := hrel
        by_cases hlt : i < M
        · have hJ : 2 * i < N := by have := HM.out; omega
          obtain ⟨b1', o1', x, rfl, cx, HX⟩ := ix.at_ (k := 2 * i) (by rw [length_tab]; exact hJ)
          obtain ⟨b2', o2', y, rfl, cy, HY⟩ := iy.at_ (k := i) (by rw [length_tab]; exact hlt)
          have hx : x = pcV n1 n2 (2 * i) := by have := HX.out; rw [get_tab _ hJ] at this; exact (Option.some.inj this).symm
          have hy : y = pcV n1 (2 * n2) i := by have := HY.out; rw [get_tab _ hlt] at this; exact (Option.some.inj this).symm
          have hxy : y = x + if 2 * i + 1 < N then pcV n1 n2 (2 * i + 1) else 0 := by
            rw [hy, hx, ← HN.out]
            exact pc_two v1 v3 (by rw [HPM.out]; exact hlt)
          have bx := pc_bd v1 v3 (i := 2 * i) (by rw [HN.out]; exact hJ)
          rw [← hx] at bx
          obtain ⟨bx0, bx1, _⟩ := bx
          clear hx hy
          obtain ⟨j, hj⟩ : ∃ j, j = 2 * i := ⟨_, rfl⟩
          rw [← hj] at cx hxy hJ
          have i2 : (i : Int) < (M : Int) := by omega
          have m5 : IntKind.i64.wrap (2 * (i : Int)) = (j : Int) := by rw [hj]; exact IntWalk.i64_in _ ⟨by omega, by omega⟩
          have m6 : IntKind.i64.wrap ((j : Int) + 1) = (j : Int) + 1 := IntWalk.i64_in _ ⟨by omega, by omega⟩
          have i3 : (j : Int) < (N : Int) := by omega
          by_cases hk : j + 1 < N
          · have i4 : (j : Int) + 1 < (N : Int) := by omega
            have t4 : ((j : Int) + 1).toNat = j + 1 := by omega
            obtain ⟨b3', o3', z, ez, cz, HZ⟩ := ix.at_ (k := j + 1) (by rw [length_tab]; exact hk)
            injection ez with ez
            injection ez with ez1 ez2
            subst ez1 ez2
            have hz : z = pcV n1 n2 (j + 1) := by have := HZ.out; rw [get_tab _ hk] at this; exact (Option.some.inj this).symm
            rw [if_pos hk, ← hz] at hxy
            have bz := pc_bd v1 v3 (i := j + 1) (by rw [HN.out]; exact hk)
            rw [← hz] at bz
            obtain ⟨bz0, bz1, _⟩ := bz
            have m7 : IntKind.i64.wrap (x + z) = y := by rw [hxy]; exact IntWalk.i64_in _ ⟨by omega, by omega⟩
            clear hz hxy hj
            go_wp2
            go_roundw
            case rel => exact ⟨i + 1, by omega, by go_num, ix, iy, hb⟩
            case measure => simp [intOf]; omega
          · have i4 : ¬ (j : Int) + 1 < (N : Int) := by omega
            have hxy' : x = y := by rw [hxy, if_neg hk]; omega
            clear hxy hj
            subst hxy'
            go_wp2
            go_roundw
            case rel => exact ⟨i + 1, by omega, by go_num, ix, iy, hb⟩
            case measure => simp [intOf]; omega
        · go_wp2
          go_ret
          exact ⟨rfl, hb⟩
  · go_wp2_with fail
    refine (E.sizes_no n1 n2 _ hE).mono ?_
    rintro e w3 ⟨⟨A, c, rfl⟩, b3⟩
    replace hb := below_trans hb b3
    have e1 : decide (whE n1 n2 = 0) = false := decide_eq_false hE
    clear b3
    go_wp2
    go_ret
    exact ⟨rfl, hb⟩

end Go.Proofs.Ytmefekgbljhclaa
