
/-
  The walk of the law RanksCritical.
-/
import Derived.Test.YtccjegnflienhaaRankE
import Derived.Deep.RegionHeld3
namespace Go.Proofs.Ytccjegnflienhaa
set_option linter.all false
open Go.RowKit Go.Shelf Go.Lib

theorem finished_q (A : Option Addr) (l : List Tk) (n c i : Nat) (a k need : Int) (w : World) (h : Ints w A (tab n (rkR l))) (hn : n ≤ 200) (a0 : 1 ≤ a) (a1 : a ≤ 60) (k0 : 0 ≤ k) (k1 : k ≤ 200) (hneed : Hid (a * (k + 1) = need)) (d : Int) (hd : Hid (∀ d', IsFin l i n need d' → d' = d)) :
    Calls Try.prog 22 #[.slice A n c, .int .i64 i, .int .i64 a, .int .i64 k] w fun e w' => e = .returned (.int .i64 d) ∧ ∃ m, w' = w.drewN m := (finished_any A l n c i a k need w h hn a0 a1 k0 k1 hneed).mono (fun e w' q => by
  obtain ⟨⟨d', h1, h2⟩, h3⟩ := q
  rw [hd.out d' h1] at h2
  exact ⟨h2, 0, h3⟩)
set_option maxRecDepth 100000 in
set_option maxHeartbeats 3200000 in
theorem walk_RanksCritical (a0 : Option Addr) (c0 : Nat) (l0 : List Tk) (n1 : Int) (w : World) (h0 : Tas w a0 l0) (k0 : l0.length ≤ c0) (_h1 : (Lit.int .i64 n1).wf = true) :
    Calls Try.prog 5 #[.slice a0 l0.length c0, .int .i64 n1] w fun e w' => e = .returned (.bool true) ∧ Below w.heap.size w w' := by
  have hb := Below.refl w.heap.size w
  have hl := h0.le
  go_enter Try.func5, Try.ntmps5
  go_wp2_with fail
  refine (rank_any _).mono ?_
  rintro e w1 ⟨⟨g, rfl, hx⟩, b1⟩
  replace h0 := h0.below b1
  replace hb := below_trans hb b1
  clear b1
  go_wp2_with fail
  refine (resp_yes _ rkX 2 1 _ hx (by decide) rkX_ok (by decide) 4 0 (Lib.hid (.inl ⟨rkX_rt1, rfl, by decide⟩))).mono ?_
  rintro e w2 ⟨rfl, b2⟩
  replace h0 := h0.below b2
  replace hb := below_trans hb b2
  clear b2 hx
  by_cases hE : tasE l0 = 0
  · have v := tas_iff.1 hE
    have hle := v.le
    by_cases hi : 0 ≤ n1 ∧ n1 < l0.length
    · obtain ⟨I, rfl⟩ := Int.eq_ofNat_of_zero_le hi.1
      have hlt : I < l0.length := by omega
      obtain ⟨N, E, hR⟩ := resp_of v hlt
      have HR := Lib.hid hR
      go_wp2_with fail
      refine (resp_yes a0 l0 c0 I _ h0 k0 hE hlt N E HR).mono ?_
      rintro e w3 ⟨rfl, b3⟩
      replace h0 := h0.below b3
      replace hb := below_trans hb b3
      clear b3 HR
      go_wp2_with fail
      refine (rrun_yes a0 l0 c0 200 _ h0 hE (Nat.le_refl _)).mono ?_
      rintro e w4 ⟨B, kk, rfl, o4, b4⟩
      replace h0 := h0.below b4
      replace hb := below_trans hb b4
      have ix : Ints w4 B (tab 200 (rkR l0)) := Ints.of_own (by rw [length_tab]; exact o4)
      clear b4 o4 hE
      obtain ⟨bb, off, q, rfl, hbl, d0, d1, d2, HJ⟩ := h0.get hlt
      have hq := tk_of HJ.out
      have w1 := v.w1 I hlt
      have wd := v.wd I hlt
      have dp := v.dp I hlt
      have p60 := v.p60 I hlt
      rw [hq] at w1 wd dp p60
      have i1 : (I : Int) < (l0.length : Int) := by omega
      have i2 : (0 : Int) ≤ (I : Int) := by omega
      have hneed : Hid (q.work * ((0 : Int) + 1) = q.work) := Lib.hid (by omega)
      rcases hR with ⟨r1, rfl, r2⟩ | ⟨r1, rfl, rfl⟩
      · have HF : Hid (∀ d', IsFin l0 I 200 q.work d' → d' = N) := Lib.hid (fun d' hd' => by
          rcases rt_spec v.toTks hlt with ⟨x, _⟩ | ⟨r, x, _, y, z⟩
          · omega
          · rw [← hq] at hd'
            rw [fin_first v hlt z (by omega) hd']; omega)
        clear hq r1 hi
        go_wp2_with fail
        refine (finished_q B l0 200 kk I q.work 0 q.work _ ix (Nat.le_refl _) w1 (by omega) (by omega) (by omega) hneed N HF).mono ?_
        rintro e w9 ⟨rfl, n9, hw9⟩
        have hb9 := below_trans hb (below_of_drewN hw9)
        clear hw9
        go_wp2
        go_ret
        exact ⟨rfl, hb9⟩
      · have HF : Hid (∀ d', IsFin l0 I 200 q.work d' → d' = 0 ∨ q.due < d') := Lib.hid (fun d' hd' => by
          rw [← hq] at hd' ⊢
          exact fin_over v hlt r1 hd')
        clear hq r1 hi
        go_wp2_with fail
        refine (finished_any B l0 200 kk I q.work 0 q.work _ ix (Nat.le_refl _) w1 (by omega) (by omega) (by omega) hneed).mono ?_
        rintro e w9 ⟨⟨d, hd, rfl⟩, hw9⟩
        have hb9 := below_trans hb (below_of_drewN (n := 0) hw9)
        have e0 : w9.cell? ⟨bb, off + I * 3 + 2, none⟩ = some (.int .i64 q.due) := by rw [hw9]; exact d2
        have HD := Lib.hid (HF.out d hd)
        clear hw9 hd d0 d1 d2
        by_cases z : d = 0
        · have e1 : (d == 0) = true := by simp [z]
          clear z
          go_wp2
          go_ret
          exact ⟨rfl, hb9⟩
        · have e1 : (d == 0) = false := by simp [z]
          have e2 : decide (q.due < d) = true := decide_eq_true (by have := HD.out; omega)
          clear z
          go_wp2
          go_ret
          exact ⟨rfl, hb9⟩
    · go_wp2_with fail
      refine (resp_arg a0 l0 c0 n1 _ h0 hE hi).mono ?_
      rintro e w3 ⟨rfl, b3⟩
      replace h0 := h0.below b3
      replace hb := below_trans hb b3
      clear b3 hi
      go_wp2_with fail
      refine (rrun_yes a0 l0 c0 200 _ h0 hE (Nat.le_refl _)).mono ?_
      rintro e w4 ⟨B, kk, rfl, o4, b4⟩
      replace hb := below_trans hb b4
      clear b4 o4 hE
      go_wp2
      go_ret
      exact ⟨rfl, hb⟩
  · have e1 : (tasE l0 != 0) = true := by simp [hE]
    have e2 : (tasE l0 == 8) = false := by rw [beq_eq_false_iff_ne]; unfold tasE; split; decide; split <;> decide
    go_wp2_with fail
    refine (resp_bad a0 l0 c0 n1 _ h0 hE).mono ?_
    rintro e w3 ⟨rfl, b3⟩
    replace h0 := h0.below b3
    replace hb := below_trans hb b3
    clear b3
    go_wp2_with fail
    refine (rrun_no a0 l0 c0 200 _ h0 hE).mono ?_
    rintro e w4 ⟨rfl, b4⟩
    replace hb := below_trans hb b4
    clear b4 hE
    go_wp2
    go_ret
    exact ⟨rfl, hb⟩

end Go.Proofs.Ytccjegnflienhaa
