
/-
  The law RetrySays.
-/
import Derived.Test.YtnpdcllfdoobeaaRetX
import Derived.Deep.QuietTactic
import Derived.BigQuiet
namespace Go.Proofs.Ytnpdcllfdoobeaa
set_option linter.all false
open Go.RowKit Go.Shelf Go.Lib

set_option maxHeartbeats 800000 in
theorem wait_any (first most : Int) (i bf bm : Nat) (w : World) (v : RtOk first most) (hi : i ≤ 40) (hf : Blk w bf 3 #[.int .i64 first]) (hm : Blk w bm 3 #[.int .i64 most]) :
    Calls Try.prog 15 #[.int .i64 i, .pointer (some ⟨bf, 0, none⟩), .pointer (some ⟨bm, 0, none⟩)] w fun e w' => e = .returned (.int .i64 (wtV first most i)) ∧ w' = w := by
  have v1 := v.lo
  have v2 := v.le
  have v3 := v.hi
  have c0 : w.cell? ⟨bf, 0, none⟩ = some (.int .i64 first) := by simpa using hf.cell 0
  have c1 : w.cell? ⟨bm, 0, none⟩ = some (.int .i64 most) := by simpa using hm.cell 0
  clear hf hm
  go_enter Try.func15, Try.ntmps15
  go_wp2
  go_loop [5, 8] (fun x s => ∃ k : Nat, k ≤ i ∧ s = .int .i64 k ∧ x = .int .i64 (wtV first most k)) (fun _ s => i - (intOf s).toNat)
  case atStart => exact ⟨0, Nat.zero_le _, rfl, rfl⟩
  case round =>
    obtain ⟨k, hk, rfl, rfl⟩ := hrel
    by_cases hlt : k < i
    · have i1 : (k : Int) < (i : Int) := by omega
      obtain ⟨b0, b1⟩ := wt_bd v k
      by_cases hc : most < 2 * wtV first most k
      · have HR : Hid (wtV first most i = most) := Lib.hid (by
          have := wt_most v hc (i - (k + 1))
          rwa [show k + 1 + (i - (k + 1)) = i by omega] at this)
        have e2 : most < wtV first most k * 2 := by omega
        obtain ⟨x, hx⟩ : ∃ x, x = wtV first most k := ⟨_, rfl⟩
        rw [← hx] at b0 b1 hc e2 ⊢
        clear hx
        go_wp2
        go_ret
        exact ⟨ret_int HR.out.symm, rfl⟩
      · have HR : Hid (wtV first most (k + 1) = wtV first most k * 2) := Lib.hid (by rw [wtV]; omega)
        have e2 : ¬ most < wtV first most k * 2 := by omega
        obtain ⟨x, hx⟩ : ∃ x, x = wtV first most k := ⟨_, rfl⟩
        rw [← hx] at b0 b1 hc e2 HR ⊢
        clear hx
        go_wp2
        go_round
        case rel => exact ⟨k + 1, by omega, by go_num, by rw [HR.out]⟩
        case measure => simp [intOf]; omega
    · obtain rfl : k = i := by omega
      have i1 : ¬ (k : Int) < (k : Int) := by omega
      go_wp2
      go_ret
      exact ⟨rfl, rfl⟩

set_option maxRecDepth 100000 in
set_option maxHeartbeats 6400000 in
theorem walk_RetrySays (first most n : Int) (A : Option Addr) (c : Nat) (z : List Bool) (w : World) (_h1 : (Lit.int .i64 first).wf = true) (_h2 : (Lit.int .i64 most).wf = true) (_h3 : (Lit.int .i64 n).wf = true) (h : Bls w A z) (_k : z.length ≤ c) :
    Calls Try.prog 3 #[.int .i64 first, .int .i64 most, .int .i64 n, .slice A z.length c] w fun e w' => e = .returned (.bool true) ∧ Below w.heap.size w w' := by
  have hzl := h.1
  obtain ⟨bf, hbf⟩ : ∃ bf, bf = w.heap.size := ⟨_, rfl⟩
  obtain ⟨W, hW⟩ : ∃ W, W = (w.alloc (.cells #[.int .i64 first] 3)).alloc (.cells #[.int .i64 most] 3) := ⟨_, rfl⟩
  have hb : Below w.heap.size w W := by rw [hW]; exact ((Below.refl _ _).alloc (Nat.le_refl _) _).alloc (by simp) _
  have BF : Blk W bf 3 #[.int .i64 first] := by rw [hW, hbf]; exact (Blk.new _ _ _).alloc _
  have BM : Blk W (bf + 1) 3 #[.int .i64 most] := by
    have q := Blk.new (w.alloc (.cells #[.int .i64 first] 3)) 3 #[.int .i64 most]
    rw [hW, hbf]; simpa using q
  have c0 : W.cell? ⟨bf, 0, none⟩ = some (.int .i64 first) := by simpa using BF.cell 0
  have c1 : W.cell? ⟨bf + 1, 0, none⟩ = some (.int .i64 most) := by simpa using BM.cell 0
  have HW := Lib.hid hW
  have HF := Lib.hid hbf
  replace h := h.below hb
  clear hW hbf
  have hent := enters_of Try.func15 (by kernel_rfl) rfl
  go_enter Try.func3, Try.ntmps3
  by_cases r1 : first < 1
  · have hE : ¬ rtE first most n = 0 := fun q => by have := (rt_iff.mp q).1.lo; omega
    have RB : Hid (¬ rtE first most 0 = 0) := Lib.hid (fun q => by have := (rt_iff.mp q).1.lo; omega)
    have r1' : ¬ 1 ≤ first := by omega
    go_wp2_with fail
    rw [← HW.out, ← HF.out]
    refine (waits_no first most n _ hE).mono ?_
    rintro e w1 ⟨rfl, rfl⟩
    go_wp2_with fail
    refine (when_any first most A z _ c _ h rfl).mono ?_
    rintro e wq ⟨rfl, bq⟩
    replace h := h.below bq
    replace BF := BF.below bq
    replace BM := BM.below bq
    replace hb := below_trans hb bq
    clear hE bq c0 c1
    have c0 : wq.cell? ⟨bf, 0, none⟩ = some (.int .i64 first) := by simpa using BF.cell 0
    have c1 : wq.cell? ⟨bf + 1, 0, none⟩ = some (.int .i64 most) := by simpa using BM.cell 0
    obtain ⟨E, hEE⟩ : ∃ E, E = whnE first most z := ⟨_, rfl⟩
    obtain ⟨V, hVV⟩ : ∃ V, V = whnV first most z := ⟨_, rfl⟩
    rw [← hEE, ← hVV]
    have HEE := Lib.hid hEE
    have HVV := Lib.hid hVV
    clear hEE hVV
    by_cases hz : 40 < z.length
    · have j1 : (40 : Int) < (z.length : Int) := by omega
      have j2 : E = 2 := by rw [HEE.out, whnE, if_pos hz]
      have j3 : V = 0 := by rw [HVV.out, whnV, ← HEE.out, j2]; rfl
      subst j2 j3
      go_wp2
      go_ret
      exact ⟨rfl, hb⟩
    · have j1 : ¬ (40 : Int) < (z.length : Int) := by omega
      have j2 : E = 1 := by rw [HEE.out, whnE, if_neg hz, if_neg RB.out]
      have j3 : V = 0 := by rw [HVV.out, whnV, ← HEE.out, j2]; rfl
      subst j2 j3
      go_wp2
      go_ret
      exact ⟨rfl, hb⟩
  by_cases r2 : most < first
  · have hE : ¬ rtE first most n = 0 := fun q => by have := (rt_iff.mp q).1.le; omega
    have RB : Hid (¬ rtE first most 0 = 0) := Lib.hid (fun q => by have := (rt_iff.mp q).1.le; omega)
    have r1' : 1 ≤ first := by omega
    have r2' : ¬ first ≤ most := by omega
    go_wp2_with fail
    rw [← HW.out, ← HF.out]
    refine (waits_no first most n _ hE).mono ?_
    rintro e w1 ⟨rfl, rfl⟩
    go_wp2_with fail
    refine (when_any first most A z _ c _ h rfl).mono ?_
    rintro e wq ⟨rfl, bq⟩
    replace h := h.below bq
    replace BF := BF.below bq
    replace BM := BM.below bq
    replace hb := below_trans hb bq
    clear hE bq c0 c1
    have c0 : wq.cell? ⟨bf, 0, none⟩ = some (.int .i64 first) := by simpa using BF.cell 0
    have c1 : wq.cell? ⟨bf + 1, 0, none⟩ = some (.int .i64 most) := by simpa using BM.cell 0
    obtain ⟨E, hEE⟩ : ∃ E, E = whnE first most z := ⟨_, rfl⟩
    obtain ⟨V, hVV⟩ : ∃ V, V = whnV first most z := ⟨_, rfl⟩
    rw [← hEE, ← hVV]
    have HEE := Lib.hid hEE
    have HVV := Lib.hid hVV
    clear hEE hVV
    by_cases hz : 40 < z.length
    · have j1 : (40 : Int) < (z.length : Int) := by omega
      have j2 : E = 2 := by rw [HEE.out, whnE, if_pos hz]
      have j3 : V = 0 := by rw [HVV.out, whnV, ← HEE.out, j2]; rfl
      subst j2 j3
      go_wp2
      go_ret
      exact ⟨rfl, hb⟩
    · have j1 : ¬ (40 : Int) < (z.length : Int) := by omega
      have j2 : E = 1 := by rw [HEE.out, whnE, if_neg hz, if_neg RB.out]
      have j3 : V = 0 := by rw [HVV.out, whnV, ← HEE.out, j2]; rfl
      subst j2 j3
      go_wp2
      go_ret
      exact ⟨rfl, hb⟩
  by_cases r3 : 1000000 < most
  · have hE : ¬ rtE first most n = 0 := fun q => by have := (rt_iff.mp q).1.hi; omega
    have RB : Hid (¬ rtE first most 0 = 0) := Lib.hid (fun q => by have := (rt_iff.mp q).1.hi; omega)
    have r1' : 1 ≤ first := by omega
    have r2' : first ≤ most := by omega
    have r3' : ¬ most ≤ 1000000 := by omega
    go_wp2_with fail
    rw [← HW.out, ← HF.out]
    refine (waits_no first most n _ hE).mono ?_
    rintro e w1 ⟨rfl, rfl⟩
    go_wp2_with fail
    refine (when_any first most A z _ c _ h rfl).mono ?_
    rintro e wq ⟨rfl, bq⟩
    replace h := h.below bq
    replace BF := BF.below bq
    replace BM := BM.below bq
    replace hb := below_trans hb bq
    clear hE bq c0 c1
    have c0 : wq.cell? ⟨bf, 0, none⟩ = some (.int .i64 first) := by simpa using BF.cell 0
    have c1 : wq.cell? ⟨bf + 1, 0, none⟩ = some (.int .i64 most) := by simpa using BM.cell 0
    obtain ⟨E, hEE⟩ : ∃ E, E = whnE first most z := ⟨_, rfl⟩
    obtain ⟨V, hVV⟩ : ∃ V, V = whnV first most z := ⟨_, rfl⟩
    rw [← hEE, ← hVV]
    have HEE := Lib.hid hEE
    have HVV := Lib.hid hVV
    clear hEE hVV
    by_cases hz : 40 < z.length
    · have j1 : (40 : Int) < (z.length : Int) := by omega
      have j2 : E = 2 := by rw [HEE.out, whnE, if_pos hz]
      have j3 : V = 0 := by rw [HVV.out, whnV, ← HEE.out, j2]; rfl
      subst j2 j3
      go_wp2
      go_ret
      exact ⟨rfl, hb⟩
    · have j1 : ¬ (40 : Int) < (z.length : Int) := by omega
      have j2 : E = 1 := by rw [HEE.out, whnE, if_neg hz, if_neg RB.out]
      have j3 : V = 0 := by rw [HVV.out, whnV, ← HEE.out, j2]; rfl
      subst j2 j3
      go_wp2
      go_ret
      exact ⟨rfl, hb⟩
  have v : RtOk first most := ⟨by omega, by omega, by omega⟩
  have RG : Hid (rtE first most 0 = 0) := Lib.hid (rt_iff.mpr ⟨v, by decide, by decide⟩)
  have r1' : 1 ≤ first := by omega
  have r2' : first ≤ most := by omega
  have r3' : most ≤ 1000000 := by omega
  by_cases n0 : n < 0
  · have hE : ¬ rtE first most n = 0 := fun q => by have := (rt_iff.mp q).2.1; omega
    go_wp2_with fail
    rw [← HW.out, ← HF.out]
    refine (waits_no first most n _ hE).mono ?_
    rintro e w1 ⟨rfl, rfl⟩
    go_wp2_with fail
    refine (when_any first most A z _ c _ h rfl).mono ?_
    rintro e wq ⟨rfl, bq⟩
    replace h := h.below bq
    replace BF := BF.below bq
    replace BM := BM.below bq
    replace hb := below_trans hb bq
    clear hE bq c0 c1
    have c0 : wq.cell? ⟨bf, 0, none⟩ = some (.int .i64 first) := by simpa using BF.cell 0
    have c1 : wq.cell? ⟨bf + 1, 0, none⟩ = some (.int .i64 most) := by simpa using BM.cell 0
    obtain ⟨E, hEE⟩ : ∃ E, E = whnE first most z := ⟨_, rfl⟩
    obtain ⟨V, hVV⟩ : ∃ V, V = whnV first most z := ⟨_, rfl⟩
    rw [← hEE, ← hVV]
    have HEE := Lib.hid hEE
    have HVV := Lib.hid hVV
    clear hEE hVV
    by_cases hz : 40 < z.length
    · have j1 : (40 : Int) < (z.length : Int) := by omega
      have j2 : E = 2 := by rw [HEE.out, whnE, if_pos hz]
      have j3 : V = 0 := by rw [HVV.out, whnV, ← HEE.out, j2]; rfl
      subst j2 j3
      go_wp2
      go_ret
      exact ⟨rfl, hb⟩
    have j1 : ¬ (40 : Int) < (z.length : Int) := by omega
    by_cases hq : fstN z < z.length
    rotate_left
    · have j2 : E = 5 := by rw [HEE.out, whnE, if_neg hz, if_pos RG.out, if_neg hq]
      have j3 : V = 0 := by rw [HVV.out, whnV, ← HEE.out, j2]; rfl
      have HS : Hid (decide (fstN z < z.length) = false) := Lib.hid (decide_eq_false hq)
      subst j2 j3
      clear hq
      go_wp2_with fail
      refine (bcontains_any A z _ c false _ h rfl HS).mono ?_
      rintro e wz ⟨rfl, rfl⟩
      go_wp2
      go_ret
      exact ⟨rfl, hb⟩
    have j2 : E = 0 := by rw [HEE.out, whnE, if_neg hz, if_pos RG.out, if_pos hq]
    have j3 : V = wtS first most (fstN z) := by rw [HVV.out, whnV, ← HEE.out, if_pos j2]
    have HS : Hid (decide (fstN z < z.length) = true) := Lib.hid (decide_eq_true hq)
    have HI : Hid (fstI z = (fstN z : Int)) := Lib.hid (by rw [fstI, if_pos hq])
    obtain ⟨K, hK⟩ : ∃ K, K = fstN z := ⟨_, rfl⟩
    have hK40 : K ≤ 40 := by omega
    rw [← hK] at j3 HI
    have J3 := Lib.hid j3
    subst j2
    clear hq hK j3
    go_wp2_with fail
    refine (bcontains_any A z _ c true _ h rfl HS).mono ?_
    rintro e wz ⟨rfl, rfl⟩
    go_wp2_with fail
    refine (bindex_any A z _ c _ h rfl).mono ?_
    rintro e wz ⟨rfl, rfl⟩
    rw [HI.out]
    go_wp2
    go_loop [16, 114] (fun t s => ∃ k : Nat, k ≤ K ∧ s = .int .i64 k ∧ t = .int .i64 (wtS first most k)) (fun _ s => K - (intOf s).toNat)
    case atStart => exact ⟨0, Nat.zero_le _, rfl, rfl⟩
    obtain ⟨k, hk, rfl, rfl⟩ := hrel
    have bd := ws_bd v k
    have e0 : 0 ≤ wtS first most k := Int.le_trans (Int.mul_nonneg (by omega) (by omega)) bd.1
    have e1 : wtS first most k ≤ 40000000 := by
      have a1 : (k : Int) * most ≤ 40 * most := Int.mul_le_mul_of_nonneg_right (by omega) (by omega)
      omega
    clear bd
    by_cases hlt : k < K
    · have i1 : (k : Int) < (K : Int) := by omega
      have HS1 : Hid (wtS first most (k + 1) = wtS first most k + wtV first most k) := Lib.hid rfl
      obtain ⟨x0, x1⟩ := wt_bd v k
      obtain ⟨sv, hs⟩ : ∃ sv, sv = wtS first most k := ⟨_, rfl⟩
      obtain ⟨xv, hxv⟩ : ∃ xv, xv = wtV first most k := ⟨_, rfl⟩
      have HXV := Lib.hid hxv
      rw [← hs, ← hxv] at HS1
      rw [← hs] at e0 e1 ⊢
      rw [← hxv] at x0 x1
      clear hs hxv
      go_wp2_with fail
      refine (wait_any first most k bf (bf + 1) _ v (by omega) BF BM).mono ?_
      rintro e wz ⟨rfl, rfl⟩
      rw [← HXV.out]
      go_wp2
      go_round
      case rel => exact ⟨k + 1, by omega, by go_num, by rw [HS1.out]⟩
      case measure => simp [intOf]; omega
    · obtain rfl : k = K := by omega
      have i1 : ¬ (k : Int) < (k : Int) := by omega
      rw [← J3.out]
      go_wp2
      go_ret
      exact ⟨rfl, hb⟩
  by_cases n1 : 40 < n
  · have hE : ¬ rtE first most n = 0 := fun q => by have := (rt_iff.mp q).2.2; omega
    go_wp2_with fail
    rw [← HW.out, ← HF.out]
    refine (waits_no first most n _ hE).mono ?_
    rintro e w1 ⟨rfl, rfl⟩
    go_wp2_with fail
    refine (when_any first most A z _ c _ h rfl).mono ?_
    rintro e wq ⟨rfl, bq⟩
    replace h := h.below bq
    replace BF := BF.below bq
    replace BM := BM.below bq
    replace hb := below_trans hb bq
    clear hE bq c0 c1
    have c0 : wq.cell? ⟨bf, 0, none⟩ = some (.int .i64 first) := by simpa using BF.cell 0
    have c1 : wq.cell? ⟨bf + 1, 0, none⟩ = some (.int .i64 most) := by simpa using BM.cell 0
    obtain ⟨E, hEE⟩ : ∃ E, E = whnE first most z := ⟨_, rfl⟩
    obtain ⟨V, hVV⟩ : ∃ V, V = whnV first most z := ⟨_, rfl⟩
    rw [← hEE, ← hVV]
    have HEE := Lib.hid hEE
    have HVV := Lib.hid hVV
    clear hEE hVV
    by_cases hz : 40 < z.length
    · have j1 : (40 : Int) < (z.length : Int) := by omega
      have j2 : E = 2 := by rw [HEE.out, whnE, if_pos hz]
      have j3 : V = 0 := by rw [HVV.out, whnV, ← HEE.out, j2]; rfl
      subst j2 j3
      go_wp2
      go_ret
      exact ⟨rfl, hb⟩
    have j1 : ¬ (40 : Int) < (z.length : Int) := by omega
    by_cases hq : fstN z < z.length
    rotate_left
    · have j2 : E = 5 := by rw [HEE.out, whnE, if_neg hz, if_pos RG.out, if_neg hq]
      have j3 : V = 0 := by rw [HVV.out, whnV, ← HEE.out, j2]; rfl
      have HS : Hid (decide (fstN z < z.length) = false) := Lib.hid (decide_eq_false hq)
      subst j2 j3
      clear hq
      go_wp2_with fail
      refine (bcontains_any A z _ c false _ h rfl HS).mono ?_
      rintro e wz ⟨rfl, rfl⟩
      go_wp2
      go_ret
      exact ⟨rfl, hb⟩
    have j2 : E = 0 := by rw [HEE.out, whnE, if_neg hz, if_pos RG.out, if_pos hq]
    have j3 : V = wtS first most (fstN z) := by rw [HVV.out, whnV, ← HEE.out, if_pos j2]
    have HS : Hid (decide (fstN z < z.length) = true) := Lib.hid (decide_eq_true hq)
    have HI : Hid (fstI z = (fstN z : Int)) := Lib.hid (by rw [fstI, if_pos hq])
    obtain ⟨K, hK⟩ : ∃ K, K = fstN z := ⟨_, rfl⟩
    have hK40 : K ≤ 40 := by omega
    rw [← hK] at j3 HI
    have J3 := Lib.hid j3
    subst j2
    clear hq hK j3
    go_wp2_with fail
    refine (bcontains_any A z _ c true _ h rfl HS).mono ?_
    rintro e wz ⟨rfl, rfl⟩
    go_wp2_with fail
    refine (bindex_any A z _ c _ h rfl).mono ?_
    rintro e wz ⟨rfl, rfl⟩
    rw [HI.out]
    go_wp2
    go_loop [16, 114] (fun t s => ∃ k : Nat, k ≤ K ∧ s = .int .i64 k ∧ t = .int .i64 (wtS first most k)) (fun _ s => K - (intOf s).toNat)
    case atStart => exact ⟨0, Nat.zero_le _, rfl, rfl⟩
    obtain ⟨k, hk, rfl, rfl⟩ := hrel
    have bd := ws_bd v k
    have e0 : 0 ≤ wtS first most k := Int.le_trans (Int.mul_nonneg (by omega) (by omega)) bd.1
    have e1 : wtS first most k ≤ 40000000 := by
      have a1 : (k : Int) * most ≤ 40 * most := Int.mul_le_mul_of_nonneg_right (by omega) (by omega)
      omega
    clear bd
    by_cases hlt : k < K
    · have i1 : (k : Int) < (K : Int) := by omega
      have HS1 : Hid (wtS first most (k + 1) = wtS first most k + wtV first most k) := Lib.hid rfl
      obtain ⟨x0, x1⟩ := wt_bd v k
      obtain ⟨sv, hs⟩ : ∃ sv, sv = wtS first most k := ⟨_, rfl⟩
      obtain ⟨xv, hxv⟩ : ∃ xv, xv = wtV first most k := ⟨_, rfl⟩
      have HXV := Lib.hid hxv
      rw [← hs, ← hxv] at HS1
      rw [← hs] at e0 e1 ⊢
      rw [← hxv] at x0 x1
      clear hs hxv
      go_wp2_with fail
      refine (wait_any first most k bf (bf + 1) _ v (by omega) BF BM).mono ?_
      rintro e wz ⟨rfl, rfl⟩
      rw [← HXV.out]
      go_wp2
      go_round
      case rel => exact ⟨k + 1, by omega, by go_num, by rw [HS1.out]⟩
      case measure => simp [intOf]; omega
    · obtain rfl : k = K := by omega
      have i1 : ¬ (k : Int) < (k : Int) := by omega
      rw [← J3.out]
      go_wp2
      go_ret
      exact ⟨rfl, hb⟩
  obtain ⟨N, rfl⟩ := Int.eq_ofNat_of_zero_le (show 0 ≤ n by omega)
  have hN : N ≤ 40 := by omega
  go_wp2_with fail
  rw [← HW.out, ← HF.out]
  refine (waits_yes first most N _ v hN).mono ?_
  rintro e w1 ⟨B, d, rfl, o1, b1⟩
  have hx := own_int o1
  replace h := h.below b1
  replace BF := BF.below b1
  replace BM := BM.below b1
  replace hb := below_trans hb b1
  clear c0 c1 o1 b1
  have c0 : w1.cell? ⟨bf, 0, none⟩ = some (.int .i64 first) := by simpa using BF.cell 0
  have c1 : w1.cell? ⟨bf + 1, 0, none⟩ = some (.int .i64 most) := by simpa using BM.cell 0
  go_wp2_with fail
  refine (when_any first most A z _ c _ h rfl).mono ?_
  rintro e wp ⟨rfl, bq⟩
  replace h := h.below bq
  replace hx := hx.below bq
  replace BF := BF.below bq
  replace BM := BM.below bq
  replace hb := below_trans hb bq
  clear bq c0 c1
  have c0 : wp.cell? ⟨bf, 0, none⟩ = some (.int .i64 first) := by simpa using BF.cell 0
  have c1 : wp.cell? ⟨bf + 1, 0, none⟩ = some (.int .i64 most) := by simpa using BM.cell 0
  obtain ⟨E, hEE⟩ : ∃ E, E = whnE first most z := ⟨_, rfl⟩
  obtain ⟨V, hVV⟩ : ∃ V, V = whnV first most z := ⟨_, rfl⟩
  rw [← hEE, ← hVV]
  have HEE := Lib.hid hEE
  have HVV := Lib.hid hVV
  clear hEE hVV
  go_wp2
  go_loopw [71] (fun s wr => ∃ k nd : Nat, k ≤ N ∧ s = .int .i64 k ∧ wr = wp.drewN nd) (fun s _ => N - (intOf s).toNat)
  case atStart => exact ⟨0, 0, Nat.zero_le _, rfl, rfl⟩
  case round =>
    obtain ⟨k, nd, hk, rfl, hwr⟩ := hrel
    have hxr : Ints wr B (tab N (wtV first most)) := by rw [hwr]; exact hx
    have BFr : Blk wr bf 3 #[.int .i64 first] := by rw [hwr]; exact BF
    have BMr : Blk wr (bf + 1) 3 #[.int .i64 most] := by rw [hwr]; exact BM
    have hr : Bls wr A z := by rw [hwr]; exact h
    have hbr : Below w.heap.size w wr := by rw [hwr]; exact below_trans hb (below_of_drewN (w := wp) (n := nd) rfl)
    have HWR := Lib.hid hwr
    clear hwr hx BF BM h hb c0 c1
    by_cases hlt : k < N
    · have i1 : (k : Int) < (N : Int) := by omega
      obtain ⟨bb, off, eB, hc'⟩ := hxr.2 (by rw [length_tab]; omega)
      subst eB
      have k0 := hc' k (by rw [length_tab]; exact hlt)
      rw [show (tab N (wtV first most)).getD k 0 = wtV first most k from gt_tab _ hlt] at k0
      obtain ⟨xv, hxv⟩ : ∃ xv, xv = wtV first most k := ⟨_, rfl⟩
      rw [← hxv] at k0
      have hw' : ∀ j, Calls Try.prog 15 #[.int .i64 k, .pointer (some ⟨bf, 0, none⟩), .pointer (some ⟨bf + 1, 0, none⟩)] (wr.drewN j) fun e w' => e = .returned (.int .i64 xv) ∧ w' = wr.drewN j := fun j => by
        rw [hxv]; exact wait_any first most k bf (bf + 1) (wr.drewN j) v (by omega) BFr BMr
      have HW' := Lib.hid hw'
      have zz : (xv != xv) = false := by simp
      clear hc' hxv hw'
      go_wp2
      go_quiet ((go_at_call 15; exact Calls.quiet_of_same (HW'.out _)))
      go_wp2
      go_roundw
      case rel => exact ⟨k + 1, nd + nq, by omega, by go_num, by rw [HWR.out]; simp [World.drewN, Nat.add_assoc]⟩
      case measure => simp [intOf]; omega
    · obtain rfl : k = N := by omega
      have i1 : ¬ (k : Int) < (k : Int) := by omega
      obtain ⟨wq, hwq⟩ : ∃ wq, wq = wr := ⟨_, rfl⟩
      subst hwq
      have h := hr
      have BF := BFr
      have BM := BMr
      have hb := hbr
      clear hxr hr BFr BMr hbr HWR
      have c0 : wq.cell? ⟨bf, 0, none⟩ = some (.int .i64 first) := by simpa using BF.cell 0
      have c1 : wq.cell? ⟨bf + 1, 0, none⟩ = some (.int .i64 most) := by simpa using BM.cell 0
      by_cases hz : 40 < z.length
      · have j1 : (40 : Int) < (z.length : Int) := by omega
        have j2 : E = 2 := by rw [HEE.out, whnE, if_pos hz]
        have j3 : V = 0 := by rw [HVV.out, whnV, ← HEE.out, j2]; rfl
        subst j2 j3
        go_wp2
        go_ret
        exact ⟨rfl, hb⟩
      have j1 : ¬ (40 : Int) < (z.length : Int) := by omega
      by_cases hq : fstN z < z.length
      rotate_left
      · have j2 : E = 5 := by rw [HEE.out, whnE, if_neg hz, if_pos RG.out, if_neg hq]
        have j3 : V = 0 := by rw [HVV.out, whnV, ← HEE.out, j2]; rfl
        have HS : Hid (decide (fstN z < z.length) = false) := Lib.hid (decide_eq_false hq)
        subst j2 j3
        clear hq
        go_wp2_with fail
        refine (bcontains_any A z _ c false _ h rfl HS).mono ?_
        rintro e wz ⟨rfl, rfl⟩
        go_wp2
        go_ret
        exact ⟨rfl, hb⟩
      have j2 : E = 0 := by rw [HEE.out, whnE, if_neg hz, if_pos RG.out, if_pos hq]
      have j3 : V = wtS first most (fstN z) := by rw [HVV.out, whnV, ← HEE.out, if_pos j2]
      have HS : Hid (decide (fstN z < z.length) = true) := Lib.hid (decide_eq_true hq)
      have HI : Hid (fstI z = (fstN z : Int)) := Lib.hid (by rw [fstI, if_pos hq])
      obtain ⟨K, hK⟩ : ∃ K, K = fstN z := ⟨_, rfl⟩
      have hK40 : K ≤ 40 := by omega
      rw [← hK] at j3 HI
      have J3 := Lib.hid j3
      subst j2
      clear hq hK j3
      go_wp2_with fail
      refine (bcontains_any A z _ c true _ h rfl HS).mono ?_
      rintro e wz ⟨rfl, rfl⟩
      go_wp2_with fail
      refine (bindex_any A z _ c _ h rfl).mono ?_
      rintro e wz ⟨rfl, rfl⟩
      rw [HI.out]
      go_wp2
      go_loop [16, 114] (fun t s => ∃ k : Nat, k ≤ K ∧ s = .int .i64 k ∧ t = .int .i64 (wtS first most k)) (fun _ s => K - (intOf s).toNat)
      case atStart => exact ⟨0, Nat.zero_le _, rfl, rfl⟩
      obtain ⟨k, hk, rfl, rfl⟩ := hrel
      have bd := ws_bd v k
      have e0 : 0 ≤ wtS first most k := Int.le_trans (Int.mul_nonneg (by omega) (by omega)) bd.1
      have e1 : wtS first most k ≤ 40000000 := by
        have a1 : (k : Int) * most ≤ 40 * most := Int.mul_le_mul_of_nonneg_right (by omega) (by omega)
        omega
      clear bd
      by_cases hlt : k < K
      · have i1 : (k : Int) < (K : Int) := by omega
        have HS1 : Hid (wtS first most (k + 1) = wtS first most k + wtV first most k) := Lib.hid rfl
        obtain ⟨x0, x1⟩ := wt_bd v k
        obtain ⟨sv, hs⟩ : ∃ sv, sv = wtS first most k := ⟨_, rfl⟩
        obtain ⟨xv, hxv⟩ : ∃ xv, xv = wtV first most k := ⟨_, rfl⟩
        have HXV := Lib.hid hxv
        rw [← hs, ← hxv] at HS1
        rw [← hs] at e0 e1 ⊢
        rw [← hxv] at x0 x1
        clear hs hxv
        go_wp2_with fail
        refine (wait_any first most k bf (bf + 1) _ v (by omega) BF BM).mono ?_
        rintro e wz ⟨rfl, rfl⟩
        rw [← HXV.out]
        go_wp2
        go_round
        case rel => exact ⟨k + 1, by omega, by go_num, by rw [HS1.out]⟩
        case measure => simp [intOf]; omega
      · obtain rfl : k = K := by omega
        have i1 : ¬ (k : Int) < (k : Int) := by omega
        rw [← J3.out]
        go_wp2
        go_ret
        exact ⟨rfl, hb⟩

end Go.Proofs.Ytnpdcllfdoobeaa
