
/-
  The walk of the law FifoMore.
-/
import Derived.Test.YtmejapenidociaaFifoA
import Derived.Test.YtmejapenidociaaDelA
import Derived.Test.YtmejapenidociaaKeepA
import Derived.Deep.DeepCutAuto
namespace Go.Proofs.Ytmejapenidociaa
set_option linter.all false
open Go.RowKit Go.Shelf



theorem delete_at (g base i N K cap : Nat) (l : List Pk) (w : World) (hN : N = l.length) (hK : K + 1 = N) (hi : i < N) (h61 : l.length ≤ 61) (own : w.ownsRow base 32 3 (.slice (some ⟨g, 0, none⟩) N cap) N (pcs l)) :
    Calls Try.prog 16 #[.slice (some ⟨g, 0, none⟩) N cap, .int .i64 i, .int .i64 ((i : Int) + 1)] w fun e w' =>
      e = .returned (.slice (some ⟨g, 0, none⟩) K cap) ∧ Pks w' (some ⟨g, 0, none⟩) (l.eraseIdx i) ∧ Below base w w' := by
  obtain ⟨m, hm⟩ : ∃ m, m = N - i - 1 := ⟨_, rfl⟩
  obtain rfl : N = i + m + 1 := by omega
  obtain rfl : K = i + m := by omega
  have := delete_pk g base i m cap l w hN.symm h61 own
  rw [show ((i + 1 : Nat) : Int) = (i : Int) + 1 by omega] at this
  exact this
/-- One packet larger. -/
def grP (l : List Pk) (i : Nat) (b : Int) : List Pk := l.set i ⟨(pk l i).at_, min 1000 ((pk l i).size + b), (pk l i).flow⟩
theorem pk_gr {l : List Pk} {i : Nat} {b : Int} (hi : i < l.length) (k : Nat) : pk (grP l i b) k = if k = i then ⟨(pk l i).at_, min 1000 ((pk l i).size + b), (pk l i).flow⟩ else pk l k := by
  unfold grP
  by_cases e : k = i
  · subst e; rw [if_pos rfl]; exact pk_of (List.getElem?_set_self hi)
  · rw [if_neg e]; simp only [pk, List.getD]; rw [List.getElem?_set_ne (Ne.symm e)]
theorem qu_gr {l : List Pk} (q : Qu l) {i : Nat} {b : Int} (hi : i < l.length) (hb : 0 ≤ b) : Qu (grP l i b) := by
  have hl : (grP l i b).length = l.length := List.length_set
  have ev : ∀ k, (pk (grP l i b) k).at_ = (pk l k).at_ := fun k => by
    rw [pk_gr hi]; split
    · rename_i e; rw [e]
    · rfl
  refine ⟨by rw [hl]; exact q.le, fun k hk => ?_, fun k hk => ?_⟩
  · rw [hl] at hk
    have o := q.ok k hk
    have oi := q.ok i hi
    have := oi.s0
    rw [pk_gr hi]
    split
    · exact ⟨oi.f0, oi.f1, by simp only; omega, by simp only; omega, oi.a0, oi.a1⟩
    · exact o
  · rw [hl] at hk
    rw [ev, ev]; exact q.up k hk

set_option maxRecDepth 100000 in
set_option maxHeartbeats 6400000 in
theorem walk_FifoMore (a0 : Option Addr) (c0 : Nat) (l0 : List Pk) (n m : Int) (w : World) (h0 : Pks w a0 l0) (k0 : l0.length ≤ c0) (_hn : (Lit.int .i64 n).wf = true) (_hm : (Lit.int .i64 m).wf = true) :
    Calls Try.prog 6 #[.slice a0 l0.length c0, .int .i64 n, .int .i64 m] w fun e w' => e = .returned (.bool true) ∧ Below w.heap.size w w' := by
  have hb : Below w.heap.size w w := Below.refl _ _
  clear _hn _hm
  by_cases hE : pksE l0 = 0
  · have HE := Lib.hid hE
    have q := qu_of hE
    have hle := q.le
    clear hE
    by_cases z0 : l0.length = 0
    · have e0 : ((l0.length : Int) == 0) = true := by simp [z0]
      have Z0 := Lib.hid z0
      clear z0
      go_enter Try.func6, Try.ntmps6
      go_wp2_with fail
      refine (frun_yes _ [⟨0, 1, 0⟩, ⟨0, 1, 0⟩] [1, 2] _ 2 _ _ (Lib.hid (by decide)) (Lib.hid (by decide)) (by exact Pks.lit _ [⟨0, 1, 0⟩, ⟨0, 1, 0⟩] _ _ rfl (by decide)) rfl rfl).mono ?_
      rintro e w1 ⟨Ax, cx, rfl, hx, kx, bw1⟩
      replace bw1 := below_of1 bw1
      replace h0 := h0.below bw1
      replace hb := below_trans hb bw1
      clear bw1
      go_wp2_with fail
      refine (equal_at Ax _ [1, 2] [1, 2] _ _ _ _ _ (by exact Ints.alloc hx _) (by exact Ints.lit _ [1, 2] _ _ rfl (by decide)) rfl rfl).mono ?_
      rintro e w2 ⟨rfl, nw2, hww2⟩
      have bw2 := below_of_drewN hww2
      clear hww2
      replace bw2 := below_of1 bw2
      replace h0 := h0.below bw2
      replace hb := below_trans hb bw2
      clear bw2
      rw [eqB_true rfl]
      clear hx kx
      go_wp2_with fail
      refine (frun_yes a0 l0 (dnL l0) _ l0.length c0 _ HE (Lib.hid rfl) h0 rfl rfl).mono ?_
      rintro e w3 ⟨Ad, cd, rfl, hd, kd, bw3⟩
      replace h0 := h0.below bw3
      replace hb := below_trans hb bw3
      clear bw3
      go_wp2
      go_ret
      exact ⟨rfl, hb⟩
    have e0 : ((l0.length : Int) == 0) = false := by rw [beq_eq_false_iff_ne]; omega
    have p0 : 0 < l0.length := by omega
    obtain ⟨K, hK⟩ : ∃ K, K = l0.length - 1 := ⟨_, rfl⟩
    have i3 : (l0.length : Int) - 1 = (K : Int) := by omega
    have kl : K + 1 ≤ l0.length := by omega
    have kl' : l0.length ≤ K + 1 := by omega
    have HK : Hid (K + 1 = l0.length) := Lib.hid (by omega)
    obtain ⟨I, hI⟩ := Int.eq_ofNat_of_zero_le (wi_nonneg n (l0.length : Int) (by omega))
    have il : I < l0.length := by have := wi_lt n (l0.length : Int) (by omega); omega
    have HI := Lib.hid hI
    obtain ⟨B, hB⟩ : ∃ y, y = wi m 500 := ⟨_, rfl⟩
    have Blo : 0 ≤ B := by rw [hB]; exact wi_nonneg _ _ (by omega)
    have Bhi : B < 500 := by rw [hB]; exact wi_lt m 500 (by omega)
    have HB := Lib.hid hB
    clear hB
    obtain ⟨L1, hL1⟩ : ∃ L1, L1 = l0.eraseIdx I := ⟨_, rfl⟩
    obtain ⟨L2, hL2⟩ : ∃ L2, L2 = grP l0 I B := ⟨_, rfl⟩
    have l1 : L1.length = K := by rw [hL1, List.length_eraseIdx, if_pos il]; omega
    have l2 : L2.length = l0.length := by rw [hL2]; exact List.length_set
    have HE1 : Hid (pksE L1 = 0) := Lib.hid (qu_iff.2 (by rw [hL1]; exact qu_less q il))
    have HE2 : Hid (pksE L2 = 0) := Lib.hid (qu_iff.2 (by rw [hL2]; exact qu_gr q il Blo))
    have L1L := Lib.hid l1
    have L2L := Lib.hid l2
    have D1 : Hid (∀ k, k < l0.length → dnV l0 (k + 1) ≤ dnV L2 (k + 1)) := Lib.hid (fun k hk => dn_more (l := l0) (m := L2) (fun i hi => by
      rw [hL2, pk_gr il]
      have := (q.ok I il).s1
      by_cases e : i = I
      · subst e; rw [if_pos rfl]; exact ⟨rfl, by simp only; omega⟩
      · rw [if_neg e]; exact ⟨rfl, Int.le_refl _⟩) (k + 1) (by omega))
    have D2 : Hid (∀ k, k < I → dnV L1 (k + 1) = dnV l0 (k + 1)) := Lib.hid (fun k hk => dn_same (l := l0) (m := L1) (n := I) (fun i hi => by rw [hL1, pk_less, if_pos hi]) (k + 1) (by omega))
    have D3 : Hid (∀ k, I < k → k < l0.length → dnV L1 k ≤ dnV l0 (k + 1)) := Lib.hid (fun k hk hk' => by
      have := dn_less q il (k - I) (by omega)
      rw [← hL1, show I + (k - I) = k by omega] at this
      exact this)
    have HL1 := Lib.hid hL1
    have HL2 := Lib.hid hL2
    clear hK hI z0 l1 l2 hL1 hL2
    go_enter Try.func6, Try.ntmps6
    go_wp2_with fail
    refine (frun_yes _ [⟨0, 1, 0⟩, ⟨0, 1, 0⟩] [1, 2] _ 2 _ _ (Lib.hid (by decide)) (Lib.hid (by decide)) (by exact Pks.lit _ [⟨0, 1, 0⟩, ⟨0, 1, 0⟩] _ _ rfl (by decide)) rfl rfl).mono ?_
    rintro e w1 ⟨Ax, cx, rfl, hx, kx, bw1⟩
    replace bw1 := below_of1 bw1
    replace h0 := h0.below bw1
    replace hb := below_trans hb bw1
    clear bw1
    go_wp2_with fail
    refine (equal_at Ax _ [1, 2] [1, 2] _ _ _ _ _ (by exact Ints.alloc hx _) (by exact Ints.lit _ [1, 2] _ _ rfl (by decide)) rfl rfl).mono ?_
    rintro e w2 ⟨rfl, nw2, hww2⟩
    have bw2 := below_of_drewN hww2
    clear hww2
    replace bw2 := below_of1 bw2
    replace h0 := h0.below bw2
    replace hb := below_trans hb bw2
    clear bw2
    rw [eqB_true rfl]
    clear hx kx
    go_wp2_with fail
    refine (frun_yes a0 l0 (dnL l0) _ l0.length c0 _ HE (Lib.hid rfl) h0 rfl rfl).mono ?_
    rintro e w3 ⟨Ad, cd, rfl, hd, kd, bw3⟩
    replace h0 := h0.below bw3
    replace hb := below_trans hb bw3
    clear bw3
    go_wp2_with fail
    refine (within_any n (l0.length : Int) _ (by omega) (by omega)).mono ?_
    rintro e w' ⟨rfl, rfl⟩
    rw [HI.out]
    go_wp2_with fail
    refine (within_any m 500 _ (by omega) (by omega)).mono ?_
    rintro e w' ⟨rfl, rfl⟩
    rw [← HB.out]
    go_wp2_with fail
    refine (clone_pk a0 l0 c0 _ h0 p0 (by omega)).mono ?_
    rintro e w5 ⟨A5, c5, rfl, own5, b5⟩
    obtain ⟨g, cap, hv, hg, hgl⟩ := own5.form p0
    obtain ⟨rfl, rfl⟩ : A5 = some ⟨g, 0, none⟩ ∧ c5 = cap := by injection hv with a b c; exact ⟨a, c⟩
    clear hv
    go_wp2_with fail
    refine (delete_at g w3.heap.size I l0.length K c5 l0 _ rfl HK.out il (by omega) own5).mono ?_
    rintro e w6 ⟨rfl, hless, b6⟩
    rw [← HL1.out] at hless
    have b36 : Below w3.heap.size w3 w6 := b5.trans b6
    replace h0 := h0.below b36
    replace hd := hd.below b36
    replace hb := below_trans hb b36
    clear own5 b5 b6 b36 hg hgl
    go_wp2_with fail
    refine (clone_pk a0 l0 c0 _ h0 p0 (by omega)).mono ?_
    rintro e w7 ⟨A7, c7, rfl, own7, b7⟩
    obtain ⟨g7, cap7, hv, hg7, hgl7⟩ := own7.form p0
    obtain ⟨rfl, rfl⟩ : A7 = some ⟨g7, 0, none⟩ ∧ c7 = cap7 := by injection hv with a b c; exact ⟨a, c⟩
    clear hv
    obtain ⟨r, hr⟩ : ∃ r, r = pk l0 I := ⟨_, rfl⟩
    have ok := q.ok I il
    rw [← hr] at ok
    have rz0 := ok.s0
    have rz1 := ok.s1
    have gk : l0[I]? = some r := by rw [hr]; exact pk_get il
    have hc0 : w7.cell? ⟨g7, I * 3 + 1, none⟩ = some (.int .i64 r.size) := by
      rw [own7.cellAt (I * 3 + 1) (by omega)]; exact (pcs_get gk).2.1
    have hf0 := own7.frozenAt (I * 3 + 1)
    have HO2 : Hid (∀ u : Int, u = min 1000 (r.size + B) → Pks (w7.setCell ⟨g7, I * 3 + 1, none⟩ (.int .i64 u)) (some ⟨g7, 0, none⟩) L2) := Lib.hid (fun u hu => by
      have o := (own7.stored (I * 3 + 1) (.int .i64 u)).1
      rw [pcs_size _ gk, show l0.set I ⟨r.at_, u, r.flow⟩ = L2 by rw [HL2.out, grP, hu, hr]] at o
      have o' : (w7.setCell ⟨g7, I * 3 + 1, none⟩ (.int .i64 u)).ownsRow w6.heap.size 32 3 (.slice (some ⟨g7, 0, none⟩) L2.length c7) L2.length (pcs L2) := by rw [L2L.out]; exact o
      exact Pks.of_own o')
    have HB2 : Hid (∀ u : Value, Below w6.heap.size w6 (w7.setCell ⟨g7, I * 3 + 1, none⟩ u)) := Lib.hid (fun u => b7.setCell (p := ⟨g7, I * 3 + 1, none⟩) hg7 u)
    have i5 : (I : Int) < (l0.length : Int) := by omega
    clear own7 b7 hr ok gk hg7 hgl7
    obtain ⟨W, hW⟩ : ∃ W, W = w7.setCell ⟨g7, I * 3 + 1, none⟩ (.int .i64 (min 1000 (r.size + B))) := ⟨_, rfl⟩
    have HW := Lib.hid hW
    have hmore : Pks W (some ⟨g7, 0, none⟩) L2 := by rw [hW]; exact HO2.out _ rfl
    have bW : Below w6.heap.size w6 W := by rw [hW]; exact HB2.out _
    replace hd := hd.below bW
    replace hless := hless.below bW
    replace hb := below_trans hb bW
    clear hW bW HO2 HB2
    go_upto_region 10 with fail
    go_cut [] (fun wx => wx = W)
    case first =>
      rcases Int.lt_trichotomy (r.size + B) 1000 with c | c | c
      all_goals
        go_wp2_with fail
        go_meet
        rw [HW.out]
        congr 2
        omega
    case rest =>
      subst hcut
      go_wp2_with fail
      refine (frun_yes _ L1 (dnL L1) _ K _ _ HE1 (Lib.hid rfl) hless L1L.out.symm L1L.out.symm).mono ?_
      rintro e w8 ⟨Ax, cx, rfl, hx, kx, bw8⟩
      replace hd := hd.below bw8
      replace hmore := hmore.below bw8
      replace hb := below_trans hb bw8
      clear bw8
      go_wp2_with fail
      refine (frun_yes _ L2 (dnL L2) _ l0.length _ _ HE2 (Lib.hid rfl) hmore L2L.out.symm L2L.out.symm).mono ?_
      rintro e w9 ⟨Ay, cy, rfl, hy, ky, bw9⟩
      replace hd := hd.below bw9
      replace hx := hx.below bw9
      replace hb := below_trans hb bw9
      clear bw9
      go_wp2
      go_loopw [120] (fun v wr => ∃ k nd : Nat, k ≤ l0.length ∧ v = .int .i64 k ∧ wr = w9.drewN nd) (fun v _ => l0.length - (intOf v).toNat)
      case atStart => exact ⟨0, 0, Nat.zero_le _, rfl, rfl⟩
      case round =>
        obtain ⟨k, nd, hk, rfl, rfl⟩ := hrel
        by_cases hlt : k < l0.length
        · obtain ⟨b1, o1, D, e1', hc1, HD⟩ := hd.at_ (k := k) (by rw [length_dnL]; exact hlt)
          obtain ⟨b2, o2, Y, e2', hc2, HY⟩ := hy.at_ (k := k) (by rw [length_dnL, L2L.out]; exact hlt)
          subst e1' e2'
          have hD := gt_of_get HD.out
          have hY := gt_of_get HY.out
          rw [gt_dnL hlt] at hD
          rw [gt_dnL (by rw [L2L.out]; exact hlt)] at hY
          have t1 : decide (Y < D) = false := decide_eq_false (by rw [← hD, ← hY]; have := D1.out k hlt; omega)
          have i5 : (k : Int) < (l0.length : Int) := by omega
          rcases Nat.lt_trichotomy k I with c | c | c
          · obtain ⟨b3, o3, X, e3', hc3, HX⟩ := hx.at_ (k := k) (by rw [length_dnL, L1L.out]; omega)
            subst e3'
            have hX := gt_of_get HX.out
            rw [gt_dnL (by rw [L1L.out]; omega)] at hX
            have hXD : X = D := by rw [← hX, ← hD]; exact D2.out k c
            have t2 : decide ((k : Int) < (I : Int)) = true := decide_eq_true (by omega)
            have t2' : decide (k < I) = true := decide_eq_true c
            have t3 : (X != D) = false := by simp [hXD]
            have t4 : decide ((I : Int) < (k : Int)) = false := decide_eq_false (by omega)
            have t4' : decide (I < k) = false := decide_eq_false (by omega)
            have i6 : (k : Int) < (K : Int) := by omega
            clear hD hY hX hXD
            go_wp2
            go_quiet (fail)
            go_wp2
            go_roundw
            case rel => exact ⟨k + 1, nd + nq, by omega, by go_num, by simp [World.drewN, Nat.add_assoc]⟩
            case measure => simp [intOf]; omega
          · subst c
            clear hD hY
            go_wp2
            go_quiet (fail)
            go_wp2
            go_roundw
            case rel => exact ⟨k + 1, nd + nq, by omega, by go_num, by simp [World.drewN, Nat.add_assoc]⟩
            case measure => simp [intOf]; omega
          · obtain ⟨k', hk'⟩ : ∃ k', k' = k - 1 := ⟨_, rfl⟩
            obtain ⟨b3, o3, X, e3', hc3, HX⟩ := hx.at_ (k := k') (by rw [length_dnL, L1L.out]; omega)
            subst e3'
            have hX := gt_of_get HX.out
            rw [gt_dnL (by rw [L1L.out]; omega), show k' + 1 = k by omega] at hX
            have hXD : X ≤ D := by rw [← hX, ← hD]; exact D3.out k c hlt
            have t2 : decide ((k : Int) < (I : Int)) = false := decide_eq_false (by omega)
            have t2' : decide (k < I) = false := decide_eq_false (by omega)
            have t3 : decide (D < X) = false := decide_eq_false (by omega)
            have t4 : decide ((I : Int) < (k : Int)) = true := decide_eq_true (by omega)
            have t4' : decide (I < k) = true := decide_eq_true c
            have i6 : (k' : Int) < (K : Int) := by omega
            have w2' : IntKind.i64.wrap ((k : Int) - 1) = (k' : Int) := by rw [show (k : Int) - 1 = (k' : Int) by omega]; exact IntWalk.i64_in _ ⟨by omega, by omega⟩
            have w4' : (k : Int) - 1 = (k' : Int) := by omega
            clear hD hY hX hXD hk'
            go_wp2
            go_quiet (fail)
            go_wp2
            go_roundw
            case rel => exact ⟨k + 1, nd + nq, by omega, by go_num, by simp [World.drewN, Nat.add_assoc]⟩
            case measure => simp [intOf]; omega
        · go_wp2
          go_ret
          exact ⟨rfl, below_trans hb (below_of_drewN rfl)⟩
  · have z0 : ¬ l0.length = 0 := fun z => hE (by rw [List.eq_nil_of_length_eq_zero z]; rfl)
    have e1 : (pksE l0 != 0) = true := by simp [hE]
    have e2 : ((0 : Int) == (l0.length : Int)) = false := by rw [beq_eq_false_iff_ne]; omega
    have e3 : ((l0.length : Int) == 0) = false := by rw [beq_eq_false_iff_ne]; omega
    clear z0
    go_enter Try.func6, Try.ntmps6
    go_wp2_with fail
    refine (frun_yes _ [⟨0, 1, 0⟩, ⟨0, 1, 0⟩] [1, 2] _ 2 _ _ (Lib.hid (by decide)) (Lib.hid (by decide)) (by exact Pks.lit _ [⟨0, 1, 0⟩, ⟨0, 1, 0⟩] _ _ rfl (by decide)) rfl rfl).mono ?_
    rintro e w1 ⟨Ax, cx, rfl, hx, kx, bw1⟩
    replace bw1 := below_of1 bw1
    replace h0 := h0.below bw1
    replace hb := below_trans hb bw1
    clear bw1
    go_wp2_with fail
    refine (equal_at Ax _ [1, 2] [1, 2] _ _ _ _ _ (by exact Ints.alloc hx _) (by exact Ints.lit _ [1, 2] _ _ rfl (by decide)) rfl rfl).mono ?_
    rintro e w2 ⟨rfl, nw2, hww2⟩
    have bw2 := below_of_drewN hww2
    clear hww2
    replace bw2 := below_of1 bw2
    replace h0 := h0.below bw2
    replace hb := below_trans hb bw2
    clear bw2
    rw [eqB_true rfl]
    clear hx kx
    go_wp2_with fail
    refine (frun_no a0 l0 c0 _ hE h0).mono ?_
    rintro e w3 ⟨Ax, cx, rfl, b1⟩
    replace hb := below_trans hb b1
    clear b1
    go_wp2
    go_ret
    exact ⟨rfl, hb⟩

end Go.Proofs.Ytmejapenidociaa
