
/-
  The walk of the law ShareMore over the contracts of package share.
-/
import Derived.Test.YtjlkcjaofglpmaaShrA
import Derived.Test.YtjlkcjaofglpmaaLineK
import Derived.Deep.DeepCutAuto
import Derived.Deep.RegionWith
namespace Go.Proofs.Ytjlkcjaofglpmaa
set_option linter.all false
open Go.RowKit Go.Shelf



theorem gt_setL {l : List Int} {i k : Nat} {x : Int} (hk : k < l.length) : gt (l.set i x) k = if k = i then x else gt l k := by
  by_cases e : k = i
  · rw [if_pos e]; subst e; exact gt_of_get (by rw [List.getElem?_set_self hk])
  · rw [if_neg e]
    refine gt_of_get ?_
    rw [List.getElem?_set_ne (Ne.symm e), List.getElem?_eq_getElem hk, gt_of_get (List.getElem?_eq_getElem hk)]
set_option maxRecDepth 100000 in
set_option maxHeartbeats 6400000 in
theorem v_ShareMore (K : ShrC) (a0 : Option Addr) (c0 : Nat) (l0 : List Int) (n1 n2 n3 n4 : Int) (w : World)
    (h0 : Ints w a0 l0) (_k0 : l0.length ≤ c0) (_1 : (Lit.int .i64 n1).wf = true) (_2 : (Lit.int .i64 n2).wf = true) (_3 : (Lit.int .i64 n3).wf = true) (_4 : (Lit.int .i64 n4).wf = true) :
    Calls Try.prog 9 #[.slice a0 l0.length c0, .int .i64 n1, .int .i64 n2, .int .i64 n3, .int .i64 n4] w fun e w' => e = .returned (.bool true) ∧ Below w.heap.size w w' := by
  have hb : Below w.heap.size w w := Below.refl _ _
  clear _k0 _1 _2 _3 _4
  by_cases hE : shE l0 n1 = 0
  · have ok := sh_iff.1 hE
    have v := ok.lags
    have r0 := ok.r0
    have r1 := ok.r1
    have HE := Lib.hid hE
    have hle := v.le
    clear hE ok
    by_cases hz : l0.length = 0
    · have e1 : ((l0.length : Int) == 0) = true := by rw [hz]; rfl
      have e2 : (l0.length : Int) = 0 := by omega
      clear hz
      go_enter Try.func9, Try.ntmps9
      go_wp2_with fail
      refine (K.done_yes _ [1, 1, 1] [1, 1, 2] _ 3 _ 2 _ (by exact Ints.lit _ [1, 1, 1] _ _ rfl (by decide)) (Lib.hid (by decide)) (Lib.hid (by decide)) rfl rfl).mono ?_
      rintro e w1 ⟨Ax, cx, rfl, hx, kx, bw1⟩
      replace bw1 := below_of1 bw1
      replace h0 := h0.below bw1
      replace hb := below_trans hb bw1
      clear bw1
      go_wp2_with fail
      refine (equal_at Ax _ [1, 1, 2] [1, 1, 2] _ _ _ _ _ (by exact Ints.alloc hx _) (by exact Ints.lit _ [1, 1, 2] _ _ rfl (by decide)) rfl rfl).mono ?_
      rintro e w2 ⟨rfl, nw2, hww2⟩
      have bw2 := below_of_drewN hww2
      clear hww2
      replace bw2 := below_of1 bw2
      replace h0 := h0.below bw2
      replace hb := below_trans hb bw2
      clear bw2
      rw [eqB_true rfl]
      clear hx kx
      go_wp2_with fail
      refine (K.done_yes a0 l0 (shL l0 n1) _ l0.length c0 n1 _ h0 HE (Lib.hid rfl) rfl rfl).mono ?_
      rintro e w3 ⟨Ax, cx, rfl, hx, kx, bw3⟩
      replace h0 := h0.below bw3
      replace hb := below_trans hb bw3
      clear bw3
      go_wp2
      go_ret
      exact ⟨rfl, hb⟩
    · have e1 : ((l0.length : Int) == 0) = false := by rw [beq_eq_false_iff_ne]; omega
      have p1 : 1 ≤ (l0.length : Int) := by omega
      obtain ⟨I, hI⟩ := Int.eq_ofNat_of_zero_le (wi_nonneg n3 (l0.length : Int) (by omega))
      have hi : I < l0.length := by have := wi_lt n3 (l0.length : Int) (by omega); omega
      have HI := Lib.hid hI
      obtain ⟨S, hS⟩ : ∃ y, y = wi n2 (10000 - n1 + 1) := ⟨_, rfl⟩
      have Slo : 0 ≤ S := by rw [hS]; exact wi_nonneg _ _ (by omega)
      have Shi : S < (10000 - n1 + 1) := by rw [hS]; exact wi_lt n2 (10000 - n1 + 1) (by omega)
      have HS := Lib.hid hS
      clear hS
      obtain ⟨z, hz0⟩ : ∃ z, z = gt l0 I := ⟨_, rfl⟩
      have y0 : 0 ≤ z := by rw [hz0]; exact v.lo I hi
      have y1 : z ≤ 1000 := by rw [hz0]; exact v.hi I hi
      obtain ⟨L, hL⟩ : ∃ y, y = wi n4 (z + 1) := ⟨_, rfl⟩
      have Llo : 0 ≤ L := by rw [hL]; exact wi_nonneg _ _ (by omega)
      have Lhi : L < (z + 1) := by rw [hL]; exact wi_lt n4 (z + 1) (by omega)
      have HL := Lib.hid hL
      clear hL
      obtain ⟨M, hM⟩ : ∃ M, M = l0.set I (z - L) := ⟨_, rfl⟩
      have HM := Lib.hid hM
      have ML : Hid (M.length = l0.length) := Lib.hid (by rw [hM, List.length_set])
      have hM' : ∀ k, k < l0.length → gt M k = if k = I then z - L else gt l0 k := fun k hk => by rw [hM, gt_setL hk]
      have vM : Lags M := by
        refine ⟨by rw [ML.out]; exact hle, fun k hk => ?_, fun k hk => ?_⟩ <;> rw [ML.out] at hk <;> rw [hM' k hk] <;> split
        · omega
        · exact v.lo k hk
        · omega
        · exact v.hi k hk
      have HEM : Hid (shE M n1 = 0) := Lib.hid (sh_iff.2 ⟨vM, r0, r1⟩)
      have HES : Hid (shE l0 (n1 + S) = 0) := Lib.hid (sh_iff.2 ⟨v, by omega, by omega⟩)
      have HF : Hid (∀ k, k < l0.length → shV l0 (n1 + S) k ≤ shV l0 n1 k) := Lib.hid (fun k hk => sh_fast v (by omega) (by omega) hk)
      have HG : Hid (∀ k, k < l0.length → shV M n1 k ≤ shV l0 n1 k) := Lib.hid (fun k hk => sh_less v vM (by omega) ML.out (fun j hj => by
        rw [hM' j hj]
        by_cases e : j = I
        · subst e; rw [if_pos rfl]; omega
        · rw [if_neg e]; omega) hk)
      have HYI := Lib.hid hz0
      clear hI hz hM hM' vM hz0
      have s1 : IntKind.i64.wrap (z + 1) = z + 1 := IntWalk.i64_in _ ⟨by omega, by omega⟩
      have s2 : IntKind.i64.wrap (z - L) = z - L := IntWalk.i64_in _ ⟨by omega, by omega⟩
      have i1 : (I : Int) < (l0.length : Int) := by omega
      go_enter Try.func9, Try.ntmps9
      go_wp2_with fail
      refine (K.done_yes _ [1, 1, 1] [1, 1, 2] _ 3 _ 2 _ (by exact Ints.lit _ [1, 1, 1] _ _ rfl (by decide)) (Lib.hid (by decide)) (Lib.hid (by decide)) rfl rfl).mono ?_
      rintro e w1 ⟨Ax, cx, rfl, hx, kx, bw1⟩
      replace bw1 := below_of1 bw1
      replace h0 := h0.below bw1
      replace hb := below_trans hb bw1
      clear bw1
      go_wp2_with fail
      refine (equal_at Ax _ [1, 1, 2] [1, 1, 2] _ _ _ _ _ (by exact Ints.alloc hx _) (by exact Ints.lit _ [1, 1, 2] _ _ rfl (by decide)) rfl rfl).mono ?_
      rintro e w2 ⟨rfl, nw2, hww2⟩
      have bw2 := below_of_drewN hww2
      clear hww2
      replace bw2 := below_of1 bw2
      replace h0 := h0.below bw2
      replace hb := below_trans hb bw2
      clear bw2
      rw [eqB_true rfl]
      clear hx kx
      go_wp2_with fail
      refine (K.done_yes a0 l0 (shL l0 n1) _ l0.length c0 n1 _ h0 HE (Lib.hid rfl) rfl rfl).mono ?_
      rintro e w3 ⟨Ax, cx, rfl, hx, kx, bw3⟩
      replace h0 := h0.below bw3
      replace hb := below_trans hb bw3
      clear bw3
      go_wp2_with fail
      refine (within_any n2 (10000 - n1 + 1) _ (by omega) (by omega)).mono ?_
      rintro e w' ⟨rfl, rfl⟩
      rw [← HS.out]
      go_wp2_with fail
      refine (K.done_yes a0 l0 (shL l0 (n1 + S)) _ l0.length c0 (n1 + S) _ h0 HES (Lib.hid rfl) rfl rfl).mono ?_
      rintro e w4 ⟨Ay, cy, rfl, hy, ky, bw4⟩
      replace h0 := h0.below bw4
      replace hx := hx.below bw4
      replace hb := below_trans hb bw4
      clear bw4
      go_wp2_with fail
      refine (within_n n3 l0.length I _ p1 (by omega) HI).mono ?_
      rintro e w' ⟨rfl, rfl⟩
      go_wp2_with fail
      refine (clone_all a0 l0 c0 _ h0 (by omega)).mono ?_
      rintro e w5 ⟨Ab, cb, rfl, ob, b5⟩
      clear h0
      obtain ⟨g, cap, hv', hg, hgl⟩ := ob.form (by omega)
      obtain ⟨rfl, rfl⟩ : Ab = some ⟨g, 0, none⟩ ∧ cb = cap := by injection hv' with a b c; exact ⟨a, c⟩
      clear hv'
      have hc0 : w5.cell? ⟨g, I, none⟩ = some (.int .i64 z) := by
        rw [ob.cellAt I (by omega), List.getElem?_map, List.getElem?_eq_getElem hi, HYI.out, gt_of_get (List.getElem?_eq_getElem hi)]; rfl
      have hf0 := ob.frozenAt I
      have HR2 : Hid (((w5.setCell ⟨g, I, none⟩ (.int .i64 (z - L))).drew).ownsRow w4.heap.size 3 1 (.slice (some ⟨g, 0, none⟩) l0.length cb) l0.length (M.map (Value.int .i64))) := Lib.hid (by
        have q := (ob.stored I (.int .i64 (z - L))).1
        rw [show (l0.map (Value.int .i64)).set I (.int .i64 (z - L)) = M.map (Value.int .i64) by rw [HM.out, List.map_set]] at q
        exact q)
      have HB2 : Hid (Below w4.heap.size w4 ((w5.setCell ⟨g, I, none⟩ (.int .i64 (z - L))).drew)) := Lib.hid (by
        have q := b5.setCell (p := ⟨g, I, none⟩) hg (.int .i64 (z - L))
        exact ⟨q.os, q.tape, q.output, q.size, q.block⟩)
      have HLN : ∀ W : World, Calls Try.prog 20 #[.int .i64 n4, .int .i64 (z + 1)] W fun e w' => e = .returned (.int .i64 L) ∧ W = w' := fun W => by
        have := within_any n4 (z + 1) W (by omega) (by omega)
        rwa [← HL.out] at this
      have nn : ¬ g < w4.heap.size := by omega
      go_upto_region 10 with fail
      go_cut [87] (fun s wx => wx.ownsRow w4.heap.size 3 1 (.slice (some ⟨g, 0, none⟩) l0.length cb) l0.length (M.map (Value.int .i64)) ∧ Below w4.heap.size w4 wx)
      case first =>
        go_region_with (go_at_call 20; refine (HLN _).mono ?_; rintro e w' ⟨rfl, rfl⟩)
        all_goals
          go_wp2_with fail
          go_meet
          exact ⟨HR2.out, HB2.out⟩
      case rest =>
      obtain ⟨ow, b6⟩ := hcut
      rw [← ML.out] at ow
      have hM := Ints.of_own ow
      replace hx := hx.below b6
      replace hy := hy.below b6
      replace hb := below_trans hb b6
      clear ow b6 hc0 hf0 ob
      go_wp2_with fail
      refine (K.done_yes _ M (shL M n1) _ l0.length cb n1 _ hM HEM (Lib.hid rfl) ML.out.symm ML.out.symm).mono ?_
      rintro e w7 ⟨Az, cz, rfl, hz, kz, bw7⟩
      replace hx := hx.below bw7
      replace hy := hy.below bw7
      replace hb := below_trans hb bw7
      clear bw7
      go_wp2
      go_loopw [125] (fun i wr => ∃ k m : Nat, k ≤ l0.length ∧ i = .int .i64 k ∧ wr = w7.drewN m) (fun i _ => l0.length - (intOf i).toNat)
      case atStart => exact ⟨0, 0, Nat.zero_le _, rfl, rfl⟩
      case round =>
        obtain ⟨k, m, hk, rfl, rfl⟩ := hrel
        by_cases hlt : k < l0.length
        · obtain ⟨b1, o1, x, e1, hc1, HX⟩ := hx.at_ (k := k) (by rw [length_shL]; exact hlt)
          obtain ⟨b2, o2, y, e2, hc2, HY⟩ := hy.at_ (k := k) (by rw [length_shL]; exact hlt)
          obtain ⟨b3, o3, u, e3, hc3, HU⟩ := hz.at_ (k := k) (by rw [length_shL, ML.out]; exact hlt)
          subst e1 e2 e3
          have hx' := gt_of_get HX.out
          have hy' := gt_of_get HY.out
          have hu' := gt_of_get HU.out
          rw [gt_shL hlt] at hx' hy'
          rw [gt_shL (by rw [ML.out]; exact hlt)] at hu'
          have g1 : decide (x < y) = false := decide_eq_false (by have := HF.out k hlt; omega)
          have g2 : decide (x < u) = false := decide_eq_false (by have := HG.out k hlt; omega)
          have i1 : (k : Int) < (l0.length : Int) := by omega
          clear hx' hy' hu'
          go_wp2
          go_quiet (fail)
          go_wp2
          go_roundw
          case rel => exact ⟨k + 1, m + nq, by omega, by go_num, by simp [World.drewN, Nat.add_assoc]⟩
          case measure => simp [intOf]; omega
        · obtain rfl : k = l0.length := by omega
          go_wp2
          go_ret
          exact ⟨rfl, below_trans hb (below_of_drewN rfl)⟩
  · have e1 : (shE l0 n1 != 0) = true := by simp [hE]
    have HE := Lib.hid hE
    clear hE
    go_enter Try.func9, Try.ntmps9
    go_wp2_with fail
    refine (K.done_yes _ [1, 1, 1] [1, 1, 2] _ 3 _ 2 _ (by exact Ints.lit _ [1, 1, 1] _ _ rfl (by decide)) (Lib.hid (by decide)) (Lib.hid (by decide)) rfl rfl).mono ?_
    rintro e w1 ⟨Ax, cx, rfl, hx, kx, bw1⟩
    replace bw1 := below_of1 bw1
    replace h0 := h0.below bw1
    replace hb := below_trans hb bw1
    clear bw1
    go_wp2_with fail
    refine (equal_at Ax _ [1, 1, 2] [1, 1, 2] _ _ _ _ _ (by exact Ints.alloc hx _) (by exact Ints.lit _ [1, 1, 2] _ _ rfl (by decide)) rfl rfl).mono ?_
    rintro e w2 ⟨rfl, nw2, hww2⟩
    have bw2 := below_of_drewN hww2
    clear hww2
    replace bw2 := below_of1 bw2
    replace h0 := h0.below bw2
    replace hb := below_trans hb bw2
    clear bw2
    rw [eqB_true rfl]
    clear hx kx
    go_wp2_with fail
    refine (K.done_no a0 l0 _ c0 n1 _ h0 HE rfl).mono ?_
    rintro e w3 ⟨⟨B, d, rfl⟩, b3⟩
    replace hb := below_trans hb b3
    clear b3
    go_wp2
    go_ret
    exact ⟨rfl, hb⟩

end Go.Proofs.Ytjlkcjaofglpmaa
