
/-
  The walk of the law RanksLess.
-/
import Derived.Test.YtccjegnflienhaaRankE
import Derived.Test.YtccjegnflienhaaRankK
import Derived.StillTailTactics
import Derived.Deep.DeepCutAuto
import Derived.Laws.OwnMore
namespace Go.Proofs.Ytccjegnflienhaa
set_option linter.all false
open Go.RowKit Go.Shelf Go.Lib

def rkZ : List Tk := [⟨2, 1, 2⟩, ⟨2, 2, 2⟩]
theorem rkZ_ok : tasE rkZ = 0 := by decide
theorem rkZ_not : ftB rkZ = false := by decide
theorem qcs_work {l : List Tk} {k : Nat} {j : Tk} (x : Int) (h : l[k]? = some j) : (qcs l).set (k * 3 + 1) (.int .i64 x) = qcs (l.set k ⟨j.per, x, j.due⟩) := by
  have := pcs_size (l := l.map tp) (k := k) (p := tp j) x (by rw [List.getElem?_map, h]; rfl)
  unfold qcs
  rw [List.map_set]
  exact this
theorem qcs_getT {l : List Tk} {k : Nat} {j : Tk} (h : l[k]? = some j) : (qcs l)[k * 3 + 1]? = some (.int .i64 j.work) :=
  (pcs_get (l := l.map tp) (k := k) (p := tp j) (by rw [List.getElem?_map, h]; rfl)).2.1
set_option maxRecDepth 100000 in
set_option maxHeartbeats 6400000 in
theorem walk_RanksLess (a0 : Option Addr) (c0 : Nat) (l0 : List Tk) (n1 n2 : Int) (w : World) (h0 : Tas w a0 l0) (k0 : l0.length ≤ c0) (_h1 : (Lit.int .i64 n1).wf = true) (_h2 : (Lit.int .i64 n2).wf = true) :
    Calls Try.prog 8 #[.slice a0 l0.length c0, .int .i64 n1, .int .i64 n2] w fun e w' => e = .returned (.bool true) ∧ Below w.heap.size w w' := by
  have hb := Below.refl w.heap.size w
  have hl := h0.le
  go_enter Try.func8, Try.ntmps8
  go_wp2_with fail
  refine (rfits_yes _ rkZ 2 2 false _ (by exact Tas.lit _ rkZ _ _ rfl (by decide)) (by decide) rkZ_ok rfl (Lib.hid rkZ_not)).mono ?_
  rintro e w1 ⟨rfl, b1⟩
  replace b1 := below_of1 b1
  replace h0 := h0.below b1
  replace hb := below_trans hb b1
  clear b1
  go_wp2_with fail
  refine (rank_any _).mono ?_
  rintro e w2 ⟨⟨g, rfl, hx⟩, b2⟩
  replace h0 := h0.below b2
  replace hb := below_trans hb b2
  clear b2
  go_wp2_with fail
  refine (rfits_yes _ rkX 2 2 true _ hx (by decide) rkX_ok rfl (Lib.hid rkX_fits)).mono ?_
  rintro e w3 ⟨rfl, b3⟩
  clear hx
  replace h0 := h0.below b3
  replace hb := below_trans hb b3
  clear b3
  by_cases hE : tasE l0 = 0
  · have v := tas_iff.1 hE
    have HE := Lib.hid hE
    have hle := v.le
    clear hE
    cases q1 : ftB l0
    all_goals
      have HQ := Lib.hid q1
      clear q1
      go_wp2_with fail
      refine (rfits_yes a0 l0 _ c0 _ _ h0 k0 HE.out rfl HQ).mono ?_
      rintro e w4 ⟨rfl, b4⟩
      replace h0 := h0.below b4
      replace hb := below_trans hb b4
      clear b4
    · go_wp2
      go_ret
      exact ⟨rfl, hb⟩
    · have HF : Hid (Fts l0) := Lib.hid ((ftB_iff v.toTks).mp HQ.out)
      by_cases hn0 : l0.length = 0
      · have e1 : ((l0.length : Int) == 0) = true := by rw [hn0]; rfl
        clear hn0
        go_wp2
        go_ret
        exact ⟨rfl, hb⟩
      · have e1 : ((l0.length : Int) == 0) = false := by rw [beq_eq_false_iff_ne]; omega
        obtain ⟨I, hI, I1⟩ := wiT n1 (l0.length : Int) (by omega)
        have HI := Lib.hid hI
        have Il : I < l0.length := by omega
        have np : 0 < l0.length := by omega
        clear hI hn0
        go_wp2_with fail
        refine (within_any n1 (l0.length : Int) _ (by omega) (by omega)).mono ?_
        rintro e w' ⟨rfl, rfl⟩
        rw [HI.out]
        go_wp2_with fail
        refine (clone_task a0 l0 _ c0 _ h0 rfl np (by omega)).mono ?_
        rintro e w5 ⟨g, d5, rfl, o5, b5⟩
        have HP : Hid (0 < (1 : Nat)) := Lib.hid (by omega)
        obtain ⟨_, _, q, hA', hbl, _, _, _, HJ⟩ := h0.get Il
        have hq := tk_of HJ.out
        have vw := v.w1 I Il
        have vd := v.wd I Il
        have vp := v.dp I Il
        have v6 := v.p60 I Il
        rw [hq] at vw vd vp v6
        obtain ⟨B3, hB3, B31⟩ := wiT n2 q.work (by omega)
        have HB3 := Lib.hid hB3
        have gl := (o5.lt g rfl).2
        have glo := (o5.lt g rfl).1
        have cz : w5.cell? ⟨g, I * 3 + 1, none⟩ = some (.int .i64 q.work) := (o5.cellAt _ (by omega)).trans (qcs_getT HJ.out)
        have cf := o5.frozenAt (I * 3 + 1)
        have s1 := (o5.stored (I * 3 + 1) (.int .i64 (q.work - B3))).1
        rw [qcs_work _ HJ.out] at s1
        obtain ⟨L, hL⟩ : ∃ L, L = l0.set I ⟨q.per, q.work - B3, q.due⟩ := ⟨_, rfl⟩
        have hLl : L.length = l0.length := by rw [hL, List.length_set]
        have HLE : Hid (tasE L = 0) := Lib.hid (tas_iff.2 (by
          have := tksB_less v Il (x := q.work - B3) (by omega) (by rw [hq]; omega)
          rw [hq] at this
          rw [hL]; exact this))
        have HLF : Hid (ftB L = true) := Lib.hid ((ftB_iff (tas_iff.1 HLE.out).toTks).mpr (by
          have := fts_set v Il (x := q.work - B3) (by omega) (by rw [hq]; omega) HF.out
          rw [hq] at this
          rw [hL]; exact this))
        rw [← hL] at s1
        obtain ⟨W, hW⟩ : ∃ W, W = (w5.setCell ⟨g, I * 3 + 1, none⟩ (.int .i64 (q.work - B3))).drew := ⟨_, rfl⟩
        have jW : Tas W (some ⟨g, 0, none⟩) L := by
          refine Tas.of_row (base := w4.heap.size) (t := 30) (c := d5) ?_
          rw [hLl, hW]; exact s1
        have bW : Below w4.heap.size w4 W := by rw [hW]; exact (b5.setCell (p := ⟨g, I * 3 + 1, none⟩) glo _).drew
        have d5c : l0.length ≤ d5 := by
          rcases o5.2 with ⟨_, h0⟩ | ⟨g, cap, cur, hv, _, _, hn, _⟩
          · omega
          · injection hv with _ _ e
            subst e
            exact hn
        have HW := Lib.hid hW
        have i5 : (I : Int) < (l0.length : Int) := by omega
        have hcB : Hid (∀ W0 : World, Calls Try.prog 23 #[.int .i64 n2, .int .i64 q.work] W0 fun e w' => e = .returned (.int .i64 B3) ∧ w' = W0) := Lib.hid (fun W0 => (within_any n2 q.work W0 (by omega) (by omega)).mono (by rintro e w' ⟨rfl, rfl⟩; exact ⟨by rw [HB3.out], rfl⟩))
        have m3 : IntKind.i64.wrap (q.work - (B3 : Int)) = q.work - B3 := IntWalk.i64_in _ ⟨by omega, by omega⟩
        have HLn : Hid (l0.length = L.length) := Lib.hid hLl.symm
        clear s1 hW hB3 hq o5 b5 hL hLl hA' hbl
        go_upto_region 12 with fail
        go_cut [] (fun wx => wx = W)
        case first =>
          go_still_tail 15, (by kernel_rfl)
          still_call (hcB.out _)
          repeat still_step
          refine wpStill_nil ?_
          change wpList _ _ _ _ _ w5.drew
          go_wp2_with fail
          go_meet
          rw [HW.out]
        case rest =>
        subst hcut
        clear HW hcB cz cf
        replace h0 := h0.below bW
        replace hb := below_trans hb bW
        go_wp2_with fail
        refine (rfits_yes _ L _ d5 true _ jW (by rw [← HLn.out]; exact d5c) HLE.out HLn.out HLF).mono ?_
        rintro e w6 ⟨rfl, b6⟩
        clear bW jW
        replace h0 := h0.below b6
        replace hb := below_trans hb b6
        clear b6
        obtain ⟨m, hm⟩ : ∃ m, m = l0.length - 1 := ⟨_, rfl⟩
        have HTE : Hid (tasE (l0.take m) = 0) := Lib.hid (tas_iff.2 (v.take m))
        have HTF : Hid (ftB (l0.take m) = true) := Lib.hid ((ftB_iff (v.take m).toTks).mpr (fts_take v m HF.out))
        have HTn : Hid (m = (l0.take m).length) := Lib.hid (by simp; omega)
        have mm : IntKind.i64.wrap ((l0.length : Int) - 1) = (m : Int) := by rw [IntWalk.i64_in _ ⟨by omega, by omega⟩]; omega
        have mc : m ≤ c0 := by omega
        have mc2 : (m : Int) ≤ (c0 : Int) := by omega
        have mc3 : (m : Int) ≤ (l0.length : Int) := by omega
        clear hm
        have hT := h0.take m
        go_wp2_with fail
        refine (rfits_yes _ (l0.take m) m c0 true _ hT (by rw [← HTn.out]; exact mc) HTE.out HTn.out HTF).mono ?_
        rintro e w7 ⟨rfl, b7⟩
        clear hT
        replace h0 := h0.below b7
        replace hb := below_trans hb b7
        clear b7
        clear mm mc mc2 mc3
        go_wp2
        go_loopw [18, 106] (fun s i wr => ∃ k : Nat, k ≤ l0.length ∧ i = .int .i64 k ∧ (∃ S : Int, s = .int .i64 S ∧ Hid (S = prd l0 k)) ∧ Tas wr a0 l0 ∧ Below w.heap.size w wr) (fun _ i _ => l0.length - (intOf i).toNat)
        case atStart => exact ⟨0, Nat.zero_le _, rfl, ⟨1, rfl, Lib.hid rfl⟩, h0, hb⟩
        case round =>
          clear h0 hb
          obtain ⟨k, hk, rfl, ⟨S, rfl, HS⟩, h0, hb⟩ := hrel
          by_cases hlt : k < l0.length
          · obtain ⟨bb', off', p, rfl, hbl, c0_, c1_, c2_, HJ2⟩ := h0.get hlt
            have hp := tk_of HJ2.out
            have HN : Hid (S * p.per = prd l0 (k + 1)) := Lib.hid (by rw [prd, ← HS.out, hp])
            have pb := prd_max v (k := k + 1) (by omega)
            have m4 : IntKind.i64.wrap (S * p.per) = S * p.per := IntWalk.i64_in _ ⟨by rw [HN.out]; omega, by rw [HN.out]; omega⟩
            have i6 : (k : Int) < (l0.length : Int) := by omega
            clear hp pb
            go_wp2
            go_roundw
            case rel => exact ⟨k + 1, by omega, by go_num, ⟨_, rfl, HN⟩, h0.alloc _, hb.alloc hb.size _⟩
            case measure => simp [intOf]; omega
          · obtain rfl : k = l0.length := by omega
            have Pb := prd_max v (Nat.le_refl l0.length)
            rw [← HS.out] at Pb
            obtain ⟨P0, P1⟩ := Pb
            go_wp2
            go_loopw [19, 117] (fun s i wr => ∃ k : Nat, k ≤ l0.length ∧ i = .int .i64 k ∧ (∃ X : Int, s = .int .i64 X ∧ Hid (X = tot (askV l0) k)) ∧ Tas wr a0 l0 ∧ Below w.heap.size w wr) (fun _ i _ => l0.length - (intOf i).toNat)
            case atStart => exact ⟨0, Nat.zero_le _, rfl, ⟨0, rfl, Lib.hid rfl⟩, h0, hb⟩
            case round =>
              clear h0 hb
              obtain ⟨k, hk, rfl, ⟨X, rfl, HX⟩, h0, hb⟩ := hrel
              have Xb := ask_tot v k hk
              rw [← HX.out] at Xb
              obtain ⟨X0, X1⟩ := Xb
              by_cases hlt : k < l0.length
              · obtain ⟨bb', off', p, rfl, hbl, c0_, c1_, c2_, HJ2⟩ := h0.get hlt
                have hp := tk_of HJ2.out
                have pp := v.p1 k hlt
                rw [hp] at pp
                obtain ⟨D, hD⟩ : ∃ D, D = S / p.per := ⟨_, rfl⟩
                obtain ⟨Y, hY⟩ : ∃ Y, Y = D * p.work := ⟨_, rfl⟩
                have HA : Hid (Y = askV l0 k) := Lib.hid (by rw [hY, hD, askV, hp, HS.out])
                have Yb := ask_bd v hlt
                rw [← HA.out] at Yb
                obtain ⟨Y0, Y1⟩ := Yb
                have D0 : 0 ≤ D := by rw [hD]; exact Int.ediv_nonneg (by omega) (by omega)
                have D1 : D ≤ 777600000 := by
                  have : S / p.per ≤ S := Int.ediv_le_self _ (by omega)
                  omega
                have m5 : Int.tdiv S p.per = D := by rw [hD]; exact Int.tdiv_eq_ediv_of_nonneg (by omega)
                have m6 : IntKind.i64.wrap D = D := IntWalk.i64_in _ ⟨by omega, by omega⟩
                have m7 : IntKind.i64.wrap (D * p.work) = Y := by rw [← hY]; exact IntWalk.i64_in _ ⟨by omega, by omega⟩
                have m8 : IntKind.i64.wrap (X + Y) = X + Y := IntWalk.i64_in _ ⟨by omega, by omega⟩
                have HN : Hid (X + Y = tot (askV l0) (k + 1)) := Lib.hid (by simp only [tot]; rw [← HX.out, ← HA.out])
                have pz : ¬ p.per = 0 := by omega
                have i6 : (k : Int) < (l0.length : Int) := by omega
                clear hp hD hY
                go_wp2
                go_quiet (fail)
                go_wp2
                go_roundw
                case rel =>
                  have b2 := hb.alloc hb.size (.cells #[.int .i64 p.per, .int .i64 p.work, .int .i64 p.due] 30)
                  exact ⟨k + 1, by omega, by go_num, ⟨_, rfl, HN⟩, h0.alloc _, ⟨b2.os, b2.tape, b2.output, b2.size, b2.block⟩⟩
                case measure => simp [intOf]; omega
              · obtain rfl : k = l0.length := by omega
                have e9 : decide (X ≤ S) = true := decide_eq_true (by rw [HX.out, HS.out]; exact ask_le v HF.out)
                go_wp2
                go_ret
                exact ⟨rfl, hb⟩
  · have e1 : (tasE l0 != 0) = true := by simp [hE]
    have e2 : (tasE l0 == 0) = false := by simp [hE]
    go_wp2_with fail
    refine (rfits_no a0 l0 c0 _ h0 hE).mono ?_
    rintro e w4 ⟨rfl, b4⟩
    clear hE
    replace h0 := h0.below b4
    replace hb := below_trans hb b4
    clear b4
    go_wp2
    go_ret
    exact ⟨rfl, hb⟩

end Go.Proofs.Ytccjegnflienhaa
