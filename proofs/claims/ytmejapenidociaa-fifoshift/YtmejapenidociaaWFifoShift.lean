
/-
  The walk of the law FifoShift.
-/
import Derived.Test.YtmejapenidociaaFifoA
import Derived.Test.YtmejapenidociaaConcP
import Derived.Test.YtmejapenidociaaKeepA
import Derived.Test.YtmejapenidociaaBoundA
namespace Go.Proofs.Ytmejapenidociaa
set_option linter.all false
open Go.RowKit Go.Shelf


/-- The first k packets a while later. -/
def laV (l : List Pk) (D : Int) (k i : Nat) : Pk := if i < k then ⟨(pk l i).at_ + D, (pk l i).size, (pk l i).flow⟩ else pk l i
def laP (l : List Pk) (D : Int) (k : Nat) : List Pk := (List.range l.length).map (laV l D k)
theorem length_laP (l : List Pk) (D : Int) (k : Nat) : (laP l D k).length = l.length := by simp [laP]
theorem get_laP {l : List Pk} {D : Int} {k i : Nat} (h : i < l.length) : (laP l D k)[i]? = some (laV l D k i) := by simp [laP, h]
theorem pk_laP {l : List Pk} {D : Int} {k i : Nat} (h : i < l.length) : pk (laP l D k) i = laV l D k i := pk_of (get_laP h)
theorem laP_zero (l : List Pk) (D : Int) : laP l D 0 = l := by
  apply List.ext_getElem?
  intro i
  by_cases h : i < l.length
  · rw [get_laP h, pk_get h, laV, if_neg (by omega)]
  · rw [List.getElem?_eq_none (by rw [length_laP]; omega), List.getElem?_eq_none (by omega)]
theorem laP_set {l : List Pk} {D : Int} {k : Nat} (hk : k < l.length) : (laP l D k).set k ⟨(pk l k).at_ + D, (pk l k).size, (pk l k).flow⟩ = laP l D (k + 1) := by
  apply List.ext_getElem?
  intro i
  by_cases h : i < l.length
  · rw [get_laP h]
    by_cases e : i = k
    · subst e
      rw [List.getElem?_set_self (by rw [length_laP]; exact h), laV, if_pos (by omega)]
    · rw [List.getElem?_set_ne (by omega), get_laP h]
      unfold laV
      by_cases c : i < k
      · rw [if_pos c, if_pos (by omega)]
      · rw [if_neg c, if_neg (by omega)]
  · rw [List.getElem?_eq_none (by rw [List.length_set, length_laP]; omega), List.getElem?_eq_none (by rw [length_laP]; omega)]
theorem dn_take {l m : List Pk} : (dnL (l ++ m)).take l.length = dnL l := by
  refine list_ext (by rw [List.length_take, length_dnL, length_dnL, List.length_append]; omega) (fun i hi => ?_)
  rw [List.length_take, length_dnL, List.length_append] at hi
  rw [gt_take (by omega), gt_dnL (by rw [List.length_append]; omega), gt_dnL (by omega), dn_app _ (by omega)]
theorem two_newP (w : World) (v u : Value) (t : TypeId) : TwoP (w.alloc (.cells #[v, u] t)) w.heap.size v u :=
  ⟨by simpa using (Blk.new w t #[v, u]).cell 0, by simpa using (Blk.new w t #[v, u]).cell 1⟩
theorem concatp_at (g c d : Nat) (A B : Option Addr) (l m M : List Pk) (w : World) (hM : Hid (M = l ++ m)) (t : TwoP w g (.slice A l.length c) (.slice B m.length d)) (h : Pks w A l) (h' : Pks w B m)
    (hA : A = none → c = 0) (hB : B = none → d = 0) (hs : (l.length + m.length) * 24 ≤ 281474976710656) :
    Calls Try.prog 18 #[.slice (some ⟨g, 0, none⟩) 2 2] w (AnsP M w) := by
  rw [hM.out]
  exact concatp_any g c d A B l m w t h h' hA hB hs

set_option maxRecDepth 100000 in
set_option maxHeartbeats 6400000 in
theorem walk_FifoShift (a0 : Option Addr) (c0 : Nat) (l0 : List Pk) (a1 : Option Addr) (c1 : Nat) (l1 : List Pk) (n : Int) (w : World)
    (h0 : Pks w a0 l0) (k0 : l0.length ≤ c0) (n0 : a0 = none → c0 = 0) (s0 : 24 * l0.length ≤ 140737488351232) (h1 : Pks w a1 l1) (k1 : l1.length ≤ c1) (n1 : a1 = none → c1 = 0) (s1 : 24 * l1.length ≤ 140737488351232) (_hn : (Lit.int .i64 n).wf = true) :
    Calls Try.prog 7 #[.slice a0 l0.length c0, .slice a1 l1.length c1, .int .i64 n] w fun e w' => e = .returned (.bool true) ∧ Below w.heap.size w w' := by
  have hb : Below w.heap.size w w := Below.refl _ _
  have hs : (l0.length + l1.length) * 24 ≤ 281474976710656 := by omega
  have N0 := Lib.hid n0
  have N1 := Lib.hid n1
  clear n0 n1 s0 s1 _hn
  by_cases hE : pksE l0 = 0
  · have HE := Lib.hid hE
    have q := qu_of hE
    have hle := q.le
    obtain ⟨M, hMM⟩ : ∃ M, M = l0 ++ l1 := ⟨_, rfl⟩
    have HMM := Lib.hid hMM
    have ml : M.length = l0.length + l1.length := by rw [hMM, List.length_append]
    have HLM := Lib.hid ml
    clear hMM ml hE
    by_cases hM : pksE M = 0
    · have HM := Lib.hid hM
      have hlm : l0.length + l1.length ≤ 60 := by have := (qu_of hM).le; rw [HLM.out] at this; exact this
      clear hM
      have LD := Lib.hid (length_dnL l0)
      rcases Nat.eq_zero_or_pos (l0.length + l1.length) with hz | hpos
      · have Z0 : Hid (l0.length = 0) := Lib.hid (by omega)
        have e0 : ((l0.length : Int) == 0) = true := by rw [Z0.out]; rfl
        clear hz
        go_enter Try.func7, Try.ntmps7
        go_wp2_with fail
        refine (frun_yes _ [⟨2, 3, 0⟩] [5] _ 1 _ _ (Lib.hid (by decide)) (Lib.hid (by decide)) (by exact Pks.lit _ [⟨2, 3, 0⟩] _ _ rfl (by decide)) rfl rfl).mono ?_
        rintro e w1 ⟨Ax, cx, rfl, hx, kx, bw1⟩
        replace bw1 := below_of1 bw1
        replace h0 := h0.below bw1
        replace h1 := h1.below bw1
        replace hb := below_trans hb bw1
        clear bw1
        go_wp2_with fail
        refine (equal_at Ax _ [5] [5] _ _ _ _ _ (by exact Ints.alloc hx _) (by exact Ints.lit _ [5] _ _ rfl (by decide)) rfl rfl).mono ?_
        rintro e w2 ⟨rfl, nw2, hww2⟩
        have bw2 := below_of_drewN hww2
        clear hww2
        replace bw2 := below_of1 bw2
        replace h0 := h0.below bw2
        replace h1 := h1.below bw2
        replace hb := below_trans hb bw2
        clear bw2
        rw [eqB_true rfl]
        clear hx kx
        go_wp2_with fail
        refine (frun_yes a0 l0 (dnL l0) _ l0.length c0 _ HE (Lib.hid rfl) h0 rfl rfl).mono ?_
        rintro e w3 ⟨Ax, cx, rfl, hx, kx, bw3⟩
        replace h0 := h0.below bw3
        replace h1 := h1.below bw3
        replace hb := below_trans hb bw3
        clear bw3
        go_wp2_with fail
        refine (concatp_at _ c0 c1 a0 a1 l0 l1 M _ HMM (two_newP _ _ _ _) (Pks.alloc h0 _) (Pks.alloc h1 _) N0.out N1.out hs).mono ?_
        rintro e w4 ⟨Am, cm, rfl, om, bm⟩
        replace bm := below_of1 bm
        replace h0 := h0.below bm
        replace hx := hx.below bm
        replace hb := below_trans hb bm
        have hm := Pks.of_own om
        clear om bm
        go_wp2_with fail
        refine (frun_yes Am M (dnL M) _ (l0.length + l1.length) _ _ HM (Lib.hid rfl) hm rfl HLM.out.symm).mono ?_
        rintro e w5 ⟨Ay, cy, rfl, hy, ky, bw5⟩
        replace hx := hx.below bw5
        replace hb := below_trans hb bw5
        clear bw5
        have hyt := hy.take l0.length
        rw [HMM.out, dn_take] at hyt
        have i1 : (l0.length : Int) ≤ (cy : Int) := by omega
        have i2 : ¬ (l0.length : Int) + (l1.length : Int) < (l0.length : Int) := by omega
        clear hy
        cases Ay
        all_goals
          go_wp2_with fail
          refine (equal_at _ Ax (dnL l0) (dnL l0) _ _ _ _ _ hyt hx LD.out.symm LD.out.symm).mono ?_
          rintro e w6 ⟨rfl, nw6, hww6⟩
          have bw6 := below_of_drewN hww6
          clear hww6
          replace hb := below_trans hb bw6
          clear bw6
          rw [eqB_true rfl]
          go_wp2
          go_ret
          exact ⟨rfl, hb⟩
      · go_enter Try.func7, Try.ntmps7
        go_wp2_with fail
        refine (frun_yes _ [⟨2, 3, 0⟩] [5] _ 1 _ _ (Lib.hid (by decide)) (Lib.hid (by decide)) (by exact Pks.lit _ [⟨2, 3, 0⟩] _ _ rfl (by decide)) rfl rfl).mono ?_
        rintro e w1 ⟨Ax, cx, rfl, hx, kx, bw1⟩
        replace bw1 := below_of1 bw1
        replace h0 := h0.below bw1
        replace h1 := h1.below bw1
        replace hb := below_trans hb bw1
        clear bw1
        go_wp2_with fail
        refine (equal_at Ax _ [5] [5] _ _ _ _ _ (by exact Ints.alloc hx _) (by exact Ints.lit _ [5] _ _ rfl (by decide)) rfl rfl).mono ?_
        rintro e w2 ⟨rfl, nw2, hww2⟩
        have bw2 := below_of_drewN hww2
        clear hww2
        replace bw2 := below_of1 bw2
        replace h0 := h0.below bw2
        replace h1 := h1.below bw2
        replace hb := below_trans hb bw2
        clear bw2
        rw [eqB_true rfl]
        clear hx kx
        go_wp2_with fail
        refine (frun_yes a0 l0 (dnL l0) _ l0.length c0 _ HE (Lib.hid rfl) h0 rfl rfl).mono ?_
        rintro e w3 ⟨Ax, cx, rfl, hx, kx, bw3⟩
        replace h0 := h0.below bw3
        replace h1 := h1.below bw3
        replace hb := below_trans hb bw3
        clear bw3
        go_wp2_with fail
        refine (concatp_at _ c0 c1 a0 a1 l0 l1 M _ HMM (two_newP _ _ _ _) (Pks.alloc h0 _) (Pks.alloc h1 _) N0.out N1.out hs).mono ?_
        rintro e w4 ⟨Am, cm, rfl, om, bm⟩
        replace bm := below_of1 bm
        replace h0 := h0.below bm
        replace hx := hx.below bm
        replace hb := below_trans hb bm
        have hm := Pks.of_own om
        clear om bm
        go_wp2_with fail
        refine (frun_yes Am M (dnL M) _ (l0.length + l1.length) _ _ HM (Lib.hid rfl) hm rfl HLM.out.symm).mono ?_
        rintro e w5 ⟨Ay, cy, rfl, hy, ky, bw5⟩
        replace h0 := h0.below bw5
        replace hx := hx.below bw5
        replace hb := below_trans hb bw5
        clear bw5
        obtain ⟨by1, oy1, rfl, _⟩ := hy.2 (by rw [length_dnL, HLM.out]; exact hpos)
        have hyt := hy.take l0.length
        rw [HMM.out, dn_take] at hyt
        have i1 : (l0.length : Int) ≤ (cy : Int) := by omega
        have i2 : ¬ (l0.length : Int) + (l1.length : Int) < (l0.length : Int) := by omega
        clear hy
        go_wp2_with fail
        refine (equal_at _ Ax (dnL l0) (dnL l0) _ _ _ _ _ hyt hx LD.out.symm LD.out.symm).mono ?_
        rintro e w6 ⟨rfl, nw6, hww6⟩
        have bw6 := below_of_drewN hww6
        clear hww6
        replace h0 := h0.below bw6
        replace hx := hx.below bw6
        replace hb := below_trans hb bw6
        clear bw6
        rw [eqB_true rfl]
        clear hyt i1 i2
        by_cases z0 : l0.length = 0
        · have e0 : ((l0.length : Int) == 0) = true := by simp [z0]
          have Z0 := Lib.hid z0
          clear z0
          go_wp2
          go_ret
          exact ⟨rfl, hb⟩
        have e0 : ((l0.length : Int) == 0) = false := by rw [beq_eq_false_iff_ne]; omega
        have p0 : 0 < l0.length := by omega
        obtain ⟨K, hK⟩ : ∃ K, K = l0.length - 1 := ⟨_, rfl⟩
        have i3 : (l0.length : Int) - 1 = (K : Int) := by omega
        have i4 : (K : Int) < (l0.length : Int) := by omega
        have kl : K < l0.length := by omega
        have HK : Hid (K + 1 = l0.length) := Lib.hid (by omega)
        clear hK z0
        obtain ⟨bb, off, p, e5, hbl, g0, g1, g2, HP⟩ := h0.get kl
        have hpk := pk_of HP.out
        have ok := q.ok K kl
        rw [hpk] at ok
        have pa0 := ok.a0
        have pa1 := ok.a1
        have HPK := Lib.hid hpk
        obtain ⟨D, hD⟩ : ∃ D, D = wi n (200 - p.at_ + 1) := ⟨_, rfl⟩
        have D0 : 0 ≤ D := by rw [hD]; exact wi_nonneg _ _ (by omega)
        have D1 : D < 200 - p.at_ + 1 := by rw [hD]; exact wi_lt n (200 - p.at_ + 1) (by omega)
        have HD := Lib.hid hD
        obtain ⟨L, hL⟩ : ∃ L, L = laP l0 D l0.length := ⟨_, rfl⟩
        have ll : L.length = l0.length := by rw [hL]; exact length_laP _ _ _
        have lv : ∀ i, i < l0.length → pk L i = ⟨(pk l0 i).at_ + D, (pk l0 i).size, (pk l0 i).flow⟩ := fun i hi => by rw [hL, pk_laP hi, laV, if_pos hi]
        have qL : Qu L := by
          refine ⟨by rw [ll]; exact q.le, fun i hi => ?_, fun i hi => ?_⟩
          · rw [ll] at hi
            have k := q.ok i hi
            have hmono := q.mono (i := i) (j := K) (by omega) kl
            rw [hpk] at hmono
            rw [lv i hi]
            have := k.a0
            exact ⟨k.f0, k.f1, k.s0, k.s1, by simp only; omega, by simp only; omega⟩
          · rw [ll] at hi
            rw [lv i (by omega), lv (i + 1) hi]
            have := q.up i hi
            simp only; omega
        have HEL := Lib.hid (qu_iff.2 qL)
        have LL := Lib.hid ll
        have HL := Lib.hid hL
        have HDN : Hid (∀ i, i < l0.length → dnV L (i + 1) = dnV l0 (i + 1) + D) := Lib.hid (dn_late q D0 (fun i hi => by rw [lv i hi]; exact ⟨rfl, rfl⟩))
        subst e5
        clear hD hL ll lv qL hpk ok
        go_wp2_with fail
        refine (within_any n (200 - p.at_ + 1) _ (by omega) (by omega)).mono ?_
        rintro e w' ⟨rfl, rfl⟩
        rw [← HD.out]
        clear g0 g1 g2
        go_wp2_with fail
        refine (clone_pk _ l0 c0 _ h0 p0 (by omega)).mono ?_
        rintro e w16 ⟨Ab, cb, rfl, ob, b16⟩
        rw [show pcs l0 = pcs (laP l0 D 0) by rw [laP_zero]] at ob
        go_wp2
        go_loopw [96] (fun v wr => ∃ k : Nat, k ≤ l0.length ∧ v = .int .i64 k ∧ wr.ownsRow w6.heap.size 32 3 (.slice Ab l0.length cb) l0.length (pcs (laP l0 D k)) ∧ Below w6.heap.size w6 wr) (fun v _ => l0.length - (intOf v).toNat)
        case atStart => exact ⟨0, Nat.zero_le _, rfl, ob, b16⟩
        case round =>
          clear ob b16
          obtain ⟨k, hk, rfl, own, hbel⟩ := hrel
          by_cases hlt : k < l0.length
          · obtain ⟨g, cap, hv, hg, hgl⟩ := own.form (by omega)
            obtain ⟨rfl, rfl⟩ : Ab = some ⟨g, 0, none⟩ ∧ cb = cap := by injection hv with a b c; exact ⟨a, c⟩
            clear hv
            obtain ⟨r, hr⟩ : ∃ r, r = pk l0 k := ⟨_, rfl⟩
            have okk := q.ok k hlt
            rw [← hr] at okk
            have ra0 := okk.a0
            have ra1 := okk.a1
            have gk : (laP l0 D k)[k]? = some r := by rw [get_laP hlt, laV, if_neg (by omega), hr]
            have hc0 : wr.cell? ⟨g, k * 3, none⟩ = some (.int .i64 r.at_) := by
              rw [own.cellAt (k * 3) (by omega)]; exact (pcs_get gk).1
            have hf0 := own.frozenAt (k * 3)
            have O2 := (own.stored (k * 3) (.int .i64 (r.at_ + D))).1
            rw [pcs_at _ gk, hr, laP_set hlt, ← hr] at O2
            have HO2 := Lib.hid O2
            have HB2 := Lib.hid (hbel.setCell (p := ⟨g, k * 3, none⟩) hg (.int .i64 (r.at_ + D)))
            have i5 : (k : Int) < (l0.length : Int) := by omega
            clear O2 hr okk gk own
            go_wp2
            go_roundw
            case rel => exact ⟨k + 1, by omega, by go_num, HO2.out, HB2.out⟩
            case measure => simp [intOf]; omega
          · obtain rfl : k = l0.length := by omega
            have hL' : Pks wr Ab L := Pks.of_own (c := cb) (base := w6.heap.size) (by rw [LL.out, HL.out]; exact own)
            have hx5 := hx.below hbel
            replace hb := below_trans hb hbel
            clear own hx hbel
            go_wp2_with fail
            refine (frun_yes Ab L (dnL L) _ l0.length _ _ HEL (Lib.hid rfl) hL' LL.out.symm LL.out.symm).mono ?_
            rintro e w17 ⟨Ay, cy, rfl, hy, ky, bw17⟩
            replace hx5 := hx5.below bw17
            replace hb := below_trans hb bw17
            clear bw17
            go_wp2
            go_loopw [125] (fun v wr => ∃ k nd : Nat, k ≤ l0.length ∧ v = .int .i64 k ∧ wr = w17.drewN nd) (fun v _ => l0.length - (intOf v).toNat)
            case atStart => exact ⟨0, 0, Nat.zero_le _, rfl, rfl⟩
            case round =>
              obtain ⟨k, nd, hk, rfl, rfl⟩ := hrel
              by_cases hlt : k < l0.length
              · obtain ⟨b1, o1, x, e1, hc1, HX⟩ := hx5.at_ (k := k) (by rw [length_dnL]; exact hlt)
                obtain ⟨b2, o2, y, e2, hc2, HY⟩ := hy.at_ (k := k) (by rw [length_dnL, LL.out]; exact hlt)
                subst e1 e2
                have hx' := gt_of_get HX.out
                have hy' := gt_of_get HY.out
                rw [gt_dnL hlt] at hx'
                rw [gt_dnL (by rw [LL.out]; exact hlt)] at hy'
                have x0 : 0 ≤ x ∧ x ≤ 70000 := by rw [← hx']; have := dn_bd q (k + 1) (by omega); omega
                obtain ⟨xa, xb⟩ := x0
                have q1 : y = x + D := by rw [← hx', ← hy']; exact HDN.out k hlt
                have t1 : (y != x + D) = false := by simp [q1]
                have s1 : IntKind.i64.wrap (x + D) = x + D := IntWalk.i64_in _ ⟨by omega, by omega⟩
                have i5 : (k : Int) < (l0.length : Int) := by omega
                clear hx' hy' q1
                go_wp2
                go_quiet (fail)
                go_wp2
                go_roundw
                case rel => exact ⟨k + 1, nd + nq, by omega, by go_num, by simp [World.drewN, Nat.add_assoc]⟩
                case measure => simp [intOf]; omega
              · go_wp2
                go_ret
                exact ⟨rfl, below_trans hb (below_of_drewN rfl)⟩
    · have e1 : (pksE M == 0) = false := by simp [hM]
      go_enter Try.func7, Try.ntmps7
      go_wp2_with fail
      refine (frun_yes _ [⟨2, 3, 0⟩] [5] _ 1 _ _ (Lib.hid (by decide)) (Lib.hid (by decide)) (by exact Pks.lit _ [⟨2, 3, 0⟩] _ _ rfl (by decide)) rfl rfl).mono ?_
      rintro e w1 ⟨Ax, cx, rfl, hx, kx, bw1⟩
      replace bw1 := below_of1 bw1
      replace h0 := h0.below bw1
      replace h1 := h1.below bw1
      replace hb := below_trans hb bw1
      clear bw1
      go_wp2_with fail
      refine (equal_at Ax _ [5] [5] _ _ _ _ _ (by exact Ints.alloc hx _) (by exact Ints.lit _ [5] _ _ rfl (by decide)) rfl rfl).mono ?_
      rintro e w2 ⟨rfl, nw2, hww2⟩
      have bw2 := below_of_drewN hww2
      clear hww2
      replace bw2 := below_of1 bw2
      replace h0 := h0.below bw2
      replace h1 := h1.below bw2
      replace hb := below_trans hb bw2
      clear bw2
      rw [eqB_true rfl]
      clear hx kx
      go_wp2_with fail
      refine (frun_yes a0 l0 (dnL l0) _ l0.length c0 _ HE (Lib.hid rfl) h0 rfl rfl).mono ?_
      rintro e w3 ⟨Ax, cx, rfl, hx, kx, bw3⟩
      replace h0 := h0.below bw3
      replace h1 := h1.below bw3
      replace hb := below_trans hb bw3
      clear bw3
      go_wp2_with fail
      refine (concatp_at _ c0 c1 a0 a1 l0 l1 M _ HMM (two_newP _ _ _ _) (Pks.alloc h0 _) (Pks.alloc h1 _) N0.out N1.out hs).mono ?_
      rintro e w4 ⟨Am, cm, rfl, om, bm⟩
      replace bm := below_of1 bm
      replace h0 := h0.below bm
      replace hx := hx.below bm
      replace hb := below_trans hb bm
      have hm := Pks.of_own om
      clear om bm
      go_wp2_with fail
      refine (frun_no Am M cm _ hM hm).mono ?_
      rintro e w5 ⟨Ay, cy, rfl, b5⟩
      replace h0 := h0.below b5
      replace hx := hx.below b5
      replace hb := below_trans hb b5
      clear b5 hM
      by_cases z0 : l0.length = 0
      · have e0 : ((l0.length : Int) == 0) = true := by simp [z0]
        have Z0 := Lib.hid z0
        clear z0
        go_wp2
        go_ret
        exact ⟨rfl, hb⟩
      have e0 : ((l0.length : Int) == 0) = false := by rw [beq_eq_false_iff_ne]; omega
      have p0 : 0 < l0.length := by omega
      obtain ⟨K, hK⟩ : ∃ K, K = l0.length - 1 := ⟨_, rfl⟩
      have i3 : (l0.length : Int) - 1 = (K : Int) := by omega
      have i4 : (K : Int) < (l0.length : Int) := by omega
      have kl : K < l0.length := by omega
      have HK : Hid (K + 1 = l0.length) := Lib.hid (by omega)
      clear hK z0
      obtain ⟨bb, off, p, e5, hbl, g0, g1, g2, HP⟩ := h0.get kl
      have hpk := pk_of HP.out
      have ok := q.ok K kl
      rw [hpk] at ok
      have pa0 := ok.a0
      have pa1 := ok.a1
      have HPK := Lib.hid hpk
      obtain ⟨D, hD⟩ : ∃ D, D = wi n (200 - p.at_ + 1) := ⟨_, rfl⟩
      have D0 : 0 ≤ D := by rw [hD]; exact wi_nonneg _ _ (by omega)
      have D1 : D < 200 - p.at_ + 1 := by rw [hD]; exact wi_lt n (200 - p.at_ + 1) (by omega)
      have HD := Lib.hid hD
      obtain ⟨L, hL⟩ : ∃ L, L = laP l0 D l0.length := ⟨_, rfl⟩
      have ll : L.length = l0.length := by rw [hL]; exact length_laP _ _ _
      have lv : ∀ i, i < l0.length → pk L i = ⟨(pk l0 i).at_ + D, (pk l0 i).size, (pk l0 i).flow⟩ := fun i hi => by rw [hL, pk_laP hi, laV, if_pos hi]
      have qL : Qu L := by
        refine ⟨by rw [ll]; exact q.le, fun i hi => ?_, fun i hi => ?_⟩
        · rw [ll] at hi
          have k := q.ok i hi
          have hmono := q.mono (i := i) (j := K) (by omega) kl
          rw [hpk] at hmono
          rw [lv i hi]
          have := k.a0
          exact ⟨k.f0, k.f1, k.s0, k.s1, by simp only; omega, by simp only; omega⟩
        · rw [ll] at hi
          rw [lv i (by omega), lv (i + 1) hi]
          have := q.up i hi
          simp only; omega
      have HEL := Lib.hid (qu_iff.2 qL)
      have LL := Lib.hid ll
      have HL := Lib.hid hL
      have HDN : Hid (∀ i, i < l0.length → dnV L (i + 1) = dnV l0 (i + 1) + D) := Lib.hid (dn_late q D0 (fun i hi => by rw [lv i hi]; exact ⟨rfl, rfl⟩))
      subst e5
      clear hD hL ll lv qL hpk ok
      go_wp2_with fail
      refine (within_any n (200 - p.at_ + 1) _ (by omega) (by omega)).mono ?_
      rintro e w' ⟨rfl, rfl⟩
      rw [← HD.out]
      clear g0 g1 g2
      go_wp2_with fail
      refine (clone_pk _ l0 c0 _ h0 p0 (by omega)).mono ?_
      rintro e w16 ⟨Ab, cb, rfl, ob, b16⟩
      rw [show pcs l0 = pcs (laP l0 D 0) by rw [laP_zero]] at ob
      go_wp2
      go_loopw [96] (fun v wr => ∃ k : Nat, k ≤ l0.length ∧ v = .int .i64 k ∧ wr.ownsRow w5.heap.size 32 3 (.slice Ab l0.length cb) l0.length (pcs (laP l0 D k)) ∧ Below w5.heap.size w5 wr) (fun v _ => l0.length - (intOf v).toNat)
      case atStart => exact ⟨0, Nat.zero_le _, rfl, ob, b16⟩
      case round =>
        clear ob b16
        obtain ⟨k, hk, rfl, own, hbel⟩ := hrel
        by_cases hlt : k < l0.length
        · obtain ⟨g, cap, hv, hg, hgl⟩ := own.form (by omega)
          obtain ⟨rfl, rfl⟩ : Ab = some ⟨g, 0, none⟩ ∧ cb = cap := by injection hv with a b c; exact ⟨a, c⟩
          clear hv
          obtain ⟨r, hr⟩ : ∃ r, r = pk l0 k := ⟨_, rfl⟩
          have okk := q.ok k hlt
          rw [← hr] at okk
          have ra0 := okk.a0
          have ra1 := okk.a1
          have gk : (laP l0 D k)[k]? = some r := by rw [get_laP hlt, laV, if_neg (by omega), hr]
          have hc0 : wr.cell? ⟨g, k * 3, none⟩ = some (.int .i64 r.at_) := by
            rw [own.cellAt (k * 3) (by omega)]; exact (pcs_get gk).1
          have hf0 := own.frozenAt (k * 3)
          have O2 := (own.stored (k * 3) (.int .i64 (r.at_ + D))).1
          rw [pcs_at _ gk, hr, laP_set hlt, ← hr] at O2
          have HO2 := Lib.hid O2
          have HB2 := Lib.hid (hbel.setCell (p := ⟨g, k * 3, none⟩) hg (.int .i64 (r.at_ + D)))
          have i5 : (k : Int) < (l0.length : Int) := by omega
          clear O2 hr okk gk own
          go_wp2
          go_roundw
          case rel => exact ⟨k + 1, by omega, by go_num, HO2.out, HB2.out⟩
          case measure => simp [intOf]; omega
        · obtain rfl : k = l0.length := by omega
          have hL' : Pks wr Ab L := Pks.of_own (c := cb) (base := w5.heap.size) (by rw [LL.out, HL.out]; exact own)
          have hx5 := hx.below hbel
          replace hb := below_trans hb hbel
          clear own hx hbel
          go_wp2_with fail
          refine (frun_yes Ab L (dnL L) _ l0.length _ _ HEL (Lib.hid rfl) hL' LL.out.symm LL.out.symm).mono ?_
          rintro e w17 ⟨Ay, cy, rfl, hy, ky, bw17⟩
          replace hx5 := hx5.below bw17
          replace hb := below_trans hb bw17
          clear bw17
          go_wp2
          go_loopw [125] (fun v wr => ∃ k nd : Nat, k ≤ l0.length ∧ v = .int .i64 k ∧ wr = w17.drewN nd) (fun v _ => l0.length - (intOf v).toNat)
          case atStart => exact ⟨0, 0, Nat.zero_le _, rfl, rfl⟩
          case round =>
            obtain ⟨k, nd, hk, rfl, rfl⟩ := hrel
            by_cases hlt : k < l0.length
            · obtain ⟨b1, o1, x, e1, hc1, HX⟩ := hx5.at_ (k := k) (by rw [length_dnL]; exact hlt)
              obtain ⟨b2, o2, y, e2, hc2, HY⟩ := hy.at_ (k := k) (by rw [length_dnL, LL.out]; exact hlt)
              subst e1 e2
              have hx' := gt_of_get HX.out
              have hy' := gt_of_get HY.out
              rw [gt_dnL hlt] at hx'
              rw [gt_dnL (by rw [LL.out]; exact hlt)] at hy'
              have x0 : 0 ≤ x ∧ x ≤ 70000 := by rw [← hx']; have := dn_bd q (k + 1) (by omega); omega
              obtain ⟨xa, xb⟩ := x0
              have q1 : y = x + D := by rw [← hx', ← hy']; exact HDN.out k hlt
              have t1 : (y != x + D) = false := by simp [q1]
              have s1 : IntKind.i64.wrap (x + D) = x + D := IntWalk.i64_in _ ⟨by omega, by omega⟩
              have i5 : (k : Int) < (l0.length : Int) := by omega
              clear hx' hy' q1
              go_wp2
              go_quiet (fail)
              go_wp2
              go_roundw
              case rel => exact ⟨k + 1, nd + nq, by omega, by go_num, by simp [World.drewN, Nat.add_assoc]⟩
              case measure => simp [intOf]; omega
            · go_wp2
              go_ret
              exact ⟨rfl, below_trans hb (below_of_drewN rfl)⟩
  · have e1 : (pksE l0 != 0) = true := by simp [hE]
    go_enter Try.func7, Try.ntmps7
    go_wp2_with fail
    refine (frun_yes _ [⟨2, 3, 0⟩] [5] _ 1 _ _ (Lib.hid (by decide)) (Lib.hid (by decide)) (by exact Pks.lit _ [⟨2, 3, 0⟩] _ _ rfl (by decide)) rfl rfl).mono ?_
    rintro e w1 ⟨Ax, cx, rfl, hx, kx, bw1⟩
    replace bw1 := below_of1 bw1
    replace h0 := h0.below bw1
    replace h1 := h1.below bw1
    replace hb := below_trans hb bw1
    clear bw1
    go_wp2_with fail
    refine (equal_at Ax _ [5] [5] _ _ _ _ _ (by exact Ints.alloc hx _) (by exact Ints.lit _ [5] _ _ rfl (by decide)) rfl rfl).mono ?_
    rintro e w2 ⟨rfl, nw2, hww2⟩
    have bw2 := below_of_drewN hww2
    clear hww2
    replace bw2 := below_of1 bw2
    replace h0 := h0.below bw2
    replace h1 := h1.below bw2
    replace hb := below_trans hb bw2
    clear bw2
    rw [eqB_true rfl]
    clear hx kx
    go_wp2_with fail
    refine (frun_no a0 l0 c0 _ hE h0).mono ?_
    rintro e w3 ⟨Ax, cx, rfl, b1⟩
    replace hb := below_trans hb b1
    clear b1
    go_wp2
    go_ret
    exact ⟨rfl, hb⟩

end Go.Proofs.Ytmejapenidociaa
