
/-
  The walk of the law PrioFirst.
-/
import Derived.Test.YthngolnflogdnaaPrioA
import Derived.Test.YthngolnflogdnaaLineK
import Derived.Test.YthngolnflogdnaaUpP
namespace Go.Proofs.Ythngolnflogdnaa
set_option linter.all false
open Go.RowKit Go.Shelf


set_option maxRecDepth 100000 in
set_option maxHeartbeats 3200000 in
theorem walk_PrioFirst (a0 : Option Addr) (c0 : Nat) (l0 : List Int) (a1 : Option Addr) (c1 : Nat) (l1 : List Int) (n : Int) (w : World)
    (h0 : Ints w a0 l0) (k0 : l0.length ≤ c0) (h1 : Ints w a1 l1) (k1 : l1.length ≤ c1) (_hn : (Lit.int .i64 n).wf = true) :
    Calls Try.prog 5 #[.slice a0 l0.length c0, .slice a1 l1.length c1, .int .i64 n] w fun e w' => e = .returned (.bool true) ∧ Below w.heap.size w w' := by
  have hb : Below w.heap.size w w := Below.refl _ _
  clear _hn
  by_cases hE : prE l0 l1 n = 0
  · obtain ⟨va, vb, r0, r1, el, hl⟩ := pr_ok hE
    have HE := Lib.hid hE
    have HL := Lib.hid hl
    have EL := Lib.hid el
    have hle := va.le
    have HLG : Hid ((goL l0 n).length = l0.length) := Lib.hid (length_goL l0 n)
    have L1 : l1.length ≤ l0.length := by omega
    have L2 : l0.length ≤ l1.length := by omega
    obtain ⟨G, hG⟩ : ∃ G : Nat → Int, G = fun i => gt l0 i + gt l1 i := ⟨_, rfl⟩
    have HG : Hid (∀ i, G i = gt l0 i + gt l1 i) := Lib.hid (fun i => by rw [hG])
    have HPL : Hid (tab l0.length (upV G l0 l0.length) = plL l0 l1) := Lib.hid (by rw [up_full, hG]; rfl)
    clear hE hl el hG
    go_enter Try.func5, Try.ntmps5
    go_wp2_with fail
    refine (prun_yes _ _ [3, 0] [1, 1] [2, 1] [0, 1] _ _ 2 _ _ 2 _ (Lib.hid (by decide)) (Lib.hid (by decide)) (Lib.hid (by decide)) (by exact Ints.litA _ _ _ _ _ rfl (by decide)) (by exact Ints.litB _ _ _ _ _ rfl (by decide)) rfl rfl rfl).mono ?_
    rintro e w1 ⟨Ax, cx, Ay, cy, rfl, hx, hy, kx, ky, bw1⟩
    replace bw1 := below_of2 bw1
    replace h0 := h0.below bw1
    replace h1 := h1.below bw1
    replace hb := below_trans hb bw1
    clear bw1
    go_wp2_with fail
    refine (equal_at Ax _ [2, 1] [2, 1] _ _ _ _ _ (by exact Ints.alloc hx _) (by exact Ints.lit _ [2, 1] _ _ rfl (by decide)) rfl rfl).mono ?_
    rintro e w2 ⟨rfl, nw2, hww2⟩
    have bw2 := below_of_drewN hww2
    clear hww2
    replace bw2 := below_of1 bw2
    replace h0 := h0.below bw2
    replace h1 := h1.below bw2
    replace hy := hy.below bw2
    replace hb := below_trans hb bw2
    clear bw2
    rw [eqB_true rfl]
    go_wp2_with fail
    refine (equal_at Ay _ [0, 1] [0, 1] _ _ _ _ _ (by exact Ints.alloc hy _) (by exact Ints.lit _ [0, 1] _ _ rfl (by decide)) rfl rfl).mono ?_
    rintro e w3 ⟨rfl, nw3, hww3⟩
    have bw3 := below_of_drewN hww3
    clear hww3
    replace bw3 := below_of1 bw3
    replace h0 := h0.below bw3
    replace h1 := h1.below bw3
    replace hb := below_trans hb bw3
    clear bw3
    rw [eqB_true rfl]
    clear hx hy kx ky
    go_wp2_with fail
    refine (prun_yes a0 a1 l0 l1 (goL l0 n) (gbL l0 l1 n) _ _ l0.length c0 c1 n _ HE (Lib.hid rfl) (Lib.hid rfl) h0 h1 rfl rfl rfl).mono ?_
    rintro e w4 ⟨Ax, cx, Ay, cy, rfl, hx, hy, kx, ky, bw4⟩
    replace h0 := h0.below bw4
    replace h1 := h1.below bw4
    replace hb := below_trans hb bw4
    clear bw4
    go_wp2_with fail
    refine (lrun_yes a0 l0 (goL l0 n) (waL l0 n) _ l0.length c0 n _ HL (Lib.hid rfl) (Lib.hid rfl) h0 rfl rfl).mono ?_
    rintro e w5 ⟨Az, cz, Au, cu, rfl, hz, hu, kz, ku, bw5⟩
    replace h0 := h0.below bw5
    replace h1 := h1.below bw5
    replace hx := hx.below bw5
    replace hy := hy.below bw5
    replace hb := below_trans hb bw5
    clear bw5
    go_wp2_with fail
    refine (equal_at Ax Az (goL l0 n) (goL l0 n) _ _ _ _ _ hx hz HLG.out.symm HLG.out.symm).mono ?_
    rintro e w6 ⟨rfl, nw6, hww6⟩
    have bw6 := below_of_drewN hww6
    clear hww6
    replace h0 := h0.below bw6
    replace h1 := h1.below bw6
    replace hx := hx.below bw6
    replace hy := hy.below bw6
    replace hb := below_trans hb bw6
    clear bw6
    rw [eqB_true rfl]
    go_wp2_with fail
    refine (clone_all a0 l0 c0 _ h0 (by omega)).mono ?_
    rintro e w7 ⟨Ab, cb, rfl, ob, b7⟩
    rw [show l0.map (Value.int .i64) = (tab l0.length (upV G l0 0)).map (Value.int .i64) by rw [up_zero]] at ob
    clear hz hu kz ku
    go_wp2
    go_loopw [85] (fun i wr => ∃ k : Nat, k ≤ l0.length ∧ i = .int .i64 k ∧ Hid (∀ i, i < k → G i ≤ 10000) ∧ wr.ownsRow w6.heap.size 3 1 (.slice Ab l0.length cb) l0.length ((tab l0.length (upV G l0 k)).map (Value.int .i64)) ∧ Below w6.heap.size w6 wr) (fun i _ => l0.length - (intOf i).toNat)
    case atStart => exact ⟨0, Nat.zero_le _, rfl, Lib.hid (fun i hi => by omega), ob, b7⟩
    case round =>
      clear ob b7
      obtain ⟨k, hk, rfl, HM, own, hbel⟩ := hrel
      by_cases hlt : k < l0.length
      · obtain ⟨g, cap, hv, hg, hgl⟩ := own.form (by omega)
        obtain ⟨rfl, rfl⟩ : Ab = some ⟨g, 0, none⟩ ∧ cb = cap := by injection hv with a b c; exact ⟨a, c⟩
        clear hv
        obtain ⟨b1, o1, z, e1, hc1, HZ⟩ := (h1.below hbel).at_ (k := k) (by omega)
        subst e1
        have hz := gt_of_get HZ.out
        have z0 : 0 ≤ z := by rw [← hz]; exact vb.lo k (by omega)
        have z1 : z ≤ 10000 := by rw [← hz]; exact vb.hi k (by omega)
        obtain ⟨x, hx'⟩ : ∃ x, x = gt l0 k := ⟨_, rfl⟩
        have x0 : 0 ≤ x := by rw [hx']; exact va.lo k hlt
        have x1 : x ≤ 10000 := by rw [hx']; exact va.hi k hlt
        have hc0 : wr.cell? ⟨g, k, none⟩ = some (.int .i64 x) := by
          rw [own.cellAt k (by omega), List.getElem?_map, get_tab _ hlt, upV, if_neg (by omega), hx']; rfl
        have hf0 := own.frozenAt k
        have hG' : G k = x + z := by rw [HG.out, hx', hz]
        have HO2 : Hid (∀ u : Int, u = x + z → ((wr.setCell ⟨g, k, none⟩ (.int .i64 u)).drew).ownsRow w6.heap.size 3 1 (.slice (some ⟨g, 0, none⟩) l0.length cb) l0.length ((tab l0.length (upV G l0 (k + 1))).map (Value.int .i64))) := Lib.hid (fun u hu => by
          have q := (own.stored k (.int .i64 u)).1
          rw [show ((tab l0.length (upV G l0 k)).map (Value.int .i64)).set k (.int .i64 u) = (tab l0.length (upV G l0 (k + 1))).map (Value.int .i64) by rw [← up_set, List.map_set, hu, hG']] at q
          exact q)
        have HB2 : Hid (∀ u : Value, Below w6.heap.size w6 ((wr.setCell ⟨g, k, none⟩ u).drew)) := Lib.hid (fun u => by
          have q := hbel.setCell (p := ⟨g, k, none⟩) hg u
          exact ⟨q.os, q.tape, q.output, q.size, q.block⟩)
        have S0 : ((wr.setCell ⟨g, k, none⟩ (.int .i64 (x + z))).drew).cell? ⟨g, k, none⟩ = some (.int .i64 (x + z)) := by
          rw [(HO2.out _ rfl).cellAt k (by omega), List.getElem?_map, get_tab _ hlt, upV, if_pos (by omega), hG']; rfl
        have i1 : (k : Int) < (l0.length : Int) := by omega
        have i2 : (k : Int) < (l1.length : Int) := by omega
        have s1 : IntKind.i64.wrap (x + z) = x + z := IntWalk.i64_in _ ⟨by omega, by omega⟩
        have HGk := Lib.hid hG'
        clear hz hx' hG'
        by_cases q : 10000 < x + z
        · have t1 : decide (10000 < x + z) = true := decide_eq_true q
          go_wp2
          go_region
          go_wp2
          go_ret
          exact ⟨rfl, below_trans hb (HB2.out _)⟩
        · have t1 : decide (10000 < x + z) = false := decide_eq_false q
          have HM' : Hid (∀ i, i < k + 1 → G i ≤ 10000) := Lib.hid (fun i hi => by
            by_cases c : i < k
            · exact HM.out i c
            · obtain rfl : i = k := by omega
              rw [HGk.out]; omega)
          go_wp2
          go_region
          go_wp2
          go_roundw
          case rel => exact ⟨k + 1, by omega, by go_num, HM', HO2.out _ rfl, HB2.out _⟩
          case measure => simp [intOf]; omega
      · obtain rfl : k = l0.length := by omega
        have vp : Tr (plL l0 l1) := by
          refine ⟨by rw [length_plL]; exact va.le, fun i hi => ?_, fun i hi => ?_⟩ <;> rw [length_plL] at hi <;> rw [gt_plL hi]
          · have := va.lo i hi; have := vb.lo i (by omega); omega
          · rw [← HG.out]; exact HM.out i hi
        have HEP := Lib.hid (lin_of (r := n) vp r0 r1)
        obtain ⟨B, hB⟩ : ∃ B, B = plL l0 l1 := ⟨_, rfl⟩
        have BL : Hid (B.length = l0.length) := Lib.hid (by rw [hB, length_plL])
        have HK : Hid (∀ t, t < l0.length → goV B n t = goV l0 n t + gbV l0 l1 n t) := Lib.hid (fun t ht => by
          have := gb_both (a := l0) (b := l1) (r := n) (fun t ht => vb.lo t (by omega)) ht
          rw [hB]; omega)
        rw [HPL.out, ← hB, ← BL.out] at own
        rw [← hB] at HEP
        have hB' := Ints.of_own own
        replace hx := hx.below hbel
        replace hy := hy.below hbel
        replace hb := below_trans hb hbel
        clear own hbel hB vp
        go_wp2_with fail
        refine (lrun_yes Ab B (goL B n) (waL B n) _ l0.length _ n _ HEP (Lib.hid rfl) (Lib.hid rfl) hB' BL.out.symm BL.out.symm).mono ?_
        rintro e w8 ⟨Ap, cp, Au, cu, rfl, hp, hu, kp, ku, bw8⟩
        replace hx := hx.below bw8
        replace hy := hy.below bw8
        replace hb := below_trans hb bw8
        clear bw8
        go_wp2
        go_loopw [122] (fun i wr => ∃ k nd : Nat, k ≤ l0.length ∧ i = .int .i64 k ∧ wr = w8.drewN nd) (fun i _ => l0.length - (intOf i).toNat)
        case atStart => exact ⟨0, 0, Nat.zero_le _, rfl, rfl⟩
        case round =>
          obtain ⟨k, nd, hk, rfl, rfl⟩ := hrel
          by_cases hlt : k < l0.length
          · obtain ⟨b1, o1, x, e1, hc1, HX⟩ := hx.at_ (k := k) (by rw [length_goL]; exact hlt)
            obtain ⟨b2, o2, y, e2, hc2, HY⟩ := hy.at_ (k := k) (by rw [length_gbL]; exact hlt)
            obtain ⟨b3, o3, z, e3, hc3, HZ⟩ := hp.at_ (k := k) (by rw [length_goL, BL.out]; exact hlt)
            subst e1 e2 e3
            have hx' := gt_of_get HX.out
            have hy' := gt_of_get HY.out
            have hz' := gt_of_get HZ.out
            rw [gt_goL hlt] at hx'
            rw [gt_gbL hlt] at hy'
            rw [gt_goL (by rw [BL.out]; exact hlt)] at hz'
            have q1 : z = x + y := by rw [← hx', ← hy', ← hz']; exact HK.out _ hlt
            have bx := go_bd va r0 (r := n) hlt
            have by' := gb_bd va vb r0 r1 EL.out (r := n) hlt
            rw [hx'] at bx
            rw [hy'] at by'
            obtain ⟨bx0, bx1⟩ := bx
            obtain ⟨by0, by1⟩ := by'
            have s1 : IntKind.i64.wrap (x + y) = x + y := IntWalk.i64_in _ ⟨by omega, by omega⟩
            have t1 : (z != x + y) = false := by simp [q1]
            have i1 : (k : Int) < (l0.length : Int) := by omega
            clear hx' hy' hz' q1
            go_wp2
            go_quiet (fail)
            go_wp2
            go_roundw
            case rel => exact ⟨k + 1, nd + nq, by omega, by go_num, by simp [World.drewN, Nat.add_assoc]⟩
            case measure => simp [intOf]; omega
          · go_wp2
            go_ret
            exact ⟨rfl, below_trans hb (below_of_drewN rfl)⟩
  · have e1 : (prE l0 l1 n != 0) = true := by simp [hE]
    go_enter Try.func5, Try.ntmps5
    go_wp2_with fail
    refine (prun_yes _ _ [3, 0] [1, 1] [2, 1] [0, 1] _ _ 2 _ _ 2 _ (Lib.hid (by decide)) (Lib.hid (by decide)) (Lib.hid (by decide)) (by exact Ints.litA _ _ _ _ _ rfl (by decide)) (by exact Ints.litB _ _ _ _ _ rfl (by decide)) rfl rfl rfl).mono ?_
    rintro e w1 ⟨Ax, cx, Ay, cy, rfl, hx, hy, kx, ky, bw1⟩
    replace bw1 := below_of2 bw1
    replace h0 := h0.below bw1
    replace h1 := h1.below bw1
    replace hb := below_trans hb bw1
    clear bw1
    go_wp2_with fail
    refine (equal_at Ax _ [2, 1] [2, 1] _ _ _ _ _ (by exact Ints.alloc hx _) (by exact Ints.lit _ [2, 1] _ _ rfl (by decide)) rfl rfl).mono ?_
    rintro e w2 ⟨rfl, nw2, hww2⟩
    have bw2 := below_of_drewN hww2
    clear hww2
    replace bw2 := below_of1 bw2
    replace h0 := h0.below bw2
    replace h1 := h1.below bw2
    replace hy := hy.below bw2
    replace hb := below_trans hb bw2
    clear bw2
    rw [eqB_true rfl]
    go_wp2_with fail
    refine (equal_at Ay _ [0, 1] [0, 1] _ _ _ _ _ (by exact Ints.alloc hy _) (by exact Ints.lit _ [0, 1] _ _ rfl (by decide)) rfl rfl).mono ?_
    rintro e w3 ⟨rfl, nw3, hww3⟩
    have bw3 := below_of_drewN hww3
    clear hww3
    replace bw3 := below_of1 bw3
    replace h0 := h0.below bw3
    replace h1 := h1.below bw3
    replace hb := below_trans hb bw3
    clear bw3
    rw [eqB_true rfl]
    clear hx hy kx ky
    go_wp2_with fail
    refine (prun_no a0 a1 l0 l1 c0 c1 n _ hE h0 h1).mono ?_
    rintro e w4 ⟨Ax, cx, Ay, cy, rfl, bx⟩
    replace hb := below_trans hb bx
    clear bx
    go_wp2
    go_ret
    exact ⟨rfl, hb⟩

end Go.Proofs.Ythngolnflogdnaa
