
/-
  The walk of the law TurnsSay.
-/
import Derived.Test.YthjeokdabdjhfaaTurnsG
namespace Go.Proofs.Ythjeokdabdjhfaa
set_option linter.all false
open Go.RowKit Go.Shelf


set_option maxRecDepth 100000 in
set_option maxHeartbeats 6400000 in
theorem walk_TurnsSay (a0 : Option Addr) (c0 : Nat) (l0 : List Fw) (n : Int) (w : World)
    (h0 : Fls w a0 l0) (k0 : l0.length ≤ c0) (_hn : (Lit.int .i64 n).wf = true) :
    Calls Try.prog 3 #[.slice a0 l0.length c0, .int .i64 n] w fun e w' => e = .returned (.bool true) ∧ Below w.heap.size w w' := by
  have hb : Below w.heap.size w w := Below.refl _ _
  clear _hn
  have LF := Lib.hid (length_fls l0)
  by_cases hE : flE (fls l0) = 0
  · have v := flE_iff.1 hE
    have HE := Lib.hid hE
    have h8 : l0.length ≤ 8 := by have := v.le; rwa [length_fls] at this
    clear hE
    by_cases hr : n < 0 ∨ 1000 < n
    · by_cases h1 : n < 0
      · have u1 : decide (n < 0) = true := decide_eq_true h1
        go_enter Try.func3, Try.ntmps3
        go_wp2_with fail
        refine (trun_yes a0 l0 _ c0 _ h0 HE rfl).mono ?_
        rintro e w1 ⟨Ax, cx, rfl, ox, b1⟩
        have hx := Sns.of_own ox
        replace h0 := h0.below b1
        replace hb := below_trans hb b1
        clear ox
        go_wp2_with fail
        refine (aft_out a0 l0 c0 n _ h0 HE hr).mono ?_
        rintro e w2 ⟨Ay, cy, rfl, oy, bw2⟩
        replace h0 := h0.below bw2
        replace hx := hx.below bw2
        replace hb := below_trans hb bw2
        have hy := Ints.of_own oy
        clear bw2 oy
        clear hy
        go_wp2_with fail
        refine (refFlows_any a0 l0 c0 _ h0).mono ?_
        rintro e w3 ⟨rfl, b3⟩
        replace h0 := h0.below b3
        replace hb := below_trans hb b3
        go_wp2_with fail
        refine (tcheck_any a0 l0 c0 _ h0).mono ?_
        rintro e w4 ⟨rfl, b4⟩
        replace h0 := h0.below b4
        replace hb := below_trans hb b4
        rw [HE.out]
        replace hx := hx.below b3
        replace hx := hx.below b4
        go_wp2_with fail
        refine (refOrder_any a0 l0 c0 _ h0 v).mono ?_
        rintro e w5 ⟨Az, cz, rfl, oz, b5⟩
        have hz := Sns.of_own oz
        replace h0 := h0.below b5
        replace hb := below_trans hb b5
        replace hx := hx.below b5
        go_wp2_with fail
        refine (sentSame Ax Az (ordF (fls l0)) _ _ _ _ _ hx hz rfl rfl).mono ?_
        rintro e w6 ⟨rfl, nw6, hw6⟩
        have bw6' := below_of_drewN hw6
        replace h0 := h0.below bw6'
        replace hb := below_trans hb bw6'
        clear hw6
        go_wp2
        go_ret
        exact ⟨rfl, hb⟩
      · have u1 : decide (n < 0) = false := decide_eq_false h1
        have u2 : decide (1000 < n) = true := decide_eq_true (by omega)
        go_enter Try.func3, Try.ntmps3
        go_wp2_with fail
        refine (trun_yes a0 l0 _ c0 _ h0 HE rfl).mono ?_
        rintro e w1 ⟨Ax, cx, rfl, ox, b1⟩
        have hx := Sns.of_own ox
        replace h0 := h0.below b1
        replace hb := below_trans hb b1
        clear ox
        go_wp2_with fail
        refine (aft_out a0 l0 c0 n _ h0 HE hr).mono ?_
        rintro e w2 ⟨Ay, cy, rfl, oy, bw2⟩
        replace h0 := h0.below bw2
        replace hx := hx.below bw2
        replace hb := below_trans hb bw2
        have hy := Ints.of_own oy
        clear bw2 oy
        clear hy
        go_wp2_with fail
        refine (refFlows_any a0 l0 c0 _ h0).mono ?_
        rintro e w3 ⟨rfl, b3⟩
        replace h0 := h0.below b3
        replace hb := below_trans hb b3
        go_wp2_with fail
        refine (tcheck_any a0 l0 c0 _ h0).mono ?_
        rintro e w4 ⟨rfl, b4⟩
        replace h0 := h0.below b4
        replace hb := below_trans hb b4
        rw [HE.out]
        replace hx := hx.below b3
        replace hx := hx.below b4
        go_wp2_with fail
        refine (refOrder_any a0 l0 c0 _ h0 v).mono ?_
        rintro e w5 ⟨Az, cz, rfl, oz, b5⟩
        have hz := Sns.of_own oz
        replace h0 := h0.below b5
        replace hb := below_trans hb b5
        replace hx := hx.below b5
        go_wp2_with fail
        refine (sentSame Ax Az (ordF (fls l0)) _ _ _ _ _ hx hz rfl rfl).mono ?_
        rintro e w6 ⟨rfl, nw6, hw6⟩
        have bw6' := below_of_drewN hw6
        replace h0 := h0.below bw6'
        replace hb := below_trans hb bw6'
        clear hw6
        go_wp2
        go_ret
        exact ⟨rfl, hb⟩
    · obtain ⟨p, hp⟩ := Int.eq_ofNat_of_zero_le (show 0 ≤ n by omega)
      subst hp
      have p1 : p ≤ 1000 := by omega
      have u1 : decide ((p : Int) < 0) = false := decide_eq_false (by omega)
      have u2 : decide (1000 < (p : Int)) = false := decide_eq_false (by omega)
      clear hr
      obtain ⟨i0, hi0, hz0, hz1, hz2⟩ := info_parts int_info
      go_enter Try.func3, Try.ntmps3
      go_wp2_with fail
      refine (trun_yes a0 l0 _ c0 _ h0 HE rfl).mono ?_
      rintro e w1 ⟨Ax, cx, rfl, ox, b1⟩
      have hx := Sns.of_own ox
      replace h0 := h0.below b1
      replace hb := below_trans hb b1
      clear ox
      go_wp2_with fail
      refine (aft_at a0 l0 (aftL (fls l0) p) _ c0 p _ _ h0 HE p1 (Lib.hid rfl) rfl rfl).mono ?_
      rintro e w2 ⟨Ay, cy, rfl, oy, bw2⟩
      replace h0 := h0.below bw2
      replace hx := hx.below bw2
      replace hb := below_trans hb bw2
      have hy := Ints.of_own oy
      clear bw2 oy
      rw [length_aftL, LF.out]
      go_wp2_with fail
      refine (refFlows_any a0 l0 c0 _ h0).mono ?_
      rintro e w3 ⟨rfl, b3⟩
      replace h0 := h0.below b3
      replace hb := below_trans hb b3
      go_wp2_with fail
      refine (tcheck_any a0 l0 c0 _ h0).mono ?_
      rintro e w4 ⟨rfl, b4⟩
      replace h0 := h0.below b4
      replace hb := below_trans hb b4
      rw [HE.out]
      replace hx := hx.below b3
      replace hx := hx.below b4
      go_wp2_with fail
      refine (refOrder_any a0 l0 c0 _ h0 v).mono ?_
      rintro e w5 ⟨Az, cz, rfl, oz, b5⟩
      have hz := Sns.of_own oz
      replace h0 := h0.below b5
      replace hb := below_trans hb b5
      replace hx := hx.below b5
      go_wp2_with fail
      refine (sentSame Ax Az (ordF (fls l0)) _ _ _ _ _ hx hz rfl rfl).mono ?_
      rintro e w6 ⟨rfl, nw6, hw6⟩
      have bw6' := below_of_drewN hw6
      replace h0 := h0.below bw6'
      replace hb := below_trans hb bw6'
      clear hw6
      replace hy := hy.below b3
      replace hy := hy.below b4
      replace hy := hy.below b5
      replace hy := hy.below bw6'
      obtain ⟨F, hF⟩ : ∃ F, F = aft (fls l0) (fun i => (flw (fls l0) i).cn p) := ⟨_, rfl⟩
      have HL : Hid (aftL (fls l0) p = tab l0.length F) := Lib.hid (by rw [hF, aftL, LF.out])
      have HF := Lib.hid hF
      clear hx hz oz b1 b3 b4 b5 bw6' hF
      go_wp2
      go_loopw [10, 77] (fun s i wr => ∃ k : Nat, k ≤ l0.length ∧ i = .int .i64 k ∧ wr.ownsRow w6.heap.size 3 1 s k ((tab k F).map (Value.int .i64)) ∧ Below w6.heap.size w6 wr) (fun _ i _ => l0.length - (intOf i).toNat)
      case atStart => exact ⟨0, Nat.zero_le _, rfl, by rw [tab_zero]; exact World.ownsRow_nil _ _ _ _, Below.refl _ _⟩
      case round =>
        obtain ⟨k, hk, rfl, hown, hbel⟩ := hrel
        by_cases hlt : k < l0.length
        · obtain ⟨bb, off, f, hA, hbl, d0, d1, iz, kz, HP⟩ := (h0.below hbel).get hlt
          subst hA
          have fo : FlwOk f.f := by have := v.ok k (by rw [LF.out]; exact hlt); rwa [flw_of HP.out] at this
          have sz : Sz f.z := fo.sz
          have zl := sz.le
          obtain ⟨C, hC⟩ : ∃ C, C = Flw.cn ⟨f.q, f.z⟩ p := ⟨_, rfl⟩
          have C1 : C ≤ f.z.length := by rw [hC]; exact cn_le _ _
          have j1 : (0 : Int) ≤ (C : Int) := by omega
          have j2 : (C : Int) ≤ (f.c : Int) := by omega
          have fo' : FlwOk ⟨f.q, f.z⟩ := fo
          have HC := Lib.hid hC
          have HFk : Hid (F k = sumV f.z C) := Lib.hid (by rw [HF.out, hC]; show sumV (flw (fls l0) k).z ((flw (fls l0) k).cn p) = _; rw [flw_of HP.out]; rfl)
          obtain ⟨W, hW⟩ : ∃ W, W = wr.alloc (.cells #[.int .i64 f.q, .slice f.a f.z.length f.c] 36) := ⟨_, rfl⟩
          have hWb : Below wr.heap.size wr W := by rw [hW]; exact (Below.refl _ _).alloc (Nat.le_refl _) _
          have izW := iz.below hWb
          have t0 : W.cell? ⟨wr.heap.size, 0, none⟩ = some (.int .i64 f.q) := by rw [hW]; exact (two_read (Blk.new _ _ _)).1
          have t1 : W.cell? ⟨wr.heap.size, 1, none⟩ = some (.slice f.a f.z.length f.c) := by rw [hW]; exact (two_read (Blk.new _ _ _)).2
          have hbW := below_trans hbel hWb
          have hownW := own_bel hown hWb
          have HW := Lib.hid hW
          have i1 : (k : Int) < (l0.length : Int) := by omega
          clear hC hW hWb iz hown hbel
          go_wp2
          rw [← HW.out]
          go_region_held3 (fun w' => w'.cell? ⟨wr.heap.size, 0, none⟩ = some (.int .i64 f.q) ∧ w'.cell? ⟨wr.heap.size, 1, none⟩ = some (.slice f.a f.z.length f.c))
            (first | go_keep | (go_split_ands; refine ⟨?_, ?_⟩ <;> exact (b9.cell (cell_lt (by assumption))).trans (by assumption)))
            (first
              | ((with_reducible refine (count_any f.q f.a f.z f.c p _ _ fo' izW.drew (by omega) rfl).mono ?_); rintro e w9 ⟨rfl, b9⟩; rw [← HC.out]))
          have b9' : Below W.heap.size W w9 := below_trans (below_of_drewN (n := 1) rfl) b9
          have iz9 := izW.below b9'
          have hown9 := own_bel hownW b9'
          have hb9 := below_trans hbW b9'
          clear b9 b9' izW t0 t1 hownW hbW
          go_wp2
          go_loop [13, 88] (fun s i => ∃ j : Nat, j ≤ C ∧ i = .int .i64 j ∧ s = .int .i64 (sumV f.z j)) (fun _ i => C - (intOf i).toNat)
          case atStart => exact ⟨0, Nat.zero_le _, rfl, rfl⟩
          case round =>
            obtain ⟨j, hj, rfl, rfl⟩ := hrel
            obtain ⟨u, hu⟩ : ∃ u, u = sumV f.z j := ⟨_, rfl⟩
            have ub := sz.bd j (by omega)
            rw [← hu] at ub
            obtain ⟨ua, ub⟩ := ub
            by_cases hjl : j < C
            · obtain ⟨b2, o2, z, e2, hc2, HZ2⟩ := iz9.at_ (k := j) (by omega)
              have hz := gt_of_get HZ2.out
              have z0 : 1 ≤ z := by rw [← hz]; exact sz.lo j (by omega)
              have z1 : z ≤ 1000 := by rw [← hz]; exact sz.hi j (by omega)
              have HN : Hid (sumV f.z (j + 1) = u + z) := Lib.hid (by rw [sumV, hz, hu])
              rw [← hu]
              have i2 : (j : Int) < (C : Int) := by omega
              clear hz hu
              rw [e2]
              go_wp2
              go_round
              case rel => exact ⟨j + 1, by omega, by go_num, by rw [HN.out]⟩
              case measure => simp [intOf]; omega
            · obtain rfl : j = C := by omega
              have HU : Hid (F k = u) := Lib.hid (by rw [HFk.out, hu])
              rw [← hu]
              clear hu
              have hsz := hb9.size
              go_wp2_with (at_builtin; refine wpList_append_own _ rfl _ _ 27 rfl w6.heap.size 3 i0 (.int .i64 0) 1 8 Try.underlying27 hi0 hz0 hz1 hz2 rfl (by decide) _ _ _ rfl (World.ownsRow.alloc hown9 _) ⟨w9.heap.size, 0, none⟩ 1 1 [.int .i64 u] rfl rfl ?g1 ?g2 ?g3 ?g4 ?g5 ?_)
              all_goals (try exact new_one2 _ _ _)
              case g2 => rfl
              case g3 => unfold maxLen; omega
              case g4 => omega
              case g5 => omega
              intro v' w10 hown' hgrow _
              have hbel' : Below w6.heap.size w6 w10 := ((hb9.alloc hb9.size _).grown hgrow (by simp; omega) (fun k hk => (hown9.lt k hk).1))
              have hown'' : w10.ownsRow w6.heap.size 3 1 v' (k + 1) ((tab (k + 1) F).map (Value.int .i64)) := by rw [tab_succ, List.map_append, HU.out]; exact hown'
              clear hown' hgrow hown9 hb9
              go_wp2
              go_roundw
              case rel => exact ⟨k + 1, by omega, by go_num, hown'', hbel'⟩
              case measure => simp [intOf]; omega
        · obtain rfl : k = l0.length := by omega
          rw [← HL.out] at hown
          obtain ⟨As, cs, hs⟩ := own_form hown
          subst hs
          have hS : Ints wr As (aftL (fls l0) p) := Ints.of_own (c := cs) (by rw [length_aftL, LF.out]; exact hown)
          replace hy := hy.below hbel
          replace hb := below_trans hb hbel
          have LA : Hid (l0.length = (aftL (fls l0) p).length) := Lib.hid (by rw [length_aftL, LF.out])
          clear hown hbel
          go_wp2_with fail
          refine (equal_at Ay As (aftL (fls l0) p) (aftL (fls l0) p) _ _ _ _ _ hy hS LA.out LA.out).mono ?_
          rintro e w11 ⟨rfl, n11, hw11⟩
          rw [eqB_true rfl]
          replace hb := below_trans hb (below_of_drewN hw11)
          clear hw11
          go_wp2
          go_ret
          exact ⟨rfl, hb⟩
  · have e1 : (flE (fls l0) != 0) = true := by simp [hE]
    have e2 : (flE (fls l0) == flE (fls l0)) = true := by simp
    have e3 : (flE (fls l0) != flE (fls l0)) = false := by simp
    go_enter Try.func3, Try.ntmps3
    go_wp2_with fail
    refine (trun_no a0 l0 c0 _ h0 hE).mono ?_
    rintro e w1 ⟨Ax, cx, rfl, ox, b1⟩
    replace h0 := h0.below b1
    replace hb := below_trans hb b1
    go_wp2_with fail
    refine (aft_no a0 l0 c0 n _ h0 hE).mono ?_
    rintro e w2 ⟨Ay, cy, rfl, oy, bw2⟩
    replace h0 := h0.below bw2
    replace hb := below_trans hb bw2
    have hy := Ints.of_own oy
    clear bw2 oy
    go_wp2_with fail
    refine (refFlows_any a0 l0 c0 _ h0).mono ?_
    rintro e w3 ⟨rfl, b3⟩
    replace h0 := h0.below b3
    replace hb := below_trans hb b3
    go_wp2_with fail
    refine (tcheck_any a0 l0 c0 _ h0).mono ?_
    rintro e w4 ⟨rfl, b4⟩
    replace h0 := h0.below b4
    replace hb := below_trans hb b4
    go_wp2
    go_ret
    exact ⟨rfl, hb⟩

end Go.Proofs.Ythjeokdabdjhfaa
