
/-
  The walk of the law PrioLeft.
-/
import Derived.Test.YthngolnflogdnaaPrioA
import Derived.Test.YthngolnflogdnaaRefB
import Derived.Test.YthngolnflogdnaaTraceB
namespace Go.Proofs.Ythngolnflogdnaa
set_option linter.all false
open Go.RowKit Go.Shelf


theorem refLess_left (A A' : Option Addr) (F : Nat → Int) (m L : List Int) (nl nm c d : Nat) (w : World) (z : Hid (Lesses (tab m.length F) m L)) (h : Ints w A (tab m.length F)) (h' : Ints w A' m) (hl : nl = m.length) (hm : nm = m.length) :
    Calls Try.prog 20 #[.slice A nl c, .slice A' nm d] w (AnsL L w) := by
  have z := z.out
  have q := refLess_any A A' (tab m.length F) m c d w h h' z.one z.two (by rw [length_tab]; exact Nat.le_refl _)
  rw [length_tab, show tab m.length (lessV (tab m.length F) m) = L from (eq_tab (by rw [z.rlen, length_tab]) (fun t ht => z.val t (by rw [length_tab]; exact ht))).symm] at q
  subst hl hm
  exact q

set_option maxRecDepth 100000 in
set_option maxHeartbeats 3200000 in
theorem walk_PrioLeft (a0 : Option Addr) (c0 : Nat) (l0 : List Int) (n : Int) (w : World)
    (h0 : Ints w a0 l0) (k0 : l0.length ≤ c0) (_hn : (Lit.int .i64 n).wf = true) :
    Calls Try.prog 4 #[.slice a0 l0.length c0, .int .i64 n] w fun e w' => e = .returned (.bool true) ∧ Below w.heap.size w w' := by
  have hb : Below w.heap.size w w := Below.refl _ _
  clear _hn
  obtain ⟨i0, hi0, hz0, hz1, hz2⟩ := info_parts int_info
  by_cases hE : lfE l0 n = 0
  · obtain ⟨v, r0, r1⟩ := lf_ok hE
    have HE := Lib.hid hE
    have HC : Hid (chk l0 = 0) := Lib.hid (chk_iff.2 v)
    have hle := v.le
    have hp := v.pos
    have e1 : decide (n < 0) = false := decide_eq_false (by omega)
    have e2 : decide (10000 < n) = false := decide_eq_false (by omega)
    obtain ⟨F, hF⟩ : ∃ F : Nat → Int, F = liV n 0 := ⟨_, rfl⟩
    have HF : Hid (∀ t : Nat, F t = n * t) := Lib.hid (fun t => by rw [hF, li_nat])
    have z := left_is v r0 r1
    rw [← hF] at z
    have HZ := Lib.hid z
    have hc := z.one
    have hr := z.r
    have HS : Hid (resE 0 (leftL l0 n) = 0) := Lib.hid (res_ok hr.small).1
    have HR : Hid (resL 0 (leftL l0 n) = leftL l0 n) := Lib.hid (res_ok hr.small).2
    have HV : Hid (tab l0.length (lessV (tab l0.length F) l0) = leftL l0 n) := Lib.hid (eq_tab (by rw [z.rlen, length_tab]) (fun t ht => z.val t (by rw [length_tab]; exact ht))).symm
    have LT : Hid ((tab l0.length F).length = l0.length) := Lib.hid (length_tab _ _)
    clear hE hF z
    go_enter Try.func4, Try.ntmps4
    go_wp2_with fail
    refine (left_yes a0 l0 (leftL l0 n) _ c0 n _ HE (Lib.hid rfl) h0 rfl).mono ?_
    rintro e w1 ⟨Ax, cx, rfl, ox, bw1⟩
    replace h0 := h0.below bw1
    replace hb := below_trans hb bw1
    have hx := Ints.of_own ox
    clear bw1 ox
    go_wp2_with fail
    refine (refCurve_any a0 l0 c0 _ h0).mono ?_
    rintro e w' ⟨rfl, rfl⟩
    rw [HC.out]
    go_wp2
    go_loopw [8, 36] (fun u i wr => ∃ k : Nat, k ≤ l0.length ∧ i = .int .i64 k ∧ wr.ownsRow w1.heap.size 3 1 u k ((tab k F).map (Value.int .i64)) ∧ Below w1.heap.size w1 wr) (fun _ i _ => l0.length - (intOf i).toNat)
    case atStart => exact ⟨0, Nat.zero_le _, rfl, by rw [tab_zero]; exact World.ownsRow_nil _ _ _ _, Below.refl _ _⟩
    case round =>
      obtain ⟨t, ht, rfl, hown, hbel⟩ := hrel
      by_cases hlt : t < l0.length
      · obtain ⟨P, hP⟩ : ∃ P, P = n * (t : Int) := ⟨_, rfl⟩
        have P0 : 0 ≤ P := by rw [hP]; exact Int.mul_nonneg r0 (by omega)
        have P1 : P ≤ 610000 := by rw [hP]; have := Int.mul_le_mul r1 (show (t : Int) ≤ 61 by omega) (by omega) (by omega); omega
        have s1 : IntKind.i64.wrap (n * (t : Int)) = P := by rw [← hP]; exact IntWalk.i64_in _ ⟨by omega, by omega⟩
        have HM : Hid (F t = P) := Lib.hid (by rw [HF.out, hP])
        have i1 : (t : Int) < (l0.length : Int) := by omega
        clear hP
        have hsz := hbel.size
        go_wp2_with (at_builtin; refine wpList_append_own _ rfl _ _ 22 rfl w1.heap.size 3 i0 (.int .i64 0) 1 8 Try.underlying22 hi0 hz0 hz1 hz2 rfl (by decide) _ _ _ rfl (World.ownsRow.alloc hown _) ⟨wr.heap.size, 0, none⟩ 1 1 [.int .i64 P] rfl rfl ?c1 ?c2 ?c3 ?c4 ?c5 ?_)
        case c1 => exact new_one2 _ _ _
        case c2 => exact one_cell2 _
        case c3 => unfold maxLen; omega
        case c4 => omega
        case c5 => simp; omega
        intro v' w2 hown' hgrow _
        have hbel' : Below w1.heap.size w1 w2 := ((hbel.alloc hbel.size _).grown hgrow (by simp; omega) (fun k hk => (hown.lt k hk).1))
        have hown'' : w2.ownsRow w1.heap.size 3 1 v' (t + 1) ((tab (t + 1) F).map (Value.int .i64)) := by rw [tab_succ, List.map_append, HM.out]; exact hown'
        clear hown' hgrow hown hbel
        go_wp2
        go_roundw
        case rel => exact ⟨t + 1, by omega, by go_num, hown'', hbel'⟩
        case measure => simp [intOf]; omega
      · obtain rfl : t = l0.length := by omega
        obtain ⟨g, cap, rfl, _, _⟩ := hown.form (by omega)
        have hf : Ints wr (some ⟨g, 0, none⟩) (tab l0.length F) := Ints.of_own (c := cap) (by rw [LT.out]; exact hown)
        replace h0 := h0.below hbel
        replace hx := hx.below hbel
        replace hb := below_trans hb hbel
        clear hown hbel
        go_wp2_with fail
        refine (refLess_left _ a0 F l0 (leftL l0 n) _ _ cap c0 _ HZ hf h0 rfl rfl).mono ?_
        rintro e w3 ⟨Az, cz, rfl, oz, bw3⟩
        replace hx := hx.below bw3
        replace hb := below_trans hb bw3
        have hz := Ints.of_own oz
        clear bw3 oz
        go_wp2_with fail
        refine (told_at Ax Az (leftL l0 n) (leftL l0 n) _ _ _ _ 0 0 _ (by rw [HR.out]; exact hx) hz (fun _ => rfl) (by rw [HR.out]) rfl HS.out.symm).mono ?_
        rintro e w5 ⟨rfl, nw5, hww5⟩
        have bw5 := below_of_drewN hww5
        clear hww5
        replace hb := below_trans hb bw5
        clear bw5
        go_wp2
        go_ret
        exact ⟨rfl, hb⟩
  · have hq : resE (lfE l0 n) [] = lfE l0 n ∧ resL (lfE l0 n) [] = [] := res_err hE
    have HQ := Lib.hid hq
    clear hq
    by_cases h2 : chk l0 = 0
    · have h3 : n < 0 ∨ 10000 < n := by
        by_cases q : n < 0 ∨ 10000 < n
        · exact q
        · exact absurd (lf_of (cv_of h2) (by omega) (by omega)) hE
      have HE : Hid (lfE l0 n = 1) := Lib.hid (by rw [lfE, if_neg (by simpa using h2), if_pos h3])
      have HC := Lib.hid h2
      by_cases h4 : n < 0
      · have e1 : decide (n < 0) = true := decide_eq_true h4
        clear h2 h3
        go_enter Try.func4, Try.ntmps4
        go_wp2_with fail
        refine (left_no a0 l0 c0 n _ hE h0).mono ?_
        rintro e w1 ⟨Ax, cx, rfl, ox, bw1⟩
        replace h0 := h0.below bw1
        replace hb := below_trans hb bw1
        have hx := Ints.of_own ox
        clear bw1 ox
        rw [HE.out]
        go_wp2_with fail
        refine (refCurve_any a0 l0 c0 _ h0).mono ?_
        rintro e w' ⟨rfl, rfl⟩
        rw [HC.out]
        rw [HE.out] at HQ
        go_wp2_with fail
        refine (told_at Ax none [] [] _ _ _ _ 1 1 _ (by rw [HQ.out.2]; exact hx) (Ints.nil_ _ _) (fun _ => rfl) (by rw [HQ.out.2]; rfl) rfl HQ.out.1.symm).mono ?_
        rintro e w5 ⟨rfl, nw5, hww5⟩
        have bw5 := below_of_drewN hww5
        clear hww5
        replace hb := below_trans hb bw5
        clear bw5
        go_wp2
        go_ret
        exact ⟨rfl, hb⟩
      · have e1 : decide (n < 0) = false := decide_eq_false h4
        have e2 : decide (10000 < n) = true := decide_eq_true (by omega)
        clear h2 h3
        go_enter Try.func4, Try.ntmps4
        go_wp2_with fail
        refine (left_no a0 l0 c0 n _ hE h0).mono ?_
        rintro e w1 ⟨Ax, cx, rfl, ox, bw1⟩
        replace h0 := h0.below bw1
        replace hb := below_trans hb bw1
        have hx := Ints.of_own ox
        clear bw1 ox
        rw [HE.out]
        go_wp2_with fail
        refine (refCurve_any a0 l0 c0 _ h0).mono ?_
        rintro e w' ⟨rfl, rfl⟩
        rw [HC.out]
        rw [HE.out] at HQ
        go_wp2_with fail
        refine (told_at Ax none [] [] _ _ _ _ 1 1 _ (by rw [HQ.out.2]; exact hx) (Ints.nil_ _ _) (fun _ => rfl) (by rw [HQ.out.2]; rfl) rfl HQ.out.1.symm).mono ?_
        rintro e w5 ⟨rfl, nw5, hww5⟩
        have bw5 := below_of_drewN hww5
        clear hww5
        replace hb := below_trans hb bw5
        clear bw5
        go_wp2
        go_ret
        exact ⟨rfl, hb⟩
    · have HE : Hid (lfE l0 n = chk l0) := Lib.hid (by rw [lfE, if_pos h2])
      have e1 : (chk l0 != 0) = true := by simp [h2]
      have e2 : (chk l0 == 0) = false := by simp [h2]
      clear h2
      go_enter Try.func4, Try.ntmps4
      go_wp2_with fail
      refine (left_no a0 l0 c0 n _ hE h0).mono ?_
      rintro e w1 ⟨Ax, cx, rfl, ox, bw1⟩
      replace h0 := h0.below bw1
      replace hb := below_trans hb bw1
      have hx := Ints.of_own ox
      clear bw1 ox
      rw [HE.out]
      go_wp2_with fail
      refine (refCurve_any a0 l0 c0 _ h0).mono ?_
      rintro e w' ⟨rfl, rfl⟩
      rw [HE.out] at HQ
      go_wp2_with fail
      refine (told_at Ax none [] [] _ _ _ _ (chk l0) (chk l0) _ (by rw [HQ.out.2]; exact hx) (Ints.nil_ _ _) (fun _ => rfl) (by rw [HQ.out.2]; rfl) rfl HQ.out.1.symm).mono ?_
      rintro e w5 ⟨rfl, nw5, hww5⟩
      have bw5 := below_of_drewN hww5
      clear hww5
      replace hb := below_trans hb bw5
      clear bw5
      go_wp2
      go_ret
      exact ⟨rfl, hb⟩

end Go.Proofs.Ythngolnflogdnaa
