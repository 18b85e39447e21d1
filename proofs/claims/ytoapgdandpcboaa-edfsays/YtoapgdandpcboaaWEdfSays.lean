
/-
  The walk of the law EdfSays.
-/
import Derived.Test.YtoapgdandpcboaaEdfL
import Derived.Test.YtoapgdandpcboaaDoneA
import Derived.Test.YtoapgdandpcboaaCurveB
namespace Go.Proofs.Ytoapgdandpcboaa
set_option linter.all false
open Go.RowKit Go.Shelf Go.Lib

def zeJ : List Jb := [⟨0, 0, 0⟩]
theorem zeJ_bad : jbsE zeJ = 1 := by decide
set_option maxRecDepth 100000 in
set_option maxHeartbeats 3200000 in
theorem walk_EdfSays (a0 : Option Addr) (c0 : Nat) (l0 : List Jb) (w : World) (h0 : Jbs w a0 l0) (k0 : l0.length ≤ c0) :
    Calls Try.prog 3 #[.slice a0 l0.length c0] w fun e w' => e = .returned (.bool true) ∧ Below w.heap.size w w' := by
  have hb := Below.refl w.heap.size w
  have hl := h0.le
  go_enter Try.func3, Try.ntmps3
  by_cases hE : jbsE l0 = 0
  · have j := jbs_iff.1 hE
    have HE := Lib.hid hE
    have hle := j.le
    clear hE
    go_wp2_with fail
    refine (erun_any a0 l0 c0 _ h0 HE.out).mono ?_
    rintro e w1 ⟨x, B, kk, hx, rfl, o1, b1⟩
    have ix : Ints w1 B x := Ints.of_own o1
    have HX := Lib.hid hx
    replace h0 := h0.below b1
    replace hb := below_trans hb b1
    clear b1 o1 hx
    go_wp2_with fail
    refine (elate_yes a0 l0 c0 _ h0 HE.out).mono ?_
    rintro e w2 ⟨hL, b2⟩
    obtain ⟨N, F, he, hNF⟩ : ∃ N F : Int, e = .returned (.tuple #[.int .i64 N, .int .i64 F]) ∧ ((∃ i : Nat, IsLate l0 i ∧ N = (i : Int) ∧ F = 0) ∨ ((∀ i, ¬ IsLate l0 i) ∧ N = 0 ∧ F = 5)) := by
      rcases hL with ⟨i, h1, h2⟩ | ⟨h1, h2⟩
      · exact ⟨i, 0, h2, .inl ⟨i, h1, rfl, rfl⟩⟩
      · exact ⟨0, 5, h2, .inr ⟨h1, rfl, rfl⟩⟩
    subst he
    have HNF := Lib.hid hNF
    replace h0 := h0.below b2
    replace hb := below_trans hb b2
    replace ix := ix.below b2
    clear b2 hL hNF
    go_wp2_with fail
    refine (refJobs_any a0 l0 c0 _ h0).mono ?_
    rintro e w3 ⟨rfl, b3⟩
    replace h0 := h0.below b3
    replace hb := below_trans hb b3
    replace ix := ix.below b3
    clear b3
    go_wp2_with fail
    refine (echeck_any a0 l0 c0 _ h0).mono ?_
    rintro e w4 ⟨rfl, b4⟩
    replace h0 := h0.below b4
    replace hb := below_trans hb b4
    replace ix := ix.below b4
    clear b4
    go_wp2_with fail
    refine (echeck_any _ zeJ 1 _ (by exact Jbs.lit _ zeJ _ _ rfl (by decide))).mono ?_
    rintro e w5 ⟨rfl, b5⟩
    rw [zeJ_bad]
    replace b5 := below_of1 b5
    replace h0 := h0.below b5
    replace hb := below_trans hb b5
    replace ix := ix.below b5
    clear b5
    rw [HE.out]
    go_wp2_with fail
    refine (refDone_any a0 l0 _ c0 _ h0 rfl j).mono ?_
    rintro e w6 ⟨g, g', m, D, rfl, hEnd, hD, ig, ig', b6⟩
    have hxm : x = tab m (edR l0) := HX.out.uniq ⟨m, hEnd, rfl⟩
    have HM : Hid (m = x.length) := Lib.hid (by rw [hxm, length_tab])
    rw [← hxm] at ig
    have HD := Lib.hid hD
    replace h0 := h0.below b6
    replace hb := below_trans hb b6
    replace ix := ix.below b6
    clear b6 hxm hD hEnd HX
    go_wp2_with fail
    refine (equal_at B _ x x _ _ _ _ _ ix ig rfl HM.out).mono ?_
    rintro e w7 ⟨rfl, n7, hw7⟩
    rw [eqB_true rfl]
    have b7 := below_of_drewN hw7
    replace h0 := h0.below b7
    replace hb := below_trans hb b7
    replace ig' := ig'.below b7
    clear b7 hw7 ix ig
    go_wp2
    go_loopw [68] (fun s wr => ∃ i : Nat, i ≤ l0.length ∧ s = .int .i64 i ∧ Hid (∀ k, k < i → edL l0 ((jb l0 k).due).toNat k = 0) ∧ Ints wr (some ⟨g', 0, none⟩) (tab l0.length D) ∧ Jbs wr a0 l0 ∧ Below w.heap.size w wr) (fun s _ => l0.length - (intOf s).toNat)
    case atStart => exact ⟨0, Nat.zero_le _, rfl, Lib.hid (fun k hk => by omega), ig', h0, hb⟩
    case round =>
      clear ig' h0 hb
      obtain ⟨i, hi, rfl, HL, ig', h0, hb⟩ := hrel
      by_cases hlt : i < l0.length
      · obtain ⟨bb, off, q, rfl, hbl, c0_, c1_, c2_, HJ⟩ := h0.get hlt
        have hq := jb_of HJ.out
        have qa := j.a0 i hlt
        have qd := j.ad i hlt
        have qd1 := j.d1 i hlt
        rw [hq] at qa qd qd1
        obtain ⟨U, hU⟩ := Int.eq_ofNat_of_zero_le (show 0 ≤ q.due by omega)
        obtain ⟨gx, ox, d, hA2, cD, HDc⟩ := ig'.at_ (k := i) (by rw [length_tab]; exact hlt)
        obtain ⟨rfl, rfl⟩ : g' = gx ∧ 0 = ox := by injection hA2 with hA2; injection hA2 with e1 e2; exact ⟨e1, e2⟩
        have hd : d = D i := by have := HDc.out; rw [get_tab D hlt] at this; exact (Option.some.inj this).symm
        rw [Nat.zero_add] at cD
        have HLT : Hid ((d = 0 ∨ (U : Int) < d) ↔ edL l0 U i ≠ 0) := Lib.hid (by rw [hd]; exact (HD.out i hlt).late j.toJobs hlt (by omega))
        have HU : Hid (((jb l0 i).due).toNat = U) := Lib.hid (by rw [hq, hU]; rfl)
        have i1 : (i : Int) < (l0.length : Int) := by omega
        have gW : g' < wr.heap.size := cell_lt cD
        rw [hU] at c2_
        have ne : ¬ g' = wr.heap.size := by omega
        clear hA2 hd hq HDc
        by_cases g1 : d = 0
        · have e1 : (d == 0) = true := by simp [g1]
          have HIL : Hid (IsLate l0 i) := Lib.hid ⟨hlt, by rw [HU.out]; exact HLT.out.mp (.inl g1), HL.out⟩
          obtain ⟨rfl, rfl⟩ : N = (i : Int) ∧ F = 0 := by
            rcases HNF.out with ⟨i', a, b, c⟩ | ⟨a, _⟩
            · obtain rfl := a.uniq HIL.out
              exact ⟨b, c⟩
            · exact absurd HIL.out (a i)
          clear g1
          go_wp2
          go_quiet (fail)
          go_wp2
          go_ret
          have b2 := hb.alloc hb.size (.cells #[.int .i64 q.at_, .int .i64 q.work, .int .i64 (U : Int)] 31)
          exact ⟨rfl, ⟨b2.os, b2.tape, b2.output, b2.size, b2.block⟩⟩
        · have e1 : (d == 0) = false := by simp [g1]
          by_cases g2 : (U : Int) < d
          · have e2 : decide ((U : Int) < d) = true := decide_eq_true g2
            have HIL : Hid (IsLate l0 i) := Lib.hid ⟨hlt, by rw [HU.out]; exact HLT.out.mp (.inr g2), HL.out⟩
            obtain ⟨rfl, rfl⟩ : N = (i : Int) ∧ F = 0 := by
              rcases HNF.out with ⟨i', a, b, c⟩ | ⟨a, _⟩
              · obtain rfl := a.uniq HIL.out
                exact ⟨b, c⟩
              · exact absurd HIL.out (a i)
            clear g1
            go_wp2
            go_quiet (fail)
            go_wp2
            go_ret
            have b2 := hb.alloc hb.size (.cells #[.int .i64 q.at_, .int .i64 q.work, .int .i64 (U : Int)] 31)
            exact ⟨rfl, ⟨b2.os, b2.tape, b2.output, b2.size, b2.block⟩⟩
          · have e2 : decide ((U : Int) < d) = false := decide_eq_false g2
            have HLN : Hid (∀ k, k < i + 1 → edL l0 ((jb l0 k).due).toNat k = 0) := Lib.hid (fun k hk => by
              by_cases c : k = i
              · subst c
                rw [HU.out]
                by_cases z : edL l0 U k = 0
                · exact z
                · rcases HLT.out.mpr z with y | y
                  · exact absurd y g1
                  · exact absurd y g2
              · exact HL.out k (by omega))
            clear g1
            go_wp2
            go_quiet (fail)
            go_wp2
            go_roundw
            case rel =>
              have b2 := hb.alloc hb.size (.cells #[.int .i64 q.at_, .int .i64 q.work, .int .i64 (U : Int)] 31)
              have i2 := ig'.alloc (.cells #[.int .i64 q.at_, .int .i64 q.work, .int .i64 (U : Int)] 31)
              have h2 := h0.alloc (.cells #[.int .i64 q.at_, .int .i64 q.work, .int .i64 (U : Int)] 31)
              exact ⟨i + 1, by omega, by go_num, HLN, i2.drewN _, h2.drewN _, ⟨b2.os, b2.tape, b2.output, b2.size, b2.block⟩⟩
            case measure => simp [intOf]; omega
      · obtain rfl : i = l0.length := by omega
        obtain ⟨rfl, rfl⟩ : N = 0 ∧ F = 5 := by
          rcases HNF.out with ⟨i', a, _⟩ | ⟨_, b, c⟩
          · exact absurd (HL.out i' a.1) a.2.1
          · exact ⟨b, c⟩
        go_wp2
        go_ret
        exact ⟨rfl, hb⟩
  · have e1 : (jbsE l0 != 0) = true := by simp [hE]
    go_wp2_with fail
    refine (erun_no a0 l0 c0 _ h0 hE).mono ?_
    rintro e w1 ⟨rfl, b1⟩
    replace h0 := h0.below b1
    replace hb := below_trans hb b1
    clear b1
    go_wp2_with fail
    refine (elate_no a0 l0 c0 _ h0 hE).mono ?_
    rintro e w2 ⟨rfl, b2⟩
    replace h0 := h0.below b2
    replace hb := below_trans hb b2
    clear b2
    go_wp2_with fail
    refine (refJobs_any a0 l0 c0 _ h0).mono ?_
    rintro e w3 ⟨rfl, b3⟩
    replace h0 := h0.below b3
    replace hb := below_trans hb b3
    clear b3
    go_wp2_with fail
    refine (echeck_any a0 l0 c0 _ h0).mono ?_
    rintro e w4 ⟨rfl, b4⟩
    replace h0 := h0.below b4
    replace hb := below_trans hb b4
    clear b4
    go_wp2_with fail
    refine (echeck_any _ zeJ 1 _ (by exact Jbs.lit _ zeJ _ _ rfl (by decide))).mono ?_
    rintro e w5 ⟨rfl, b5⟩
    rw [zeJ_bad]
    replace b5 := below_of1 b5
    replace h0 := h0.below b5
    replace hb := below_trans hb b5
    clear b5 hE
    go_wp2
    go_ret
    exact ⟨rfl, hb⟩

end Go.Proofs.Ytoapgdandpcboaa
