
/-
  The walk of the law RanksSay.
-/
import Derived.Test.YtccjegnflienhaaRankC
namespace Go.Proofs.Ytccjegnflienhaa
set_option linter.all false
open Go.RowKit Go.Shelf Go.Lib

def ftU (l : List Tk) (k : Nat) : Bool := (List.range k).all (fun i => decide (0 < rtV l i))
theorem ftU_next (l : List Tk) (k : Nat) : ftU l (k + 1) = (ftU l k && decide (0 < rtV l k)) := by simp [ftU, List.range_succ]
def zeT : List Tk := [⟨0, 0, 0⟩]
theorem zeT_bad : tasE zeT = 1 := by decide
set_option maxRecDepth 100000 in
set_option maxHeartbeats 3200000 in
theorem walk_RanksSay (a0 : Option Addr) (c0 : Nat) (l0 : List Tk) (n1 : Int) (w : World) (h0 : Tas w a0 l0) (k0 : l0.length ≤ c0) (_h1 : (Lit.int .i64 n1).wf = true) :
    Calls Try.prog 3 #[.slice a0 l0.length c0, .int .i64 n1] w fun e w' => e = .returned (.bool true) ∧ Below w.heap.size w w' := by
  have hb := Below.refl w.heap.size w
  have hl := h0.le
  go_enter Try.func3, Try.ntmps3
  by_cases hE : tasE l0 = 0
  · have v := tas_iff.1 hE
    have HE := Lib.hid hE
    have hle := v.le
    obtain ⟨s, hs⟩ : ∃ s, ftB l0 = s := ⟨_, rfl⟩
    have HS := Lib.hid hs
    clear hs hE
    by_cases hi : 0 ≤ n1 ∧ n1 < l0.length
    · obtain ⟨I, rfl⟩ := Int.eq_ofNat_of_zero_le hi.1
      have hlI : I < l0.length := by omega
      obtain ⟨N, E, hR⟩ := resp_of v hlI
      have HR1 := Lib.hid hR
      clear hR
      go_wp2_with fail
      refine (resp_yes a0 l0 c0 I _ h0 k0 HE.out hlI N E HR1).mono ?_
      rintro e w3 ⟨rfl, b3⟩
      replace h0 := h0.below b3
      replace hb := below_trans hb b3
      clear b3
      go_wp2_with fail
      refine (rfits_yes a0 l0 _ c0 s _ h0 k0 HE.out rfl HS).mono ?_
      rintro e w4 ⟨rfl, b4⟩
      replace h0 := h0.below b4
      replace hb := below_trans hb b4
      clear b4
      have i9 : (I : Int) < (l0.length : Int) := by omega
      clear hi
      go_wp2_with fail
      refine (refTasks_any a0 l0 c0 _ h0).mono ?_
      rintro e w5 ⟨rfl, b5⟩
      replace h0 := h0.below b5
      replace hb := below_trans hb b5
      clear b5
      go_wp2_with fail
      refine (rcheck_any a0 l0 c0 _ h0).mono ?_
      rintro e w6 ⟨rfl, b6⟩
      replace h0 := h0.below b6
      replace hb := below_trans hb b6
      clear b6
      go_wp2_with fail
      refine (rcheck_any _ zeT 1 _ (by exact Tas.lit _ zeT _ _ rfl (by decide))).mono ?_
      rintro e w7 ⟨rfl, b7⟩
      rw [zeT_bad]
      replace b7 := below_of1 b7
      replace h0 := h0.below b7
      replace hb := below_trans hb b7
      clear b7
      rw [HE.out]
      go_wp2
      go_loopw [10, 56] (fun u s wr => ∃ k : Nat, k ≤ l0.length ∧ s = .int .i64 k ∧ (∃ b : Bool, u = .bool b ∧ Hid (ftU l0 k = b)) ∧ Tas wr a0 l0 ∧ Below w.heap.size w wr) (fun _ s _ => l0.length - (intOf s).toNat)
      case atStart => exact ⟨0, Nat.zero_le _, rfl, ⟨true, rfl, Lib.hid rfl⟩, h0, hb⟩
      clear h0 hb
      obtain ⟨k, hk, rfl, ⟨b, rfl, HB⟩, h0, hb⟩ := hrel
      by_cases hlt : k < l0.length
      case pos =>
        have i1 : (k : Int) < (l0.length : Int) := by omega
        cases b with
        | false =>
          have HN : Hid (ftU l0 (k + 1) = false) := Lib.hid (by rw [ftU_next, HB.out]; rfl)
          go_wp2
          go_roundw
          case rel => exact ⟨k + 1, by omega, by go_num, ⟨false, rfl, HN⟩, h0, hb⟩
          case measure => simp [intOf]; omega
        | true =>
          obtain ⟨R, hR⟩ : ∃ R, rtV l0 k = R := ⟨_, rfl⟩
          have HR := Lib.hid hR
          clear hR
          go_wp2_with fail
          refine (refResp_any a0 l0 c0 k R _ h0 k0 v hlt HR).mono ?_
          rintro e w8 ⟨rfl, b8⟩
          replace h0 := h0.below b8
          replace hb := below_trans hb b8
          clear b8
          cases z : decide (0 < R)
          all_goals
            have HZ := Lib.hid z
            have HN := Lib.hid (show ftU l0 (k + 1) = _ from by rw [ftU_next, HB.out, HR.out, HZ.out, Bool.true_and])
            go_wp2
            go_roundw
            case rel => exact ⟨k + 1, by omega, by go_num, ⟨_, rfl, HN⟩, h0, hb⟩
            case measure => simp [intOf]; omega
      obtain rfl : k = l0.length := by omega
      obtain rfl : b = s := by rw [← HB.out]; exact HS.out
      clear HB
      rcases HR1.out with ⟨r1, rE, r2⟩ | ⟨r1, rN, rE⟩
      · have HRI := Lib.hid r1
        subst rE
        have e9 : decide (0 < N) = true := decide_eq_true r2
        clear r1 HR1
        go_wp2_with fail
        refine (refResp_any a0 l0 c0 I N _ h0 k0 v hlI HRI).mono ?_
        rintro e w9 ⟨rfl, b9⟩
        replace h0 := h0.below b9
        replace hb := below_trans hb b9
        clear b9
        go_wp2
        go_ret
        exact ⟨rfl, hb⟩
      · have HRI := Lib.hid r1
        subst rE rN
        clear r1 HR1
        go_wp2_with fail
        refine (refResp_any a0 l0 c0 I (-1) _ h0 k0 v hlI HRI).mono ?_
        rintro e w9 ⟨rfl, b9⟩
        replace h0 := h0.below b9
        replace hb := below_trans hb b9
        clear b9
        go_wp2
        go_ret
        exact ⟨rfl, hb⟩
    · go_wp2_with fail
      refine (resp_arg a0 l0 c0 n1 _ h0 HE.out hi).mono ?_
      rintro e w3 ⟨rfl, b3⟩
      replace h0 := h0.below b3
      replace hb := below_trans hb b3
      clear b3
      go_wp2_with fail
      refine (rfits_yes a0 l0 _ c0 s _ h0 k0 HE.out rfl HS).mono ?_
      rintro e w4 ⟨rfl, b4⟩
      replace h0 := h0.below b4
      replace hb := below_trans hb b4
      clear b4
      have HI := Lib.hid hi
      clear hi
      go_wp2_with fail
      refine (refTasks_any a0 l0 c0 _ h0).mono ?_
      rintro e w5 ⟨rfl, b5⟩
      replace h0 := h0.below b5
      replace hb := below_trans hb b5
      clear b5
      go_wp2_with fail
      refine (rcheck_any a0 l0 c0 _ h0).mono ?_
      rintro e w6 ⟨rfl, b6⟩
      replace h0 := h0.below b6
      replace hb := below_trans hb b6
      clear b6
      go_wp2_with fail
      refine (rcheck_any _ zeT 1 _ (by exact Tas.lit _ zeT _ _ rfl (by decide))).mono ?_
      rintro e w7 ⟨rfl, b7⟩
      rw [zeT_bad]
      replace b7 := below_of1 b7
      replace h0 := h0.below b7
      replace hb := below_trans hb b7
      clear b7
      rw [HE.out]
      go_wp2
      go_loopw [10, 56] (fun u s wr => ∃ k : Nat, k ≤ l0.length ∧ s = .int .i64 k ∧ (∃ b : Bool, u = .bool b ∧ Hid (ftU l0 k = b)) ∧ Tas wr a0 l0 ∧ Below w.heap.size w wr) (fun _ s _ => l0.length - (intOf s).toNat)
      case atStart => exact ⟨0, Nat.zero_le _, rfl, ⟨true, rfl, Lib.hid rfl⟩, h0, hb⟩
      clear h0 hb
      obtain ⟨k, hk, rfl, ⟨b, rfl, HB⟩, h0, hb⟩ := hrel
      by_cases hlt : k < l0.length
      case pos =>
        have i1 : (k : Int) < (l0.length : Int) := by omega
        cases b with
        | false =>
          have HN : Hid (ftU l0 (k + 1) = false) := Lib.hid (by rw [ftU_next, HB.out]; rfl)
          go_wp2
          go_roundw
          case rel => exact ⟨k + 1, by omega, by go_num, ⟨false, rfl, HN⟩, h0, hb⟩
          case measure => simp [intOf]; omega
        | true =>
          obtain ⟨R, hR⟩ : ∃ R, rtV l0 k = R := ⟨_, rfl⟩
          have HR := Lib.hid hR
          clear hR
          go_wp2_with fail
          refine (refResp_any a0 l0 c0 k R _ h0 k0 v hlt HR).mono ?_
          rintro e w8 ⟨rfl, b8⟩
          replace h0 := h0.below b8
          replace hb := below_trans hb b8
          clear b8
          cases z : decide (0 < R)
          all_goals
            have HZ := Lib.hid z
            have HN := Lib.hid (show ftU l0 (k + 1) = _ from by rw [ftU_next, HB.out, HR.out, HZ.out, Bool.true_and])
            go_wp2
            go_roundw
            case rel => exact ⟨k + 1, by omega, by go_num, ⟨_, rfl, HN⟩, h0, hb⟩
            case measure => simp [intOf]; omega
      obtain rfl : k = l0.length := by omega
      obtain rfl : b = s := by rw [← HB.out]; exact HS.out
      clear HB
      by_cases z : n1 < 0
      · go_wp2
        go_ret
        exact ⟨rfl, hb⟩
      · have z2 : (l0.length : Int) ≤ n1 := by have := HI.out; omega
        have e9 : decide (n1 < 0) = false := decide_eq_false z
        have e8 : decide ((l0.length : Int) ≤ n1) = true := decide_eq_true z2
        go_wp2
        go_ret
        exact ⟨rfl, hb⟩
  · have e1 : (tasE l0 != 0) = true := by simp [hE]
    go_wp2_with fail
    refine (resp_bad a0 l0 c0 n1 _ h0 hE).mono ?_
    rintro e w3 ⟨rfl, b3⟩
    replace h0 := h0.below b3
    replace hb := below_trans hb b3
    clear b3
    go_wp2_with fail
    refine (rfits_no a0 l0 c0 _ h0 hE).mono ?_
    rintro e w4 ⟨rfl, b4⟩
    replace h0 := h0.below b4
    replace hb := below_trans hb b4
    clear b4
    clear hE
    go_wp2_with fail
    refine (refTasks_any a0 l0 c0 _ h0).mono ?_
    rintro e w5 ⟨rfl, b5⟩
    replace h0 := h0.below b5
    replace hb := below_trans hb b5
    clear b5
    go_wp2_with fail
    refine (rcheck_any a0 l0 c0 _ h0).mono ?_
    rintro e w6 ⟨rfl, b6⟩
    replace h0 := h0.below b6
    replace hb := below_trans hb b6
    clear b6
    go_wp2_with fail
    refine (rcheck_any _ zeT 1 _ (by exact Tas.lit _ zeT _ _ rfl (by decide))).mono ?_
    rintro e w7 ⟨rfl, b7⟩
    rw [zeT_bad]
    replace b7 := below_of1 b7
    replace h0 := h0.below b7
    replace hb := below_trans hb b7
    clear b7
    go_wp2
    go_ret
    exact ⟨rfl, hb⟩

end Go.Proofs.Ytccjegnflienhaa
