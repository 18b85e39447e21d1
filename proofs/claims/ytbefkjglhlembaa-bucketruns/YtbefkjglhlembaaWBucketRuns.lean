
/-
  The walk of the law BucketRuns.
-/
import Derived.Test.YtbefkjglhlembaaBucketF
namespace Go.Proofs.Ytbefkjglhlembaa
set_option linter.all false
open Go.RowKit Go.Shelf


theorem pks_lit0 : pksE [⟨0, 0, 0⟩] = 1 := by decide
theorem packets_lit (A : Option Addr) (l : List Pk) (n c : Nat) (E : Int) (w : World) (h : Pks w A l) (hn : n = l.length) (hE : pksE l = E) :
    Calls Try.prog 22 #[.slice A n c] w fun e w' => e = .returned (.int .i64 E) ∧ Below w.heap.size w w' := by
  subst hn hE; exact packets_any A l c w h

set_option maxHeartbeats 3200000 in
theorem walk_BucketRuns (r b f : Int) (a1 : Option Addr) (c1 : Nat) (l1 : List Pk) (w : World) (_hr : (Lit.int .i64 r).wf = true) (_hb : (Lit.int .i64 b).wf = true) (_hf : (Lit.int .i64 f).wf = true) (hp : Pks w a1 l1) (_k1 : l1.length ≤ c1) :
    Calls Try.prog 5 #[.agg #[.int .i64 r, .int .i64 b, .int .i64 f], .slice a1 l1.length c1] w fun e w' => e = .returned (.bool true) ∧ Below w.heap.size w w' := by
  clear _hr _hb _hf _k1
  have e2 : (pksE l1 != pksE l1) = false := by simp
  have e3 : (pksE l1 == pksE l1) = true := by simp
  by_cases hB : Bk r b f
  · have HB := Lib.hid hB
    have HE := Lib.hid hB.ok
    clear hB
    by_cases hq : pksE l1 = 0
    · have HQ := Lib.hid hq
      have q := qu_of hq
      clear hq e2 e3
      go_enter Try.func5, Try.ntmps5
      go_wp2_with fail
      refine (run_ok a1 l1 r b f c1 _ HB.out (hp.alloc _) HQ.out).mono ?_
      rintro e w1 ⟨Ax, cx, rfl, hx, by1⟩
      have B0 := (Blk.new w 32 #[.int .i64 r, .int .i64 b, .int .i64 f]).below by1
      have hb := below_of1 by1
      replace hp := (hp.alloc _).below by1
      clear by1
      go_wp2_with fail
      refine (packets_any a1 l1 c1 _ hp).mono ?_
      rintro e w2 ⟨rfl, bw2⟩
      replace B0 := B0.below bw2
      replace hb := below_trans hb bw2
      replace hp := hp.below bw2
      replace hx := hx.below bw2
      clear bw2
      rw [HQ.out]
      go_wp2_with fail
      refine (refQueue_any a1 l1 c1 _ hp).mono ?_
      rintro e w3 ⟨rfl, bw3⟩
      replace B0 := B0.below bw3
      replace hb := below_trans hb bw3
      replace hp := hp.below bw3
      replace hx := hx.below bw3
      clear bw3
      rw [HQ.out]
      obtain ⟨u0, u1, u2⟩ := three_read B0
      have ul := B0.lt
      go_wp2_with fail
      refine (refBucket_any r b f _).mono ?_
      rintro e w4 ⟨rfl, bw4⟩
      replace B0 := B0.below bw4
      replace hb := below_trans hb bw4
      replace hp := hp.below bw4
      replace hx := hx.below bw4
      clear bw4
      rw [HE.out]
      clear u0 u1 u2 ul
      go_wp2_with fail
      refine (refQueue_any a1 l1 c1 _ hp).mono ?_
      rintro e w5 ⟨rfl, bw5⟩
      replace B0 := B0.below bw5
      replace hb := below_trans hb bw5
      replace hp := hp.below bw5
      replace hx := hx.below bw5
      clear bw5
      rw [HQ.out]
      obtain ⟨u0, u1, u2⟩ := three_read B0
      have ul := B0.lt
      go_wp2_with fail
      refine (taken_any a1 l1 r b f c1 _ HB.out hp q).mono ?_
      rintro e w6 ⟨Ay, cy, rfl, hy, b6⟩
      replace hb := below_trans hb b6
      replace hx := hx.below b6
      clear b6 u0 u1 u2 ul B0
      have HL : Hid (l1.length = (runL r b f l1).length) := Lib.hid (length_runL ..).symm
      go_wp2_with fail
      refine (bequal_same Ax Ay (runL r b f l1) _ _ _ _ _ hx hy HL.out HL.out).mono ?_
      rintro e w7 ⟨rfl, n7, hw7⟩
      replace hb := below_trans hb (below_of_drewN hw7)
      clear hw7
      go_wp2_with fail
      refine (packets_lit _ [⟨0, 0, 0⟩] _ _ 1 _ (by exact Pks.lit _ [⟨0, 0, 0⟩] _ _ rfl (by decide)) rfl pks_lit0).mono ?_
      rintro e w8 ⟨rfl, b8⟩
      replace hb := below_trans hb (below_of1 b8)
      clear b8
      go_wp2
      go_ret
      exact ⟨rfl, hb⟩
    · have HQ := Lib.hid hq
      have e1 : (pksE l1 != 0) = true := by simp [hq]
      clear hq
      go_enter Try.func5, Try.ntmps5
      go_wp2_with fail
      refine (run_no a1 l1 r b f c1 _ HB.out (hp.alloc _) HQ.out).mono ?_
      rintro e w1 ⟨Ax, cx, rfl, hx, by1⟩
      have B0 := (Blk.new w 32 #[.int .i64 r, .int .i64 b, .int .i64 f]).below by1
      have hb := below_of1 by1
      replace hp := (hp.alloc _).below by1
      clear by1
      go_wp2_with fail
      refine (packets_any a1 l1 c1 _ hp).mono ?_
      rintro e w2 ⟨rfl, bw2⟩
      replace B0 := B0.below bw2
      replace hb := below_trans hb bw2
      replace hp := hp.below bw2
      replace hx := hx.below bw2
      clear bw2
      skip
      go_wp2_with fail
      refine (refQueue_any a1 l1 c1 _ hp).mono ?_
      rintro e w3 ⟨rfl, bw3⟩
      replace B0 := B0.below bw3
      replace hb := below_trans hb bw3
      replace hp := hp.below bw3
      replace hx := hx.below bw3
      clear bw3
      skip
      obtain ⟨u0, u1, u2⟩ := three_read B0
      have ul := B0.lt
      go_wp2_with fail
      refine (refBucket_any r b f _).mono ?_
      rintro e w4 ⟨rfl, bw4⟩
      replace B0 := B0.below bw4
      replace hb := below_trans hb bw4
      replace hp := hp.below bw4
      replace hx := hx.below bw4
      clear bw4
      rw [HE.out]
      go_wp2_with fail
      refine (refQueue_any a1 l1 c1 _ hp).mono ?_
      rintro e w5 ⟨rfl, bw5⟩
      replace B0 := B0.below bw5
      replace hb := below_trans hb bw5
      replace hp := hp.below bw5
      replace hx := hx.below bw5
      clear bw5
      go_wp2
      go_ret
      exact ⟨rfl, hb⟩
  · have HB := Lib.hid hB
    have HE := Lib.hid (bk_no hB)
    clear hB
    go_enter Try.func5, Try.ntmps5
    go_wp2_with fail
    refine (run_bad a1 l1 r b f c1 _ HB.out).mono ?_
    rintro e w1 ⟨Ax, cx, rfl, hx, by1⟩
    have B0 := (Blk.new w 32 #[.int .i64 r, .int .i64 b, .int .i64 f]).below by1
    have hb := below_of1 by1
    replace hp := (hp.alloc _).below by1
    clear by1
    go_wp2_with fail
    refine (packets_any a1 l1 c1 _ hp).mono ?_
    rintro e w2 ⟨rfl, bw2⟩
    replace B0 := B0.below bw2
    replace hb := below_trans hb bw2
    replace hp := hp.below bw2
    replace hx := hx.below bw2
    clear bw2
    skip
    go_wp2_with fail
    refine (refQueue_any a1 l1 c1 _ hp).mono ?_
    rintro e w3 ⟨rfl, bw3⟩
    replace B0 := B0.below bw3
    replace hb := below_trans hb bw3
    replace hp := hp.below bw3
    replace hx := hx.below bw3
    clear bw3
    skip
    obtain ⟨u0, u1, u2⟩ := three_read B0
    have ul := B0.lt
    go_wp2_with fail
    refine (refBucket_any r b f _).mono ?_
    rintro e w4 ⟨rfl, bw4⟩
    replace B0 := B0.below bw4
    replace hb := below_trans hb bw4
    replace hp := hp.below bw4
    replace hx := hx.below bw4
    clear bw4
    rw [HE.out]
    go_wp2
    go_ret
    exact ⟨rfl, hb⟩

end Go.Proofs.Ytbefkjglhlembaa
