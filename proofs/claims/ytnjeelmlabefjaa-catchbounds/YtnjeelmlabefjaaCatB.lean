
/-
  The walk of the law CatchBounds over the contracts of package catch.
-/
import Derived.Test.YtnjeelmlabefjaaCatR
namespace Go.Proofs.Ytnjeelmlabefjaa
set_option linter.all false
open Go.RowKit Go.Shelf Go.Lib


theorem IsCb.uniq {l : List Int} {r g : Int} {d e : Nat} (h : IsCb l r g d) (k : IsCb l r g e) : d = e := by
  have := h.least k.hit; have := k.least h.hit; omega
set_option maxRecDepth 100000 in
set_option maxHeartbeats 3200000 in
theorem v_CatchBounds (K : CatC) (a0 : Option Addr) (c0 : Nat) (l0 : List Int) (n1 n2 : Int) (w : World)
    (h0 : Ints w a0 l0) (_k0 : l0.length ≤ c0) (_1 : (Lit.int .i64 n1).wf = true) (_2 : (Lit.int .i64 n2).wf = true) :
    Calls Try.prog 4 #[.slice a0 l0.length c0, .int .i64 n1, .int .i64 n2] w fun e w' => e = .returned (.bool true) ∧ Below w.heap.size w w' := by
  have hb : Below w.heap.size w w := Below.refl _ _
  clear _1 _2 _k0
  obtain ⟨v, E, hv⟩ := ex_cb l0 n1 n2
  have HV := Lib.hid hv
  by_cases hC : chk l0 = 0
  · have HC := Lib.hid hC
    have cv := cv_of hC
    by_cases hE : cbE l0 n1 n2 = 0
    · have ok := cb_ok hE
      have r0 := ok.r0
      have r1 := ok.r1
      have g0 := ok.g0
      have g1 := ok.g1
      rcases hv with ⟨_, d, hd, rfl, rfl⟩ | ⟨_, hd, rfl, rfl⟩ | ⟨q, _⟩
      · have HD := Lib.hid hd
        clear hC hE hd ok
        go_enter Try.func4, Try.ntmps4
        go_wp2_with fail
        refine (K.bound_at a0 l0 _ c0 n1 n2 d 0 _ h0 HV rfl).mono ?_
        rintro e w1 ⟨rfl, bw1⟩
        replace h0 := h0.below bw1
        replace hb := below_trans hb bw1
        clear bw1
        go_wp2_with fail
        refine (refCurve_any a0 l0 c0 _ h0).mono ?_
        rintro e w' ⟨rfl, rfl⟩
        rw [HC.out]
        go_wp2_with fail
        refine (refBy_any a0 l0 _ c0 n1 n2 _ h0 cv r0 (by omega) g0 g1 rfl).mono ?_
        rintro e w2 ⟨⟨R, hR, rfl⟩, b2⟩
        replace hb := below_trans hb b2
        rcases hR with ⟨d', hd', rfl⟩ | ⟨hn, rfl⟩
        · obtain rfl := HD.out.uniq hd'
          clear hd'
          go_wp2
          go_ret
          exact ⟨rfl, hb⟩
        · exact absurd HD.out.hit (hn d HD.out.lt)
      · have HD := Lib.hid hd
        clear hC hE hd ok
        go_enter Try.func4, Try.ntmps4
        go_wp2_with fail
        refine (K.bound_at a0 l0 _ c0 n1 n2 0 5 _ h0 HV rfl).mono ?_
        rintro e w1 ⟨rfl, bw1⟩
        replace h0 := h0.below bw1
        replace hb := below_trans hb bw1
        clear bw1
        go_wp2_with fail
        refine (refCurve_any a0 l0 c0 _ h0).mono ?_
        rintro e w' ⟨rfl, rfl⟩
        rw [HC.out]
        go_wp2_with fail
        refine (refBy_any a0 l0 _ c0 n1 n2 _ h0 cv r0 (by omega) g0 g1 rfl).mono ?_
        rintro e w2 ⟨⟨R, hR, rfl⟩, b2⟩
        replace hb := below_trans hb b2
        rcases hR with ⟨d', hd', rfl⟩ | ⟨hn, rfl⟩
        · exact absurd hd'.hit (HD.out d' hd'.lt)
        · clear hn
          go_wp2
          go_ret
          exact ⟨rfl, hb⟩
      · exact absurd hE q
    · rcases hv with ⟨q, _⟩ | ⟨q, _⟩ | ⟨_, rfl, e1⟩
      · exact absurd q hE
      · exact absurd q hE
      have h4 : n1 < 0 ∨ 10000 < n1 ∨ n2 < 0 ∨ 1000000 < n2 := by
        by_cases c : n1 < 0 ∨ 10000 < n1 ∨ n2 < 0 ∨ 1000000 < n2
        · exact c
        · exact absurd (cb_of ⟨cv, by omega, by omega, by omega, by omega⟩) hE
      rw [cbE, if_neg (by simpa using hC), if_pos h4] at e1
      subst e1
      clear hC hE
      by_cases p1 : n1 < 0
      · go_enter Try.func4, Try.ntmps4
        go_wp2_with fail
        refine (K.bound_at a0 l0 _ c0 n1 n2 0 1 _ h0 HV rfl).mono ?_
        rintro e w1 ⟨rfl, bw1⟩
        replace h0 := h0.below bw1
        replace hb := below_trans hb bw1
        clear bw1
        go_wp2_with fail
        refine (refCurve_any a0 l0 c0 _ h0).mono ?_
        rintro e w' ⟨rfl, rfl⟩
        rw [HC.out]
        go_wp2
        go_ret
        exact ⟨rfl, hb⟩
      by_cases p2 : 10000 < n1
      · go_enter Try.func4, Try.ntmps4
        go_wp2_with fail
        refine (K.bound_at a0 l0 _ c0 n1 n2 0 1 _ h0 HV rfl).mono ?_
        rintro e w1 ⟨rfl, bw1⟩
        replace h0 := h0.below bw1
        replace hb := below_trans hb bw1
        clear bw1
        go_wp2_with fail
        refine (refCurve_any a0 l0 c0 _ h0).mono ?_
        rintro e w' ⟨rfl, rfl⟩
        rw [HC.out]
        go_wp2
        go_ret
        exact ⟨rfl, hb⟩
      by_cases p3 : n2 < 0
      · go_enter Try.func4, Try.ntmps4
        go_wp2_with fail
        refine (K.bound_at a0 l0 _ c0 n1 n2 0 1 _ h0 HV rfl).mono ?_
        rintro e w1 ⟨rfl, bw1⟩
        replace h0 := h0.below bw1
        replace hb := below_trans hb bw1
        clear bw1
        go_wp2_with fail
        refine (refCurve_any a0 l0 c0 _ h0).mono ?_
        rintro e w' ⟨rfl, rfl⟩
        rw [HC.out]
        go_wp2
        go_ret
        exact ⟨rfl, hb⟩
      have p4 : 1000000 < n2 := by omega
      go_enter Try.func4, Try.ntmps4
      go_wp2_with fail
      refine (K.bound_at a0 l0 _ c0 n1 n2 0 1 _ h0 HV rfl).mono ?_
      rintro e w1 ⟨rfl, bw1⟩
      replace h0 := h0.below bw1
      replace hb := below_trans hb bw1
      clear bw1
      go_wp2_with fail
      refine (refCurve_any a0 l0 c0 _ h0).mono ?_
      rintro e w' ⟨rfl, rfl⟩
      rw [HC.out]
      go_wp2
      go_ret
      exact ⟨rfl, hb⟩
  · rcases hv with ⟨q, _⟩ | ⟨q, _⟩ | ⟨_, rfl, e1⟩
    · exact absurd (chk_iff.2 (cb_ok q).cv) hC
    · exact absurd (chk_iff.2 (cb_ok q).cv) hC
    rw [cbE, if_pos hC] at e1
    obtain ⟨C, hCC⟩ : ∃ C, C = chk l0 := ⟨_, rfl⟩
    rw [← hCC] at e1
    subst e1
    have HC := Lib.hid hCC.symm
    have e1 : (E != 0) = true := by rw [bne_iff_ne, hCC]; exact hC
    have e2 : (E == 0) = false := by rw [beq_eq_false_iff_ne, hCC]; exact hC
    clear hC hCC
    go_enter Try.func4, Try.ntmps4
    go_wp2_with fail
    refine (K.bound_at a0 l0 _ c0 n1 n2 0 E _ h0 HV rfl).mono ?_
    rintro e w1 ⟨rfl, bw1⟩
    replace h0 := h0.below bw1
    replace hb := below_trans hb bw1
    clear bw1
    go_wp2_with fail
    refine (refCurve_any a0 l0 c0 _ h0).mono ?_
    rintro e w' ⟨rfl, rfl⟩
    rw [HC.out]
    go_wp2
    go_ret
    exact ⟨rfl, hb⟩

end Go.Proofs.Ytnjeelmlabefjaa
