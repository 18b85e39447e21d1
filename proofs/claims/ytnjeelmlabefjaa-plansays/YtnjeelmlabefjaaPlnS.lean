
/-
  The walk of the law PlanSays over the contracts of package plan.
-/
import Derived.Test.YtnjeelmlabefjaaCatQ
import Derived.Test.YtnjeelmlabefjaaPlnG
namespace Go.Proofs.Ytnjeelmlabefjaa
set_option linter.all false
open Go.RowKit Go.Shelf Go.Lib


theorem IsRate.uniq {l : List Int} {g : Int} {d : Nat} {r s : Int} (h : IsRate l g d r) (k : IsRate l g d s) : r = s := by
  have := (h.iff k.lo).1 k.hit; have := (k.iff h.lo).1 h.hit; omega
theorem rr_is {l : List Int} {g v E R : Int} {D : Nat} (ho : RtOk l g D) (h : RtIs l g D v E) (k : RrIs l g D R) : (0 ≤ R ∧ v = R ∧ E = 0) ∨ (R = -1 ∧ v = 0 ∧ E = 5) := by
  rcases h with ⟨_, h, rfl⟩ | ⟨_, h, rfl, rfl⟩ | ⟨q, _⟩
  · rcases k with k | ⟨k, rfl⟩
    · exact .inl ⟨k.lo, h.uniq k, rfl⟩
    · exact absurd h.hit (k v h.lo h.hi)
  · rcases k with k | ⟨k, rfl⟩
    · exact absurd k.hit (h R k.lo k.hi)
    · exact .inr ⟨rfl, rfl, rfl⟩
  · exact absurd (rt_of ho) q
/-- The greatest so far, from -1 on. -/
structure GrT (l : List Int) (r : Int) (k : Nat) (m : Int) : Prop where
  top : ∀ t : Nat, t < k → r * (t : Int) - gt l t ≤ m
  lo : -1 ≤ m
  hit : m = -1 ∨ ∃ t : Nat, t < k ∧ m = r * (t : Int) - gt l t
theorem GrT.next {l : List Int} {r m : Int} {k : Nat} (h : GrT l r k m) : GrT l r (k + 1) (max m (r * (k : Int) - gt l k)) := by
  refine ⟨fun t ht => ?_, by have := h.lo; omega, ?_⟩
  · by_cases e : t = k
    · subst e; omega
    · have := h.top t (by omega); omega
  · by_cases c : m ≤ r * (k : Int) - gt l k
    · exact .inr ⟨k, by omega, by omega⟩
    · rcases h.hit with e | ⟨t, ht, e⟩
      · exact .inl (by omega)
      · exact .inr ⟨t, by omega, by omega⟩
theorem GrT.hi {l : List Int} {r m : Int} {k : Nat} (h : GrT l r k m) (v : Cv l) (r1 : r ≤ 10000) (hk : k ≤ l.length) : m ≤ 610000 := by
  rcases h.hit with e | ⟨t, ht, e⟩
  · omega
  · have h1 := v.le
    have h2 := v.lo t (by omega)
    have h3 := Int.mul_le_mul_of_nonneg_right r1 (show (0 : Int) ≤ (t : Int) by omega)
    omega
theorem GrT.is {l : List Int} {r m x F : Int} {D : Nat} (h : GrT l r (D + 1) m) (ho : RmOk l r D) (q : RmIs l r D x F) : (0 ≤ m ∧ x = m ∧ F = 0) ∨ (m < 0 ∧ x = 0 ∧ F = 5) := by
  have hz : ((D : Int)).toNat = D := Int.toNat_natCast D
  by_cases c : 0 ≤ m
  · have hm : IsRoom l r D m := by
      refine room_of c ?_ (fun t ht => h.top t (by omega))
      rcases h.hit with e | ⟨t, ht, e⟩
      · omega
      · exact ⟨t, by omega, e⟩
    rcases q with ⟨_, q, rfl⟩ | ⟨_, q, rfl, rfl⟩ | ⟨n, _⟩
    · rw [hz] at q
      have := hm.top x q.lo q.hit; have := q.top m c hm.hit
      exact .inl ⟨c, by omega, rfl⟩
    · rw [hz] at q
      exact absurd hm.hit (q m c)
    · exact absurd (rm_of ho) n
  · rcases q with ⟨_, q, rfl⟩ | ⟨_, q, rfl, rfl⟩ | ⟨n, _⟩
    · rw [hz] at q
      exact absurd q.hit (no_room (fun t ht => by have := h.top t (by omega); omega) x q.lo)
    · exact .inr ⟨by omega, rfl, rfl⟩
    · exact absurd (rm_of ho) n
theorem GrT.zero (l : List Int) (r : Int) : GrT l r 0 (-1) := ⟨fun t ht => by omega, by omega, .inl rfl⟩

set_option maxRecDepth 100000 in
set_option maxHeartbeats 3200000 in
theorem v_PlanSays (P : PlnC) (a0 : Option Addr) (c0 : Nat) (l0 : List Int) (n1 n2 n3 : Int) (w : World)
    (h0 : Ints w a0 l0) (k0 : l0.length ≤ c0) (_1 : (Lit.int .i64 n1).wf = true) (_2 : (Lit.int .i64 n2).wf = true) (_3 : (Lit.int .i64 n3).wf = true) :
    Calls Try.prog 5 #[.slice a0 l0.length c0, .int .i64 n1, .int .i64 n2, .int .i64 n3] w fun e w' => e = .returned (.bool true) ∧ Below w.heap.size w w' := by
  have hb : Below w.heap.size w w := Below.refl _ _
  clear _1 _2 _3
  obtain ⟨v, E, hv⟩ := ex_rt l0 n1 n3
  obtain ⟨x, F, hm⟩ := ex_rm l0 n2 n3
  have HV := Lib.hid hv
  have HM := Lib.hid hm
  by_cases hC : chk l0 = 0
  · have HC := Lib.hid hC
    have cv := cv_of hC
    by_cases hd : n3 < 0 ∨ (l0.length : Int) ≤ n3
    · have e1 : rtE l0 n1 n3 = 1 := by rw [rtE, if_neg (by simpa using hC), if_pos (by omega)]
      have e2 : rmE l0 n2 n3 = 1 := by rw [rmE, if_neg (by simpa using hC), if_pos (by omega)]
      rcases hv with ⟨q, _⟩ | ⟨q, _⟩ | ⟨_, rfl, rfl⟩
      · rw [e1] at q; exact absurd q (by decide)
      · rw [e1] at q; exact absurd q (by decide)
      rcases hm with ⟨q, _⟩ | ⟨q, _⟩ | ⟨_, rfl, rfl⟩
      · rw [e2] at q; exact absurd q (by decide)
      · rw [e2] at q; exact absurd q (by decide)
      rw [e1] at HV
      rw [e2] at HM
      clear hC e1 e2
      obtain ⟨x, hx⟩ : ∃ x : Int, x = 0 := ⟨_, rfl⟩
      obtain ⟨F, hF⟩ : ∃ F : Int, F = 1 := ⟨_, rfl⟩
      rw [← hx, ← hF] at HM
      by_cases p1 : n3 < 0
      · clear hd
        go_enter Try.func5, Try.ntmps5
        go_wp2_with fail
        refine (P.rate_at _ l0 _ c0 n1 n3 0 1 _ h0 HV rfl).mono ?_
        rintro e w1 ⟨rfl, bw1⟩
        replace h0 := h0.below bw1
        replace hb := below_trans hb bw1
        clear bw1
        go_wp2_with fail
        refine (P.room_at _ l0 _ c0 n2 n3 x F _ h0 k0 HM rfl).mono ?_
        rintro e w2 ⟨rfl, bw2⟩
        replace h0 := h0.below bw2
        replace hb := below_trans hb bw2
        clear bw2
        go_wp2_with fail
        refine (refCurve_any _ l0 c0 _ h0).mono ?_
        rintro e w' ⟨rfl, rfl⟩
        rw [HC.out]
        subst hx hF
        go_wp2
        go_ret
        exact ⟨rfl, hb⟩
      · have p2 : (l0.length : Int) ≤ n3 := by omega
        clear hd
        go_enter Try.func5, Try.ntmps5
        go_wp2_with fail
        refine (P.rate_at _ l0 _ c0 n1 n3 0 1 _ h0 HV rfl).mono ?_
        rintro e w1 ⟨rfl, bw1⟩
        replace h0 := h0.below bw1
        replace hb := below_trans hb bw1
        clear bw1
        go_wp2_with fail
        refine (P.room_at _ l0 _ c0 n2 n3 x F _ h0 k0 HM rfl).mono ?_
        rintro e w2 ⟨rfl, bw2⟩
        replace h0 := h0.below bw2
        replace hb := below_trans hb bw2
        clear bw2
        go_wp2_with fail
        refine (refCurve_any _ l0 c0 _ h0).mono ?_
        rintro e w' ⟨rfl, rfl⟩
        rw [HC.out]
        subst hx hF
        go_wp2
        go_ret
        exact ⟨rfl, hb⟩
    · obtain ⟨D, rfl⟩ := Int.eq_ofNat_of_zero_le (show 0 ≤ n3 by omega)
      have d1 : (D : Int) < (l0.length : Int) := by omega
      have hle := cv.le
      obtain ⟨bb, oo, rfl, _⟩ := h0.2 (by omega)
      have i9 : (D : Int) + 1 ≤ (c0 : Int) := by omega
      have HX : Hid ((n2 < 0 ∨ 10000 < n2) → x = 0 ∧ F = 1) := Lib.hid (fun q => by
        have e2 : rmE l0 n2 D = 1 := by rw [rmE, if_neg (by simpa using hC), if_pos (by omega)]
        rcases hm with ⟨q, _⟩ | ⟨q, _⟩ | ⟨_, h1, h2⟩
        · rw [e2] at q; exact absurd q (by decide)
        · rw [e2] at q; exact absurd q (by decide)
        · exact ⟨h1, by rw [h2, e2]⟩)
      have HXV : Hid ((n1 < 0 ∨ 1000000 < n1) → v = 0 ∧ E = 1) := Lib.hid (fun q => by
        have e2 : rtE l0 n1 D = 1 := by rw [rtE, if_neg (by simpa using hC), if_pos (by omega)]
        rcases hv with ⟨q, _⟩ | ⟨q, _⟩ | ⟨_, h1, h2⟩
        · rw [e2] at q; exact absurd q (by decide)
        · rw [e2] at q; exact absurd q (by decide)
        · exact ⟨h1, by rw [h2, e2]⟩)
      clear hd hC hm hv
      by_cases p1 : n1 < 0
      · obtain ⟨rfl, rfl⟩ := HXV.out (.inl p1)
        go_enter Try.func5, Try.ntmps5
        go_wp2_with fail
        refine (P.rate_at _ l0 _ c0 n1 D 0 1 _ h0 HV rfl).mono ?_
        rintro e w1 ⟨rfl, bw1⟩
        replace h0 := h0.below bw1
        replace hb := below_trans hb bw1
        clear bw1
        go_wp2_with fail
        refine (P.room_at _ l0 _ c0 n2 D x F _ h0 k0 HM rfl).mono ?_
        rintro e w2 ⟨rfl, bw2⟩
        replace h0 := h0.below bw2
        replace hb := below_trans hb bw2
        clear bw2
        go_wp2_with fail
        refine (refCurve_any _ l0 c0 _ h0).mono ?_
        rintro e w' ⟨rfl, rfl⟩
        rw [HC.out]
        by_cases p2 : n2 < 0
        · obtain ⟨rfl, rfl⟩ := HX.out (.inl p2)
          go_wp2
          go_ret
          exact ⟨rfl, hb⟩
        by_cases p3 : 10000 < n2
        · obtain ⟨rfl, rfl⟩ := HX.out (.inr p3)
          go_wp2
          go_ret
          exact ⟨rfl, hb⟩
        have r0 : 0 ≤ n2 := by omega
        have r1 : n2 ≤ 10000 := by omega
        have HRO : Hid (RmOk l0 n2 D) := Lib.hid ⟨cv, by omega, by omega, r0, r1⟩
        go_wp2
        go_loopw [17, 85] (fun u i wr => ∃ (k : Nat) (m : Int), k ≤ D + 1 ∧ i = .int .i64 k ∧ u = .int .i64 m ∧ Hid (GrT l0 n2 k m) ∧ Below w2.heap.size w2 wr) (fun _ i _ => D + 1 - (intOf i).toNat)
        case atStart => exact ⟨0, -1, Nat.zero_le _, rfl, rfl, Lib.hid (GrT.zero _ _), Below.refl _ _⟩
        case round =>
          obtain ⟨t, m, ht, rfl, rfl, HG, hbel⟩ := hrel
          by_cases hlt : t < D + 1
          · obtain ⟨b1, o1, y, e1, hc1, HY⟩ := (h0.below hbel).at_ (k := t) (by omega)
            obtain ⟨rfl, rfl⟩ : b1 = bb ∧ o1 = oo := by injection e1 with e1; injection e1 with e2 e3; exact ⟨e2.symm, e3.symm⟩
            have hy := gt_of_get HY.out
            have y0 : 0 ≤ y := by rw [← hy]; exact cv.lo t (by omega)
            have y1 : y ≤ 1000000 := by rw [← hy]; exact cv.hi t (by omega)
            obtain ⟨P, hP⟩ : ∃ P, P = (t : Int) * n2 := ⟨_, rfl⟩
            have P0 : 0 ≤ P := by rw [hP]; exact Int.mul_nonneg (by omega) r0
            have P1 : P ≤ 610000 := by rw [hP]; have := Int.mul_le_mul (show (t : Int) ≤ 61 by omega) r1 r0 (by omega); omega
            have m0 := HG.out.lo
            have m1 := HG.out.hi cv r1 (by omega)
            have HT : Hid (GrT l0 n2 (t + 1) (max m (P - y))) := Lib.hid (by have := HG.out.next; rw [Int.mul_comm n2, ← hP, hy] at this; exact this)
            have i1 : (t : Int) < (D : Int) + 1 := by omega
            have s2 : IntKind.i64.wrap ((t : Int) * n2) = P := by rw [← hP]; exact IntWalk.i64_in _ ⟨by omega, by omega⟩
            have s3 : IntKind.i64.wrap (P - y) = P - y := IntWalk.i64_in _ ⟨by omega, by omega⟩
            clear e1 hy hP
            rcases Int.lt_trichotomy m (P - y) with q | q | q
            · go_wp2
              go_roundw
              case rel => exact ⟨t + 1, _, by omega, by go_num, rfl, Lib.hid (by have q' := HT.out; rw [show max m (P - y) = (P - y) by omega] at q'; exact q'), hbel⟩
              case measure => simp [intOf]; omega
            · go_wp2
              go_roundw
              case rel => exact ⟨t + 1, _, by omega, by go_num, rfl, Lib.hid (by have q' := HT.out; rw [show max m (P - y) = (P - y) by omega] at q'; exact q'), hbel⟩
              case measure => simp [intOf]; omega
            · go_wp2
              go_roundw
              case rel => exact ⟨t + 1, _, by omega, by go_num, rfl, Lib.hid (by have q' := HT.out; rw [show max m (P - y) = m by omega] at q'; exact q'), hbel⟩
              case measure => simp [intOf]; omega
          · obtain rfl : t = D + 1 := by omega
            have i1 : ¬ ((D + 1 : Nat) : Int) < (D : Int) + 1 := by omega
            have hb' := below_trans hb hbel
            rcases HG.out.is HRO.out HM.out with ⟨c, rfl, rfl⟩ | ⟨c, rfl, rfl⟩
            · clear hb hbel
              go_wp2
              go_ret
              exact ⟨rfl, hb'⟩
            · clear hb hbel
              go_wp2
              go_ret
              exact ⟨rfl, hb'⟩
      by_cases p4 : 1000000 < n1
      · obtain ⟨rfl, rfl⟩ := HXV.out (.inr p4)
        go_enter Try.func5, Try.ntmps5
        go_wp2_with fail
        refine (P.rate_at _ l0 _ c0 n1 D 0 1 _ h0 HV rfl).mono ?_
        rintro e w1 ⟨rfl, bw1⟩
        replace h0 := h0.below bw1
        replace hb := below_trans hb bw1
        clear bw1
        go_wp2_with fail
        refine (P.room_at _ l0 _ c0 n2 D x F _ h0 k0 HM rfl).mono ?_
        rintro e w2 ⟨rfl, bw2⟩
        replace h0 := h0.below bw2
        replace hb := below_trans hb bw2
        clear bw2
        go_wp2_with fail
        refine (refCurve_any _ l0 c0 _ h0).mono ?_
        rintro e w' ⟨rfl, rfl⟩
        rw [HC.out]
        by_cases p2 : n2 < 0
        · obtain ⟨rfl, rfl⟩ := HX.out (.inl p2)
          go_wp2
          go_ret
          exact ⟨rfl, hb⟩
        by_cases p3 : 10000 < n2
        · obtain ⟨rfl, rfl⟩ := HX.out (.inr p3)
          go_wp2
          go_ret
          exact ⟨rfl, hb⟩
        have r0 : 0 ≤ n2 := by omega
        have r1 : n2 ≤ 10000 := by omega
        have HRO : Hid (RmOk l0 n2 D) := Lib.hid ⟨cv, by omega, by omega, r0, r1⟩
        go_wp2
        go_loopw [17, 85] (fun u i wr => ∃ (k : Nat) (m : Int), k ≤ D + 1 ∧ i = .int .i64 k ∧ u = .int .i64 m ∧ Hid (GrT l0 n2 k m) ∧ Below w2.heap.size w2 wr) (fun _ i _ => D + 1 - (intOf i).toNat)
        case atStart => exact ⟨0, -1, Nat.zero_le _, rfl, rfl, Lib.hid (GrT.zero _ _), Below.refl _ _⟩
        case round =>
          obtain ⟨t, m, ht, rfl, rfl, HG, hbel⟩ := hrel
          by_cases hlt : t < D + 1
          · obtain ⟨b1, o1, y, e1, hc1, HY⟩ := (h0.below hbel).at_ (k := t) (by omega)
            obtain ⟨rfl, rfl⟩ : b1 = bb ∧ o1 = oo := by injection e1 with e1; injection e1 with e2 e3; exact ⟨e2.symm, e3.symm⟩
            have hy := gt_of_get HY.out
            have y0 : 0 ≤ y := by rw [← hy]; exact cv.lo t (by omega)
            have y1 : y ≤ 1000000 := by rw [← hy]; exact cv.hi t (by omega)
            obtain ⟨P, hP⟩ : ∃ P, P = (t : Int) * n2 := ⟨_, rfl⟩
            have P0 : 0 ≤ P := by rw [hP]; exact Int.mul_nonneg (by omega) r0
            have P1 : P ≤ 610000 := by rw [hP]; have := Int.mul_le_mul (show (t : Int) ≤ 61 by omega) r1 r0 (by omega); omega
            have m0 := HG.out.lo
            have m1 := HG.out.hi cv r1 (by omega)
            have HT : Hid (GrT l0 n2 (t + 1) (max m (P - y))) := Lib.hid (by have := HG.out.next; rw [Int.mul_comm n2, ← hP, hy] at this; exact this)
            have i1 : (t : Int) < (D : Int) + 1 := by omega
            have s2 : IntKind.i64.wrap ((t : Int) * n2) = P := by rw [← hP]; exact IntWalk.i64_in _ ⟨by omega, by omega⟩
            have s3 : IntKind.i64.wrap (P - y) = P - y := IntWalk.i64_in _ ⟨by omega, by omega⟩
            clear e1 hy hP
            rcases Int.lt_trichotomy m (P - y) with q | q | q
            · go_wp2
              go_roundw
              case rel => exact ⟨t + 1, _, by omega, by go_num, rfl, Lib.hid (by have q' := HT.out; rw [show max m (P - y) = (P - y) by omega] at q'; exact q'), hbel⟩
              case measure => simp [intOf]; omega
            · go_wp2
              go_roundw
              case rel => exact ⟨t + 1, _, by omega, by go_num, rfl, Lib.hid (by have q' := HT.out; rw [show max m (P - y) = (P - y) by omega] at q'; exact q'), hbel⟩
              case measure => simp [intOf]; omega
            · go_wp2
              go_roundw
              case rel => exact ⟨t + 1, _, by omega, by go_num, rfl, Lib.hid (by have q' := HT.out; rw [show max m (P - y) = m by omega] at q'; exact q'), hbel⟩
              case measure => simp [intOf]; omega
          · obtain rfl : t = D + 1 := by omega
            have i1 : ¬ ((D + 1 : Nat) : Int) < (D : Int) + 1 := by omega
            have hb' := below_trans hb hbel
            rcases HG.out.is HRO.out HM.out with ⟨c, rfl, rfl⟩ | ⟨c, rfl, rfl⟩
            · clear hb hbel
              go_wp2
              go_ret
              exact ⟨rfl, hb'⟩
            · clear hb hbel
              go_wp2
              go_ret
              exact ⟨rfl, hb'⟩
      have g0 : 0 ≤ n1 := by omega
      have g1 : n1 ≤ 1000000 := by omega
      have HRT : Hid (RtOk l0 n1 D) := Lib.hid ⟨cv, by omega, d1, g0, g1⟩
      by_cases p2 : n2 < 0
      · obtain ⟨rfl, rfl⟩ := HX.out (.inl p2)
        obtain ⟨x, hx⟩ : ∃ x : Int, x = 0 := ⟨_, rfl⟩
        obtain ⟨F, hF⟩ : ∃ F : Int, F = 1 := ⟨_, rfl⟩
        rw [← hx, ← hF] at HM
        go_enter Try.func5, Try.ntmps5
        go_wp2_with fail
        refine (P.rate_at _ l0 _ c0 n1 D v E _ h0 HV rfl).mono ?_
        rintro e w1 ⟨rfl, bw1⟩
        replace h0 := h0.below bw1
        replace hb := below_trans hb bw1
        clear bw1
        go_wp2_with fail
        refine (P.room_at _ l0 _ c0 n2 D x F _ h0 k0 HM rfl).mono ?_
        rintro e w2 ⟨rfl, bw2⟩
        replace h0 := h0.below bw2
        replace hb := below_trans hb bw2
        clear bw2
        go_wp2_with fail
        refine (refCurve_any _ l0 c0 _ h0).mono ?_
        rintro e w' ⟨rfl, rfl⟩
        rw [HC.out]
        go_wp2_with fail
        refine (refRate_any _ l0 _ c0 n1 D D _ h0 cv g0 g1 rfl (by omega) rfl).mono ?_
        rintro e w3 ⟨⟨R, hR, rfl⟩, b3⟩
        replace h0 := h0.below b3
        replace hb := below_trans hb b3
        clear b3
        rcases rr_is HRT.out HV.out hR with ⟨q, rfl, rfl⟩ | ⟨rfl, rfl, rfl⟩
        · clear hR
          subst hx hF
          go_wp2
          go_ret
          exact ⟨rfl, hb⟩
        · clear hR
          subst hx hF
          go_wp2
          go_ret
          exact ⟨rfl, hb⟩
      by_cases p3 : 10000 < n2
      · obtain ⟨rfl, rfl⟩ := HX.out (.inr p3)
        obtain ⟨x, hx⟩ : ∃ x : Int, x = 0 := ⟨_, rfl⟩
        obtain ⟨F, hF⟩ : ∃ F : Int, F = 1 := ⟨_, rfl⟩
        rw [← hx, ← hF] at HM
        go_enter Try.func5, Try.ntmps5
        go_wp2_with fail
        refine (P.rate_at _ l0 _ c0 n1 D v E _ h0 HV rfl).mono ?_
        rintro e w1 ⟨rfl, bw1⟩
        replace h0 := h0.below bw1
        replace hb := below_trans hb bw1
        clear bw1
        go_wp2_with fail
        refine (P.room_at _ l0 _ c0 n2 D x F _ h0 k0 HM rfl).mono ?_
        rintro e w2 ⟨rfl, bw2⟩
        replace h0 := h0.below bw2
        replace hb := below_trans hb bw2
        clear bw2
        go_wp2_with fail
        refine (refCurve_any _ l0 c0 _ h0).mono ?_
        rintro e w' ⟨rfl, rfl⟩
        rw [HC.out]
        go_wp2_with fail
        refine (refRate_any _ l0 _ c0 n1 D D _ h0 cv g0 g1 rfl (by omega) rfl).mono ?_
        rintro e w3 ⟨⟨R, hR, rfl⟩, b3⟩
        replace h0 := h0.below b3
        replace hb := below_trans hb b3
        clear b3
        rcases rr_is HRT.out HV.out hR with ⟨q, rfl, rfl⟩ | ⟨rfl, rfl, rfl⟩
        · clear hR
          subst hx hF
          go_wp2
          go_ret
          exact ⟨rfl, hb⟩
        · clear hR
          subst hx hF
          go_wp2
          go_ret
          exact ⟨rfl, hb⟩
      go_enter Try.func5, Try.ntmps5
      go_wp2_with fail
      refine (P.rate_at _ l0 _ c0 n1 D v E _ h0 HV rfl).mono ?_
      rintro e w1 ⟨rfl, bw1⟩
      replace h0 := h0.below bw1
      replace hb := below_trans hb bw1
      clear bw1
      go_wp2_with fail
      refine (P.room_at _ l0 _ c0 n2 D x F _ h0 k0 HM rfl).mono ?_
      rintro e w2 ⟨rfl, bw2⟩
      replace h0 := h0.below bw2
      replace hb := below_trans hb bw2
      clear bw2
      go_wp2_with fail
      refine (refCurve_any _ l0 c0 _ h0).mono ?_
      rintro e w' ⟨rfl, rfl⟩
      rw [HC.out]
      go_wp2_with fail
      refine (refRate_any _ l0 _ c0 n1 D D _ h0 cv g0 g1 rfl (by omega) rfl).mono ?_
      rintro e w3 ⟨⟨R, hR, rfl⟩, b3⟩
      replace h0 := h0.below b3
      replace hb := below_trans hb b3
      clear b3
      rcases rr_is HRT.out HV.out hR with ⟨q, rfl, rfl⟩ | ⟨rfl, rfl, rfl⟩
      · clear hR
        have r0 : 0 ≤ n2 := by omega
        have r1 : n2 ≤ 10000 := by omega
        have HRO : Hid (RmOk l0 n2 D) := Lib.hid ⟨cv, by omega, by omega, r0, r1⟩
        go_wp2
        go_loopw [17, 85] (fun u i wr => ∃ (k : Nat) (m : Int), k ≤ D + 1 ∧ i = .int .i64 k ∧ u = .int .i64 m ∧ Hid (GrT l0 n2 k m) ∧ Below w3.heap.size w3 wr) (fun _ i _ => D + 1 - (intOf i).toNat)
        case atStart => exact ⟨0, -1, Nat.zero_le _, rfl, rfl, Lib.hid (GrT.zero _ _), Below.refl _ _⟩
        case round =>
          obtain ⟨t, m, ht, rfl, rfl, HG, hbel⟩ := hrel
          by_cases hlt : t < D + 1
          · obtain ⟨b1, o1, y, e1, hc1, HY⟩ := (h0.below hbel).at_ (k := t) (by omega)
            obtain ⟨rfl, rfl⟩ : b1 = bb ∧ o1 = oo := by injection e1 with e1; injection e1 with e2 e3; exact ⟨e2.symm, e3.symm⟩
            have hy := gt_of_get HY.out
            have y0 : 0 ≤ y := by rw [← hy]; exact cv.lo t (by omega)
            have y1 : y ≤ 1000000 := by rw [← hy]; exact cv.hi t (by omega)
            obtain ⟨P, hP⟩ : ∃ P, P = (t : Int) * n2 := ⟨_, rfl⟩
            have P0 : 0 ≤ P := by rw [hP]; exact Int.mul_nonneg (by omega) r0
            have P1 : P ≤ 610000 := by rw [hP]; have := Int.mul_le_mul (show (t : Int) ≤ 61 by omega) r1 r0 (by omega); omega
            have m0 := HG.out.lo
            have m1 := HG.out.hi cv r1 (by omega)
            have HT : Hid (GrT l0 n2 (t + 1) (max m (P - y))) := Lib.hid (by have := HG.out.next; rw [Int.mul_comm n2, ← hP, hy] at this; exact this)
            have i1 : (t : Int) < (D : Int) + 1 := by omega
            have s2 : IntKind.i64.wrap ((t : Int) * n2) = P := by rw [← hP]; exact IntWalk.i64_in _ ⟨by omega, by omega⟩
            have s3 : IntKind.i64.wrap (P - y) = P - y := IntWalk.i64_in _ ⟨by omega, by omega⟩
            clear e1 hy hP
            rcases Int.lt_trichotomy m (P - y) with q | q | q
            · go_wp2
              go_roundw
              case rel => exact ⟨t + 1, _, by omega, by go_num, rfl, Lib.hid (by have q' := HT.out; rw [show max m (P - y) = (P - y) by omega] at q'; exact q'), hbel⟩
              case measure => simp [intOf]; omega
            · go_wp2
              go_roundw
              case rel => exact ⟨t + 1, _, by omega, by go_num, rfl, Lib.hid (by have q' := HT.out; rw [show max m (P - y) = (P - y) by omega] at q'; exact q'), hbel⟩
              case measure => simp [intOf]; omega
            · go_wp2
              go_roundw
              case rel => exact ⟨t + 1, _, by omega, by go_num, rfl, Lib.hid (by have q' := HT.out; rw [show max m (P - y) = m by omega] at q'; exact q'), hbel⟩
              case measure => simp [intOf]; omega
          · obtain rfl : t = D + 1 := by omega
            have i1 : ¬ ((D + 1 : Nat) : Int) < (D : Int) + 1 := by omega
            have hb' := below_trans hb hbel
            rcases HG.out.is HRO.out HM.out with ⟨c, rfl, rfl⟩ | ⟨c, rfl, rfl⟩
            · clear hb hbel
              go_wp2
              go_ret
              exact ⟨rfl, hb'⟩
            · clear hb hbel
              go_wp2
              go_ret
              exact ⟨rfl, hb'⟩
      · clear hR
        have r0 : 0 ≤ n2 := by omega
        have r1 : n2 ≤ 10000 := by omega
        have HRO : Hid (RmOk l0 n2 D) := Lib.hid ⟨cv, by omega, by omega, r0, r1⟩
        go_wp2
        go_loopw [17, 85] (fun u i wr => ∃ (k : Nat) (m : Int), k ≤ D + 1 ∧ i = .int .i64 k ∧ u = .int .i64 m ∧ Hid (GrT l0 n2 k m) ∧ Below w3.heap.size w3 wr) (fun _ i _ => D + 1 - (intOf i).toNat)
        case atStart => exact ⟨0, -1, Nat.zero_le _, rfl, rfl, Lib.hid (GrT.zero _ _), Below.refl _ _⟩
        case round =>
          obtain ⟨t, m, ht, rfl, rfl, HG, hbel⟩ := hrel
          by_cases hlt : t < D + 1
          · obtain ⟨b1, o1, y, e1, hc1, HY⟩ := (h0.below hbel).at_ (k := t) (by omega)
            obtain ⟨rfl, rfl⟩ : b1 = bb ∧ o1 = oo := by injection e1 with e1; injection e1 with e2 e3; exact ⟨e2.symm, e3.symm⟩
            have hy := gt_of_get HY.out
            have y0 : 0 ≤ y := by rw [← hy]; exact cv.lo t (by omega)
            have y1 : y ≤ 1000000 := by rw [← hy]; exact cv.hi t (by omega)
            obtain ⟨P, hP⟩ : ∃ P, P = (t : Int) * n2 := ⟨_, rfl⟩
            have P0 : 0 ≤ P := by rw [hP]; exact Int.mul_nonneg (by omega) r0
            have P1 : P ≤ 610000 := by rw [hP]; have := Int.mul_le_mul (show (t : Int) ≤ 61 by omega) r1 r0 (by omega); omega
            have m0 := HG.out.lo
            have m1 := HG.out.hi cv r1 (by omega)
            have HT : Hid (GrT l0 n2 (t + 1) (max m (P - y))) := Lib.hid (by have := HG.out.next; rw [Int.mul_comm n2, ← hP, hy] at this; exact this)
            have i1 : (t : Int) < (D : Int) + 1 := by omega
            have s2 : IntKind.i64.wrap ((t : Int) * n2) = P := by rw [← hP]; exact IntWalk.i64_in _ ⟨by omega, by omega⟩
            have s3 : IntKind.i64.wrap (P - y) = P - y := IntWalk.i64_in _ ⟨by omega, by omega⟩
            clear e1 hy hP
            rcases Int.lt_trichotomy m (P - y) with q | q | q
            · go_wp2
              go_roundw
              case rel => exact ⟨t + 1, _, by omega, by go_num, rfl, Lib.hid (by have q' := HT.out; rw [show max m (P - y) = (P - y) by omega] at q'; exact q'), hbel⟩
              case measure => simp [intOf]; omega
            · go_wp2
              go_roundw
              case rel => exact ⟨t + 1, _, by omega, by go_num, rfl, Lib.hid (by have q' := HT.out; rw [show max m (P - y) = (P - y) by omega] at q'; exact q'), hbel⟩
              case measure => simp [intOf]; omega
            · go_wp2
              go_roundw
              case rel => exact ⟨t + 1, _, by omega, by go_num, rfl, Lib.hid (by have q' := HT.out; rw [show max m (P - y) = m by omega] at q'; exact q'), hbel⟩
              case measure => simp [intOf]; omega
          · obtain rfl : t = D + 1 := by omega
            have i1 : ¬ ((D + 1 : Nat) : Int) < (D : Int) + 1 := by omega
            have hb' := below_trans hb hbel
            rcases HG.out.is HRO.out HM.out with ⟨c, rfl, rfl⟩ | ⟨c, rfl, rfl⟩
            · clear hb hbel
              go_wp2
              go_ret
              exact ⟨rfl, hb'⟩
            · clear hb hbel
              go_wp2
              go_ret
              exact ⟨rfl, hb'⟩
  · obtain ⟨Q, hq⟩ : ∃ Q, Q = chk l0 := ⟨_, rfl⟩
    have e1 : rtE l0 n1 n3 = Q := by rw [rtE, if_pos hC, hq]
    have e2 : rmE l0 n2 n3 = Q := by rw [rmE, if_pos hC, hq]
    have q0 : ¬ Q = 0 := by rw [hq]; exact hC
    rcases hv with ⟨q, _⟩ | ⟨q, _⟩ | ⟨_, rfl, rfl⟩
    · rw [e1] at q; exact absurd q q0
    · rw [e1] at q; exact absurd q q0
    rcases hm with ⟨q, _⟩ | ⟨q, _⟩ | ⟨_, rfl, rfl⟩
    · rw [e2] at q; exact absurd q q0
    · rw [e2] at q; exact absurd q q0
    rw [e1] at HV
    rw [e2] at HM
    have HC := Lib.hid hq.symm
    have t1 : (Q != 0) = true := by rw [bne_iff_ne]; exact q0
    have t2 : (Q == 0) = false := by rw [beq_eq_false_iff_ne]; exact q0
    obtain ⟨x, hx⟩ : ∃ x : Int, x = 0 := ⟨_, rfl⟩
    obtain ⟨F, hF⟩ : ∃ F : Int, F = Q := ⟨_, rfl⟩
    rw [← hx, ← hF] at HM
    clear hC e1 e2 hq q0
    go_enter Try.func5, Try.ntmps5
    go_wp2_with fail
    refine (P.rate_at _ l0 _ c0 n1 n3 0 Q _ h0 HV rfl).mono ?_
    rintro e w1 ⟨rfl, bw1⟩
    replace h0 := h0.below bw1
    replace hb := below_trans hb bw1
    clear bw1
    go_wp2_with fail
    refine (P.room_at _ l0 _ c0 n2 n3 x F _ h0 k0 HM rfl).mono ?_
    rintro e w2 ⟨rfl, bw2⟩
    replace h0 := h0.below bw2
    replace hb := below_trans hb bw2
    clear bw2
    go_wp2_with fail
    refine (refCurve_any _ l0 c0 _ h0).mono ?_
    rintro e w' ⟨rfl, rfl⟩
    rw [HC.out]
    subst hx hF
    go_wp2
    go_ret
    exact ⟨rfl, hb⟩

end Go.Proofs.Ytnjeelmlabefjaa
