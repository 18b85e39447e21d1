
/-
  The walk of the law TopTasks.
-/
import Derived.Test.YtccjegnflienhaaBegA
import Derived.Test.YtccjegnflienhaaRankB
import Derived.Test.YtccjegnflienhaaEdfL
import Derived.Test.YtccjegnflienhaaJobD
import Derived.OwnWalk
namespace Go.Proofs.Ytccjegnflienhaa
set_option linter.all false
open Go.RowKit Go.Shelf Go.Lib

/-- The jobs so far, of which tasks they are: all ahead of the j-th, and of the j-th those of the first k tasks. -/
structure JbX (l : List Tk) (M : List Jb) (ti tj : Nat → Nat) (j k : Nat) : Prop extends JobsOf l M ti tj where
  old : ∀ x, x < M.length → tj x < j ∨ tj x = j ∧ ti x < k
  d200 : ∀ x, x < M.length → (jb M x).due ≤ 200
theorem jb_old {M : List Jb} {a : Jb} {x : Nat} (h : x < M.length) : jb (M ++ [a]) x = jb M x := by
  unfold jb List.getD
  rw [List.getElem?_append_left h]
theorem jb_new (M : List Jb) (a : Jb) : jb (M ++ [a]) M.length = a := by simp [jb, List.getD]
/-- There are such. -/
def JbY (l : List Tk) (M : List Jb) (j k : Nat) : Prop := ∃ ti tj, JbX l M ti tj j k
theorem jby_zero (l : List Tk) : JbY l [] 0 0 := ⟨fun _ => 0, fun _ => 0, ⟨fun x hx => by simp at hx, fun x hx => by simp at hx, fun x y hx => by simp at hx⟩, fun x hx => by simp at hx, fun x hx => by simp at hx⟩
theorem jby_skip {l : List Tk} {M : List Jb} {j k : Nat} (h : JbY l M j k) : JbY l M j (k + 1) := by
  obtain ⟨ti, tj, J⟩ := h
  exact ⟨ti, tj, J.toJobsOf, fun x hx => by rcases J.old x hx with a | ⟨a, b⟩; exact .inl a; exact .inr ⟨a, by omega⟩, J.d200⟩
theorem jby_round {l : List Tk} {M : List Jb} {j : Nat} (h : JbY l M j l.length) : JbY l M (j + 1) 0 := by
  obtain ⟨ti, tj, J⟩ := h
  exact ⟨ti, tj, J.toJobsOf, fun x hx => by rcases J.old x hx with a | ⟨a, b⟩ <;> exact .inl (by omega), J.d200⟩
theorem jby_add {l : List Tk} {M : List Jb} {j k : Nat} (hk : k < l.length) (h : JbY l M j k) (hd : (j : Int) * (tk l k).per + (tk l k).due ≤ 200) : JbY l (M ++ [⟨(j : Int) * (tk l k).per, (tk l k).work, (j : Int) * (tk l k).per + (tk l k).due⟩]) j (k + 1) := by
  obtain ⟨ti, tj, J⟩ := h
  have len : (M ++ [(⟨(j : Int) * (tk l k).per, (tk l k).work, (j : Int) * (tk l k).per + (tk l k).due⟩ : Jb)]).length = M.length + 1 := by simp
  refine ⟨fun x => if x < M.length then ti x else k, fun x => if x < M.length then tj x else j, ⟨fun x hx => ?_, fun x hx => ?_, fun x y hx hy e1 e2 => ?_⟩, fun x hx => ?_, fun x hx => ?_⟩
  · by_cases c : x < M.length
    · rw [if_pos c]; exact J.lt x c
    · rw [if_neg c]; exact hk
  · rw [len] at hx
    by_cases c : x < M.length
    · rw [if_pos c, if_pos c, jb_old c]; exact J.is x c
    · obtain rfl : x = M.length := by omega
      rw [if_neg c, if_neg c, jb_new]
  · rw [len] at hx hy
    by_cases c : x < M.length
    · by_cases d : y < M.length
      · rw [if_pos c, if_pos d] at e1 e2
        exact J.inj x y c d e1 e2
      · rw [if_pos c, if_neg d] at e1 e2
        rcases J.old x c with a | ⟨a, b⟩ <;> omega
    · by_cases d : y < M.length
      · rw [if_neg c, if_pos d] at e1 e2
        rcases J.old y d with a | ⟨a, b⟩ <;> omega
      · omega
  · rw [len] at hx
    by_cases c : x < M.length
    · rw [if_pos c, if_pos c]
      rcases J.old x c with a | ⟨a, b⟩
      · exact .inl a
      · exact .inr ⟨a, by omega⟩
    · rw [if_neg c, if_neg c]; exact .inr ⟨rfl, by omega⟩
  · rw [len] at hx
    by_cases c : x < M.length
    · rw [jb_old c]; exact J.d200 x c
    · obtain rfl : x = M.length := by omega
      rw [jb_new]; exact hd
theorem jby_ok {l : List Tk} (v : TksB l) {M : List Jb} {j k : Nat} (h : JbY l M j k) (hM : M.length ≤ 12) : JobsB M := by
  obtain ⟨ti, tj, J⟩ := h
  refine ⟨⟨fun x hx => ?_, fun x hx => ?_, fun x hx => ?_⟩, hM, fun x hx => J.d200 x hx, fun x hx => ?_⟩ <;> rw [J.is x hx]
  · exact Int.mul_nonneg (by omega) (by have := v.p1 _ (J.lt x hx); omega)
  · have := v.w1 _ (J.lt x hx); have := v.wd _ (J.lt x hx); (try simp only); omega
  · exact v.w1 _ (J.lt x hx)
  · have := v.wd _ (J.lt x hx); have := v.dp _ (J.lt x hx); have := v.p60 _ (J.lt x hx); (try simp only); omega
theorem jby_dem {l : List Tk} (v : TksB l) (f : Fts l) {M : List Jb} {j k : Nat} (h : JbY l M j k) : Dem M := by
  obtain ⟨ti, tj, J⟩ := h
  exact J.toJobsOf.dem v.toTks (rk_rk l) f
theorem jcs_snoc (l : List Jb) (x : Jb) : jcs (l ++ [x]) = jcs l ++ [.int .i64 x.at_, .int .i64 x.work, .int .i64 x.due] := by
  unfold jcs
  rw [List.map_append, pcs_append]
  rfl
theorem new_threeX (w : World) (x y z : Value) (t : TypeId) : ∀ (j : Nat) (v : Value), [x, y, z][j]? = some v → (w.alloc (.cells #[x, y, z] t)).cell? ((⟨w.heap.size, 0, none⟩ : Addr).add j) = some v := by
  intro j v hj
  have b := Blk.new w t #[x, y, z]
  match j, hj with
  | 0, hj => simp at hj; subst hj; simpa [Addr.add] using b.cell 0
  | 1, hj => simp at hj; subst hj; simpa [Addr.add] using b.cell 1
  | 2, hj => simp at hj; subst hj; simpa [Addr.add] using b.cell 2
theorem three_oneX (x y z : Int) : ∀ u ∈ [Value.int .i64 x, .int .i64 y, .int .i64 z], u.oneCell' = true := by
  intro u hu
  simp at hu
  rcases hu with rfl | rfl | rfl <;> rfl
set_option maxRecDepth 100000 in
set_option maxHeartbeats 6400000 in
theorem walk_TopTasks (a0 : Option Addr) (c0 : Nat) (l0 : List Tk) (w : World) (h0 : Tas w a0 l0) (k0 : l0.length ≤ c0) :
    Calls Try.prog 10 #[.slice a0 l0.length c0] w fun e w' => e = .returned (.bool true) ∧ Below w.heap.size w w' := by
  have hb := Below.refl w.heap.size w
  have hl := h0.le
  obtain ⟨i0, hi0, hz0, hz1, hz2⟩ := info_parts jpk_info
  go_enter Try.func10, Try.ntmps10
  by_cases hE : tasE l0 = 0
  · have v := tas_iff.1 hE
    have HE := Lib.hid hE
    have hle := v.le
    clear hE
    cases q1 : ftB l0
    all_goals
      have HQ := Lib.hid q1
      clear q1
      go_wp2_with fail
      refine (rfits_yes a0 l0 _ c0 _ _ h0 k0 HE.out rfl HQ).mono ?_
      rintro e w1 ⟨rfl, b1⟩
      replace h0 := h0.below b1
      replace hb := below_trans hb b1
      clear b1
      go_wp2_with fail
      refine (begin_any _).mono ?_
      rintro e wb ⟨rfl, b2⟩
      replace h0 := h0.below b2
      replace hb := below_trans hb b2
      clear b2
    · go_wp2_with fail
      refine (begin_any _).mono ?_
      rintro e w3 ⟨rfl, b3⟩
      replace h0 := h0.below b3
      replace hb := below_trans hb b3
      clear b3
      go_wp2
      go_ret
      exact ⟨rfl, hb⟩
    · have HF : Hid (Fts l0) := Lib.hid ((ftB_iff v.toTks).mp HQ.out)
      obtain ⟨B0, hB0⟩ : ∃ B0, B0 = wb.heap.size := ⟨_, rfl⟩
      have HB0 := Lib.hid hB0
      have hw0 := hb.size
      rw [← hB0] at hw0
      clear hB0
      have hbB : Below B0 wb wb := by rw [HB0.out]; exact Below.refl _ _
      go_wp2
      go_loopw [5, 6] (fun u s wr => ∃ (j : Nat) (M : List Jb), s = .int .i64 j ∧ j ≤ M.length ∧ M.length ≤ 12 ∧ Hid (JbY l0 M j 0) ∧ wr.ownsRow B0 50 3 u M.length (jcs M) ∧ Below B0 wb wr) (fun _ s _ => 12 - (intOf s).toNat)
      case atStart => exact ⟨0, [], rfl, Nat.zero_le _, by simp, Lib.hid (jby_zero l0), World.ownsRow_nil _ _ _ _, hbB⟩
      case round =>
        clear hbB
        obtain ⟨j, M, rfl, jM, hM, HY, own, hbB⟩ := hrel
        obtain ⟨uA, uC, rfl⟩ := row_formJ own
        by_cases hlt : M.length < 12
        · have i1 : (M.length : Int) < 12 := by omega
          have i1d : decide ((M.length : Int) < 12) = true := decide_eq_true i1
          obtain ⟨m0, hm0⟩ : ∃ m0, m0 = M.length := ⟨_, rfl⟩
          have HM0 : Hid (∀ x : Bool, x = false → m0 ≤ M.length) := Lib.hid (fun _ _ => by omega)
          have jm0 : j ≤ m0 := by omega
          have m12 : m0 < 12 := by omega
          have hmm : m0 ≤ M.length := by omega
          clear hm0
          go_wp2
          go_loopw [5, 7, 37] (fun u x s wr => ∃ (k : Nat) (M : List Jb) (b : Bool), s = .int .i64 k ∧ k ≤ l0.length ∧ x = .bool b ∧ m0 ≤ M.length ∧ (b = true → m0 < M.length) ∧ M.length ≤ 12 ∧ Hid (JbY l0 M j k) ∧ wr.ownsRow B0 50 3 u M.length (jcs M) ∧ Below B0 wb wr) (fun _ _ s _ => l0.length - (intOf s).toNat)
          case atStart => exact ⟨0, M, false, rfl, Nat.zero_le _, rfl, hmm, (fun c => by cases c), hM, HY, own, hbB⟩
          case round =>
            clear own hbB HY hM jM hlt i1 i1d HM0 hmm
            obtain ⟨k, M, b, rfl, hk, rfl, hmm, hbm, hM, HY, own, hbB⟩ := hrel
            obtain ⟨uA, uC, rfl⟩ := row_formJ own
            by_cases hlk : k < l0.length
            · have hbW : Below wb.heap.size wb wr := by have := hbB; rw [HB0.out] at this; exact this
              obtain ⟨bb, off, q, hA', hbl, c0_, c1_, c2_, HJ⟩ := (h0.below hbW).get hlk
              subst hA'
              clear hbW
              have hq := tk_of HJ.out
              have p1 := v.p1 k hlk
              have p60 := v.p60 k hlk
              have vw := v.w1 k hlk
              have vd := v.wd k hlk
              have vp := v.dp k hlk
              rw [hq] at p1 p60 vw vd vp
              have i2 : (k : Int) < (l0.length : Int) := by omega
              obtain ⟨T, hT⟩ : ∃ T, T = (j : Int) * q.per := ⟨_, rfl⟩
              have Tb : 0 ≤ T ∧ T ≤ 720 := by
                have a : (j : Int) * q.per ≤ (j : Int) * 60 := Int.mul_le_mul_of_nonneg_left p60 (by omega)
                have b : 0 ≤ (j : Int) * q.per := Int.mul_nonneg (by omega) (by omega)
                omega
              obtain ⟨T0, T1⟩ := Tb
              have m1 : IntKind.i64.wrap ((j : Int) * q.per) = T := by rw [← hT]; exact IntWalk.i64_in _ ⟨by omega, by omega⟩
              have m2 : IntKind.i64.wrap (T + q.due) = T + q.due := IntWalk.i64_in _ ⟨by omega, by omega⟩
              have HADD : Hid (T + q.due ≤ 200 → JbY l0 (M ++ [⟨T, q.work, T + q.due⟩]) j (k + 1)) := Lib.hid (fun c => by
                have := jby_add hlk HY.out (by rw [hq, ← hT]; exact c)
                rw [hq, ← hT] at this
                exact this)
              have HSK := Lib.hid (jby_skip HY.out)
              have szB : B0 ≤ wr.heap.size := by rw [HB0.out]; exact hbB.size
              clear hT hq
              by_cases g1 : 200 < T + q.due
              · have e1 : decide (200 < T + q.due) = true := decide_eq_true g1
                go_wp2
                go_roundw
                case rel => exact ⟨k + 1, M, b, by go_num, by omega, rfl, hmm, hbm, hM, HSK, World.ownsRow.alloc own _, hbB.alloc szB _⟩
                case measure => simp [intOf]; omega
              · have e1 : decide (200 < T + q.due) = false := decide_eq_false g1
                by_cases g2 : M.length = 12
                · have e2 : ((M.length : Int) == 12) = true := by rw [g2]; rfl
                  clear g2
                  go_wp2
                  go_roundw
                  case rel => exact ⟨k + 1, M, b, by go_num, by omega, rfl, hmm, hbm, hM, HSK, World.ownsRow.alloc own _, hbB.alloc szB _⟩
                  case measure => simp [intOf]; omega
                · have e2 : ((M.length : Int) == 12) = false := by rw [beq_eq_false_iff_ne]; omega
                  have HYN := Lib.hid (HADD.out (by omega))
                  have M11 : M.length ≤ 11 := by omega
                  obtain ⟨g1', hg1⟩ : ∃ g, g = wr.heap.size := ⟨_, rfl⟩
                  obtain ⟨W1, hW1⟩ : ∃ W, W = wr.alloc (.cells #[.int .i64 q.per, .int .i64 q.work, .int .i64 q.due] 30) := ⟨_, rfl⟩
                  have B1 : Blk W1 g1' 30 #[.int .i64 q.per, .int .i64 q.work, .int .i64 q.due] := by rw [hW1, hg1]; exact Blk.new _ _ _
                  have o1 := World.ownsRow.alloc own (.cells #[.int .i64 q.per, .int .i64 q.work, .int .i64 q.due] 30)
                  rw [← hW1] at o1
                  have hb1 : Below B0 wb W1 := by rw [hW1]; exact hbB.alloc szB _
                  have szW : B0 ≤ W1.heap.size := by rw [hW1]; simp; omega
                  obtain ⟨x0, x1, x2⟩ := three_read B1
                  have HW1 := Lib.hid hW1
                  have HG1 := Lib.hid hg1
                  clear hW1 hg1 own hbB szB HSK HADD g1 g2 HJ hbm
                  go_upto_region 14 with fail
                  rw [← HG1.out, ← HW1.out]
                  clear c0_ c1_ c2_ HW1 HG1
                  go_wp2_with (at_builtin; refine wpList_append_own _ rfl _ _ 48 rfl B0 50 i0 (.agg #[.int .i64 0, .int .i64 0, .int .i64 0]) 3 24 Try.underlying48 hi0 hz0 hz1 hz2 rfl (by decide) _ _ _ rfl (World.ownsRow.alloc o1 _) ⟨W1.heap.size, 0, none⟩ 1 1 [.int .i64 T, .int .i64 q.work, .int .i64 (T + q.due)] rfl rfl ?c1 ?c2 ?c3 ?c4 ?c5 ?_)
                  case c1 => exact new_threeX _ _ _ _ _
                  case c2 => exact three_oneX _ _ _
                  case c3 => unfold maxLen; omega
                  case c4 => omega
                  case c5 => simp; omega
                  intro v' w6 hown' hgrow _
                  have hb6 : Below B0 wb w6 := (hb1.alloc szW _).grown hgrow (by simp; omega) (fun k hk => (o1.lt k hk).1)
                  have o6 : w6.ownsRow B0 50 3 v' (M ++ [(⟨T, q.work, T + q.due⟩ : Jb)]).length (jcs (M ++ [(⟨T, q.work, T + q.due⟩ : Jb)])) := by rw [jcs_snoc, List.length_append]; exact hown'
                  have HLen : Hid ((M ++ [(⟨T, q.work, T + q.due⟩ : Jb)]).length = M.length + 1) := Lib.hid (by simp)
                  clear hown' hgrow o1 hb1 B1 x0 x1 x2
                  go_wp2
                  go_roundw
                  case rel => exact ⟨k + 1, M ++ [⟨T, q.work, T + q.due⟩], true, by go_num, by omega, rfl, by rw [HLen.out]; omega, by first | (intro _; rw [HLen.out]; omega) | (rw [HLen.out]; omega), by rw [HLen.out]; omega, HYN, o6, hb6⟩
                  case measure => simp [intOf]; omega
            · obtain rfl : k = l0.length := by omega
              cases b with
              | false =>
                have hbW : Below wb.heap.size wb wr := by have := hbB; rw [HB0.out] at this; exact this
                replace hb := below_trans hb hbW
                clear hbW hbB
                have hj := Jbs.of_row (base := B0) (t := 50) (c := uC) (l := M) own
                have jE : Hid (jbsE M = 0) := Lib.hid (jbs_iff.2 (jby_ok v HY.out hM))
                have jD : Hid (demB M = true) := Lib.hid (demB_true (jby_dem v HF.out HY.out))
                have jN : Hid (∀ i, ¬ IsLate M i) := Lib.hid ((none_late (jby_ok v HY.out hM).toJobs).mpr (jby_dem v HF.out HY.out))
                clear own
                go_wp2_with fail
                refine (fits_at edfC uA M true _ uC _ hj jE.out jD rfl).mono ?_
                rintro e w8 ⟨rfl, b8⟩
                replace hj := hj.below b8
                replace hb := below_trans hb b8
                clear b8
                go_wp2_with fail
                refine (late_none edfC uA M _ uC _ hj jE.out jN.out rfl).mono ?_
                rintro e w9 ⟨rfl, b9⟩
                replace hb := below_trans hb b9
                clear b9
                go_wp2
                go_ret
                exact ⟨rfl, hb⟩
              | true =>
                have HYR := Lib.hid (jby_round HY.out)
                have hbt := hbm rfl
                go_wp2
                go_roundw
                case rel => exact ⟨j + 1, M, by go_num, by omega, hM, HYR, own, hbB⟩
                case measure => simp [intOf]; omega
        · have i1 : ¬ (M.length : Int) < 12 := by omega
          have i1d : decide ((M.length : Int) < 12) = false := decide_eq_false i1
          have hbW : Below wb.heap.size wb wr := by have := hbB; rw [HB0.out] at this; exact this
          replace hb := below_trans hb hbW
          clear hbW hbB
          have hj := Jbs.of_row (base := B0) (t := 50) (c := uC) (l := M) own
          have jE : Hid (jbsE M = 0) := Lib.hid (jbs_iff.2 (jby_ok v HY.out hM))
          have jD : Hid (demB M = true) := Lib.hid (demB_true (jby_dem v HF.out HY.out))
          have jN : Hid (∀ i, ¬ IsLate M i) := Lib.hid ((none_late (jby_ok v HY.out hM).toJobs).mpr (jby_dem v HF.out HY.out))
          clear own
          go_wp2_with fail
          refine (fits_at edfC uA M true _ uC _ hj jE.out jD rfl).mono ?_
          rintro e w8 ⟨rfl, b8⟩
          replace hj := hj.below b8
          replace hb := below_trans hb b8
          clear b8
          go_wp2_with fail
          refine (late_none edfC uA M _ uC _ hj jE.out jN.out rfl).mono ?_
          rintro e w9 ⟨rfl, b9⟩
          replace hb := below_trans hb b9
          clear b9
          go_wp2
          go_ret
          exact ⟨rfl, hb⟩
  · have e1 : (tasE l0 != 0) = true := by simp [hE]
    go_wp2_with fail
    refine (rfits_no a0 l0 c0 _ h0 hE).mono ?_
    rintro e w1 ⟨rfl, b1⟩
    replace h0 := h0.below b1
    replace hb := below_trans hb b1
    clear b1
    go_wp2_with fail
    refine (begin_any _).mono ?_
    rintro e w2 ⟨rfl, b2⟩
    replace h0 := h0.below b2
    replace hb := below_trans hb b2
    clear b2
    go_wp2_with fail
    refine (begin_any _).mono ?_
    rintro e w3 ⟨rfl, b3⟩
    replace h0 := h0.below b3
    replace hb := below_trans hb b3
    clear b3
    clear hE
    go_wp2
    go_ret
    exact ⟨rfl, hb⟩

end Go.Proofs.Ytccjegnflienhaa
