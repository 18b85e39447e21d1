
/-
  The walk of the law TopWorld over what package world owes.
-/
import Derived.Test.YtlaandbaaepamaaWldI
namespace Go.Proofs.Ytlaandbaaepamaa
set_option linter.all false
open Go.RowKit Go.Shelf Go.Lib

variable {Rep : World → Value → (Nat → Prop) → WSt → Prop}
set_option maxRecDepth 100000 in
set_option maxHeartbeats 3200000 in
theorem v_TopWorld (K : WldC Rep) (n1 n2 n3 : Int) (a3 : Option Addr) (c3 : Nat) (l3 : List Lw) (w : World) (_1 : (Lit.int .i64 n1).wf = true) (_2 : (Lit.int .i64 n2).wf = true) (_3 : (Lit.int .i64 n3).wf = true) (h3 : Lls w a3 l3) (k3 : l3.length ≤ c3) :
    Calls Try.prog 9 #[.int .i64 n1, .int .i64 n2, .int .i64 n3, .slice a3 l3.length c3] w fun e w' => e = .returned (.bool true) ∧ Below w.heap.size w w' := by
  clear _1 _2 _3
  have h3l := h3.1
  obtain ⟨A, hA⟩ := Int.eq_ofNat_of_zero_le (wi_nonneg n1 8 (by omega))
  have hA8 : A < 8 := by have := wi_lt n1 8 (by omega); omega
  obtain ⟨R, hR⟩ := Int.eq_ofNat_of_zero_le (wi_nonneg n2 60 (by omega))
  have hR1 : R < 60 := by have := wi_lt n2 60 (by omega); omega
  obtain ⟨U, hU⟩ := Int.eq_ofNat_of_zero_le (wi_nonneg n3 30 (by omega))
  have hU1 : U < 30 := by have := wi_lt n3 30 (by omega); omega
  have HA := Lib.hid hA
  have HR := Lib.hid hR
  have HU := Lib.hid hU
  have hnew : NewOk ((A + 1 : Nat) : Int) (1 + (R : Int)) (1 + (U : Int)) := ⟨by omega, by omega, by omega, by omega, by omega, by omega⟩
  have HNW := Lib.hid hnew
  have hE : apE 5 (newW (A + 1) (1 + (R : Int)) (1 + (U : Int))) = 0 := by
    have : overB 5 (newW (A + 1) (1 + (R : Int)) (1 + (U : Int))).d.l = false := over_iff.2 (fun i hi => by simp [newW] at hi ⊢; rw [pr_rep hi]; simp)
    rw [apE, if_neg (by decide), this]; rfl
  have HE := Lib.hid hE
  obtain ⟨s0, hs0⟩ : ∃ s, s = apW 5 (newW (A + 1) (1 + (R : Int)) (1 + (U : Int))) := ⟨_, rfl⟩
  have HS0 := Lib.hid hs0
  have FR0 : Frm s0 (1 + (R : Int)) (1 + (U : Int)) (A + 1) := Frm.same (s := newW (A + 1) (1 + (R : Int)) (1 + (U : Int))) ⟨rfl, rfl, List.length_replicate⟩ (by rw [hs0]; exact ap_same _ _)
  obtain ⟨i0, hi0, hz0, hz1, hz2⟩ := info_parts int_info
  have hmk := fun W => run_make_row' (P := Try.prog) 29 3 (.int .i64 0) 8 Try.underlying29 int_info rfl .i64 .i64 (A + 1) (by omega) (by omega) W
  rw [show ((A + 1 : Nat) : Int) = 1 + (A : Int) by omega] at hmk
  clear hA hR hU hnew hE hs0
  go_enter Try.func9, Try.ntmps9
  go_wp2_with fail
  refine (within_n n1 8 A _ (by omega) (by omega) HA).mono ?_
  rintro e w' ⟨rfl, rfl⟩
  go_wp2_with fail
  refine (within_n n2 60 R _ (by omega) (by omega) HR).mono ?_
  rintro e w' ⟨rfl, rfl⟩
  go_wp2_with fail
  refine (within_n n3 30 U _ (by omega) (by omega) HU).mono ?_
  rintro e w' ⟨rfl, rfl⟩
  go_wp2_with fail
  refine (K.new_at (1 + (A : Int)) (1 + (R : Int)) (1 + (U : Int)) (A + 1) _ (by omega) HNW.out).mono ?_
  rintro e w1 ⟨a, S, rfl, hR1', hS, b1⟩
  have O1 : Own1 Rep w w1 (.pointer (some a)) (newW (A + 1) (1 + (R : Int)) (1 + (U : Int))) := ⟨⟨S, hR1', hS⟩, b1⟩
  clear hR1' hS b1
  go_wp2_with fail
  refine (beginB_any _).mono ?_
  rintro e wb ⟨rfl, bb⟩
  replace O1 := O1.keep K bb
  clear bb
  go_wp2_with fail
  refine (K.append1 5 0 w _ _ _ O1 HE).mono ?_
  rintro e w2 ⟨rfl, O2⟩
  rw [← HS0.out] at O2
  clear O1
  obtain ⟨M, hM⟩ : ∃ M, M = min l3.length 40 := ⟨_, rfl⟩
  have HM := Lib.hid hM
  have M0 : M ≤ l3.length := by omega
  have M1 : M ≤ c3 := by omega
  have j2 : (M : Int) ≤ (c3 : Int) := by omega
  go_upto_region 5 with fail
  go_cut [57, 58, 59] (fun x y z wx => x = .slice a3 M c3 ∧ y = .int .i64 M ∧ z = .int .i64 0 ∧ w2 = wx)
  case first =>
    have hmn : ((l3.length : Int) < 40 ∧ M = l3.length) ∨ ((l3.length : Int) = 40 ∧ M = 40) ∨ (40 < (l3.length : Int) ∧ M = 40) := by omega
    cases a3 with
    | none =>
      have h0 : l3.length = 0 := by
        by_cases c : 0 < l3.length
        · obtain ⟨_, _, e, _⟩ := h3.2 c; cases e
        · omega
      obtain rfl : M = 0 := by omega
      have h1 : (l3.length : Int) < 40 := by omega
      have h2 : (l3.length : Int) = 0 := by omega
      clear hmn hM h0
      go_wp2_with fail
      all_goals go_meet
      all_goals exact ⟨rfl, rfl, rfl, rfl⟩
    | some ad =>
      rcases hmn with ⟨q, e⟩ | ⟨q, e⟩ | ⟨q, e⟩
      · subst e
        clear hM
        go_wp2_with fail
        all_goals go_meet
        all_goals exact ⟨rfl, rfl, rfl, rfl⟩
      · subst e
        clear hM
        go_wp2_with fail
        all_goals go_meet
        all_goals exact ⟨rfl, rfl, rfl, rfl⟩
      · subst e
        clear hM
        go_wp2_with fail
        all_goals go_meet
        all_goals exact ⟨rfl, rfl, rfl, rfl⟩
  case rest =>
  obtain ⟨rfl, rfl, rfl, rfl⟩ := hcut
  clear hM
  go_wp2
  go_loopw [59] (fun i wr => ∃ (k : Nat) (s : WSt), k ≤ M ∧ i = .int .i64 k ∧ Own1 Rep w wr (.pointer (some a)) s ∧ Frm s (1 + (R : Int)) (1 + (U : Int)) (A + 1)) (fun i _ => M - (intOf i).toNat)
  case atStart => exact ⟨0, s0, Nat.zero_le _, rfl, O2, FR0⟩
  case round =>
    clear O2 HS0 FR0 HE HNW
    obtain ⟨k, s, hk, rfl, O, FR⟩ := hrel
    by_cases hlt : k < M
    · obtain ⟨b', o', f, rfl, hbl, c0, iz, kz, HF⟩ := (h3.below O.b).get (k := k) (by omega)
      have i1 : (k : Int) < (M : Int) := by omega
      have hzl := iz.1
      by_cases hz2 : f.z.length < 2
      · have i2 : (f.z.length : Int) < 2 := by omega
        go_wp2
        go_roundw
        case rel => exact ⟨k + 1, s, by omega, by go_num, O, FR⟩
        case measure => simp [intOf]; omega
      · have i2 : ¬ (f.z.length : Int) < 2 := by omega
        have i3 : (0 : Int) < (f.z.length : Int) := by omega
        have i4 : (1 : Int) < (f.z.length : Int) := by omega
        obtain ⟨q0, p0, x, e0, hc0, HX⟩ := iz.at_ (k := 0) (by omega)
        obtain ⟨q1, p1, y, e1, hc1, HY⟩ := iz.at_ (k := 1) (by omega)
        obtain ⟨fa, fc, fz⟩ := f
        simp only at e0 e1 hc0 hc1 i2 i3 i4 c0 kz hzl hz2 iz HX HY HF
        subst e0
        obtain ⟨rfl, rfl⟩ : q1 = q0 ∧ p1 = p0 := by injection e1 with e1; injection e1 with e1 e2; exact ⟨e1.symm, e2.symm⟩
        simp only [Nat.add_zero] at hc0
        clear e1 iz HX HY HF kz
        have hw : wi x 3 = 0 ∨ wi x 3 = 1 ∨ wi x 3 = 2 := by
          have := wi_nonneg x 3 (by omega); have := wi_lt x 3 (by omega); omega
        rcases hw with q | q | q
        · have HQ := Lib.hid q
          have FR5 := FR.same (ap_same (wi y 100) s)
          clear q FR
          go_wp2_with fail
          refine (within_any x 3 _ (by omega) (by omega)).mono ?_
          rintro e w5 ⟨rfl, rfl⟩
          rw [HQ.out]
          go_wp2_with fail
          refine (within_any y 100 _ (by omega) (by omega)).mono ?_
          rintro e w5 ⟨rfl, rfl⟩
          go_wp2_with fail
          refine (K.append1 (wi y 100) (apE (wi y 100) s) w _ _ _ O (Lib.hid rfl)).mono ?_
          rintro e w6 ⟨rfl, O6⟩
          clear O
          go_wp2
          go_roundw
          case rel => exact ⟨k + 1, _, by omega, by go_num, O6, FR5⟩
          case measure => simp [intOf]; omega
        · obtain ⟨t, m, ht⟩ := ex_tick (O.ok K)
          have HQ := Lib.hid q
          have FR5 := FR.same (tick_same (O.ok K) ht)
          have HT := Lib.hid ht
          clear q FR ht
          go_wp2_with fail
          refine (within_any x 3 _ (by omega) (by omega)).mono ?_
          rintro e w5 ⟨rfl, rfl⟩
          rw [HQ.out]
          go_wp2_with fail
          refine (K.tick1 w _ _ _ t m O HT.out).mono ?_
          rintro e w6 ⟨rfl, O6⟩
          clear O
          go_wp2
          go_roundw
          case rel => exact ⟨k + 1, _, by omega, by go_num, O6, FR5⟩
          case measure => simp [intOf]; omega
        · obtain ⟨i, hi⟩ := Int.eq_ofNat_of_zero_le (wi_nonneg y (1 + (A : Int)) (by omega))
          have hiN : i < A + 1 := by have := wi_lt y (1 + (A : Int)) (by omega); omega
          have HQ := Lib.hid q
          have HI := Lib.hid hi
          have HL := Lib.hid FR.len
          have FR5 := FR.same (crash_same i s)
          clear q hi FR
          go_wp2_with fail
          refine (within_any x 3 _ (by omega) (by omega)).mono ?_
          rintro e w5 ⟨rfl, rfl⟩
          rw [HQ.out]
          go_wp2_with fail
          refine (within_n y (1 + (A : Int)) i _ (by omega) (by omega) HI).mono ?_
          rintro e w5 ⟨rfl, rfl⟩
          go_wp2_with fail
          refine (K.crash1 i w _ _ _ O (by rw [HL.out]; exact hiN)).mono ?_
          rintro e w6 ⟨rfl, O6⟩
          clear O
          go_wp2
          go_roundw
          case rel => exact ⟨k + 1, _, by omega, by go_num, O6, FR5⟩
          case measure => simp [intOf]; omega
    · obtain rfl : k = M := by omega
      have hoS := O.ok K
      obtain ⟨L, hL⟩ : ∃ L, L = s.d.sum := ⟨_, rfl⟩
      have L0 : 0 ≤ L := by rw [hL]; exact hoS.ok.sum.1
      have L1 : L ≤ 8000000 := by
        have := needs_bd hoS s.d.l.length (Nat.le_refl _)
        have h2 := FR.len
        rw [hL, Wd.sum]; omega
      obtain ⟨F, hF⟩ : ∃ F : Nat → Int, F = fun i => (pr s.d.l i).need := ⟨_, rfl⟩
      have HF : Hid (∀ i, F i = (pr s.d.l i).lag - (pr s.d.l i).part) := Lib.hid (fun i => by rw [hF]; rfl)
      have HFn : Hid (∀ i, F i = (pr s.d.l i).need) := Lib.hid (fun i => by rw [hF])
      have HP : Hid (∀ i, i < A + 1 → 0 ≤ (pr s.d.l i).lag ∧ (pr s.d.l i).lag ≤ 1000000 ∧ 0 ≤ (pr s.d.l i).part ∧ (pr s.d.l i).part ≤ 1000000 ∧ 0 ≤ F i ∧ F i ≤ 1000000) := Lib.hid (fun i hi => by
        have h2 := FR.len
        have k1 := hoS.ok.ok i (by omega)
        have k2 := hoS.lag i (by omega)
        have k3 := k1.need.1
        have k4 := k1.less
        have k5 := hoS.u1
        have k6 := k1.part0
        have k7 := k1.lag0
        rw [hF]
        unfold Per.need at k3
        simp only [Per.need]
        omega)
      have HB : Hid (∀ j, j ≤ A + 1 → 0 ≤ needs s.d.l j ∧ needs s.d.l j ≤ 8000000) := Lib.hid (fun j hj => by have h2 := FR.len; have := needs_bd hoS j (by omega); omega)
      have HLN : Hid (needs s.d.l (A + 1) = L) := Lib.hid (by rw [hL, Wd.sum, FR.len])
      have HL : Hid (s.d.sum = L) := Lib.hid hL.symm
      have HOK := Lib.hid hoS
      have HN := Lib.hid FR.len
      have HRt := Lib.hid FR.rate
      obtain ⟨⟨S, hRp, hS⟩, hbO⟩ := O
      obtain ⟨g, hg⟩ : ∃ g, g = wr.heap.size := ⟨_, rfl⟩
      have gle : w.heap.size ≤ g := by have := hbO.size; omega
      have hSl : ∀ b, S b → b < g := fun b hb => by have := K.lt _ _ _ _ hRp b hb; omega
      obtain ⟨W1, hW1⟩ : ∃ W1, W1 = wr.alloc (.cells (madeCells #[Value.int .i64 0] (A + 1)) 3) := ⟨_, rfl⟩
      have z1 : W1.heap.size = g + 1 := by rw [hW1, hg]; simp
      have B1 : Blk W1 g 3 (madeCells #[Value.int .i64 0] (A + 1)) := by rw [hW1, hg]; exact Blk.new _ _ _
      have bW : Below wr.heap.size wr W1 := by rw [hW1]; exact (Below.refl _ _).alloc (Nat.le_refl _) _
      have hR1 := K.keep _ W1 _ _ _ hRp (fun b hb => bW.block b (by have := hSl b hb; omega))
      have hbO1 := below_trans hbO bW
      have G := Lib.hid hg
      have HW1 := Lib.hid hW1
      clear hL hF hoS hg hW1 hRp hbO bW FR h3 h3l M0 M1
      go_wp2_with fail
      rw [← HW1.out, ← G.out]
      refine (K.peersB (A + 1) _ _ S s hR1 HN.out).mono ?_
      rintro e w6 ⟨B, cB, rfl, hP, hBl, b6⟩
      have z6 : g < w6.heap.size := by have := b6.size; omega
      have B6 := B1.below b6
      have hR6 := K.keep _ w6 _ _ _ hR1 (fun b hb => b6.block b (by have := hSl b hb; omega))
      have hbO6 := below_trans hbO1 b6
      have hBl' : ∀ b off, B = some ⟨b, off, none⟩ → b < w6.heap.size ∧ b ≠ g := fun b off e => by have := hBl b off e; omega
      clear hBl b6 B1 hR1 hbO1 G HW1 z1
      go_wp2
      go_loopw [95] (fun i wq => ∃ j : Nat, j ≤ A + 1 ∧ i = .int .i64 j ∧ Blk wq g 3 (rowAt (A + 1) j F).toArray ∧ But w6 wq g) (fun i _ => A + 1 - (intOf i).toNat)
      case atStart => exact ⟨0, Nat.zero_le _, rfl, by rw [rowAt_zero]; exact B6, But.refl _ _⟩
      case round =>
        clear B6
        obtain ⟨j, hj, rfl, BK, hbut⟩ := hrel
        have hsz := hbut.b.size
        by_cases hlt2 : j < A + 1
        · obtain ⟨bb, off, rfl, hbl, g0, g1, g2⟩ := (hP.heapW (fun b off e => hbut.block b (hBl' b off e).1 (hBl' b off e).2)).get (k := j) (by rw [HN.out]; exact hlt2)
          have hf := HF.out j
          obtain ⟨p0, p1, p2, p3, p4, p5⟩ := HP.out j hlt2
          obtain ⟨x, hx⟩ : ∃ x, x = (pr s.d.l j).lag := ⟨_, rfl⟩
          obtain ⟨y, hy⟩ : ∃ y, y = (pr s.d.l j).part := ⟨_, rfl⟩
          obtain ⟨z, hz⟩ : ∃ z, z = (pr s.d.l j).done := ⟨_, rfl⟩
          rw [← hx] at g0 hf p0 p1
          rw [← hy] at g1 hf p2 p3
          rw [← hz] at g2
          have i1 : (j : Int) < (A : Int) + 1 := by omega
          have s1 : IntKind.i64.wrap (x - y) = x - y := IntWalk.i64_in _ ⟨by omega, by omega⟩
          have Ba := BK.alloc (.cells #[.int .i64 x, .int .i64 y, .bool z] 34)
          have ck : (wr.alloc (.cells #[.int .i64 x, .int .i64 y, .bool z] 34)).cell? ⟨g, j, none⟩ = some (.int .i64 0) := by rw [Ba.cell j]; simpa using rowAt_get F hlt2
          have fk := Ba.frozen j
          have gl := Ba.lt
          have R1 : Hid (Blk ((wr.alloc (.cells #[.int .i64 x, .int .i64 y, .bool z] 34)).setCell ⟨g, j, none⟩ (.int .i64 (x - y))) g 3 (rowAt (A + 1) (j + 1) F).toArray) := Lib.hid (by
            rw [← rowAt_succ _ hlt2, hf]; exact Ba.set_ j _)
          have R2 : Hid (But w6 ((wr.alloc (.cells #[.int .i64 x, .int .i64 y, .bool z] 34)).setCell ⟨g, j, none⟩ (.int .i64 (x - y))) g) := Lib.hid ((hbut.step (by omega) ((Below.refl _ _).alloc (Nat.le_refl _) _)).set j _)
          clear hx hy hz hf BK Ba hbut hP hR6 hbO6 hBl'
          go_wp2
          go_roundw
          case rel => exact ⟨j + 1, by omega, by go_num, R1.out, R2.out⟩
          case measure => simp [intOf]; omega
        · obtain rfl : j = A + 1 := by omega
          have iN : Ints wr (some ⟨g, 0, none⟩) (tab (A + 1) F) := Ints.of_blk (by rw [← rowAt_full]; exact BK) (by rw [length_tab]; omega)
          have OF : OwnF Rep w wr (.pointer (some a)) s (fun b => b = g) wr := ⟨⟨S, K.keep _ wr _ _ _ hR6 (fun b hb => by have := hSl b hb; exact hbut.block b (by omega) (by omega)), hS, fun b hb e => by have := hSl b hb; omega⟩, hbO6.trans (hbut.b.mono gle), fun b e => by subst e; exact BK.lt, fun b _ => rfl⟩
          clear BK hbut hP hR6 hbO6 hBl' hSl hS hsz
          go_wp2
          go_loop [16, 111] (fun o i => ∃ j : Nat, j ≤ A + 1 ∧ i = .int .i64 j ∧ o = .int .i64 (needs s.d.l j)) (fun _ i => A + 1 - (intOf i).toNat)
          case atStart => exact ⟨0, Nat.zero_le _, rfl, rfl⟩
          case round =>
            obtain ⟨j, hj, rfl, rfl⟩ := hrel
            obtain ⟨m, hm⟩ : ∃ m, m = needs s.d.l j := ⟨_, rfl⟩
            have mb := HB.out j hj
            rw [← hm] at mb
            rw [← hm]
            obtain ⟨m0, m1⟩ := mb
            by_cases hlt2 : j < A + 1
            · obtain ⟨b3, o3, u, e3, hc3, HV⟩ := iN.at_ (k := j) (by rw [length_tab]; exact hlt2)
              have hu := gt_of_get HV.out
              rw [gt_tab _ hlt2] at hu
              have hfb := HP.out j hlt2
              rw [hu] at hfb
              obtain ⟨_, _, _, _, u0, u1⟩ := hfb
              obtain ⟨rfl, rfl⟩ : g = b3 ∧ 0 = o3 := by injection e3 with e3; injection e3 with e1 e2; exact ⟨e1, e2⟩
              rw [Nat.zero_add] at hc3
              have HQ : Hid (needs s.d.l (j + 1) = m + u) := Lib.hid (by rw [needs, ← hm, ← HFn.out, hu])
              have s1 : IntKind.i64.wrap (m + u) = m + u := IntWalk.i64_in _ ⟨by omega, by omega⟩
              have i1 : (j : Int) < (A : Int) + 1 := by omega
              clear e3 hm hu OF
              go_wp2
              go_round
              case rel => exact ⟨j + 1, by omega, by go_num, by rw [HQ.out]⟩
              case measure => simp [intOf]; omega
            · obtain rfl : j = A + 1 := by omega
              obtain rfl : m = L := by rw [hm, HLN.out]
              clear hm m0 m1
              go_wp2
              go_loopw [19] (fun i wq => ∃ (k : Nat) (d : Wd), 1 ≤ k ∧ (k : Int) ≤ m + 1 ∧ i = .int .i64 k ∧ OwnF Rep w wq (.pointer (some a)) (tickW d s) (fun b => b = g) wr ∧ Hid (GoneT s d m (1 + (R : Int)) ((k : Int) - 1))) (fun i _ => (m + 1 - intOf i).toNat)
              case atStart => exact ⟨1, s.d, Nat.le_refl _, by omega, rfl, OF, Lib.hid (GoneT.zero _ _ _ L0)⟩
              case round =>
                clear OF
                obtain ⟨k, d, k1, hk, rfl, O, HG⟩ := hrel
                obtain ⟨P, hP⟩ : ∃ P, P = ((k : Int) - 1) * (1 + (R : Int)) := ⟨_, rfl⟩
                have P0 : 0 ≤ P := by rw [hP]; exact Int.mul_nonneg (by omega) (by omega)
                have P1 : P ≤ 480000000 := by rw [hP]; have := Int.mul_le_mul (show (k : Int) - 1 ≤ 8000000 by omega) (show 1 + (R : Int) ≤ 60 by omega) (by omega) (by omega); omega
                have P2 : (k : Int) - 1 ≤ P := by rw [hP]; have := Int.mul_le_mul_of_nonneg_left (show (1 : Int) ≤ 1 + (R : Int) by omega) (show (0 : Int) ≤ (k : Int) - 1 by omega); rw [Int.mul_one] at this; exact this
                have hP' : (k : Int) * (1 + (R : Int)) = P + (1 + (R : Int)) := by rw [hP, Int.sub_mul, Int.one_mul]; omega
                have s0 : IntKind.i64.wrap ((k : Int) - 1) = (k : Int) - 1 := IntWalk.i64_in _ ⟨by omega, by omega⟩
                have s1 : IntKind.i64.wrap (((k : Int) - 1) * (1 + (R : Int))) = P := by rw [← hP]; exact IntWalk.i64_in _ ⟨by omega, by omega⟩
                have s2 : IntKind.i64.wrap ((k : Int) * (1 + (R : Int))) = P + (1 + (R : Int)) := by rw [hP']; exact IntWalk.i64_in _ ⟨by omega, by omega⟩
                have HPP := Lib.hid hP'
                have HPE := Lib.hid hP
                have hdl := (HG.out.ok HOK.out HL.out).2.1
                rw [HN.out] at hdl
                have HDL := Lib.hid hdl
                clear hP hP' hdl
                by_cases q : P < m
                · obtain ⟨t', m', ht⟩ := ex_tick (O.ok K)
                  have HT := Lib.hid ht
                  have HG' : Hid (GoneT s t' m (1 + (R : Int)) (k : Int)) := Lib.hid (by
                    have := HG.out.step HOK.out HL.out HRt.out ht
                    rwa [Int.sub_add_cancel] at this)
                  have HTL : Hid (t'.l.length = A + 1) := Lib.hid (by have := (HG'.out.ok HOK.out HL.out).2.1; rw [HN.out] at this; exact this)
                  clear ht
                  go_wp2_with fail
                  refine (K.tickF w _ _ _ _ _ t' m' O HT.out).mono ?_
                  rintro e w7 ⟨rfl, O7⟩
                  replace O7 : OwnF Rep w w7 (.pointer (some a)) (tickW t' s) (fun b => b = g) _ := O7
                  clear O HT HDL HG
                  go_wp2_with fail
                  refine (K.peersF (A + 1) w _ _ _ _ _ O7 HTL.out).mono ?_
                  rintro e w8 ⟨C, cC, rfl, hP, O8⟩
                  replace hP : Prs w8 C t'.l := hP
                  have iN8 : Ints w8 (some ⟨g, 0, none⟩) (tab (A + 1) F) := iN.heapW (fun b off e => O8.same b (by injection e with e; injection e with e; exact e.symm))
                  clear O7
                  go_wp2
                  go_loopw [132] (fun i wi => ∃ j : Nat, j ≤ A + 1 ∧ i = .int .i64 j ∧ Below w8.heap.size w8 wi) (fun i _ => A + 1 - (intOf i).toNat)
                  case atStart => exact ⟨0, Nat.zero_le _, rfl, Below.refl _ _⟩
                  case round =>
                    obtain ⟨j, hj, rfl, hbel⟩ := hrel
                    by_cases hlt3 : j < A + 1
                    · obtain ⟨bb, off, rfl, hbl, g0, g1, g2⟩ := (hP.below hbel).get (k := j) (by rw [HTL.out]; exact hlt3)
                      obtain ⟨b3, o3, u, e3, hc3, HV⟩ := (iN8.below hbel).at_ (k := j) (by rw [length_tab]; exact hlt3)
                      have hu := gt_of_get HV.out
                      rw [gt_tab _ hlt3] at hu
                      have hfb := HP.out j hlt3
                      rw [hu] at hfb
                      obtain ⟨_, _, _, _, u0, u1⟩ := hfb
                      obtain ⟨rfl, rfl⟩ : g = b3 ∧ 0 = o3 := by injection e3 with e3; injection e3 with e1 e2; exact ⟨e1, e2⟩
                      rw [Nat.zero_add] at hc3
                      obtain ⟨Q, hQ⟩ : ∃ Q, Q = (1 + (A : Int)) * (u + 1) := ⟨_, rfl⟩
                      have Q0 : 0 ≤ Q := by rw [hQ]; exact Int.mul_nonneg (by omega) (by omega)
                      have Q1 : Q ≤ 8000008 := by rw [hQ]; have := Int.mul_le_mul (show 1 + (A : Int) ≤ 8 by omega) (show u + 1 ≤ 1000001 by omega) (by omega) (by omega); omega
                      have s3 : IntKind.i64.wrap (u + 1) = u + 1 := IntWalk.i64_in _ ⟨by omega, by omega⟩
                      have s4 : IntKind.i64.wrap ((1 + (A : Int)) * (u + 1)) = Q := by rw [← hQ]; exact IntWalk.i64_in _ ⟨by omega, by omega⟩
                      have hno : (pr t'.l j).done = false → P + (1 + (R : Int)) < Q := fun z => by
                        have := HG'.out.each HOK.out HL.out HN.out hlt3 z
                        rw [HPP.out, ← HFn.out, hu, show ((A + 1 : Nat) : Int) = 1 + (A : Int) by omega, ← hQ] at this
                        exact this
                      obtain ⟨x, hx⟩ : ∃ x, x = (pr t'.l j).lag := ⟨_, rfl⟩
                      obtain ⟨y, hy⟩ : ∃ y, y = (pr t'.l j).part := ⟨_, rfl⟩
                      obtain ⟨z, hz⟩ : ∃ z, z = (pr t'.l j).done := ⟨_, rfl⟩
                      rw [← hx] at g0
                      rw [← hy] at g1
                      rw [← hz] at g2 hno
                      have i1 : (j : Int) < (A : Int) + 1 := by omega
                      have hb2 := hbel.alloc hbel.size (.cells #[.int .i64 x, .int .i64 y, .bool z] 34)
                      have hc3' : (wr.alloc (.cells #[.int .i64 x, .int .i64 y, .bool z] 34)).cell? ⟨g, j, none⟩ = some (.int .i64 u) := by
                        rw [((Below.refl _ wr).alloc (Nat.le_refl _) _).cell (cell_lt hc3)]; exact hc3
                      clear hx hy hz hu e3 hQ
                      cases z with
                      | true =>
                        clear hno
                        go_wp2
                        go_roundw
                        case rel => exact ⟨j + 1, by omega, by go_num, hb2⟩
                        case measure => simp [intOf]; omega
                      | false =>
                        have i5 : ¬ Q ≤ P + (1 + (R : Int)) := by have := hno rfl; omega
                        clear hno
                        go_wp2
                        go_roundw
                        case rel => exact ⟨j + 1, by omega, by go_num, hb2⟩
                        case measure => simp [intOf]; omega
                    · obtain rfl : j = A + 1 := by omega
                      have O9 := O8.keep K hbel
                      have HG2 : Hid (GoneT s t' m (1 + (R : Int)) (((k + 1 : Nat) : Int) - 1)) := Lib.hid (by rw [show ((k + 1 : Nat) : Int) - 1 = (k : Int) by omega]; exact HG'.out)
                      clear O8 hP iN8 hbel
                      go_wp2
                      go_roundw
                      case rel => exact ⟨k + 1, t', by omega, by omega, by go_num, O9, HG2⟩
                      case measure => simp [intOf]; omega
                · have HA2 : Hid (∀ i, i < d.l.length → (pr d.l i).done = true) := Lib.hid (HG.out.all HOK.out HL.out (by rw [← HPE.out]; omega))
                  go_wp2_with fail
                  refine (K.peersF (A + 1) w _ _ _ _ _ O HDL.out).mono ?_
                  rintro e w8 ⟨C, cC, rfl, hP, O8⟩
                  replace hP : Prs w8 C d.l := hP
                  have hb := O8.b
                  clear O O8
                  go_wp2_with fail
                  refine (left_not C d.l _ cC _ hP HDL.out.symm HA2).mono ?_
                  rintro e w9 ⟨rfl, b9⟩
                  replace hb := below_trans hb b9
                  go_wp2
                  go_ret
                  exact ⟨rfl, hb⟩

end Go.Proofs.Ytlaandbaaepamaa
