
/-
  The walk of the law WorldCalm over what package world owes.
-/
import Derived.Test.YtlaandbaaepamaaWldL
import Derived.Test.YtlaandbaaepamaaLlsA
import Derived.Test.YtlaandbaaepamaaShareP
import Derived.Deep.DeepCutAuto
namespace Go.Proofs.Ytlaandbaaepamaa
set_option linter.all false
open Go.RowKit Go.Shelf Go.Lib

variable {Rep : World → Value → (Nat → Prop) → WSt → Prop}
/-- All are done when nothing is needed. -/
theorem calm_all {s : WSt} (h : StOk s) (z : s.d.sum = 0) : ∀ i, i < s.d.l.length → (pr s.d.l i).done = true ∧ (pr s.d.l i).lag = 0 ∧ (pr s.d.l i).part = 0 := fun i hi => by
  have a := h.ok.ok i hi
  have d := (h.ok.sum.2.1 z) i hi
  have l := a.done.1 d
  have p := a.part0
  have q := a.part1
  refine ⟨d, l, ?_⟩
  by_cases c : 0 < (pr s.d.l i).part
  · have := q c; omega
  · omega
/-- Three for each, at the start. -/
theorem start_three {A : Nat} {R U : Int} (h : NewOk ((A + 1 : Nat) : Int) R U) : apE 3 (newW (A + 1) R U) = 0 ∧ (∀ i, i < A + 1 → pr (apW 3 (newW (A + 1) R U)).d.l i = ⟨3, 0, false⟩) ∧ (apW 3 (newW (A + 1) R U)).d.l.length = A + 1 ∧ (apW 3 (newW (A + 1) R U)).d.sum = ((A + 1 : Nat) : Int) * 3 := by
  have hE : apE 3 (newW (A + 1) R U) = 0 := by
    have : overB 3 (newW (A + 1) R U).d.l = false := over_iff.2 (fun i hi => by simp [newW] at hi ⊢; rw [pr_rep hi]; simp)
    rw [apE, if_neg (by decide), this]; rfl
  have hs : apW 3 (newW (A + 1) R U) = moreW 3 (newW (A + 1) R U) := by rw [apW, if_pos hE]
  have hp : ∀ i, i < A + 1 → pr (apW 3 (newW (A + 1) R U)).d.l i = ⟨3, 0, false⟩ := fun i hi => by
    rw [hs]
    simp only [moreW, newW]
    rw [pr_map (by simpa using hi), pr_rep hi]; rfl
  have hl : (apW 3 (newW (A + 1) R U)).d.l.length = A + 1 := by rw [hs]; simp [moreW, newW]
  refine ⟨hE, hp, hl, ?_⟩
  have : ∀ n, n ≤ A + 1 → needs (apW 3 (newW (A + 1) R U)).d.l n = (n : Int) * 3 := fun n => by
    induction n with
    | zero => intro _; simp [needs]
    | succ n ih => intro h; rw [needs, ih (by omega), hp n (by omega)]; simp only [Per.need]; omega
  rw [Wd.sum, hl, this _ (Nat.le_refl _)]
theorem ap_unit (k : Int) (s : WSt) : (apW k s).unit = s.unit ∧ (apW k s).rate = s.rate := ⟨(ap_same k s).unit, (ap_same k s).rate⟩
set_option maxRecDepth 100000 in
set_option maxHeartbeats 3200000 in
theorem v_WorldCalm (K : WldC Rep) (n1 n2 n3 : Int) (a3 : Option Addr) (c3 : Nat) (l3 : List Lw) (w : World) (_1 : (Lit.int .i64 n1).wf = true) (_2 : (Lit.int .i64 n2).wf = true) (_3 : (Lit.int .i64 n3).wf = true) (h3 : Lls w a3 l3) (k3 : l3.length ≤ c3) :
    Calls Try.prog 5 #[.int .i64 n1, .int .i64 n2, .int .i64 n3, .slice a3 l3.length c3] w fun e w' => e = .returned (.bool true) ∧ Below w.heap.size w w' := by
  clear _1 _2 _3
  have h3l := h3.1
  obtain ⟨A, hA⟩ := Int.eq_ofNat_of_zero_le (wi_nonneg n1 8 (by omega))
  have hA8 : A < 8 := by have := wi_lt n1 8 (by omega); omega
  obtain ⟨R, hR⟩ := Int.eq_ofNat_of_zero_le (wi_nonneg n2 50 (by omega))
  have hR1 : R < 50 := by have := wi_lt n2 50 (by omega); omega
  obtain ⟨U, hU⟩ := Int.eq_ofNat_of_zero_le (wi_nonneg n3 20 (by omega))
  have hU1 : U < 20 := by have := wi_lt n3 20 (by omega); omega
  have HA := Lib.hid hA
  have HR := Lib.hid hR
  have HU := Lib.hid hU
  have hnew : NewOk ((A + 1 : Nat) : Int) (1 + (R : Int)) (1 + (U : Int)) := ⟨by omega, by omega, by omega, by omega, by omega, by omega⟩
  have HNW := Lib.hid hnew
  obtain ⟨hE, hp, hln, _⟩ := start_three hnew
  have HE := Lib.hid hE
  obtain ⟨s0, hs0⟩ : ∃ s, s = apW 3 (newW (A + 1) (1 + (R : Int)) (1 + (U : Int))) := ⟨_, rfl⟩
  rw [← hs0] at hp hln
  have HS0 := Lib.hid hs0
  have HD0 : Hid ((pr s0.d.l 0).done = false) := Lib.hid (by rw [hp 0 (by omega)])
  have FR0 : Frm s0 (1 + (R : Int)) (1 + (U : Int)) (A + 1) := ⟨by rw [hs0]; exact (ap_unit _ _).2, by rw [hs0]; exact (ap_unit _ _).1, hln⟩
  clear hA hR hU hnew hE hp hs0 hln
  go_enter Try.func5, Try.ntmps5
  go_wp2_with fail
  refine (within_n n1 8 A _ (by omega) (by omega) HA).mono ?_
  rintro e w' ⟨rfl, rfl⟩
  go_wp2_with fail
  refine (within_n n2 50 R _ (by omega) (by omega) HR).mono ?_
  rintro e w' ⟨rfl, rfl⟩
  go_wp2_with fail
  refine (within_n n3 20 U _ (by omega) (by omega) HU).mono ?_
  rintro e w' ⟨rfl, rfl⟩
  go_wp2_with fail
  refine (K.new_at (1 + (A : Int)) (1 + (R : Int)) (1 + (U : Int)) (A + 1) _ (by omega) HNW.out).mono ?_
  rintro e w1 ⟨a, S, rfl, hR1', hS, b1⟩
  have O1 : Own1 Rep w w1 (.pointer (some a)) (newW (A + 1) (1 + (R : Int)) (1 + (U : Int))) := ⟨⟨S, hR1', hS⟩, b1⟩
  clear hR1' hS b1
  go_wp2_with fail
  refine (K.append1 3 0 w _ _ _ O1 HE).mono ?_
  rintro e w2 ⟨rfl, O2⟩
  rw [← HS0.out] at O2
  clear O1
  go_wp2_with fail
  refine (K.peers1 (A + 1) w _ _ _ O2 FR0.len).mono ?_
  rintro e w3 ⟨B, cB, rfl, hP, b3, O3⟩
  obtain ⟨bb, off, rfl, hbl, g0, g1, g2⟩ := hP.get (k := 0) (by rw [FR0.len]; omega)
  rw [HD0.out] at g2
  simp only [Nat.zero_mul, Nat.add_zero, Nat.zero_add] at g0 g1 g2
  clear O2 b3 hP
  obtain ⟨M, hM⟩ : ∃ M, M = min l3.length 40 := ⟨_, rfl⟩
  have HM := Lib.hid hM
  have M0 : M ≤ l3.length := by omega
  have M1 : M ≤ c3 := by omega
  have j2 : (M : Int) ≤ (c3 : Int) := by omega
  go_upto_region 5 with fail
  go_cut [55, 56, 57] (fun x y z wx => x = .slice a3 M c3 ∧ y = .int .i64 M ∧ z = .int .i64 0 ∧ w3 = wx)
  case first =>
    have hmn : ((l3.length : Int) < 40 ∧ M = l3.length) ∨ ((l3.length : Int) = 40 ∧ M = 40) ∨ (40 < (l3.length : Int) ∧ M = 40) := by omega
    cases a3 with
    | none =>
      have h0 : l3.length = 0 := by
        by_cases c : 0 < l3.length
        · obtain ⟨_, _, e, _⟩ := h3.2 c; cases e
        · omega
      obtain rfl : M = 0 := by omega
      have h1 : (l3.length : Int) < 40 := by omega
      have h2 : (l3.length : Int) = 0 := by omega
      clear hmn hM h0
      go_wp2_with fail
      all_goals go_meet
      all_goals exact ⟨rfl, rfl, rfl, rfl⟩
    | some ad =>
      rcases hmn with ⟨q, e⟩ | ⟨q, e⟩ | ⟨q, e⟩
      · subst e
        clear hM
        go_wp2_with fail
        all_goals go_meet
        all_goals exact ⟨rfl, rfl, rfl, rfl⟩
      · subst e
        clear hM
        go_wp2_with fail
        all_goals go_meet
        all_goals exact ⟨rfl, rfl, rfl, rfl⟩
      · subst e
        clear hM
        go_wp2_with fail
        all_goals go_meet
        all_goals exact ⟨rfl, rfl, rfl, rfl⟩
  case rest =>
  obtain ⟨rfl, rfl, rfl, rfl⟩ := hcut
  clear g0 g1 g2 hbl hM
  go_wp2
  go_loopw [57] (fun i wr => ∃ (k : Nat) (s : WSt), k ≤ M ∧ i = .int .i64 k ∧ Own1 Rep w wr (.pointer (some a)) s ∧ Frm s (1 + (R : Int)) (1 + (U : Int)) (A + 1)) (fun i _ => M - (intOf i).toNat)
  case atStart => exact ⟨0, s0, Nat.zero_le _, rfl, O3, FR0⟩
  case round =>
    clear O3
    obtain ⟨k, s, hk, rfl, O, FR⟩ := hrel
    by_cases hlt : k < M
    · obtain ⟨b', o', f, rfl, hbl, c0, iz, kz, HF⟩ := (h3.below O.b).get (k := k) (by omega)
      have i1 : (k : Int) < (M : Int) := by omega
      go_wp2_with fail
      refine (act_at K (1 + (A : Int)) (A + 1) f.a _ f.c f.z w _ _ s O iz FR.len (by omega) rfl).mono ?_
      rintro e w5 ⟨s', v, hact, rfl, O5⟩
      have FR5 := FR.same (hact.same (O.ok K))
      clear hact O FR
      go_wp2
      go_roundw
      case rel => exact ⟨k + 1, s', by omega, by go_num, O5, FR5⟩
      case measure => simp [intOf]; omega
    · obtain rfl : k = M := by omega
      have hoS := O.ok K
      obtain ⟨L, hL⟩ : ∃ L, L = s.d.sum := ⟨_, rfl⟩
      have L0 : 0 ≤ L := by rw [hL]; exact hoS.ok.sum.1
      have L1 : L ≤ 8000000 := by
        have := needs_bd hoS s.d.l.length (Nat.le_refl _)
        have h2 := FR.len
        rw [hL, Wd.sum]; omega
      have HL := Lib.hid hL
      clear hoS hL
      go_wp2_with fail
      refine (lags_any K w _ _ s O).mono ?_
      rintro e w5 ⟨rfl, O5⟩
      rw [← HL.out]
      have HSU : Hid (s.d.sum = max 0 (L - ((0 : Nat) : Int) * (1 + (R : Int)))) := Lib.hid (by rw [← HL.out]; simp; omega)
      clear O
      go_wp2
      clear HS0 HD0 FR0
      go_loopw [14] (fun i wr => ∃ (j : Nat) (s : WSt), i = .int .i64 j ∧ (j : Int) ≤ L ∧ Own1 Rep w wr (.pointer (some a)) s ∧ Frm s (1 + (R : Int)) (1 + (U : Int)) (A + 1) ∧ Hid (s.d.sum = max 0 (L - (j : Int) * (1 + (R : Int))))) (fun i _ => (L - intOf i).toNat)
      case atStart => exact ⟨0, s, rfl, L0, O5, FR, HSU⟩
      case round =>
        clear O5 FR HSU HL
        obtain ⟨j, s, rfl, hj, O, FR, HU2⟩ := hrel
        obtain ⟨P, hP⟩ : ∃ P, P = (j : Int) * (1 + (R : Int)) := ⟨_, rfl⟩
        have P0 : 0 ≤ P := by rw [hP]; exact Int.mul_nonneg (by omega) (by omega)
        have P1 : P ≤ 400000000 := by rw [hP]; have := Int.mul_le_mul (show (j : Int) ≤ 8000000 by omega) (show 1 + (R : Int) ≤ 50 by omega) (by omega) (by omega); omega
        have P2 : (j : Int) ≤ P := by rw [hP]; have := Int.mul_le_mul_of_nonneg_left (show (1 : Int) ≤ 1 + (R : Int) by omega) (show (0 : Int) ≤ (j : Int) by omega); rw [Int.mul_one] at this; exact this
        have hP' : ((j + 1 : Nat) : Int) * (1 + (R : Int)) = P + (1 + (R : Int)) := by rw [hP, show ((j + 1 : Nat) : Int) = (j : Int) + 1 by omega, Int.add_mul, Int.one_mul]
        have s1 : IntKind.i64.wrap ((j : Int) * (1 + (R : Int))) = P := by rw [← hP]; exact IntWalk.i64_in _ ⟨by omega, by omega⟩
        have hsum := HU2.out
        rw [← hP] at hsum
        have HPP := Lib.hid hP'
        clear hP hP'
        by_cases q : P < L
        · obtain ⟨t', m, ht⟩ := ex_tick (O.ok K)
          have hti := ht.is (O.ok K).u0 (O.ok K).ok
          have HT := Lib.hid ht
          have FR5 := FR.same (tick_same (O.ok K) ht)
          have HS5 : Hid ((tickW t' s).d.sum = max 0 (L - ((j + 1 : Nat) : Int) * (1 + (R : Int)))) := Lib.hid (by
            have h1 := hti.1
            have h2 := hti.2
            rw [FR.rate] at h1
            show t'.sum = _
            rw [HPP.out]; omega)
          clear hti hsum ht HU2
          go_wp2_with fail
          refine (K.tick1 w _ _ s t' m O HT.out).mono ?_
          rintro e w6 ⟨rfl, O6⟩
          clear O
          go_wp2
          go_roundw
          case rel => exact ⟨j + 1, tickW t' s, by go_num, by omega, O6, FR5, HS5⟩
          case measure => simp [intOf]; omega
        · have hz : s.d.sum = 0 := by omega
          have HZ : Hid (∀ i, i < A + 1 → (pr s.d.l i).done = true ∧ (pr s.d.l i).lag = 0 ∧ (pr s.d.l i).part = 0) := Lib.hid (fun i hi => calm_all (O.ok K) hz i (by rw [FR.len]; exact hi))
          have HZ0 := Lib.hid hz
          have HL2 := Lib.hid FR.len
          clear hsum hz HU2
          go_wp2_with fail
          refine (K.peers1 (A + 1) w _ _ s O HL2.out).mono ?_
          rintro e w6 ⟨C, cC, rfl, hP, b6, O6⟩
          clear O b6
          go_wp2
          go_loopw [80] (fun i wr => ∃ j : Nat, j ≤ A + 1 ∧ i = .int .i64 j ∧ Below w6.heap.size w6 wr) (fun i _ => A + 1 - (intOf i).toNat)
          case atStart => exact ⟨0, Nat.zero_le _, rfl, Below.refl _ _⟩
          case round =>
            obtain ⟨x, hx, rfl, hbel⟩ := hrel
            by_cases hlt2 : x < A + 1
            · obtain ⟨bb', off', rfl, hbl', g0, g1, g2⟩ := (hP.below hbel).get (k := x) (by rw [HL2.out]; exact hlt2)
              obtain ⟨z1, z2, z3⟩ := HZ.out x hlt2
              rw [z2] at g0
              rw [z3] at g1
              rw [z1] at g2
              have i1 : (x : Int) < (A : Int) + 1 := by omega
              have hb2 := hbel.alloc hbel.size (.cells #[.int .i64 0, .int .i64 0, .bool true] 34)
              clear z1 z2 z3
              go_wp2
              go_roundw
              case rel => exact ⟨x + 1, by omega, by go_num, hb2⟩
              case measure => simp [intOf]; omega
            · obtain rfl : x = A + 1 := by omega
              have O7 := O6.keep K hbel
              clear O6 hP hbel
              go_wp2_with fail
              refine (lags_any K w _ _ s O7).mono ?_
              rintro e w8 ⟨rfl, O8⟩
              rw [HZ0.out]
              obtain ⟨t', m, ht⟩ := ex_tick (O8.ok K)
              have hm : m = 0 := by
                have h1 := (ht.is (O8.ok K).u0 (O8.ok K).ok).1
                rw [HZ0.out] at h1
                have h2 := (O8.ok K).r0
                omega
              subst hm
              have HT := Lib.hid ht
              clear ht O7
              go_wp2_with fail
              refine (K.tick1 w _ _ s t' 0 O8 HT.out).mono ?_
              rintro e w9 ⟨rfl, O9⟩
              have hb := O9.b
              clear O8 O9
              go_wp2
              go_ret
              exact ⟨by simp, hb⟩

end Go.Proofs.Ytlaandbaaepamaa
