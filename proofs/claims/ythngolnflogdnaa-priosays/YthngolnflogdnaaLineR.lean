
/-
  Walks: the document's own link: what waits from the sums, what goes out from what waits; headlaw's error of a rate.
-/
import Derived.Test.YthngolnflogdnaaLineA
import Derived.Test.YthngolnflogdnaaTraceB
namespace Go.Proofs.Ythngolnflogdnaa
set_option linter.all false
open Go.RowKit Go.Shelf

set_option maxHeartbeats 1600000 in
theorem refWaits_any (A : Option Addr) (l : List Int) (c : Nat) (r : Int) (w : World) (h : Ints w A l) (v : Tr l) (r0 : 0 ≤ r) (r1 : r ≤ 10000) :
    Calls Try.prog 36 #[.slice A l.length c, .int .i64 r] w (AnsL (waL l r) w) := by
  obtain ⟨i0, hi0, hz0, hz1, hz2⟩ := info_parts int_info
  have hle := v.le
  have HL : Hid (waL l r = tab l.length (fun t => waV l r (t + 1))) := Lib.hid rfl
  obtain ⟨F, hF⟩ : ∃ F : Nat → Int, F = fun t => waV l r (t + 1) := ⟨_, rfl⟩
  rw [← hF] at HL
  have HF := Lib.hid hF
  clear hF
  go_enter Try.func36, Try.ntmps36
  go_wp2_with fail
  refine (refAdded_any A l c _ h v).mono ?_
  rintro e w1 ⟨Af, cf, rfl, of, bf⟩
  have hf := Ints.of_own of
  have HLF := Lib.hid (length_adL l)
  rw [HLF.out]
  have kl : ((l.length + 1 : Nat) : Int) = (l.length : Int) + 1 := by omega
  clear of
  go_wp2
  go_loopw [6, 7] (fun u i wr => ∃ k : Nat, k ≤ l.length ∧ i = .int .i64 (k + 1 : Nat) ∧ wr.ownsRow w1.heap.size 3 1 u k ((tab k F).map (Value.int .i64)) ∧ Below w1.heap.size w1 wr) (fun _ i _ => l.length + 1 - (intOf i).toNat)
  case atStart => exact ⟨0, Nat.zero_le _, rfl, by rw [tab_zero]; exact World.ownsRow_nil _ _ _ _, Below.refl _ _⟩
  case round =>
    obtain ⟨t, ht, rfl, hown, hbel⟩ := hrel
    by_cases hlt : t < l.length
    · have hf' := hf.below hbel
      obtain ⟨b1, o1, y, rfl, hc1, HY⟩ := hf'.at_ (k := t + 1) (by rw [length_adL]; omega)
      have hy := gt_of_get HY.out
      rw [gt_adL (by omega)] at hy
      have y0 : 0 ≤ y := by rw [← hy]; exact (sum_lo v (t + 1) (by omega)).1
      have y1 : y ≤ 600000 := by rw [← hy]; have := (sum_lo v (t + 1) (by omega)).2; omega
      have i1 : ((t + 1 : Nat) : Int) < (l.length : Int) + 1 := by omega
      obtain ⟨T, hT⟩ : ∃ T, T = t + 1 := ⟨_, rfl⟩
      have HT := Lib.hid hT
      have T1 : T ≤ l.length := by omega
      have HYT : Hid (sumV l T = y) := Lib.hid (by rw [hT, hy])
      rw [← hT] at hc1 i1 ⊢
      clear hT hy
      go_wp2
      go_loopw [8, 9] (fun m i wi => ∃ s n : Nat, s ≤ T + 1 ∧ i = .int .i64 s ∧ m = .int .i64 (mx (linV l r T) s) ∧ wi = wr.drewN n) (fun _ i _ => T + 1 - (intOf i).toNat)
      case atStart => exact ⟨0, 0, Nat.zero_le _, rfl, rfl, rfl⟩
      case round =>
        obtain ⟨s, n, hs, rfl, rfl, rfl⟩ := hrel
        obtain ⟨m, hm⟩ : ∃ m, m = mx (linV l r T) s := ⟨_, rfl⟩
        rw [← hm]
        by_cases hst : s ≤ T
        · obtain ⟨b2, o2, x, e2, hc2, HX⟩ := hf'.at_ (k := s) (by rw [length_adL]; omega)
          obtain ⟨rfl, rfl⟩ : b2 = b1 ∧ o2 = o1 := by injection e2 with e1; injection e1 with e1 e2; exact ⟨e1.symm, e2.symm⟩
          clear e2
          have hx := gt_of_get HX.out
          rw [gt_adL (by omega)] at hx
          have bd := lin_bd v r0 r1 hst T1
          obtain ⟨D, hD⟩ : ∃ D, D = linV l r T s := ⟨_, rfl⟩
          rw [← hD] at bd
          obtain ⟨P, hP⟩ : ∃ P, P = r * ((T : Int) - (s : Int)) := ⟨_, rfl⟩
          have P0 : 0 ≤ P := by rw [hP]; exact Int.mul_nonneg r0 (by omega)
          have P1 : P ≤ 600000 := by rw [hP]; have := Int.mul_le_mul r1 (show (T : Int) - (s : Int) ≤ 60 by omega) (by omega) (by omega); omega
          have x0 : 0 ≤ x := by rw [← hx]; exact (sum_lo v s (by omega)).1
          have x1 : x ≤ 600000 := by rw [← hx]; have := (sum_lo v s (by omega)).2; omega
          have hDv : D = y - x - P := by rw [hD, linV, HYT.out, hx, hP]
          have HM : Hid (mx (linV l r T) (s + 1) = max m (y - x - P)) := Lib.hid (by rw [mx, ← hm, ← hD, hDv])
          have m0 : 0 ≤ m := by rw [hm]; exact mx0 _ _
          have m1 : m ≤ 600000 := by
            rw [hm]
            exact (mx_iff _ _ (by omega) _).2 (fun i hi => (lin_bd v r0 r1 (by omega) T1).2)
          have HP : Hid (IntKind.i64.wrap (r * ((T : Int) - (s : Int))) = P) := Lib.hid (by rw [← hP]; exact IntWalk.i64_in _ ⟨by omega, by omega⟩)
          have s1 : IntKind.i64.wrap ((T : Int) - (s : Int)) = (T : Int) - (s : Int) := IntWalk.i64_in _ ⟨by omega, by omega⟩
          have s2 := HP.out
          have s3 : IntKind.i64.wrap (y - x) = y - x := IntWalk.i64_in _ ⟨by omega, by omega⟩
          have s4 : IntKind.i64.wrap (y - x - P) = y - x - P := IntWalk.i64_in _ ⟨by omega, by omega⟩
          have i2 : (s : Int) ≤ (T : Int) := by omega
          have i3 : (s : Int) < (l.length : Int) + 1 := by omega
          have i4 : (T : Int) < (l.length : Int) + 1 := by omega
          clear hx hP hD hDv hm bd
          rcases Int.lt_trichotomy m (y - x - P) with q | q | q
          all_goals
            go_wp2
            go_quiet (fail)
            go_wp2
            go_roundw
            case rel => exact ⟨s + 1, n + nq, by omega, by go_num, by rw [HM.out]; congr 1; omega, by simp [World.drewN, Nat.add_assoc]⟩
            case measure => simp [intOf]; omega
        · obtain rfl : s = T + 1 := by omega
          have i2 : ¬ ((T + 1 : Nat) : Int) ≤ (T : Int) := by omega
          have HM : Hid (F t = m) := Lib.hid (by rw [hm, HF.out, lin_mx, HT.out])
          clear hm
          obtain ⟨W, hW⟩ : ∃ W, W = wr.drewN n := ⟨_, rfl⟩
          replace hown : W.ownsRow w1.heap.size 3 1 u6 t ((tab t F).map (Value.int .i64)) := by rw [hW]; exact hown
          replace hbel := below_trans hbel (below_of_drewN hW)
          rw [← hW]
          clear hW hc1
          have hsz := hbel.size
          go_wp2_with (at_builtin; refine wpList_append_own _ rfl _ _ 22 rfl w1.heap.size 3 i0 (.int .i64 0) 1 8 Try.underlying22 hi0 hz0 hz1 hz2 rfl (by decide) _ _ _ rfl (World.ownsRow.alloc hown _) ⟨W.heap.size, 0, none⟩ 1 1 [.int .i64 m] rfl rfl ?c1 ?c2 ?c3 ?c4 ?c5 ?_)
          all_goals (try exact new_one2 _ _ _)
          case c2 => rfl
          case c3 => unfold maxLen; omega
          case c4 => omega
          case c5 => omega
          intro v' w2 hown' hgrow _
          have hbel' : Below w1.heap.size w1 w2 := ((hbel.alloc hbel.size _).grown hgrow (by simp; omega) (fun k hk => (hown.lt k hk).1))
          have hown'' : w2.ownsRow w1.heap.size 3 1 v' (t + 1) ((tab (t + 1) F).map (Value.int .i64)) := by rw [tab_succ, List.map_append, HM.out]; exact hown'
          clear hown' hgrow hown hbel
          go_wp2
          go_roundw
          case rel => exact ⟨t + 1, by omega, by rw [HT.out]; go_num, hown'', hbel'⟩
          case measure => simp [intOf]; omega
    · obtain rfl : t = l.length := by omega
      go_wp2
      go_ret
      rw [HL.out]
      exact AnsL.of (by rw [length_tab]; exact own_lower hown bf.size) (below_trans bf hbel)

set_option maxHeartbeats 1600000 in
theorem refGoes_any (A : Option Addr) (l : List Int) (c : Nat) (r : Int) (w : World) (h : Ints w A l) (v : Tr l) (r0 : 0 ≤ r) (r1 : r ≤ 10000) :
    Calls Try.prog 12 #[.slice A l.length c, .int .i64 r] w (AnsL (goL l r) w) := by
  obtain ⟨i0, hi0, hz0, hz1, hz2⟩ := info_parts int_info
  have hle := v.le
  obtain ⟨F, hF⟩ : ∃ F : Nat → Int, F = goV l r := ⟨_, rfl⟩
  have HL : Hid (goL l r = tab l.length F) := Lib.hid (by rw [hF]; rfl)
  have HF := Lib.hid hF
  clear hF
  go_enter Try.func12, Try.ntmps12
  go_wp2_with fail
  refine (refWaits_any A l c r _ h v r0 r1).mono ?_
  rintro e w1 ⟨Af, cf, rfl, of, bf⟩
  have hf := Ints.of_own of
  have h1 := h.below bf
  rw [length_waL]
  clear of
  go_wp2
  go_loopw [5, 6, 13] (fun u p i wr => ∃ k : Nat, k ≤ l.length ∧ i = .int .i64 k ∧ p = .int .i64 (waV l r k) ∧ wr.ownsRow w1.heap.size 3 1 u k ((tab k F).map (Value.int .i64)) ∧ Below w1.heap.size w1 wr) (fun _ _ i _ => l.length - (intOf i).toNat)
  case atStart => exact ⟨0, Nat.zero_le _, rfl, rfl, by rw [tab_zero]; exact World.ownsRow_nil _ _ _ _, Below.refl _ _⟩
  case round =>
    obtain ⟨t, ht, rfl, rfl, hown, hbel⟩ := hrel
    obtain ⟨p, hp⟩ : ∃ p, p = waV l r t := ⟨_, rfl⟩
    rw [← hp]
    by_cases hlt : t < l.length
    · obtain ⟨b1, o1, y, rfl, hc1, HY⟩ := (hf.below hbel).at_ (k := t) (by rw [length_waL]; omega)
      obtain ⟨b2, o2, x, rfl, hc2, HX⟩ := (h1.below hbel).at_ (k := t) hlt
      have hy := gt_of_get HY.out
      rw [gt_waL hlt] at hy
      have hx := gt_of_get HX.out
      have y0 : 0 ≤ y ∧ y ≤ 600000 := by rw [← hy]; exact wa_bd v r0 (by omega)
      have p0 : 0 ≤ p ∧ p ≤ 600000 := by rw [hp]; exact wa_bd v r0 (by omega)
      have x0 : 0 ≤ x := by rw [← hx]; exact v.lo t hlt
      have x1 : x ≤ 10000 := by rw [← hx]; exact v.hi t hlt
      obtain ⟨ya, yb⟩ := y0
      obtain ⟨pa, pb⟩ := p0
      have HM : Hid (F t = p + x - y) := Lib.hid (by rw [HF.out, goV, ← hp, hx, hy])
      have HN : Hid (waV l r (t + 1) = y) := Lib.hid hy
      have i1 : (t : Int) < (l.length : Int) := by omega
      clear hp hx hy
      have hsz := hbel.size
      go_wp2_with (at_builtin; refine wpList_append_own _ rfl _ _ 22 rfl w1.heap.size 3 i0 (.int .i64 0) 1 8 Try.underlying22 hi0 hz0 hz1 hz2 rfl (by decide) _ _ _ rfl (World.ownsRow.alloc hown _) ⟨wr.heap.size, 0, none⟩ 1 1 [.int .i64 (p + x - y)] rfl rfl ?c1 ?c2 ?c3 ?c4 ?c5 ?_)
      case c1 => exact new_one2 _ _ _
      case c2 => exact one_cell2 _
      case c3 => unfold maxLen; omega
      case c4 => omega
      case c5 => simp; omega
      intro v' w2 hown' hgrow _
      have hbel' : Below w1.heap.size w1 w2 := ((hbel.alloc hbel.size _).grown hgrow (by simp; omega) (fun k hk => (hown.lt k hk).1))
      have hown'' : w2.ownsRow w1.heap.size 3 1 v' (t + 1) ((tab (t + 1) F).map (Value.int .i64)) := by rw [tab_succ, List.map_append, HM.out]; exact hown'
      clear hown' hgrow hown hbel
      go_wp2
      go_roundw
      case rel => exact ⟨t + 1, by omega, by go_num, by rw [HN.out], hown'', hbel'⟩
      case measure => simp [intOf]; omega
    · obtain rfl : t = l.length := by omega
      go_wp2
      go_ret
      rw [HL.out]
      exact AnsL.of (by rw [length_tab]; exact own_lower hown bf.size) (below_trans bf hbel)

set_option maxHeartbeats 400000 in
theorem rated_any (A : Option Addr) (l : List Int) (c : Nat) (r : Int) (w : World) (h : Ints w A l) :
    Calls Try.prog 10 #[.slice A l.length c, .int .i64 r] w fun e w' => e = .returned (.int .i64 (linE l r)) ∧ w = w' := by
  by_cases h1 : trk l = 0
  · have e1 : (trk l != 0) = false := by simp [h1]
    by_cases h2 : r < 0
    · have HE : Hid (linE l r = 1) := Lib.hid (by rw [linE, if_neg (by simpa using h1), if_pos (.inl h2)])
      have e2 : decide (r < 0) = true := decide_eq_true h2
      clear h1
      go_enter Try.func10, Try.ntmps10
      go_wp2_with fail
      refine (refTrace_any A l c _ h).mono ?_
      rintro e w' ⟨rfl, rfl⟩
      go_wp2
      go_ret
      exact ⟨ret_int HE.out.symm, rfl⟩
    · have e2 : decide (r < 0) = false := decide_eq_false h2
      by_cases h3 : 10000 < r
      · have HE : Hid (linE l r = 1) := Lib.hid (by rw [linE, if_neg (by simpa using h1), if_pos (.inr h3)])
        have e3 : decide (10000 < r) = true := decide_eq_true h3
        clear h1
        go_enter Try.func10, Try.ntmps10
        go_wp2_with fail
        refine (refTrace_any A l c _ h).mono ?_
        rintro e w' ⟨rfl, rfl⟩
        go_wp2
        go_ret
        exact ⟨ret_int HE.out.symm, rfl⟩
      · have HE : Hid (linE l r = 0) := Lib.hid (by rw [linE, if_neg (by simpa using h1), if_neg (by omega)])
        have e3 : decide (10000 < r) = false := decide_eq_false h3
        clear h1
        go_enter Try.func10, Try.ntmps10
        go_wp2_with fail
        refine (refTrace_any A l c _ h).mono ?_
        rintro e w' ⟨rfl, rfl⟩
        go_wp2
        go_ret
        exact ⟨ret_int HE.out.symm, rfl⟩
  · have HE : Hid (linE l r = trk l) := Lib.hid (by rw [linE, if_pos h1])
    have e1 : (trk l != 0) = true := by simp [h1]
    clear h1
    go_enter Try.func10, Try.ntmps10
    go_wp2_with fail
    refine (refTrace_any A l c _ h).mono ?_
    rintro e w' ⟨rfl, rfl⟩
    go_wp2
    go_ret
    exact ⟨ret_int HE.out.symm, rfl⟩

end Go.Proofs.Ythngolnflogdnaa
