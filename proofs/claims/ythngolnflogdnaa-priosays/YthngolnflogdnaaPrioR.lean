
/-
  Walks: the document's own sums and link once more, for what two traces bring together (up to 20000 in a slot).
-/
import Derived.Test.YthngolnflogdnaaLineR
import Derived.Test.YthngolnflogdnaaPrioP
namespace Go.Proofs.Ythngolnflogdnaa
set_option linter.all false
open Go.RowKit Go.Shelf

/-- A trace of up to twice as much. -/
structure Tw (l : List Int) : Prop where
  le : l.length ≤ 60
  lo : ∀ i, i < l.length → 0 ≤ gt l i
  hi : ∀ i, i < l.length → gt l i ≤ 20000
theorem pl_tw {a b : List Int} (va : Tr a) (vb : Tr b) (e : a.length = b.length) : Tw (plL a b) := by
  refine ⟨by rw [length_plL]; exact va.le, fun i hi => ?_, fun i hi => ?_⟩ <;> rw [length_plL] at hi <;> rw [gt_plL hi]
  · have := va.lo i hi; have := vb.lo i (by omega); omega
  · have := va.hi i hi; have := vb.hi i (by omega); omega
theorem sum_tw {l : List Int} (h : Tw l) (t : Nat) (ht : t ≤ l.length) : 0 ≤ sumV l t ∧ sumV l t ≤ 20000 * t := by
  induction t with
  | zero => exact ⟨Int.le_refl _, by simp [sumV]⟩
  | succ t ih =>
    have := ih (by omega); have := h.lo t (by omega); have := h.hi t (by omega)
    simp only [sumV]
    omega
theorem wa_tw_hi {a : List Int} {r : Int} (v : Tw a) (r0 : 0 ≤ r) : ∀ t, t ≤ a.length → waV a r t ≤ sumV a t
  | 0, _ => Int.le_refl _
  | t + 1, h => by
    have := wa_tw_hi v r0 t (by omega); have := v.lo t (by omega); have := (sum_tw v t (by omega)).1
    simp only [waV, sumV]; omega
theorem wa_tw {a : List Int} {r : Int} (v : Tw a) (r0 : 0 ≤ r) {t : Nat} (h : t ≤ a.length) : 0 ≤ waV a r t ∧ waV a r t ≤ 1200000 := by
  have := wa_tw_hi v r0 t h; have := (sum_tw v t h).2; have := v.le
  exact ⟨wa_lo a r t, by omega⟩
theorem lin_tw {a : List Int} {r : Int} (v : Tw a) (r0 : 0 ≤ r) (r1 : r ≤ 10000) {t s : Nat} (hs : s ≤ t) (ht : t ≤ a.length) : -1800000 ≤ linV a r t s ∧ linV a r t s ≤ 1200000 := by
  have h1 := sum_tw v t ht; have h2 := sum_tw v s (by omega); have hl := v.le
  have m0 : 0 ≤ r * ((t : Int) - (s : Int)) := Int.mul_nonneg r0 (by omega)
  have m1 : r * ((t : Int) - (s : Int)) ≤ 10000 * 60 := Int.mul_le_mul r1 (by omega) (by omega) (by omega)
  unfold linV
  omega

set_option maxHeartbeats 1600000 in
theorem refAdded_tw (A : Option Addr) (l : List Int) (c : Nat) (w : World) (h : Ints w A l) (v : Tw l) :
    Calls Try.prog 48 #[.slice A l.length c] w (AnsL (adL l) w) := by
  obtain ⟨i0, hi0, hz0, hz1, hz2⟩ := info_parts int_info
  have hle := v.le
  obtain ⟨F, hF⟩ : ∃ F, F = sumV l := ⟨_, rfl⟩
  have HL : Hid (adL l = tab (l.length + 1) F) := Lib.hid (by rw [hF]; rfl)
  have BF : Hid (∀ i, i ≤ l.length → 0 ≤ F i ∧ F i ≤ 10000000) := Lib.hid (fun i hi => by have := sum_tw v i hi; rw [hF]; omega)
  have HS : Hid (∀ u, F (u + 1) = F u + gt l u) := Lib.hid (fun u => by rw [hF]; rfl)
  have H0 : Hid (F 0 = 0) := Lib.hid (by rw [hF]; rfl)
  clear hF
  go_enter Try.func48, Try.ntmps48
  go_wp2
  go_loopw [3, 9] (fun v i wr => ∃ k : Nat, k ≤ l.length ∧ i = .int .i64 k ∧ wr.ownsRow w.heap.size 3 1 v (k + 1) ((tab (k + 1) F).map (Value.int .i64)) ∧ Below w.heap.size w wr) (fun _ i _ => l.length - (intOf i).toNat)
  case atStart =>
    refine ⟨0, Nat.zero_le _, rfl, ?_, (Below.refl _ _).alloc (Nat.le_refl _) _⟩
    rw [show (tab (0 + 1) F).map (Value.int .i64) = (#[Value.int .i64 0] : Array Value).toList by rw [tab_succ, tab_zero, H0.out]; rfl]
    exact World.ownsRow_lit w #[.int .i64 0] 1 (Nat.le_refl _) (by decide) rfl
  case round =>
    obtain ⟨t, ht, rfl, hown, hbel⟩ := hrel
    by_cases hlt : t < l.length
    · obtain ⟨b1, o1, x, rfl, hc1, HX⟩ := (h.below hbel).at_ hlt
      obtain ⟨g, cap, rfl, hg, hgl⟩ := hown.form (by omega)
      have r1 : Ints wr (some ⟨g, 0, none⟩) (tab (t + 1) F) := Ints.of_own (c := cap) (by rw [length_tab]; exact hown)
      obtain ⟨b2, o2, y, e2, hc2, HY⟩ := r1.at_ (k := t) (by rw [length_tab]; omega)
      obtain ⟨rfl, rfl⟩ : b2 = g ∧ o2 = 0 := by injection e2 with e1; injection e1 with e1 e2; exact ⟨e1.symm, e2.symm⟩
      clear e2
      have hx := gt_of_get HX.out
      have hy := gt_of_get HY.out
      rw [gt_tab _ (by omega)] at hy
      have x0 : 0 ≤ x := by rw [← hx]; exact v.lo t hlt
      have x1 : x ≤ 20000 := by rw [← hx]; exact v.hi t hlt
      have y0 : 0 ≤ y := by rw [← hy]; exact (BF.out t ht).1
      have y1 : y ≤ 10000000 := by rw [← hy]; exact (BF.out t ht).2
      have HN : Hid (F (t + 1) = y + x) := Lib.hid (by rw [HS.out, hy, hx])
      simp only [Nat.zero_add] at hc2
      clear hx hy r1
      have hsz := hbel.size
      go_wp2_with (at_builtin; refine wpList_append_own _ rfl _ _ 22 rfl w.heap.size 3 i0 (.int .i64 0) 1 8 Try.underlying22 hi0 hz0 hz1 hz2 rfl (by decide) _ _ _ rfl (World.ownsRow.alloc hown _) ⟨wr.heap.size, 0, none⟩ 1 1 [.int .i64 (y + x)] rfl rfl ?c1 ?c2 ?c3 ?c4 ?c5 ?_)
      case c1 => exact new_one2 _ _ _
      case c2 => exact one_cell2 _
      case c3 => unfold maxLen; omega
      case c4 => omega
      case c5 => simp; omega
      intro v' w1 hown' hgrow _
      have hbel' : Below w.heap.size w w1 := ((hbel.alloc hbel.size _).grown hgrow (by simp; omega) (fun k hk => (hown.lt k hk).1))
      have hown'' : w1.ownsRow w.heap.size 3 1 v' (t + 1 + 1) ((tab (t + 1 + 1) F).map (Value.int .i64)) := by rw [tab_succ, List.map_append, HN.out]; exact hown'
      clear hown' hgrow hown hbel
      go_wp2
      go_roundw
      case rel => exact ⟨t + 1, by omega, by go_num, hown'', hbel'⟩
      case measure => simp [intOf]; omega
    · obtain rfl : t = l.length := by omega
      go_wp2
      go_ret
      rw [HL.out]
      exact AnsL.of (by rw [length_tab]; exact hown) hbel

set_option maxHeartbeats 1600000 in
theorem refWaits_tw (A : Option Addr) (l : List Int) (c : Nat) (r : Int) (w : World) (h : Ints w A l) (v : Tw l) (r0 : 0 ≤ r) (r1 : r ≤ 10000) :
    Calls Try.prog 36 #[.slice A l.length c, .int .i64 r] w (AnsL (waL l r) w) := by
  obtain ⟨i0, hi0, hz0, hz1, hz2⟩ := info_parts int_info
  have hle := v.le
  have HL : Hid (waL l r = tab l.length (fun t => waV l r (t + 1))) := Lib.hid rfl
  obtain ⟨F, hF⟩ : ∃ F : Nat → Int, F = fun t => waV l r (t + 1) := ⟨_, rfl⟩
  rw [← hF] at HL
  have HF := Lib.hid hF
  clear hF
  go_enter Try.func36, Try.ntmps36
  go_wp2_with fail
  refine (refAdded_tw A l c _ h v).mono ?_
  rintro e w1 ⟨Af, cf, rfl, of, bf⟩
  have hf := Ints.of_own of
  have HLF := Lib.hid (length_adL l)
  rw [HLF.out]
  have kl : ((l.length + 1 : Nat) : Int) = (l.length : Int) + 1 := by omega
  clear of
  go_wp2
  go_loopw [6, 7] (fun u i wr => ∃ k : Nat, k ≤ l.length ∧ i = .int .i64 (k + 1 : Nat) ∧ wr.ownsRow w1.heap.size 3 1 u k ((tab k F).map (Value.int .i64)) ∧ Below w1.heap.size w1 wr) (fun _ i _ => l.length + 1 - (intOf i).toNat)
  case atStart => exact ⟨0, Nat.zero_le _, rfl, by rw [tab_zero]; exact World.ownsRow_nil _ _ _ _, Below.refl _ _⟩
  case round =>
    obtain ⟨t, ht, rfl, hown, hbel⟩ := hrel
    by_cases hlt : t < l.length
    · have hf' := hf.below hbel
      obtain ⟨b1, o1, y, rfl, hc1, HY⟩ := hf'.at_ (k := t + 1) (by rw [length_adL]; omega)
      have hy := gt_of_get HY.out
      rw [gt_adL (by omega)] at hy
      have y0 : 0 ≤ y := by rw [← hy]; exact (sum_tw v (t + 1) (by omega)).1
      have y1 : y ≤ 1200000 := by rw [← hy]; have := (sum_tw v (t + 1) (by omega)).2; omega
      have i1 : ((t + 1 : Nat) : Int) < (l.length : Int) + 1 := by omega
      obtain ⟨T, hT⟩ : ∃ T, T = t + 1 := ⟨_, rfl⟩
      have HT := Lib.hid hT
      have T1 : T ≤ l.length := by omega
      have HYT : Hid (sumV l T = y) := Lib.hid (by rw [hT, hy])
      rw [← hT] at hc1 i1 ⊢
      clear hT hy
      go_wp2
      go_loopw [8, 9] (fun m i wi => ∃ s n : Nat, s ≤ T + 1 ∧ i = .int .i64 s ∧ m = .int .i64 (mx (linV l r T) s) ∧ wi = wr.drewN n) (fun _ i _ => T + 1 - (intOf i).toNat)
      case atStart => exact ⟨0, 0, Nat.zero_le _, rfl, rfl, rfl⟩
      case round =>
        obtain ⟨s, n, hs, rfl, rfl, rfl⟩ := hrel
        obtain ⟨m, hm⟩ : ∃ m, m = mx (linV l r T) s := ⟨_, rfl⟩
        rw [← hm]
        by_cases hst : s ≤ T
        · obtain ⟨b2, o2, x, e2, hc2, HX⟩ := hf'.at_ (k := s) (by rw [length_adL]; omega)
          obtain ⟨rfl, rfl⟩ : b2 = b1 ∧ o2 = o1 := by injection e2 with e1; injection e1 with e1 e2; exact ⟨e1.symm, e2.symm⟩
          clear e2
          have hx := gt_of_get HX.out
          rw [gt_adL (by omega)] at hx
          have bd := lin_tw v r0 r1 hst T1
          obtain ⟨D, hD⟩ : ∃ D, D = linV l r T s := ⟨_, rfl⟩
          rw [← hD] at bd
          obtain ⟨P, hP⟩ : ∃ P, P = r * ((T : Int) - (s : Int)) := ⟨_, rfl⟩
          have P0 : 0 ≤ P := by rw [hP]; exact Int.mul_nonneg r0 (by omega)
          have P1 : P ≤ 600000 := by rw [hP]; have := Int.mul_le_mul r1 (show (T : Int) - (s : Int) ≤ 60 by omega) (by omega) (by omega); omega
          have x0 : 0 ≤ x := by rw [← hx]; exact (sum_tw v s (by omega)).1
          have x1 : x ≤ 1200000 := by rw [← hx]; have := (sum_tw v s (by omega)).2; omega
          have hDv : D = y - x - P := by rw [hD, linV, HYT.out, hx, hP]
          have HM : Hid (mx (linV l r T) (s + 1) = max m (y - x - P)) := Lib.hid (by rw [mx, ← hm, ← hD, hDv])
          have m0 : 0 ≤ m := by rw [hm]; exact mx0 _ _
          have m1 : m ≤ 1200000 := by
            rw [hm]
            exact (mx_iff _ _ (by omega) _).2 (fun i hi => (lin_tw v r0 r1 (by omega) T1).2)
          have HP : Hid (IntKind.i64.wrap (r * ((T : Int) - (s : Int))) = P) := Lib.hid (by rw [← hP]; exact IntWalk.i64_in _ ⟨by omega, by omega⟩)
          have s1 : IntKind.i64.wrap ((T : Int) - (s : Int)) = (T : Int) - (s : Int) := IntWalk.i64_in _ ⟨by omega, by omega⟩
          have s2 := HP.out
          have s3 : IntKind.i64.wrap (y - x) = y - x := IntWalk.i64_in _ ⟨by omega, by omega⟩
          have s4 : IntKind.i64.wrap (y - x - P) = y - x - P := IntWalk.i64_in _ ⟨by omega, by omega⟩
          have i2 : (s : Int) ≤ (T : Int) := by omega
          have i3 : (s : Int) < (l.length : Int) + 1 := by omega
          have i4 : (T : Int) < (l.length : Int) + 1 := by omega
          clear hx hP hD hDv hm bd
          rcases Int.lt_trichotomy m (y - x - P) with q | q | q
          all_goals
            go_wp2
            go_quiet (fail)
            go_wp2
            go_roundw
            case rel => exact ⟨s + 1, n + nq, by omega, by go_num, by rw [HM.out]; congr 1; omega, by simp [World.drewN, Nat.add_assoc]⟩
            case measure => simp [intOf]; omega
        · obtain rfl : s = T + 1 := by omega
          have i2 : ¬ ((T + 1 : Nat) : Int) ≤ (T : Int) := by omega
          have HM : Hid (F t = m) := Lib.hid (by rw [hm, HF.out, lin_mx, HT.out])
          clear hm
          obtain ⟨W, hW⟩ : ∃ W, W = wr.drewN n := ⟨_, rfl⟩
          replace hown : W.ownsRow w1.heap.size 3 1 u6 t ((tab t F).map (Value.int .i64)) := by rw [hW]; exact hown
          replace hbel := below_trans hbel (below_of_drewN hW)
          rw [← hW]
          clear hW hc1
          have hsz := hbel.size
          go_wp2_with (at_builtin; refine wpList_append_own _ rfl _ _ 22 rfl w1.heap.size 3 i0 (.int .i64 0) 1 8 Try.underlying22 hi0 hz0 hz1 hz2 rfl (by decide) _ _ _ rfl (World.ownsRow.alloc hown _) ⟨W.heap.size, 0, none⟩ 1 1 [.int .i64 m] rfl rfl ?c1 ?c2 ?c3 ?c4 ?c5 ?_)
          all_goals (try exact new_one2 _ _ _)
          case c2 => rfl
          case c3 => unfold maxLen; omega
          case c4 => omega
          case c5 => omega
          intro v' w2 hown' hgrow _
          have hbel' : Below w1.heap.size w1 w2 := ((hbel.alloc hbel.size _).grown hgrow (by simp; omega) (fun k hk => (hown.lt k hk).1))
          have hown'' : w2.ownsRow w1.heap.size 3 1 v' (t + 1) ((tab (t + 1) F).map (Value.int .i64)) := by rw [tab_succ, List.map_append, HM.out]; exact hown'
          clear hown' hgrow hown hbel
          go_wp2
          go_roundw
          case rel => exact ⟨t + 1, by omega, by rw [HT.out]; go_num, hown'', hbel'⟩
          case measure => simp [intOf]; omega
    · obtain rfl : t = l.length := by omega
      go_wp2
      go_ret
      rw [HL.out]
      exact AnsL.of (by rw [length_tab]; exact own_lower hown bf.size) (below_trans bf hbel)

set_option maxHeartbeats 1600000 in
theorem refGoes_tw (A : Option Addr) (l : List Int) (c : Nat) (r : Int) (w : World) (h : Ints w A l) (v : Tw l) (r0 : 0 ≤ r) (r1 : r ≤ 10000) :
    Calls Try.prog 12 #[.slice A l.length c, .int .i64 r] w (AnsL (goL l r) w) := by
  obtain ⟨i0, hi0, hz0, hz1, hz2⟩ := info_parts int_info
  have hle := v.le
  obtain ⟨F, hF⟩ : ∃ F : Nat → Int, F = goV l r := ⟨_, rfl⟩
  have HL : Hid (goL l r = tab l.length F) := Lib.hid (by rw [hF]; rfl)
  have HF := Lib.hid hF
  clear hF
  go_enter Try.func12, Try.ntmps12
  go_wp2_with fail
  refine (refWaits_tw A l c r _ h v r0 r1).mono ?_
  rintro e w1 ⟨Af, cf, rfl, of, bf⟩
  have hf := Ints.of_own of
  have h1 := h.below bf
  rw [length_waL]
  clear of
  go_wp2
  go_loopw [5, 6, 13] (fun u p i wr => ∃ k : Nat, k ≤ l.length ∧ i = .int .i64 k ∧ p = .int .i64 (waV l r k) ∧ wr.ownsRow w1.heap.size 3 1 u k ((tab k F).map (Value.int .i64)) ∧ Below w1.heap.size w1 wr) (fun _ _ i _ => l.length - (intOf i).toNat)
  case atStart => exact ⟨0, Nat.zero_le _, rfl, rfl, by rw [tab_zero]; exact World.ownsRow_nil _ _ _ _, Below.refl _ _⟩
  case round =>
    obtain ⟨t, ht, rfl, rfl, hown, hbel⟩ := hrel
    obtain ⟨p, hp⟩ : ∃ p, p = waV l r t := ⟨_, rfl⟩
    rw [← hp]
    by_cases hlt : t < l.length
    · obtain ⟨b1, o1, y, rfl, hc1, HY⟩ := (hf.below hbel).at_ (k := t) (by rw [length_waL]; omega)
      obtain ⟨b2, o2, x, rfl, hc2, HX⟩ := (h1.below hbel).at_ (k := t) hlt
      have hy := gt_of_get HY.out
      rw [gt_waL hlt] at hy
      have hx := gt_of_get HX.out
      have y0 : 0 ≤ y ∧ y ≤ 1200000 := by rw [← hy]; exact wa_tw v r0 (by omega)
      have p0 : 0 ≤ p ∧ p ≤ 1200000 := by rw [hp]; exact wa_tw v r0 (by omega)
      have x0 : 0 ≤ x := by rw [← hx]; exact v.lo t hlt
      have x1 : x ≤ 20000 := by rw [← hx]; exact v.hi t hlt
      obtain ⟨ya, yb⟩ := y0
      obtain ⟨pa, pb⟩ := p0
      have HM : Hid (F t = p + x - y) := Lib.hid (by rw [HF.out, goV, ← hp, hx, hy])
      have HN : Hid (waV l r (t + 1) = y) := Lib.hid hy
      have i1 : (t : Int) < (l.length : Int) := by omega
      clear hp hx hy
      have hsz := hbel.size
      go_wp2_with (at_builtin; refine wpList_append_own _ rfl _ _ 22 rfl w1.heap.size 3 i0 (.int .i64 0) 1 8 Try.underlying22 hi0 hz0 hz1 hz2 rfl (by decide) _ _ _ rfl (World.ownsRow.alloc hown _) ⟨wr.heap.size, 0, none⟩ 1 1 [.int .i64 (p + x - y)] rfl rfl ?c1 ?c2 ?c3 ?c4 ?c5 ?_)
      case c1 => exact new_one2 _ _ _
      case c2 => exact one_cell2 _
      case c3 => unfold maxLen; omega
      case c4 => omega
      case c5 => simp; omega
      intro v' w2 hown' hgrow _
      have hbel' : Below w1.heap.size w1 w2 := ((hbel.alloc hbel.size _).grown hgrow (by simp; omega) (fun k hk => (hown.lt k hk).1))
      have hown'' : w2.ownsRow w1.heap.size 3 1 v' (t + 1) ((tab (t + 1) F).map (Value.int .i64)) := by rw [tab_succ, List.map_append, HM.out]; exact hown'
      clear hown' hgrow hown hbel
      go_wp2
      go_roundw
      case rel => exact ⟨t + 1, by omega, by go_num, by rw [HN.out], hown'', hbel'⟩
      case measure => simp [intOf]; omega
    · obtain rfl : t = l.length := by omega
      go_wp2
      go_ret
      rw [HL.out]
      exact AnsL.of (by rw [length_tab]; exact own_lower hown bf.size) (below_trans bf hbel)

end Go.Proofs.Ythngolnflogdnaa
