
/-
  Walks: the document's own backlog (headref.Lag, Lindley: from the sums).
-/
import Derived.Test.YtnjeelmlabefjaaCatC
import Derived.Test.YtnjeelmlabefjaaLineR
import Derived.Test.YtnjeelmlabefjaaCatZ
namespace Go.Proofs.Ytnjeelmlabefjaa
set_option linter.all false
open Go.RowKit Go.Shelf Go.Lib

/-- The greatest so far of what Lindley compares, behind t slots. -/
def mvD (a : List Int) (r : Int) (t s : Nat) : Int := sumV a t - sumV a s - r * ((t : Int) - (s : Int))
def mvV (a : List Int) (r g : Int) (t : Nat) : Nat → Int
  | 0 => g + sumV a t - r * (t : Int)
  | k + 1 => max (mvV a r g t k) (mvD a r t (k + 1))
theorem mv_next (a : List Int) (r g : Int) (t : Nat) : ∀ k, mvV a r g (t + 1) k = mvV a r g t k + gt a t - r
  | 0 => by
    simp only [mvV]
    rw [sumV, show ((t + 1 : Nat) : Int) = (t : Int) + 1 by omega, Int.mul_add, Int.mul_one]
    omega
  | k + 1 => by
    simp only [mvV]
    rw [mv_next a r g t k]
    have : mvD a r (t + 1) (k + 1) = mvD a r t (k + 1) + gt a t - r := by
      unfold mvD
      rw [sumV, show ((t + 1 : Nat) : Int) - ((k + 1 : Nat) : Int) = ((t : Int) - ((k + 1 : Nat) : Int)) + 1 by omega, Int.mul_add, Int.mul_one]
      omega
    rw [this]; omega
theorem mv_self (a : List Int) (r : Int) (t : Nat) : mvD a r t t = 0 := by
  unfold mvD
  rw [show (t : Int) - (t : Int) = 0 by omega, Int.mul_zero]; omega
theorem mv_lg (a : List Int) {r g : Int} : ∀ t, mvV a r g t t = lgV a r g t
  | 0 => by simp [mvV, lgV, sumV]
  | t + 1 => by
    have h1 := mv_next a r g t t
    have h2 := mv_lg (r := r) (g := g) a t
    have h3 := mv_self a r (t + 1)
    simp only [mvV, lgV]
    rw [h1, h2, h3]; omega
def mxV (a : List Int) (r g : Int) (t k : Nat) : Int := max 0 (mvV a r g t k)
theorem mx_lg (a : List Int) {r g : Int} (g0 : 0 ≤ g) (t : Nat) : mxV a r g t t = lgV a r g t := by
  have := lg_lo (a := a) (r := r) g0 t
  unfold mxV; rw [mv_lg]; omega
theorem mx_next (a : List Int) (r g : Int) (t k : Nat) : mxV a r g t (k + 1) = max (mxV a r g t k) (mvD a r t (k + 1)) := by
  unfold mxV; simp only [mvV]; omega
theorem mvD_bd {a : List Int} {r : Int} (v : Tr a) (r0 : 0 ≤ r) {t s : Nat} (hs : s ≤ t) (ht : t ≤ a.length) : mvD a r t s ≤ 600000 := by
  have h1 := (sum_lo v s (by omega)).1
  have h2 := (sum_lo v t ht).2
  have h3 := v.le
  have h4 : 0 ≤ r * ((t : Int) - (s : Int)) := Int.mul_nonneg r0 (by omega)
  unfold mvD; omega
theorem mx_bd {a : List Int} {r g : Int} (v : Tr a) (r0 : 0 ≤ r) (g1 : g ≤ 1000000) {t : Nat} (ht : t ≤ a.length) : ∀ k, k ≤ t → 0 ≤ mxV a r g t k ∧ mxV a r g t k ≤ 1600000
  | 0, _ => by
    have h2 := (sum_lo v t ht).2
    have h3 := v.le
    have h4 : 0 ≤ r * (t : Int) := Int.mul_nonneg r0 (by omega)
    unfold mxV; simp only [mvV]; omega
  | k + 1, hk => by
    have ih := mx_bd v r0 g1 ht k (by omega)
    have := mvD_bd v r0 hk ht
    rw [mx_next]; omega

set_option maxHeartbeats 3200000 in
theorem refLag_any (A : Option Addr) (l : List Int) (c : Nat) (r g : Int) (w : World) (h : Ints w A l) (v : Tr l) (r0 : 0 ≤ r) (r1 : r ≤ 10000) (g0 : 0 ≤ g) (g1 : g ≤ 1000000) :
    Calls Try.prog 18 #[.slice A l.length c, .int .i64 r, .int .i64 g] w (AnsL (lgL l r g) w) := by
  obtain ⟨i0, hi0, hz0, hz1, hz2⟩ := info_parts int_info
  have hle := v.le
  obtain ⟨F, hF⟩ : ∃ F : Nat → Int, F = lgV l r g := ⟨_, rfl⟩
  have HL : Hid (lgL l r g = tab (l.length + 1) F) := Lib.hid (by rw [hF]; rfl)
  have HF := Lib.hid hF
  clear hF
  go_enter Try.func18, Try.ntmps18
  go_wp2_with fail
  refine (refAdded_any A l c _ h v).mono ?_
  rintro e w1 ⟨Af, cf, rfl, of, bf⟩
  have hf := Ints.of_own of
  have HLF := Lib.hid (length_adL l)
  rw [HLF.out]
  have kl : ((l.length + 1 : Nat) : Int) = (l.length : Int) + 1 := by omega
  clear of
  go_wp2
  go_loopw [8, 16] (fun u i wr => ∃ k : Nat, k ≤ l.length + 1 ∧ i = .int .i64 k ∧ wr.ownsRow w1.heap.size 3 1 u k ((tab k F).map (Value.int .i64)) ∧ Below w1.heap.size w1 wr) (fun _ i _ => l.length + 1 - (intOf i).toNat)
  case atStart => exact ⟨0, Nat.zero_le _, rfl, by rw [tab_zero]; exact World.ownsRow_nil _ _ _ _, Below.refl _ _⟩
  case round =>
    obtain ⟨t, ht, rfl, hown, hbel⟩ := hrel
    by_cases hlt : t < l.length + 1
    · have hf' := hf.below hbel
      obtain ⟨b1, o1, y, rfl, hc1, HY⟩ := hf'.at_ (k := t) (by rw [length_adL]; omega)
      have hy := gt_of_get HY.out
      rw [gt_adL (by omega)] at hy
      have y0 : 0 ≤ y := by rw [← hy]; exact (sum_lo v t (by omega)).1
      have y1 : y ≤ 600000 := by rw [← hy]; have := (sum_lo v t (by omega)).2; omega
      have i1 : (t : Int) < (l.length : Int) + 1 := by omega
      have HYT : Hid (sumV l t = y) := Lib.hid hy
      replace ht : t ≤ l.length := by omega
      obtain ⟨Q, hQ⟩ : ∃ Q, Q = r * (t : Int) := ⟨_, rfl⟩
      have Q0 : 0 ≤ Q := by rw [hQ]; exact Int.mul_nonneg r0 (by omega)
      have Q1 : Q ≤ 600000 := by rw [hQ]; have := Int.mul_le_mul r1 (show (t : Int) ≤ 60 by omega) (by omega) (by omega); omega
      have H0 : Hid (mxV l r g t 0 = max 0 (g + y - Q)) := Lib.hid (by unfold mxV; rw [mvV, hy, ← hQ])
      have t2 : IntKind.i64.wrap (r * (t : Int)) = Q := by rw [← hQ]; exact IntWalk.i64_in _ ⟨by omega, by omega⟩
      have t3 : IntKind.i64.wrap (g + y) = g + y := IntWalk.i64_in _ ⟨by omega, by omega⟩
      have t4 : IntKind.i64.wrap (g + y - Q) = g + y - Q := IntWalk.i64_in _ ⟨by omega, by omega⟩
      clear hy hQ
      rcases Int.lt_trichotomy 0 (g + y - Q) with q | q | q
      · go_wp2
        go_loopw [10, 11] (fun m i wi => ∃ s n : Nat, 1 ≤ s ∧ s ≤ t + 1 ∧ i = .int .i64 s ∧ m = .int .i64 (mxV l r g t (s - 1)) ∧ wi = wr.drewN n) (fun _ i _ => t + 1 - (intOf i).toNat)
        case atStart => exact ⟨1, 0, Nat.le_refl _, by omega, rfl, by rw [H0.out]; congr 1; omega, rfl⟩
        case round =>
          obtain ⟨s, n, hs0, hs, rfl, rfl, rfl⟩ := hrel
          obtain ⟨m, hm⟩ : ∃ m, m = mxV l r g t (s - 1) := ⟨_, rfl⟩
          have mb := mx_bd (g := g) v r0 g1 ht (s - 1) (by omega)
          rw [← hm] at mb
          rw [← hm]
          obtain ⟨m0, m1⟩ := mb
          by_cases hst : s ≤ t
          · obtain ⟨b2, o2, x, e2, hc2, HX⟩ := hf'.at_ (k := s) (by rw [length_adL]; omega)
            obtain ⟨rfl, rfl⟩ : b2 = b1 ∧ o2 = o1 := by injection e2 with e1; injection e1 with e1 e2; exact ⟨e1.symm, e2.symm⟩
            clear e2
            have hx := gt_of_get HX.out
            rw [gt_adL (by omega)] at hx
            have x0 : 0 ≤ x := by rw [← hx]; exact (sum_lo v s (by omega)).1
            have x1 : x ≤ 600000 := by rw [← hx]; have := (sum_lo v s (by omega)).2; omega
            obtain ⟨P, hP⟩ : ∃ P, P = r * ((t : Int) - (s : Int)) := ⟨_, rfl⟩
            have P0 : 0 ≤ P := by rw [hP]; exact Int.mul_nonneg r0 (by omega)
            have P1 : P ≤ 600000 := by rw [hP]; have := Int.mul_le_mul r1 (show (t : Int) - (s : Int) ≤ 60 by omega) (by omega) (by omega); omega
            have HM : Hid (mxV l r g t (s + 1 - 1) = max m (y - x - P)) := Lib.hid (by
              have q := mx_next l r g t (s - 1)
              rw [show s - 1 + 1 = s by omega, ← hm] at q
              rw [Nat.add_sub_cancel, q, mvD, HYT.out, hx, hP])
            have s1 : IntKind.i64.wrap ((t : Int) - (s : Int)) = (t : Int) - (s : Int) := IntWalk.i64_in _ ⟨by omega, by omega⟩
            have s2 : IntKind.i64.wrap (r * ((t : Int) - (s : Int))) = P := by rw [← hP]; exact IntWalk.i64_in _ ⟨by omega, by omega⟩
            have s3 : IntKind.i64.wrap (y - x) = y - x := IntWalk.i64_in _ ⟨by omega, by omega⟩
            have s4 : IntKind.i64.wrap (y - x - P) = y - x - P := IntWalk.i64_in _ ⟨by omega, by omega⟩
            have i2 : (s : Int) ≤ (t : Int) := by omega
            have i3 : (s : Int) < (l.length : Int) + 1 := by omega
            have i4 : (t : Int) < (l.length : Int) + 1 := by omega
            clear hx hP hm
            rcases Int.lt_trichotomy m (y - x - P) with q | q | q
            · go_wp2
              go_quiet (fail)
              go_wp2
              go_roundw
              case rel => exact ⟨s + 1, n + nq, by omega, by omega, by go_num, by rw [HM.out]; congr 1; omega, by simp [World.drewN, Nat.add_assoc]⟩
              case measure => simp [intOf]; omega
            · go_wp2
              go_quiet (fail)
              go_wp2
              go_roundw
              case rel => exact ⟨s + 1, n + nq, by omega, by omega, by go_num, by rw [HM.out]; congr 1; omega, by simp [World.drewN, Nat.add_assoc]⟩
              case measure => simp [intOf]; omega
            · go_wp2
              go_quiet (fail)
              go_wp2
              go_roundw
              case rel => exact ⟨s + 1, n + nq, by omega, by omega, by go_num, by rw [HM.out]; congr 1; omega, by simp [World.drewN, Nat.add_assoc]⟩
              case measure => simp [intOf]; omega
          · obtain rfl : s = t + 1 := by omega
            have i2 : ¬ ((t + 1 : Nat) : Int) ≤ (t : Int) := by omega
            have HM : Hid (F t = m) := Lib.hid (by rw [hm, HF.out, Nat.add_sub_cancel, mx_lg _ g0])
            clear hm
            obtain ⟨W, hW⟩ : ∃ W, W = wr.drewN n := ⟨_, rfl⟩
            replace hown : W.ownsRow w1.heap.size 3 1 u8 t ((tab t F).map (Value.int .i64)) := by rw [hW]; exact hown
            replace hbel := below_trans hbel (below_of_drewN hW)
            rw [← hW]
            clear hW hc1
            have hsz := hbel.size
            go_wp2_with (at_builtin; refine wpList_append_own _ rfl _ _ 22 rfl w1.heap.size 3 i0 (.int .i64 0) 1 8 Try.underlying22 hi0 hz0 hz1 hz2 rfl (by decide) _ _ _ rfl (World.ownsRow.alloc hown _) ⟨W.heap.size, 0, none⟩ 1 1 [.int .i64 m] rfl rfl ?kpa ?kpb ?kpc ?kpd ?kpe ?_)
            all_goals (try exact new_one2 _ _ _)
            case kpb => rfl
            case kpc => unfold maxLen; omega
            case kpd => omega
            case kpe => omega
            intro v' w2 hown' hgrow _
            have hbel' : Below w1.heap.size w1 w2 := ((hbel.alloc hbel.size _).grown hgrow (by simp; omega) (fun k hk => (hown.lt k hk).1))
            have hown'' : w2.ownsRow w1.heap.size 3 1 v' (t + 1) ((tab (t + 1) F).map (Value.int .i64)) := by rw [tab_succ, List.map_append, HM.out]; exact hown'
            clear hown' hgrow hown hbel
            go_wp2
            go_roundw
            case rel => exact ⟨t + 1, by omega, by go_num, hown'', hbel'⟩
            case measure => simp [intOf]; omega
      · go_wp2
        go_loopw [10, 11] (fun m i wi => ∃ s n : Nat, 1 ≤ s ∧ s ≤ t + 1 ∧ i = .int .i64 s ∧ m = .int .i64 (mxV l r g t (s - 1)) ∧ wi = wr.drewN n) (fun _ i _ => t + 1 - (intOf i).toNat)
        case atStart => exact ⟨1, 0, Nat.le_refl _, by omega, rfl, by rw [H0.out]; congr 1; omega, rfl⟩
        case round =>
          obtain ⟨s, n, hs0, hs, rfl, rfl, rfl⟩ := hrel
          obtain ⟨m, hm⟩ : ∃ m, m = mxV l r g t (s - 1) := ⟨_, rfl⟩
          have mb := mx_bd (g := g) v r0 g1 ht (s - 1) (by omega)
          rw [← hm] at mb
          rw [← hm]
          obtain ⟨m0, m1⟩ := mb
          by_cases hst : s ≤ t
          · obtain ⟨b2, o2, x, e2, hc2, HX⟩ := hf'.at_ (k := s) (by rw [length_adL]; omega)
            obtain ⟨rfl, rfl⟩ : b2 = b1 ∧ o2 = o1 := by injection e2 with e1; injection e1 with e1 e2; exact ⟨e1.symm, e2.symm⟩
            clear e2
            have hx := gt_of_get HX.out
            rw [gt_adL (by omega)] at hx
            have x0 : 0 ≤ x := by rw [← hx]; exact (sum_lo v s (by omega)).1
            have x1 : x ≤ 600000 := by rw [← hx]; have := (sum_lo v s (by omega)).2; omega
            obtain ⟨P, hP⟩ : ∃ P, P = r * ((t : Int) - (s : Int)) := ⟨_, rfl⟩
            have P0 : 0 ≤ P := by rw [hP]; exact Int.mul_nonneg r0 (by omega)
            have P1 : P ≤ 600000 := by rw [hP]; have := Int.mul_le_mul r1 (show (t : Int) - (s : Int) ≤ 60 by omega) (by omega) (by omega); omega
            have HM : Hid (mxV l r g t (s + 1 - 1) = max m (y - x - P)) := Lib.hid (by
              have q := mx_next l r g t (s - 1)
              rw [show s - 1 + 1 = s by omega, ← hm] at q
              rw [Nat.add_sub_cancel, q, mvD, HYT.out, hx, hP])
            have s1 : IntKind.i64.wrap ((t : Int) - (s : Int)) = (t : Int) - (s : Int) := IntWalk.i64_in _ ⟨by omega, by omega⟩
            have s2 : IntKind.i64.wrap (r * ((t : Int) - (s : Int))) = P := by rw [← hP]; exact IntWalk.i64_in _ ⟨by omega, by omega⟩
            have s3 : IntKind.i64.wrap (y - x) = y - x := IntWalk.i64_in _ ⟨by omega, by omega⟩
            have s4 : IntKind.i64.wrap (y - x - P) = y - x - P := IntWalk.i64_in _ ⟨by omega, by omega⟩
            have i2 : (s : Int) ≤ (t : Int) := by omega
            have i3 : (s : Int) < (l.length : Int) + 1 := by omega
            have i4 : (t : Int) < (l.length : Int) + 1 := by omega
            clear hx hP hm
            rcases Int.lt_trichotomy m (y - x - P) with q | q | q
            · go_wp2
              go_quiet (fail)
              go_wp2
              go_roundw
              case rel => exact ⟨s + 1, n + nq, by omega, by omega, by go_num, by rw [HM.out]; congr 1; omega, by simp [World.drewN, Nat.add_assoc]⟩
              case measure => simp [intOf]; omega
            · go_wp2
              go_quiet (fail)
              go_wp2
              go_roundw
              case rel => exact ⟨s + 1, n + nq, by omega, by omega, by go_num, by rw [HM.out]; congr 1; omega, by simp [World.drewN, Nat.add_assoc]⟩
              case measure => simp [intOf]; omega
            · go_wp2
              go_quiet (fail)
              go_wp2
              go_roundw
              case rel => exact ⟨s + 1, n + nq, by omega, by omega, by go_num, by rw [HM.out]; congr 1; omega, by simp [World.drewN, Nat.add_assoc]⟩
              case measure => simp [intOf]; omega
          · obtain rfl : s = t + 1 := by omega
            have i2 : ¬ ((t + 1 : Nat) : Int) ≤ (t : Int) := by omega
            have HM : Hid (F t = m) := Lib.hid (by rw [hm, HF.out, Nat.add_sub_cancel, mx_lg _ g0])
            clear hm
            obtain ⟨W, hW⟩ : ∃ W, W = wr.drewN n := ⟨_, rfl⟩
            replace hown : W.ownsRow w1.heap.size 3 1 u8 t ((tab t F).map (Value.int .i64)) := by rw [hW]; exact hown
            replace hbel := below_trans hbel (below_of_drewN hW)
            rw [← hW]
            clear hW hc1
            have hsz := hbel.size
            go_wp2_with (at_builtin; refine wpList_append_own _ rfl _ _ 22 rfl w1.heap.size 3 i0 (.int .i64 0) 1 8 Try.underlying22 hi0 hz0 hz1 hz2 rfl (by decide) _ _ _ rfl (World.ownsRow.alloc hown _) ⟨W.heap.size, 0, none⟩ 1 1 [.int .i64 m] rfl rfl ?kqa ?kqb ?kqc ?kqd ?kqe ?_)
            all_goals (try exact new_one2 _ _ _)
            case kqb => rfl
            case kqc => unfold maxLen; omega
            case kqd => omega
            case kqe => omega
            intro v' w2 hown' hgrow _
            have hbel' : Below w1.heap.size w1 w2 := ((hbel.alloc hbel.size _).grown hgrow (by simp; omega) (fun k hk => (hown.lt k hk).1))
            have hown'' : w2.ownsRow w1.heap.size 3 1 v' (t + 1) ((tab (t + 1) F).map (Value.int .i64)) := by rw [tab_succ, List.map_append, HM.out]; exact hown'
            clear hown' hgrow hown hbel
            go_wp2
            go_roundw
            case rel => exact ⟨t + 1, by omega, by go_num, hown'', hbel'⟩
            case measure => simp [intOf]; omega
      · go_wp2
        go_loopw [10, 11] (fun m i wi => ∃ s n : Nat, 1 ≤ s ∧ s ≤ t + 1 ∧ i = .int .i64 s ∧ m = .int .i64 (mxV l r g t (s - 1)) ∧ wi = wr.drewN n) (fun _ i _ => t + 1 - (intOf i).toNat)
        case atStart => exact ⟨1, 0, Nat.le_refl _, by omega, rfl, by rw [H0.out]; congr 1; omega, rfl⟩
        case round =>
          obtain ⟨s, n, hs0, hs, rfl, rfl, rfl⟩ := hrel
          obtain ⟨m, hm⟩ : ∃ m, m = mxV l r g t (s - 1) := ⟨_, rfl⟩
          have mb := mx_bd (g := g) v r0 g1 ht (s - 1) (by omega)
          rw [← hm] at mb
          rw [← hm]
          obtain ⟨m0, m1⟩ := mb
          by_cases hst : s ≤ t
          · obtain ⟨b2, o2, x, e2, hc2, HX⟩ := hf'.at_ (k := s) (by rw [length_adL]; omega)
            obtain ⟨rfl, rfl⟩ : b2 = b1 ∧ o2 = o1 := by injection e2 with e1; injection e1 with e1 e2; exact ⟨e1.symm, e2.symm⟩
            clear e2
            have hx := gt_of_get HX.out
            rw [gt_adL (by omega)] at hx
            have x0 : 0 ≤ x := by rw [← hx]; exact (sum_lo v s (by omega)).1
            have x1 : x ≤ 600000 := by rw [← hx]; have := (sum_lo v s (by omega)).2; omega
            obtain ⟨P, hP⟩ : ∃ P, P = r * ((t : Int) - (s : Int)) := ⟨_, rfl⟩
            have P0 : 0 ≤ P := by rw [hP]; exact Int.mul_nonneg r0 (by omega)
            have P1 : P ≤ 600000 := by rw [hP]; have := Int.mul_le_mul r1 (show (t : Int) - (s : Int) ≤ 60 by omega) (by omega) (by omega); omega
            have HM : Hid (mxV l r g t (s + 1 - 1) = max m (y - x - P)) := Lib.hid (by
              have q := mx_next l r g t (s - 1)
              rw [show s - 1 + 1 = s by omega, ← hm] at q
              rw [Nat.add_sub_cancel, q, mvD, HYT.out, hx, hP])
            have s1 : IntKind.i64.wrap ((t : Int) - (s : Int)) = (t : Int) - (s : Int) := IntWalk.i64_in _ ⟨by omega, by omega⟩
            have s2 : IntKind.i64.wrap (r * ((t : Int) - (s : Int))) = P := by rw [← hP]; exact IntWalk.i64_in _ ⟨by omega, by omega⟩
            have s3 : IntKind.i64.wrap (y - x) = y - x := IntWalk.i64_in _ ⟨by omega, by omega⟩
            have s4 : IntKind.i64.wrap (y - x - P) = y - x - P := IntWalk.i64_in _ ⟨by omega, by omega⟩
            have i2 : (s : Int) ≤ (t : Int) := by omega
            have i3 : (s : Int) < (l.length : Int) + 1 := by omega
            have i4 : (t : Int) < (l.length : Int) + 1 := by omega
            clear hx hP hm
            rcases Int.lt_trichotomy m (y - x - P) with q | q | q
            · go_wp2
              go_quiet (fail)
              go_wp2
              go_roundw
              case rel => exact ⟨s + 1, n + nq, by omega, by omega, by go_num, by rw [HM.out]; congr 1; omega, by simp [World.drewN, Nat.add_assoc]⟩
              case measure => simp [intOf]; omega
            · go_wp2
              go_quiet (fail)
              go_wp2
              go_roundw
              case rel => exact ⟨s + 1, n + nq, by omega, by omega, by go_num, by rw [HM.out]; congr 1; omega, by simp [World.drewN, Nat.add_assoc]⟩
              case measure => simp [intOf]; omega
            · go_wp2
              go_quiet (fail)
              go_wp2
              go_roundw
              case rel => exact ⟨s + 1, n + nq, by omega, by omega, by go_num, by rw [HM.out]; congr 1; omega, by simp [World.drewN, Nat.add_assoc]⟩
              case measure => simp [intOf]; omega
          · obtain rfl : s = t + 1 := by omega
            have i2 : ¬ ((t + 1 : Nat) : Int) ≤ (t : Int) := by omega
            have HM : Hid (F t = m) := Lib.hid (by rw [hm, HF.out, Nat.add_sub_cancel, mx_lg _ g0])
            clear hm
            obtain ⟨W, hW⟩ : ∃ W, W = wr.drewN n := ⟨_, rfl⟩
            replace hown : W.ownsRow w1.heap.size 3 1 u8 t ((tab t F).map (Value.int .i64)) := by rw [hW]; exact hown
            replace hbel := below_trans hbel (below_of_drewN hW)
            rw [← hW]
            clear hW hc1
            have hsz := hbel.size
            go_wp2_with (at_builtin; refine wpList_append_own _ rfl _ _ 22 rfl w1.heap.size 3 i0 (.int .i64 0) 1 8 Try.underlying22 hi0 hz0 hz1 hz2 rfl (by decide) _ _ _ rfl (World.ownsRow.alloc hown _) ⟨W.heap.size, 0, none⟩ 1 1 [.int .i64 m] rfl rfl ?kra ?krb ?krc ?krd ?kre ?_)
            all_goals (try exact new_one2 _ _ _)
            case krb => rfl
            case krc => unfold maxLen; omega
            case krd => omega
            case kre => omega
            intro v' w2 hown' hgrow _
            have hbel' : Below w1.heap.size w1 w2 := ((hbel.alloc hbel.size _).grown hgrow (by simp; omega) (fun k hk => (hown.lt k hk).1))
            have hown'' : w2.ownsRow w1.heap.size 3 1 v' (t + 1) ((tab (t + 1) F).map (Value.int .i64)) := by rw [tab_succ, List.map_append, HM.out]; exact hown'
            clear hown' hgrow hown hbel
            go_wp2
            go_roundw
            case rel => exact ⟨t + 1, by omega, by go_num, hown'', hbel'⟩
            case measure => simp [intOf]; omega
    · obtain rfl : t = l.length + 1 := by omega
      go_wp2
      go_ret
      rw [HL.out]
      exact AnsL.of (by rw [length_tab]; exact own_lower hown bf.size) (below_trans bf hbel)

end Go.Proofs.Ytnjeelmlabefjaa
