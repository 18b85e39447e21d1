
/-
  Walks: package inverse, and the document's own first and last times.
-/
import Derived.Test.YtgckndchndiffaaShapeP
namespace Go.Proofs.Ytgckndchndiffaa
set_option linter.all false
open Go.RowKit

theorem cmpNaN_any (x : Int) (w : World) : Calls Try.prog 60 #[.int .i64 x] w fun e w' => e = .returned (.bool false) ∧ w = w' := by
  go_enter Try.func60, Try.ntmps60
  go_wp2
  go_ret
  exact ⟨by simp, rfl⟩
theorem slNaN_any (x : Int) (w : World) : Calls Try.prog 59 #[.int .i64 x] w fun e w' => e = .returned (.bool false) ∧ w = w' := by
  go_enter Try.func59, Try.ntmps59
  go_wp2
  go_ret
  exact ⟨by simp, rfl⟩

theorem lessInt_any (x y : Int) (w : World) : Calls Try.prog 58 #[.int .i64 x, .int .i64 y] w fun e w' => e = .returned (.bool (decide (x < y))) ∧ w = w' := by
  go_enter Try.func58, Try.ntmps58
  go_wp2_with fail
  refine (cmpNaN_any x _).mono ?_
  rintro e w' ⟨rfl, rfl⟩
  go_wp2
  go_ret
  exact ⟨rfl, rfl⟩

/-- A time was found that is the first with as much, whatever else is said of it. -/
def Found (l : List Int) (y : Int) (e : Ending) : Prop := ∃ (a : Nat) (b : Bool), IsFst l y a ∧ e = .returned (.tuple #[.int .i64 a, .bool b])

set_option maxHeartbeats 1600000 in
/-- The search by halves finds the first time with as much. -/
theorem search_any (A : Option Addr) (l : List Int) (c : Nat) (y : Int) (w : World) (h : Ints w A l) (v : Cv l) :
    Calls Try.prog 52 #[.slice A l.length c, .int .i64 y] w fun e w' => Found l y e ∧ w = w' := by
  have hl := v.le
  have M : Hid (∀ i j, i ≤ j → j < l.length → gt l i ≤ gt l j) := Lib.hid (fun i j h1 h2 => v.mono h1 h2)
  clear v
  go_enter Try.func52, Try.ntmps52
  go_wp2
  go_loop [7, 8] (fun i j => ∃ lo hi : Nat, lo ≤ hi ∧ hi ≤ l.length ∧ i = .int .i64 lo ∧ j = .int .i64 hi ∧ Hid ((∀ t, t < lo → gt l t < y) ∧ ∀ t, hi ≤ t → t < l.length → y ≤ gt l t)) (fun i j => (intOf j).toNat - (intOf i).toNat)
  case atStart => exact ⟨0, l.length, Nat.zero_le _, Nat.le_refl _, rfl, rfl, Lib.hid ⟨fun t ht => absurd ht (by omega), fun t h1 h2 => absurd h1 (by omega)⟩⟩
  case round =>
    obtain ⟨lo, hi, h1, h2, rfl, rfl, HR⟩ := hrel
    by_cases hlt : lo < hi
    · obtain ⟨bb, off, x, rfl, hcell, HX⟩ := h.at_ (k := (lo + hi) / 2) (by omega)
      by_cases hxy : x < y
      · go_wp2_with fail
        refine (lessInt_any x y _).mono ?_
        rintro e w' ⟨rfl, rfl⟩
        go_wp2
        go_round
        case rel =>
          refine ⟨(lo + hi) / 2 + 1, hi, by omega, h2, by rw [show ((lo : Int) + (hi : Int)) / 2 + 1 = (((lo + hi) / 2 + 1 : Nat) : Int) by omega], rfl, Lib.hid ⟨fun t ht => ?_, HR.out.2⟩⟩
          have := M.out t ((lo + hi) / 2) (by omega) (by omega)
          rw [gt_of_get HX.out] at this
          omega
        case measure => simp [intOf]; omega
      · go_wp2_with fail
        refine (lessInt_any x y _).mono ?_
        rintro e w' ⟨rfl, rfl⟩
        go_wp2
        go_round
        case rel =>
          refine ⟨lo, (lo + hi) / 2, by omega, by omega, rfl, by rw [show ((lo : Int) + (hi : Int)) / 2 = (((lo + hi) / 2 : Nat) : Int) by omega], Lib.hid ⟨HR.out.1, fun t h3 h4 => ?_⟩⟩
          have := M.out ((lo + hi) / 2) t h3 h4
          rw [gt_of_get HX.out] at this
          omega
        case measure => simp [intOf]; omega
    · obtain rfl : lo = hi := by omega
      have hF : Hid (IsFst l y lo) := Lib.hid ⟨h2, HR.out.1, fun q => HR.out.2 lo (Nat.le_refl _) q⟩
      clear HR
      by_cases hq : lo < l.length
      · obtain ⟨bb, off, x, rfl, hcell, HX⟩ := h.at_ hq
        by_cases hxy : x = y
        · have e1 : (x == y) = true := by simp [hxy]
          clear hxy
          go_wp2
          go_ret2
          exact ⟨⟨lo, _, hF.out, rfl⟩, rfl⟩
        · have e1 : (x == y) = false := by simp [hxy]
          clear hxy
          go_wp2_with fail
          refine (slNaN_any x _).mono ?_
          rintro e w' ⟨rfl, rfl⟩
          go_wp2
          go_ret2
          exact ⟨⟨lo, _, hF.out, rfl⟩, rfl⟩
      · go_wp2
        go_ret2
        exact ⟨⟨lo, _, hF.out, rfl⟩, rfl⟩

set_option maxHeartbeats 400000 in
theorem first_any (A : Option Addr) (l : List Int) (c : Nat) (y : Int) (a : Nat) (w : World) (h : Ints w A l) (v : Cv l) (ha : IsFst l y a) :
    Calls Try.prog 35 #[.slice A l.length c, .int .i64 y] w fun e w' => e = .returned (.int .i64 a) ∧ w = w' := by
  go_enter Try.func35, Try.ntmps35
  go_wp2_with fail
  refine (search_any A l c y _ h v).mono ?_
  rintro e w' ⟨⟨a', b, hb, rfl⟩, rfl⟩
  obtain rfl : a' = a := hb.uniq ha
  go_wp2
  go_ret
  exact ⟨rfl, rfl⟩

/-- The error of Lower and Upper. -/
def invE (l : List Int) (y : Int) : Int := if chk l ≠ 0 then chk l else if y < 0 ∨ 1000000 < y then 1 else 0
theorem invE_zero {l : List Int} {y : Int} (h : invE l y = 0) : Cv l ∧ 0 ≤ y ∧ y ≤ 1000000 := by
  unfold invE at h
  by_cases h1 : chk l = 0
  · rw [if_neg (by simpa using h1)] at h
    by_cases h2 : y < 0 ∨ 1000000 < y
    · rw [if_pos h2] at h; omega
    · exact ⟨cv_of h1, by omega, by omega⟩
  · rw [if_pos h1] at h; omega
theorem invE_of {l : List Int} {y : Int} (v : Cv l) (h0 : 0 ≤ y) (h1 : y ≤ 1000000) : invE l y = 0 := by
  unfold invE
  rw [if_neg (by simpa using chk_iff.2 v), if_neg (by omega)]

set_option maxHeartbeats 400000 in
theorem invCheck_any (A : Option Addr) (l : List Int) (c : Nat) (y : Int) (w : World) (h : Ints w A l) :
    Calls Try.prog 34 #[.slice A l.length c, .int .i64 y] w fun e w' => e = .returned (.int .i64 (invE l y)) ∧ w = w' := by
  by_cases h1 : chk l = 0
  · have e1 : (chk l != 0) = false := by simp [h1]
    by_cases h2 : y < 0
    · have H : Hid (invE l y = 1) := Lib.hid (by simp [invE, h1, h2])
      clear h1
      go_enter Try.func34, Try.ntmps34
      go_wp2_with fail
      refine (check_any A l c _ h).mono ?_
      rintro e w' ⟨rfl, rfl⟩
      go_wp2
      go_ret
      exact ⟨ret_int H.out.symm, rfl⟩
    · by_cases h3 : 1000000 < y
      · have H : Hid (invE l y = 1) := Lib.hid (by simp [invE, h1, h3])
        clear h1
        go_enter Try.func34, Try.ntmps34
        go_wp2_with fail
        refine (check_any A l c _ h).mono ?_
        rintro e w' ⟨rfl, rfl⟩
        go_wp2
        go_ret
        exact ⟨ret_int H.out.symm, rfl⟩
      · have H : Hid (invE l y = 0) := Lib.hid (by simp [invE, h1, h2, h3])
        clear h1
        go_enter Try.func34, Try.ntmps34
        go_wp2_with fail
        refine (check_any A l c _ h).mono ?_
        rintro e w' ⟨rfl, rfl⟩
        go_wp2
        go_ret
        exact ⟨ret_int H.out.symm, rfl⟩
  · have e1 : (chk l != 0) = true := by simp [h1]
    have H : Hid (invE l y = chk l) := Lib.hid (by simp [invE, h1])
    clear h1
    go_enter Try.func34, Try.ntmps34
    go_wp2_with fail
    refine (check_any A l c _ h).mono ?_
    rintro e w' ⟨rfl, rfl⟩
    go_wp2
    go_ret
    exact ⟨ret_int H.out.symm, rfl⟩

/-- Lower and Upper, answered. -/
theorem lst_of_fst {l : List Int} {y : Int} {a : Nat} (v : Cv l) (h : IsFst l (y + 1) a) : IsLst l y ((a : Int) - 1) := by
  have := h.le
  refine ⟨by omega, by omega, fun i hi => ?_, fun i h1 h2 => ?_⟩
  · have := h.below i (by omega); omega
  · have h3 := h.at_ (by omega); have := v.mono (i := a) (j := i) (by omega) h2; omega

set_option maxHeartbeats 400000 in
theorem lower_yes (A : Option Addr) (l : List Int) (n c : Nat) (y : Int) (a : Nat) (w : World) (h : Ints w A l) (v : Cv l) (h0 : 0 ≤ y) (h1 : y ≤ 1000000) (ha : IsFst l y a) (hn : n = l.length) :
    Calls Try.prog 12 #[.slice A n c, .int .i64 y] w fun e w' => e = .returned (.tuple #[.int .i64 a, .int .i64 0]) ∧ w = w' := by
  subst hn
  have H := Lib.hid (invE_of v h0 h1)
  go_enter Try.func12, Try.ntmps12
  go_wp2_with fail
  refine (invCheck_any A l c y _ h).mono ?_
  rintro e w' ⟨rfl, rfl⟩
  rw [H.out]
  go_wp2_with fail
  refine (first_any A l c y a _ h v ha).mono ?_
  rintro e w' ⟨rfl, rfl⟩
  go_wp2
  go_ret2
  exact ⟨rfl, rfl⟩

set_option maxHeartbeats 400000 in
theorem upper_yes (A : Option Addr) (l : List Int) (n c : Nat) (y b : Int) (w : World) (h : Ints w A l) (v : Cv l) (h0 : 0 ≤ y) (h1 : y ≤ 1000000) (hb : IsLst l y b) (hn : n = l.length) :
    Calls Try.prog 13 #[.slice A n c, .int .i64 y] w fun e w' => e = .returned (.tuple #[.int .i64 b, .int .i64 0]) ∧ w = w' := by
  subst hn
  have H := Lib.hid (invE_of v h0 h1)
  obtain ⟨a, ha⟩ := ex_fst l (y + 1)
  obtain rfl : b = (a : Int) - 1 := hb.uniq (lst_of_fst v ha)
  have hl := v.le
  have ha' := ha.le
  go_enter Try.func13, Try.ntmps13
  go_wp2_with fail
  refine (invCheck_any A l c y _ h).mono ?_
  rintro e w' ⟨rfl, rfl⟩
  rw [H.out]
  go_wp2_with fail
  refine (first_any A l c (y + 1) a _ h v ha).mono ?_
  rintro e w' ⟨rfl, rfl⟩
  go_wp2
  go_ret2
  exact ⟨rfl, rfl⟩

set_option maxHeartbeats 400000 in
theorem lower_no (A : Option Addr) (l : List Int) (c : Nat) (y : Int) (w : World) (h : Ints w A l) (he : ¬ invE l y = 0) :
    Calls Try.prog 12 #[.slice A l.length c, .int .i64 y] w fun e w' => e = .returned (.tuple #[.int .i64 0, .int .i64 (invE l y)]) ∧ w = w' := by
  have e1 : (invE l y != 0) = true := by simp [he]
  clear he
  go_enter Try.func12, Try.ntmps12
  go_wp2_with fail
  refine (invCheck_any A l c y _ h).mono ?_
  rintro e w' ⟨rfl, rfl⟩
  go_wp2
  go_ret2
  exact ⟨rfl, rfl⟩
set_option maxHeartbeats 400000 in
theorem upper_no (A : Option Addr) (l : List Int) (c : Nat) (y : Int) (w : World) (h : Ints w A l) (he : ¬ invE l y = 0) :
    Calls Try.prog 13 #[.slice A l.length c, .int .i64 y] w fun e w' => e = .returned (.tuple #[.int .i64 0, .int .i64 (invE l y)]) ∧ w = w' := by
  have e1 : (invE l y != 0) = true := by simp [he]
  clear he
  go_enter Try.func13, Try.ntmps13
  go_wp2_with fail
  refine (invCheck_any A l c y _ h).mono ?_
  rintro e w' ⟨rfl, rfl⟩
  go_wp2
  go_ret2
  exact ⟨rfl, rfl⟩

set_option maxHeartbeats 400000 in
theorem refFirst_any (A : Option Addr) (l : List Int) (c : Nat) (y : Int) (a : Nat) (w : World) (h : Ints w A l) (hl : l.length ≤ 61) (ha : IsFst l y a) :
    Calls Try.prog 15 #[.slice A l.length c, .int .i64 y] w fun e w' => e = .returned (.int .i64 a) ∧ w = w' := by
  have HA := Lib.hid ha
  clear ha
  go_enter Try.func15, Try.ntmps15
  go_wp2
  go_loop [9] (fun i => ∃ k : Nat, k ≤ l.length ∧ i = .int .i64 k ∧ Hid (∀ j, j < k → gt l j < y)) (fun i => l.length - (intOf i).toNat)
  case atStart => exact ⟨0, Nat.zero_le _, rfl, Lib.hid (fun j hj => absurd hj (by omega))⟩
  case round =>
    obtain ⟨k, hk, rfl, HR⟩ := hrel
    by_cases hlt : k < l.length
    · obtain ⟨bb, off, x, rfl, hcell, HX⟩ := h.at_ hlt
      go_wp2
      · go_ret
        have : a = k := HA.out.uniq ⟨hk, HR.out, fun _ => by rw [gt_of_get HX.out]; assumption⟩
        exact ⟨ret_int (by rw [this]), rfl⟩
      · go_round
        case rel =>
          refine ⟨k + 1, by omega, by go_num, Lib.hid (fun j hj => ?_)⟩
          by_cases e : j = k
          · subst e; rw [gt_of_get HX.out]; omega
          · exact HR.out j (by omega)
        case measure => simp [intOf]; omega
    · go_wp2
      go_ret
      have : a = l.length := HA.out.uniq ⟨Nat.le_refl _, fun i hi => HR.out i (by omega), fun q => absurd q (by omega)⟩
      exact ⟨ret_int (by rw [this]), rfl⟩

set_option maxHeartbeats 400000 in
theorem refLast_any (A : Option Addr) (l : List Int) (c : Nat) (y b : Int) (w : World) (h : Ints w A l) (hl : l.length ≤ 61) (hb : IsLst l y b) :
    Calls Try.prog 16 #[.slice A l.length c, .int .i64 y] w fun e w' => e = .returned (.int .i64 b) ∧ w = w' := by
  have HB := Lib.hid hb
  clear hb
  go_enter Try.func16, Try.ntmps16
  go_wp2
  go_loop [5] (fun i => ∃ k : Nat, k ≤ l.length ∧ i = .int .i64 ((k : Int) - 1) ∧ Hid (∀ j, k ≤ j → j < l.length → y < gt l j)) (fun i => (intOf i + 1).toNat)
  case atStart => exact ⟨l.length, Nat.le_refl _, rfl, Lib.hid (fun j h1 h2 => absurd h1 (by omega))⟩
  case round =>
    obtain ⟨k, hk, rfl, HR⟩ := hrel
    by_cases hlt : 0 < k
    · obtain ⟨m, rfl⟩ : ∃ m, k = m + 1 := ⟨k - 1, by omega⟩
      rw [show ((m + 1 : Nat) : Int) - 1 = (m : Int) by omega]
      obtain ⟨bb, off, x, rfl, hcell, HX⟩ := h.at_ (k := m) (by omega)
      go_wp2
      · go_ret
        have : b = m := HB.out.uniq ⟨by omega, by omega, fun i hi => by rw [show i = m by omega, gt_of_get HX.out]; assumption, fun i h1 h2 => HR.out i (by omega) h2⟩
        exact ⟨ret_int (by rw [this]), rfl⟩
      · go_round
        case rel =>
          refine ⟨m, by omega, rfl, Lib.hid (fun j h1 h2 => ?_)⟩
          by_cases e : j = m
          · subst e; rw [gt_of_get HX.out]; omega
          · exact HR.out j (by omega) h2
        case measure => simp [intOf]
    · obtain rfl : k = 0 := by omega
      go_wp2
      go_ret
      have : b = -1 := HB.out.uniq ⟨by omega, by omega, fun i hi => absurd hi (by omega), fun i h1 h2 => HR.out i (by omega) h2⟩
      exact ⟨ret_int (by rw [this]), rfl⟩

end Go.Proofs.Ytgckndchndiffaa
