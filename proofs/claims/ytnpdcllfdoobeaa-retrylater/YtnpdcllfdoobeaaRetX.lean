
/-
  Walks of package retry: Waits, When; slices.Index and slices.Contains over booleans.
-/
import Derived.Test.YtnpdcllfdoobeaaStgA
import Derived.Test.YtnpdcllfdoobeaaBucketA
namespace Go.Proofs.Ytnpdcllfdoobeaa
set_option linter.all false
open Go.RowKit Go.Shelf Go.Lib

/-- Waits' error; how many are lost at first; When's error and answer. -/
def rtE (first most n : Int) : Int := if most < 1 ∨ 1000000 < most ∨ first < 1 ∨ most < first ∨ n < 0 ∨ 40 < n then 1 else 0
def fstN : List Bool → Nat
  | [] => 0
  | true :: l => fstN l + 1
  | false :: _ => 0
theorem fst_le : ∀ l, fstN l ≤ l.length
  | [] => Nat.le_refl _
  | true :: l => by have := fst_le l; simp [fstN]; omega
  | false :: l => by simp [fstN]
theorem fst_true : ∀ {l : List Bool} {k : Nat}, k < fstN l → l[k]? = some true
  | [], k, h => by simp [fstN] at h
  | true :: l, 0, h => rfl
  | true :: l, k + 1, h => by simpa using fst_true (l := l) (k := k) (by simpa [fstN] using h)
  | false :: l, k, h => by simp [fstN] at h
theorem fst_false : ∀ {l : List Bool}, fstN l < l.length → l[fstN l]? = some false
  | [], h => by simp at h
  | true :: l, h => by simpa [fstN] using fst_false (l := l) (by simpa [fstN] using h)
  | false :: l, _ => rfl
theorem fst_at {l : List Bool} {k : Nat} (h : k ≤ fstN l) (hk : k < l.length) (hx : l[k]? = some false) : fstN l = k := by
  by_cases c : k < fstN l
  · rw [fst_true c] at hx; simp at hx
  · omega
theorem fst_next {l : List Bool} {k : Nat} (h : k ≤ fstN l) (hk : k < l.length) (hx : l[k]? = some true) : k + 1 ≤ fstN l := by
  by_cases c : k = fstN l
  · subst c; rw [fst_false hk] at hx; simp at hx
  · omega
def fstI (l : List Bool) : Int := if fstN l < l.length then (fstN l : Int) else -1
def whnE (first most : Int) (z : List Bool) : Int := if 40 < z.length then 2 else if rtE first most 0 = 0 then (if fstN z < z.length then 0 else 5) else 1
def whnV (first most : Int) (z : List Bool) : Int := if whnE first most z = 0 then wtS first most (fstN z) else 0
theorem rt_iff {first most n : Int} : rtE first most n = 0 ↔ RtOk first most ∧ 0 ≤ n ∧ n ≤ 40 := by
  unfold rtE
  constructor
  · intro h
    by_cases c : most < 1 ∨ 1000000 < most ∨ first < 1 ∨ most < first ∨ n < 0 ∨ 40 < n
    · rw [if_pos c] at h; exact absurd h (by decide)
    · exact ⟨⟨by omega, by omega, by omega⟩, by omega, by omega⟩
  · intro ⟨h, a, b⟩
    have := h.lo; have := h.le; have := h.hi
    rw [if_neg (by omega)]

set_option maxHeartbeats 400000 in
theorem bindex_any (A : Option Addr) (l : List Bool) (n c : Nat) (w : World) (h : Bls w A l) (hn : n = l.length) :
    Calls Try.prog 17 #[.slice A n c, .bool false] w fun e w' => e = .returned (.int .i64 (fstI l)) ∧ w = w' := by
  subst hn
  have hl := h.1
  go_enter Try.func17, Try.ntmps17
  go_wp2
  go_loop [8] (fun i => ∃ k : Nat, k ≤ l.length ∧ Hid (k ≤ fstN l) ∧ i = .int .i64 k) (fun i => l.length - (intOf i).toNat)
  case atStart => exact ⟨0, Nat.zero_le _, Lib.hid (Nat.zero_le _), rfl⟩
  case round =>
    obtain ⟨k, hk, HK, rfl⟩ := hrel
    by_cases hlt : k < l.length
    · obtain ⟨bb, off, x, rfl, hcell, HX⟩ := h.get hlt
      have i1 : (k : Int) < (l.length : Int) := by omega
      cases x with
      | true =>
        have HN := Lib.hid (fst_next HK.out hlt HX.out)
        go_wp2
        go_round
        case rel => exact ⟨k + 1, by omega, HN, by go_num⟩
        case measure => simp [intOf]; omega
      | false =>
        have HN : Hid (fstI l = (k : Int)) := Lib.hid (by have := fst_at HK.out hlt HX.out; rw [fstI, if_pos (by omega), this])
        go_wp2
        go_ret
        exact ⟨ret_int HN.out.symm, rfl⟩
    · have HN : Hid (fstI l = -1) := Lib.hid (by have := HK.out; rw [fstI, if_neg (by omega)])
      go_wp2
      go_ret
      exact ⟨ret_int HN.out.symm, rfl⟩
set_option maxHeartbeats 400000 in
theorem bcontains_any (A : Option Addr) (l : List Bool) (n c : Nat) (s : Bool) (w : World) (h : Bls w A l) (hn : n = l.length) (hs : Hid (decide (fstN l < l.length) = s)) :
    Calls Try.prog 16 #[.slice A n c, .bool false] w fun e w' => e = .returned (.bool s) ∧ w = w' := by
  subst hn
  cases s with
  | true =>
    have cc := of_decide_eq_true hs.out
    have HU : Hid (fstI l = (fstN l : Int)) := Lib.hid (by rw [fstI, if_pos cc])
    clear hs cc
    go_enter Try.func16, Try.ntmps16
    go_wp2_with fail
    refine (bindex_any A l l.length c _ h rfl).mono ?_
    rintro e w' ⟨rfl, rfl⟩
    rw [HU.out]
    go_wp2
    go_ret
    exact ⟨rfl, rfl⟩
  | false =>
    have cc := of_decide_eq_false hs.out
    have HU : Hid (fstI l = -1) := Lib.hid (by rw [fstI, if_neg cc])
    clear hs cc
    go_enter Try.func16, Try.ntmps16
    go_wp2_with fail
    refine (bindex_any A l l.length c _ h rfl).mono ?_
    rintro e w' ⟨rfl, rfl⟩
    rw [HU.out]
    go_wp2
    go_ret
    exact ⟨rfl, rfl⟩

set_option maxRecDepth 100000 in
set_option maxHeartbeats 1600000 in
theorem waits_yes (first most : Int) (n : Nat) (W : World) (v : RtOk first most) (hn : n ≤ 40) : Calls Try.prog 13 #[.int .i64 first, .int .i64 most, .int .i64 n] W fun e W' => ∃ (A : Option Addr) (c : Nat), e = .returned (.tuple #[.slice A n c, .int .i64 0]) ∧ W'.ownsRow W.heap.size 3 1 (.slice A n c) n ((wtL first most n).map (Value.int .i64)) ∧ Below W.heap.size W W' := by
  have v1 := v.lo
  have v2 := v.le
  have v3 := v.hi
  have q1 : Hid (decide (most < 1 ∨ 1000000 < most) = false) := Lib.hid (decide_eq_false (by omega))
  have q2 : Hid (decide (first < 1 ∨ most < first) = false) := Lib.hid (decide_eq_false (by omega))
  have q3 : Hid (decide ((n : Int) < 0 ∨ 40 < (n : Int)) = false) := Lib.hid (decide_eq_false (by omega))
  have hmk := fun W => run_make_row' (P := Try.prog) 23 3 (.int .i64 0) 8 Try.underlying23 int_info rfl .i64 .i64 n (by omega) (by omega) W
  obtain ⟨g, hg⟩ : ∃ g, g = W.heap.size := ⟨_, rfl⟩
  have G := Lib.hid hg
  have gle : W.heap.size ≤ g := by omega
  clear hg
  go_enter Try.func13, Try.ntmps13
  go_wp2_with fail
  refine (lim_any most 1 1000000 false _ q1).mono ?_
  rintro e w' ⟨rfl, rfl⟩
  go_wp2_with fail
  refine (lim_any first 1 most false _ q2).mono ?_
  rintro e w' ⟨rfl, rfl⟩
  go_wp2_with fail
  refine (lim_any n 0 40 false _ q3).mono ?_
  rintro e w' ⟨rfl, rfl⟩
  go_wp2
  rw [← G.out]
  go_loopw [9, 27] (fun x s wr => ∃ k : Nat, k ≤ n ∧ s = .int .i64 k ∧ x = .int .i64 (wtV first most k) ∧ Blk wr g 3 (rowAt n k (wtV first most)).toArray ∧ Below W.heap.size W wr) (fun _ s _ => n - (intOf s).toNat)
  case atStart =>
    refine ⟨0, Nat.zero_le _, rfl, rfl, ?_, (Below.refl _ W).alloc (Nat.le_refl _) _⟩
    rw [rowAt_zero, G.out]; exact Blk.new _ _ _
  case round =>
    obtain ⟨k, hk, rfl, rfl, B0, hbel⟩ := hrel
    by_cases hlt : k < n
    · have hx := wt_bd v k
      have HN : Hid (wtV first most (k + 1) = min most (2 * wtV first most k)) := Lib.hid rfl
      have ck : wr.cell? ⟨g, k, none⟩ = some (.int .i64 0) := by rw [B0.cell k]; simpa using rowAt_get (wtV first most) hlt
      have R0 : Hid (Blk (wr.setCell ⟨g, k, none⟩ (.int .i64 (wtV first most k))) g 3 (rowAt n (k + 1) (wtV first most)).toArray) := Lib.hid (by
        rw [← rowAt_succ _ hlt]; exact B0.set_ k _)
      have HB2 : Hid (Below W.heap.size W (wr.setCell ⟨g, k, none⟩ (.int .i64 (wtV first most k)))) := Lib.hid (hbel.setCell (p := ⟨g, k, none⟩) gle _)
      obtain ⟨x, hx'⟩ : ∃ x, x = wtV first most k := ⟨_, rfl⟩
      rw [← hx'] at hx HN R0 HB2 ⊢
      obtain ⟨x0, x1⟩ := hx
      have fk := B0.frozen k
      have gl := B0.lt
      have i1 : (k : Int) < (n : Int) := by omega
      clear hx' B0 hbel
      rcases Int.lt_trichotomy most (2 * x) with q | q | q
      · have HV : Hid (wtV first most (k + 1) = most) := Lib.hid (by rw [HN.out]; omega)
        clear HN
        go_wp2
        go_roundw
        case rel => exact ⟨k + 1, by omega, by go_num, by rw [HV.out], R0.out, HB2.out⟩
        case measure => simp [intOf]; omega
      · have HV : Hid (wtV first most (k + 1) = most) := Lib.hid (by rw [HN.out]; omega)
        have HQ := Lib.hid q
        clear HN q
        have q1 : ¬ most < 2 * x := by have := HQ.out; omega
        have q2 : ¬ 2 * x < most := by have := HQ.out; omega
        go_wp2
        all_goals
          go_roundw
          case rel => exact ⟨k + 1, by omega, by go_num, by first | (rw [HV.out]; done) | rw [HV.out, HQ.out], R0.out, HB2.out⟩
          case measure => simp [intOf]; omega
      · have HV : Hid (wtV first most (k + 1) = 2 * x) := Lib.hid (by rw [HN.out]; omega)
        clear HN
        go_wp2
        go_roundw
        case rel => exact ⟨k + 1, by omega, by go_num, by rw [HV.out], R0.out, HB2.out⟩
        case measure => simp [intOf]; omega
    · have i1 : ¬ (k : Int) < (n : Int) := by omega
      obtain rfl : k = n := by omega
      rw [rowAt_full] at B0
      have o := own_of_blk (n := k) B0 gle (length_tab _ _).symm (by omega)
      rw [length_tab] at o
      clear B0
      go_wp2
      go_ret2
      exact ⟨some ⟨g, 0, none⟩, k, rfl, o, hbel⟩

theorem rt_split {first most n : Int} (h : ¬ rtE first most n = 0) : (most < 1 ∨ 1000000 < most) ∨ (¬ (most < 1 ∨ 1000000 < most) ∧ ((first < 1 ∨ most < first) ∨ (¬ (first < 1 ∨ most < first) ∧ (n < 0 ∨ 40 < n)))) := by
  unfold rtE at h
  by_cases c : most < 1 ∨ 1000000 < most ∨ first < 1 ∨ most < first ∨ n < 0 ∨ 40 < n
  · by_cases d : most < 1 ∨ 1000000 < most
    · exact .inl d
    · by_cases e : first < 1 ∨ most < first
      · exact .inr ⟨d, .inl e⟩
      · exact .inr ⟨d, .inr ⟨e, by omega⟩⟩
  · rw [if_neg c] at h; exact absurd rfl h
set_option maxHeartbeats 1600000 in
theorem waits_no (first most n : Int) (W : World) (h : ¬ rtE first most n = 0) : Calls Try.prog 13 #[.int .i64 first, .int .i64 most, .int .i64 n] W fun e W' => e = .returned (.tuple #[.slice none 0 0, .int .i64 1]) ∧ W = W' := by
  rcases rt_split h with a | ⟨a, b | ⟨b, c⟩⟩
  · have q1 : Hid (decide (most < 1 ∨ 1000000 < most) = true) := Lib.hid (decide_eq_true a)
    clear h a
    go_enter Try.func13, Try.ntmps13
    go_wp2_with fail
    refine (lim_any most 1 1000000 true _ q1).mono ?_
    rintro e w' ⟨rfl, rfl⟩
    go_wp2
    go_ret2
    exact ⟨rfl, rfl⟩
  · have q1 : Hid (decide (most < 1 ∨ 1000000 < most) = false) := Lib.hid (decide_eq_false a)
    have q2 : Hid (decide (first < 1 ∨ most < first) = true) := Lib.hid (decide_eq_true b)
    clear h a b
    go_enter Try.func13, Try.ntmps13
    go_wp2_with fail
    refine (lim_any most 1 1000000 false _ q1).mono ?_
    rintro e w' ⟨rfl, rfl⟩
    go_wp2_with fail
    refine (lim_any first 1 most true _ q2).mono ?_
    rintro e w' ⟨rfl, rfl⟩
    go_wp2
    go_ret2
    exact ⟨rfl, rfl⟩
  · have q1 : Hid (decide (most < 1 ∨ 1000000 < most) = false) := Lib.hid (decide_eq_false a)
    have q2 : Hid (decide (first < 1 ∨ most < first) = false) := Lib.hid (decide_eq_false b)
    have q3 : Hid (decide (n < 0 ∨ 40 < n) = true) := Lib.hid (decide_eq_true c)
    clear h a b c
    go_enter Try.func13, Try.ntmps13
    go_wp2_with fail
    refine (lim_any most 1 1000000 false _ q1).mono ?_
    rintro e w' ⟨rfl, rfl⟩
    go_wp2_with fail
    refine (lim_any first 1 most false _ q2).mono ?_
    rintro e w' ⟨rfl, rfl⟩
    go_wp2_with fail
    refine (lim_any n 0 40 true _ q3).mono ?_
    rintro e w' ⟨rfl, rfl⟩
    go_wp2
    go_ret2
    exact ⟨rfl, rfl⟩

theorem own_int {w : World} {base n c : Nat} {A : Option Addr} {F : Nat → Int} (h : w.ownsRow base 3 1 (.slice A n c) n ((tab n F).map (Value.int .i64))) : Ints w A (tab n F) := by
  have := Ints.of_own (l := tab n F) (w := w) (A := A) (c := c) (base := base) (by rw [length_tab]; exact h)
  exact this
set_option maxRecDepth 100000 in
set_option maxHeartbeats 1600000 in
theorem when_any (first most : Int) (A : Option Addr) (z : List Bool) (n c : Nat) (W : World) (h : Bls W A z) (hn : n = z.length) :
    Calls Try.prog 14 #[.int .i64 first, .int .i64 most, .slice A n c] W fun e W' => e = .returned (.tuple #[.int .i64 (whnV first most z), .int .i64 (whnE first most z)]) ∧ Below W.heap.size W W' := by
  subst hn
  have hz := h.1
  by_cases c1 : 40 < z.length
  · have HE : Hid (whnE first most z = 2) := Lib.hid (by rw [whnE, if_pos c1])
    have HV : Hid (whnV first most z = 0) := Lib.hid (by rw [whnV, HE.out]; rfl)
    have i1 : (40 : Int) < (z.length : Int) := by omega
    rw [HE.out, HV.out]
    clear HE HV c1
    go_enter Try.func14, Try.ntmps14
    go_wp2
    go_ret2
    exact ⟨rfl, Below.refl _ _⟩
  · have i1 : ¬ (40 : Int) < (z.length : Int) := by omega
    by_cases c2 : rtE first most 0 = 0
    · have v := (rt_iff.mp c2).1
      have HEV : Hid (whnE first most z = (if fstN z < z.length then 0 else 5)) := Lib.hid (by rw [whnE, if_neg c1, if_pos c2])
      have HVV : Hid (whnV first most z = if whnE first most z = 0 then wtS first most (fstN z) else 0) := Lib.hid rfl
      have hle : z.length ≤ 40 := by omega
      clear c1 c2
      obtain ⟨E, hE⟩ : ∃ E, E = whnE first most z := ⟨_, rfl⟩
      obtain ⟨V, hV⟩ : ∃ V, V = whnV first most z := ⟨_, rfl⟩
      rw [← hE, ← hV]
      rw [← hE] at HEV
      rw [← hE, ← hV] at HVV
      clear hE hV
      go_enter Try.func14, Try.ntmps14
      go_wp2_with fail
      refine (waits_yes first most z.length _ v hle).mono ?_
      rintro e w1 ⟨B, d, rfl, o1, b1⟩
      have hx := own_int o1
      have h1 := h.below b1
      have hlB : (wtL first most z.length).length = z.length := length_tab _ _
      have HLB := Lib.hid hlB
      clear o1 hlB
      go_wp2
      go_loop [10, 29] (fun t s => ∃ k : Nat, k ≤ z.length ∧ Hid (k ≤ fstN z) ∧ s = .int .i64 k ∧ t = .int .i64 (wtS first most k)) (fun _ s => z.length - (intOf s).toNat)
      case atStart => exact ⟨0, Nat.zero_le _, Lib.hid (Nat.zero_le _), rfl, rfl⟩
      case round =>
        obtain ⟨k, hk, HK, rfl, rfl⟩ := hrel
        by_cases hlt : k < z.length
        · obtain ⟨bb, off, x, rfl, hcell, HX⟩ := h1.get hlt
          obtain ⟨bb', off', eB, hc'⟩ := hx.2 (by rw [length_tab]; omega)
          subst eB
          have hcell' := hc' k (by rw [length_tab]; exact hlt)
          rw [show (tab z.length (wtV first most)).getD k 0 = wtV first most k from gt_tab _ hlt] at hcell'
          have bd := ws_bd v k
          have bx := wt_bd v k
          have v1 := v.lo
          have v2 := v.hi
          have HS : Hid (wtS first most (k + 1) = wtS first most k + wtV first most k) := Lib.hid rfl
          have e0 : 0 ≤ wtS first most k := Int.le_trans (Int.mul_nonneg (by omega) (by omega)) bd.1
          have e1 : wtS first most k ≤ 40000000 := by
            have a1 : (k : Int) * most ≤ 40 * most := Int.mul_le_mul_of_nonneg_right (by omega) (by omega)
            omega
          obtain ⟨sv, hs⟩ : ∃ sv, sv = wtS first most k := ⟨_, rfl⟩
          obtain ⟨xv, hxv⟩ : ∃ xv, xv = wtV first most k := ⟨_, rfl⟩
          have HSV := Lib.hid hs
          rw [← hs, ← hxv] at HS
          rw [← hs] at e0 e1 ⊢
          rw [← hxv] at bx hcell'
          obtain ⟨x0, x1⟩ := bx
          have i2 : (k : Int) < (z.length : Int) := by omega
          clear hs hxv bd hc'
          cases x with
          | true =>
            have HN := Lib.hid (fst_next HK.out hlt HX.out)
            clear HK HX HSV HEV HVV
            go_wp2
            go_round
            case rel => exact ⟨k + 1, by omega, HN, by go_num, by rw [HS.out]⟩
            case measure => simp [intOf]; omega
          | false =>
            have HF : Hid (fstN z = k) := Lib.hid (fst_at HK.out hlt HX.out)
            have HE0 : Hid (E = 0) := Lib.hid (by rw [HEV.out, if_pos (by have := HF.out; omega)])
            have HV0 : Hid (V = sv) := Lib.hid (by rw [HVV.out, if_pos HE0.out, HF.out, HSV.out])
            clear HEV HVV HF HK HX HSV HS
            go_wp2
            go_ret2
            exact ⟨by rw [HE0.out, HV0.out]; rfl, b1⟩
        · have i2 : ¬ (k : Int) < (z.length : Int) := by omega
          have HE0 : Hid (E = 5) := Lib.hid (by rw [HEV.out, if_neg (by have := HK.out; omega)])
          have HV0 : Hid (V = 0) := Lib.hid (by rw [HVV.out, if_neg (by rw [HE0.out]; decide)])
          clear HEV HVV
          go_wp2
          go_ret2
          exact ⟨by rw [HE0.out, HV0.out]; rfl, b1⟩
    · have hr : ¬ rtE first most z.length = 0 := fun h => c2 (by
        have := rt_iff.mp h
        exact rt_iff.mpr ⟨this.1, Int.le_refl _, by decide⟩)
      have HE : Hid (whnE first most z = 1) := Lib.hid (by rw [whnE, if_neg c1, if_neg c2])
      have HV : Hid (whnV first most z = 0) := Lib.hid (by rw [whnV, HE.out]; rfl)
      rw [HE.out, HV.out]
      clear HE HV c1 c2
      go_enter Try.func14, Try.ntmps14
      go_wp2_with fail
      refine (waits_no first most z.length _ hr).mono ?_
      rintro e w1 ⟨rfl, rfl⟩
      clear hr
      go_wp2
      go_ret2
      exact ⟨rfl, Below.refl _ _⟩

end Go.Proofs.Ytnpdcllfdoobeaa
