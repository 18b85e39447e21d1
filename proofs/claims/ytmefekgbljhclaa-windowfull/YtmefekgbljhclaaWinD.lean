
/-
  The laws WindowFull, WindowSays over what package window owes.
-/
import Derived.Test.YtmefekgbljhclaaWinB
namespace Go.Proofs.Ytmefekgbljhclaa
set_option linter.all false
open Go.RowKit Go.Shelf Go.Lib

/-- On the way when piece i is sent: from where on, and how many. -/
def wyV (w p i k : Nat) : Int := ctV (sfV w p) (sfV w p i + 1 - p) (sfV w p i + 1) k
theorem wy_next {w p i k : Nat} (hw : 1 ≤ w) (hp : 1 ≤ p) (hk : k ≤ i) : wyV w p i (k + 1) = wyV w p i k + if swV w p i < swV w p k + (p : Int) then 1 else 0 := by
  have := sf_up (w := w) (p := p) hw hp hk
  unfold wyV swV
  rw [ctV]
  by_cases c : ((sfV w p i : Nat) : Int) < ((sfV w p k : Nat) : Int) + (p : Int)
  · rw [if_pos c, if_pos (by omega)]
  · rw [if_neg c, if_neg (by omega)]
theorem wy_max {w p i n : Nat} (hw : 1 ≤ w) (hp : 1 ≤ p) : wyV w p i n ≤ w := by
  have one : (p + p - 1) / p * w = w := by
    have : (p + p - 1) / p = 1 := by
      rw [show p + p - 1 = (p - 1) + p by omega, Nat.add_div_right _ (by omega), Nat.div_eq_of_lt (by omega)]
    rw [this, Nat.one_mul]
  unfold wyV
  by_cases c : p ≤ sfV w p i + 1
  · have := win_trip hw hp (sfV w p i + 1 - p) p n
    rw [one, show sfV w p i + 1 - p + p = sfV w p i + 1 by omega] at this
    exact this
  · have a := win_trip hw hp 0 p n
    rw [one, Nat.zero_add] at a
    have b := ct_split (sfV w p) (Nat.zero_le (sfV w p i + 1)) (show sfV w p i + 1 ≤ p by omega) n
    have d := (ct_lo (sfV w p) (sfV w p i + 1) p n).1
    rw [show sfV w p i + 1 - p = 0 by omega]
    omega
theorem wy_bd (w p i n : Nat) : 0 ≤ wyV w p i n ∧ wyV w p i n ≤ n := ct_lo _ _ _ _
set_option maxRecDepth 100000 in
set_option maxHeartbeats 6400000 in
theorem v_WindowFull (E : WinC) (n1 n2 n3 : Int) (w : World) (_h1 : (Lit.int .i64 n1).wf = true) (_h2 : (Lit.int .i64 n2).wf = true) (_h3 : (Lit.int .i64 n3).wf = true) :
    Calls Try.prog 10 #[.int .i64 n1, .int .i64 n2, .int .i64 n3] w fun e w' => e = .returned (.bool true) ∧ Below w.heap.size w w' := by
  have hb := Below.refl w.heap.size w
  go_enter Try.func10, Try.ntmps10
  go_wp2_with fail
  refine (E.sent' 3 1 5 _ win_lit2).mono ?_
  rintro e w1 ⟨A, c, rfl, ix, hc, b1⟩
  rw [win_row2] at ix
  replace hb := below_trans hb b1
  clear b1
  go_wp2_with fail
  refine (equal_at A _ [0, 5, 10] [0, 5, 10] _ _ _ _ _ (ix.alloc _) (by exact Ints.lit _ _ _ _ rfl (by decide)) rfl rfl).mono ?_
  rintro e w2 ⟨rfl, m2, hw2⟩
  rw [eqB_true rfl]
  have b2 := below_of1 (below_of_drewN hw2)
  replace hb := below_trans hb b2
  clear b2 hw2 ix hc
  by_cases hE : wnE n1 n2 n3 = 0
  · obtain ⟨N, W, P, rfl, rfl, rfl, v⟩ := wn_of hE
    have v1 := v.n1
    have v2 := v.w0
    have v3 := v.w1
    have v4 := v.p0
    have v5 := v.p1
    clear hE
    go_wp2_with fail
    refine (E.sent' N W P _ v).mono ?_
    rintro e w3 ⟨A, c, rfl, ix, hc, b3⟩
    replace hb := below_trans hb b3
    clear b3
    go_wp2
    go_loopw [42] (fun s wr => ∃ i : Nat, i ≤ N ∧ s = .int .i64 i ∧ Ints wr A (tab N (swV W P)) ∧ Below w.heap.size w wr) (fun s _ => N - (intOf s).toNat)
    case atStart => exact ⟨0, Nat.zero_le _, rfl, ix, hb⟩
    case round =>
      clear ix hb
      obtain ⟨i, hi, rfl, ix, hb⟩ := hrel
      by_cases hlt : i < N
      · obtain ⟨bb, off, t, rfl, hcell, HX⟩ := ix.at_ (k := i) (by rw [length_tab]; exact hlt)
        have ht : t = swV W P i := by have := HX.out; rw [get_tab _ hlt] at this; exact (Option.some.inj this).symm
        have tm := sf_max v (i := i) (by omega)
        have t0 : 0 ≤ t := by rw [ht]; unfold swV; omega
        have t1 : t ≤ 40200 := by rw [ht]; unfold swV; omega
        have HT := Lib.hid ht
        have i1 : (i : Int) < (N : Int) := by omega
        have i2 : i + 1 ≤ c := by omega
        have i3 : (i : Int) + 1 ≤ (c : Int) := by omega
        have m1 : IntKind.i64.wrap ((i : Int) + 1) = (i : Int) + 1 := IntWalk.i64_in _ ⟨by omega, by omega⟩
        have i4 : ((i : Int) + 1).toNat = i + 1 := by omega
        have i5 : (0 : Int) ≤ (i : Int) + 1 := by omega
        clear ht tm
        go_wp2
        go_loopw [13, 52] (fun u s wr => ∃ k : Nat, k ≤ i + 1 ∧ s = .int .i64 k ∧ (∃ X : Int, u = .int .i64 X ∧ Hid (X = wyV W P i k)) ∧ Ints wr (some ⟨bb, off, none⟩) (tab N (swV W P)) ∧ Below w.heap.size w wr) (fun _ s _ => i + 1 - (intOf s).toNat)
        case atStart => exact ⟨0, Nat.zero_le _, rfl, ⟨0, rfl, Lib.hid rfl⟩, ix, hb⟩
        case round =>
          clear ix hb hcell
          obtain ⟨k, hk, rfl, ⟨X, rfl, HX2⟩, ix, hb⟩ := hrel
          have Xb := wy_bd W P i k
          rw [← HX2.out] at Xb
          obtain ⟨X0, X1⟩ := Xb
          by_cases hlk : k < i + 1
          · obtain ⟨b', o', s, hA, hc2, HS⟩ := ix.at_ (k := k) (by rw [length_tab]; omega)
            obtain ⟨rfl, rfl⟩ : bb = b' ∧ off = o' := by simpa using hA
            have hs : s = swV W P k := by have := HS.out; rw [get_tab _ (by omega)] at this; exact (Option.some.inj this).symm
            have sm := sf_max v (i := k) (by omega)
            have s0 : 0 ≤ s := by rw [hs]; unfold swV; omega
            have s1 : s ≤ 40200 := by rw [hs]; unfold swV; omega
            have HN : Hid (wyV W P i (k + 1) = X + if t < s + (P : Int) then 1 else 0) := Lib.hid (by rw [wy_next v2 v4 (by omega), HX2.out, HT.out, hs])
            have i6 : (k : Int) < (i : Int) + 1 := by omega
            have m3 : IntKind.i64.wrap (s + (P : Int)) = s + (P : Int) := IntWalk.i64_in _ ⟨by omega, by omega⟩
            clear hA hs sm
            by_cases g : t < s + (P : Int)
            · have e1 : decide (t < s + (P : Int)) = true := decide_eq_true g
              have HN2 : Hid (X + 1 = wyV W P i (k + 1)) := Lib.hid (by rw [HN.out, if_pos g])
              go_wp2
              go_roundw
              case rel => exact ⟨k + 1, hlk, by go_num, ⟨X + 1, by go_num, HN2⟩, ix, hb⟩
              case measure => simp [intOf]; omega
            · have e1 : decide (t < s + (P : Int)) = false := decide_eq_false g
              have HN2 : Hid (X = wyV W P i (k + 1)) := Lib.hid (by rw [HN.out, if_neg g, Int.add_zero])
              go_wp2
              go_roundw
              case rel => exact ⟨k + 1, hlk, by go_num, ⟨X, rfl, HN2⟩, ix, hb⟩
              case measure => simp [intOf]; omega
          · obtain rfl : k = i + 1 := by omega
            have XW : X ≤ (W : Int) := by rw [HX2.out]; exact wy_max v2 v4
            have e1 : decide ((W : Int) < X) = false := decide_eq_false (by omega)
            have i6 : ¬ (i : Int) + 1 < (i : Int) + 1 := by omega
            by_cases hi0 : i = 0
            · subst hi0
              go_wp2
              go_roundw
              case rel => exact ⟨1, by omega, by go_num, ix, hb⟩
              case measure => simp [intOf]; omega
            · obtain ⟨k, hk'⟩ : ∃ k, i = k + 1 := ⟨i - 1, by omega⟩
              have HKI := Lib.hid hk'
              obtain ⟨b', o', s, hA, hc2, HS⟩ := ix.at_ (k := k) (by rw [length_tab]; omega)
              obtain ⟨rfl, rfl⟩ : bb = b' ∧ off = o' := by simpa using hA
              have hs : s = swV W P k := by have := HS.out; rw [get_tab _ (by omega)] at this; exact (Option.some.inj this).symm
              have sm := sf_max v (i := k) (by omega)
              have s0 : 0 ≤ s := by rw [hs]; unfold swV; omega
              have s1 : s ≤ 40200 := by rw [hs]; unfold swV; omega
              have st : s + 1 ≤ t := by rw [hs, HT.out, hk']; unfold swV; have := sf_lt (w := W) (p := P) v2 v4 k; omega
              have HTG : Hid (t = s + 1 ∨ (W ≤ i ∧ t = swV W P (i - W) + (P : Int))) := Lib.hid (by
                rw [hs, HT.out, hk']
                unfold swV
                rcases sf_tight (w := W) (p := P) v2 v4 k with e | ⟨a, e⟩
                · left; omega
                · right; exact ⟨a, by omega⟩)
              have ip : (0 : Int) < (i : Int) := by omega
              have ip2 : 0 < i := by omega
              have ip3 : decide ((0 : Int) < (i : Int)) = true := decide_eq_true ip
              have m5 : IntKind.i64.wrap ((i : Int) - 1) = (k : Int) := by rw [IntWalk.i64_in _ ⟨by omega, by omega⟩]; omega
              have i7 : (k : Int) < (N : Int) := by omega
              have e3 : decide (t ≤ s) = false := decide_eq_false (by omega)
              have m6 : IntKind.i64.wrap (s + 1) = s + 1 := IntWalk.i64_in _ ⟨by omega, by omega⟩
              clear hA hs sm hk'
              by_cases g : s + 1 < t
              · have e4 : decide (s + 1 < t) = true := decide_eq_true g
                have hw : W ≤ i ∧ t = swV W P (i - W) + (P : Int) := by
                  rcases HTG.out with x | x
                  · omega
                  · exact x
                obtain ⟨hw1, hw2⟩ := hw
                obtain ⟨j, hj⟩ : ∃ j, j = i - W := ⟨_, rfl⟩
                obtain ⟨b', o', r, hA, hc3, HS3⟩ := ix.at_ (k := j) (by rw [length_tab]; omega)
                obtain ⟨rfl, rfl⟩ : bb = b' ∧ off = o' := by simpa using hA
                have hr : r = swV W P j := by have := HS3.out; rw [get_tab _ (by omega)] at this; exact (Option.some.inj this).symm
                have e5 : decide ((i : Int) < (W : Int)) = false := decide_eq_false (by omega)
                have e6 : decide (i < W) = false := decide_eq_false (by omega)
                have m7 : IntKind.i64.wrap ((i : Int) - (W : Int)) = (j : Int) := by rw [IntWalk.i64_in _ ⟨by omega, by omega⟩]; omega
                have m8 : IntKind.i64.wrap (r + (P : Int)) = t := by rw [hw2, ← hj, ← hr]; exact IntWalk.i64_in _ ⟨by have := sf_max v (i := j) (by omega); rw [hr]; unfold swV; omega, by have := sf_max v (i := j) (by omega); rw [hr]; unfold swV; omega⟩
                have i8 : (j : Int) < (N : Int) := by omega
                have i9 : ¬ (i : Int) < (W : Int) := by omega
                clear hA hr hw2 hj
                go_wp2
                go_roundw
                case rel => exact ⟨i + 1, by omega, by go_num, ix, hb⟩
                case measure => simp [intOf]; omega
              · have e4 : decide (s + 1 < t) = false := decide_eq_false g
                go_wp2
                go_roundw
                case rel => exact ⟨i + 1, by omega, by go_num, ix, hb⟩
                case measure => simp [intOf]; omega
      · go_wp2
        go_ret
        exact ⟨rfl, hb⟩
  · go_wp2_with fail
    refine (E.sent_no n1 n2 n3 _ hE).mono ?_
    rintro e w3 ⟨⟨A, c, rfl⟩, b3⟩
    replace hb := below_trans hb b3
    clear b3 hE
    go_wp2
    go_ret
    exact ⟨rfl, hb⟩

end Go.Proofs.Ytmefekgbljhclaa
