
/-
  Walks of package resume: outside, Run, Bound; what it owes, shown.
-/
import Derived.Test.YtjlkcjaofglpmaaResC
import Derived.Test.YtjlkcjaofglpmaaBucketA
namespace Go.Proofs.Ytjlkcjaofglpmaa
set_option linter.all false
open Go.RowKit Go.Shelf Go.Lib

set_option maxHeartbeats 800000 in
theorem rout_any (s u r : Int) (x : Bool) (w : World) (hx : Hid (decide (BadR s u r) = x)) : Calls Try.prog 34 #[.int .i64 s, .int .i64 u, .int .i64 r] w fun e w' => e = .returned (.bool x) ∧ w = w' := by
  by_cases h1 : s < 0 ∨ 1000000 < s
  · have q1 := lim_yes h1
    have HX : Hid (x = true) := Lib.hid (by rw [← hx.out]; exact decide_eq_true (by unfold BadR; omega))
    clear hx h1
    go_enter Try.func34, Try.ntmps34
    go_wp2_with fail
    refine (lim_any s 0 1000000 true _ q1).mono ?_
    rintro e w' ⟨rfl, rfl⟩
    go_wp2
    go_ret
    exact ⟨ret_bool HX.out.symm, rfl⟩
  · have q1 : Hid (decide (s < 0 ∨ 1000000 < s) = false) := Lib.hid (decide_eq_false h1)
    by_cases h2 : u < 1 ∨ 1000000 < u
    · have q2 := lim_yes h2
      have HX : Hid (x = true) := Lib.hid (by rw [← hx.out]; exact decide_eq_true (by unfold BadR; omega))
      clear hx h1 h2
      go_enter Try.func34, Try.ntmps34
      go_wp2_with fail
      refine (lim_any s 0 1000000 false _ q1).mono ?_
      rintro e w' ⟨rfl, rfl⟩
      go_wp2_with fail
      refine (lim_any u 1 1000000 true _ q2).mono ?_
      rintro e w' ⟨rfl, rfl⟩
      go_wp2
      go_ret
      exact ⟨ret_bool HX.out.symm, rfl⟩
    · have q2 : Hid (decide (u < 1 ∨ 1000000 < u) = false) := Lib.hid (decide_eq_false h2)
      have q3 : Hid (decide (r < 0 ∨ 10000 < r) = x) := Lib.hid (by
        rw [← hx.out]
        by_cases c : r < 0 ∨ 10000 < r
        · rw [decide_eq_true c, decide_eq_true (by unfold BadR; omega)]
        · rw [decide_eq_false c, decide_eq_false (by unfold BadR; omega)])
      clear hx h1 h2
      go_enter Try.func34, Try.ntmps34
      go_wp2_with fail
      refine (lim_any s 0 1000000 false _ q1).mono ?_
      rintro e w' ⟨rfl, rfl⟩
      go_wp2_with fail
      refine (lim_any u 1 1000000 false _ q2).mono ?_
      rintro e w' ⟨rfl, rfl⟩
      go_wp2_with fail
      refine (lim_any r 0 10000 x _ q3).mono ?_
      rintro e w' ⟨rfl, rfl⟩
      go_wp2
      go_ret
      exact ⟨rfl, rfl⟩

theorem bo_div {a r : Int} (r0 : 1 ≤ r) : (a + r - 1) / r = (a - 1) / r + 1 := by
  rw [show a + r - 1 = a - 1 + 1 * r by omega, Int.add_mul_ediv_right _ _ (show r ≠ 0 by omega)]
set_option maxHeartbeats 1600000 in
theorem rbound_any (s u r k : Int) (w : World) : Calls Try.prog 19 #[.int .i64 s, .int .i64 u, .int .i64 r, .int .i64 k] w fun e w' => e = .returned (.tuple #[.int .i64 (boV s u r k), .int .i64 (boE s u r k)]) ∧ Below w.heap.size w w' := by
  by_cases h1 : BadR s u r
  · have hE : boE s u r k = 1 := by rw [boE, if_pos (.inl h1)]
    have HE := Lib.hid hE
    have HV : Hid (boV s u r k = 0) := Lib.hid (by rw [boV, if_neg (by rw [hE]; rintro ⟨h, _⟩; exact absurd h (by decide))])
    have q1 : Hid (decide (BadR s u r) = true) := Lib.hid (decide_eq_true h1)
    clear hE h1
    go_enter Try.func19, Try.ntmps19
    go_wp2_with fail
    refine (rout_any s u r true _ q1).mono ?_
    rintro e w' ⟨rfl, rfl⟩
    go_wp2
    go_ret2
    exact ⟨by rw [HV.out, HE.out]; rfl, Below.refl _ _⟩
  · have q1 : Hid (decide (BadR s u r) = false) := Lib.hid (decide_eq_false h1)
    by_cases h2 : k < 0 ∨ 200 < k
    · have hE : boE s u r k = 1 := by rw [boE, if_pos (.inr h2)]
      have HE := Lib.hid hE
      have HV : Hid (boV s u r k = 0) := Lib.hid (by rw [boV, if_neg (by rw [hE]; rintro ⟨h, _⟩; exact absurd h (by decide))])
      have q2 := lim_yes h2
      clear hE h1 h2
      go_enter Try.func19, Try.ntmps19
      go_wp2_with fail
      refine (rout_any s u r false _ q1).mono ?_
      rintro e w' ⟨rfl, rfl⟩
      go_wp2_with fail
      refine (lim_any k 0 200 true _ q2).mono ?_
      rintro e w' ⟨rfl, rfl⟩
      go_wp2
      go_ret2
      exact ⟨by rw [HV.out, HE.out]; rfl, Below.refl _ _⟩
    · have q2 : Hid (decide (k < 0 ∨ 200 < k) = false) := Lib.hid (decide_eq_false h2)
      have nb : ¬ (BadR s u r ∨ k < 0 ∨ 200 < k) := fun h => h.elim h1 h2
      obtain ⟨s0, s1, u0, u1, r0, r1⟩ := rs_iff.1 h1
      have k0 : 0 ≤ k := by omega
      have k1 : k ≤ 200 := by omega
      have hn := nd_bd s0 s1 u0 u1 k0 k1
      by_cases h3 : s = 0
      · have hN := hn.2.2.2 h3
        have hE : boE s u r k = 0 := by rw [boE, if_neg nb, if_pos hN]
        have HE := Lib.hid hE
        have HV : Hid (boV s u r k = 0) := Lib.hid (by rw [boV, if_neg (by rintro ⟨_, h⟩; exact h hN)])
        have z0 : (s == 0) = true := by rw [h3]; rfl
        clear hE h1 h2 nb hn hN h3
        go_enter Try.func19, Try.ntmps19
        go_wp2_with fail
        refine (rout_any s u r false _ q1).mono ?_
        rintro e w' ⟨rfl, rfl⟩
        go_wp2_with fail
        refine (lim_any k 0 200 false _ q2).mono ?_
        rintro e w' ⟨rfl, rfl⟩
        go_wp2
        go_ret2
        exact ⟨by rw [HV.out, HE.out]; rfl, Below.refl _ _⟩
      · have hN : ¬ ndV s u k = 0 := fun h => h3 (hn.2.2.1 h)
        have z0 : (s == 0) = false := by rw [beq_eq_false_iff_ne]; exact h3
        by_cases h4 : r = 0
        · have hE : boE s u r k = 5 := by rw [boE, if_neg nb, if_neg hN, if_pos h4]
          have HE := Lib.hid hE
          have HV : Hid (boV s u r k = 0) := Lib.hid (by rw [boV, if_neg (by rw [hE]; rintro ⟨h, _⟩; exact absurd h (by decide))])
          have z1 : (r == 0) = true := by rw [h4]; rfl
          clear hE h1 h2 nb hn hN h3 h4
          go_enter Try.func19, Try.ntmps19
          go_wp2_with fail
          refine (rout_any s u r false _ q1).mono ?_
          rintro e w' ⟨rfl, rfl⟩
          go_wp2_with fail
          refine (lim_any k 0 200 false _ q2).mono ?_
          rintro e w' ⟨rfl, rfl⟩
          go_wp2
          go_ret2
          exact ⟨by rw [HV.out, HE.out]; rfl, Below.refl _ _⟩
        · have hE : boE s u r k = 0 := by rw [boE, if_neg nb, if_neg hN, if_neg h4]
          have HE := Lib.hid hE
          have hd : ndV s u k = s + k * (u - 1) := by rw [ndV, if_neg h3]
          have z1 : (r == 0) = false := by rw [beq_eq_false_iff_ne]; exact h4
          obtain ⟨M, hM⟩ : ∃ M, M = k * (u - 1) := ⟨_, rfl⟩
          have n0 := hn.1
          have n1 := hn.2.1
          rw [hd, ← hM] at n0 n1
          have M0 : 0 ≤ M := by rw [hM]; exact Int.mul_nonneg k0 (by omega)
          obtain ⟨V, hV⟩ : ∃ V, V = (s + M - 1) / r + 1 := ⟨_, rfl⟩
          have HV : Hid (boV s u r k = V) := Lib.hid (by rw [boV, if_pos ⟨hE, hN⟩, hd, ← hM, hV])
          have m1 : IntKind.i64.wrap (u - 1) = u - 1 := IntWalk.i64_in _ ⟨by omega, by omega⟩
          have m2 : IntKind.i64.wrap (k * (u - 1)) = M := by rw [← hM]; exact IntWalk.i64_in _ ⟨by omega, by omega⟩
          have m3 : IntKind.i64.wrap (s + M) = s + M := IntWalk.i64_in _ ⟨by omega, by omega⟩
          have m4 : IntKind.i64.wrap (s + M + r) = s + M + r := IntWalk.i64_in _ ⟨by omega, by omega⟩
          have m5 : IntKind.i64.wrap (s + M + r - 1) = s + M + r - 1 := IntWalk.i64_in _ ⟨by omega, by omega⟩
          have m6 : Int.tdiv (s + M + r - 1) r = V := by rw [hV, ← bo_div (by omega)]; exact Int.tdiv_eq_ediv_of_nonneg (by omega)
          have v0 : 0 ≤ V := by rw [hV]; have := Int.ediv_nonneg (show 0 ≤ s + M - 1 by omega) (show 0 ≤ r by omega); omega
          have v1 : V ≤ 300000000 := by rw [hV]; have := Int.ediv_le_self (b := r) (show 0 ≤ s + M - 1 by omega); omega
          have m7 : IntKind.i64.wrap V = V := IntWalk.i64_in _ ⟨by omega, by omega⟩
          clear hE h1 h2 nb hn hN h3 hd hM hV n0
          go_enter Try.func19, Try.ntmps19
          go_wp2_with fail
          refine (rout_any s u r false _ q1).mono ?_
          rintro e w' ⟨rfl, rfl⟩
          go_wp2_with fail
          refine (lim_any k 0 200 false _ q2).mono ?_
          rintro e w' ⟨rfl, rfl⟩
          go_wp2
          go_ret2
          exact ⟨by rw [HV.out, HE.out]; rfl, Below.refl _ _⟩

theorem hv_at {z : List Bool} {k : Nat} {x : Bool} (h : z[k]? = some x) : hv z k = x := by
  unfold hv
  rw [List.getD, h]; rfl
theorem ke_no {s u x : Int} {b : Bool} (h : ¬ (b = true ∧ x < s)) : keepV s u x b = x := by rw [keepV, if_neg h]
theorem ke_yes {s u x : Int} {b : Bool} (h : b = true) (h' : x < s) : keepV s u x b = x - x % u := by
  rw [keepV, if_pos ⟨h, h'⟩]
  have := Int.mul_ediv_add_emod x u
  rw [Int.mul_comm] at this
  omega
theorem ruE_bad {s u r : Int} {n : Nat} (h : BadR s u r) : ruE s u r n = 1 := by rw [ruE, if_pos h]
theorem ruE_large {s u r : Int} {n : Nat} (h : ¬ BadR s u r) (h' : 200 < n) : ruE s u r n = 2 := by rw [ruE, if_neg h, if_pos h']
set_option maxHeartbeats 3200000 in
theorem rrun_any (A : Option Addr) (z : List Bool) (c : Nat) (s u r : Int) (w : World) (h : Bls w A z) :
    Calls Try.prog 18 #[.int .i64 s, .int .i64 u, .int .i64 r, .slice A z.length c] w (Ans (ruY s u r z) (ruE s u r z.length) w) := by
  by_cases h1 : BadR s u r
  · have hE := ruE_bad (n := z.length) h1
    have HE := Lib.hid hE
    have HL : Hid (ruY s u r z = []) := Lib.hid (ruY_no (by rw [hE]; decide))
    have q1 : Hid (decide (BadR s u r) = true) := Lib.hid (decide_eq_true h1)
    clear hE h1
    go_enter Try.func18, Try.ntmps18
    go_wp2_with fail
    refine (rout_any s u r true _ q1).mono ?_
    rintro e w' ⟨rfl, rfl⟩
    go_wp2
    go_ret2
    exact Ans.of_none HL.out (by rw [HE.out]; rfl) rfl
  · have q1 : Hid (decide (BadR s u r) = false) := Lib.hid (decide_eq_false h1)
    by_cases h2 : 200 < z.length
    · have hE := ruE_large h1 h2
      have HE := Lib.hid hE
      have HL : Hid (ruY s u r z = []) := Lib.hid (ruY_no (by rw [hE]; decide))
      have i0 : 200 < (z.length : Int) := by omega
      clear hE h1 h2
      go_enter Try.func18, Try.ntmps18
      go_wp2_with fail
      refine (rout_any s u r false _ q1).mono ?_
      rintro e w' ⟨rfl, rfl⟩
      go_wp2
      go_ret2
      exact Ans.of_none HL.out (by rw [HE.out]; rfl) rfl
    · obtain ⟨s0, s1, u0, u1, r0, r1⟩ := rs_iff.1 h1
      have hE : ruE s u r z.length = 0 := ru_of (rs_iff.1 h1) (by omega)
      have HE := Lib.hid hE
      obtain ⟨S, hS⟩ : ∃ S, S = reV s u r (hv z) := ⟨_, rfl⟩
      obtain ⟨F, hF⟩ : ∃ F, F = fun t => S (t + 1) := ⟨_, rfl⟩
      have HF : Hid (∀ t, F t = S (t + 1)) := Lib.hid (fun t => by rw [hF])
      have HL : Hid (ruY s u r z = tab z.length F) := Lib.hid (by rw [ruY_yes hE, hF, hS]; rfl)
      have HS : Hid (∀ t, S (t + 1) = keepV s u (min s (S t + r)) (hv z t)) := Lib.hid (fun t => by rw [hS]; rfl)
      have H0 : Hid (S 0 = 0) := Lib.hid (by rw [hS]; rfl)
      have HD : Hid (∀ t, 0 ≤ S t ∧ S t ≤ s) := Lib.hid (fun t => by rw [hS]; exact re_bd s0 (by omega) r0 t)
      have hle : z.length ≤ 200 := by omega
      have i0 : ¬ 200 < (z.length : Int) := by omega
      have zu : (u == 0) = false := by rw [beq_eq_false_iff_ne]; omega
      clear h1 h2 hE hS hF
      have hmk := fun W => run_make_row' (P := Try.prog) 22 3 (.int .i64 0) 8 Try.underlying22 int_info rfl .i64 .i64 z.length (by omega) (by omega) W
      obtain ⟨b, hbk⟩ : ∃ b, b = w.heap.size := ⟨_, rfl⟩
      have G := Lib.hid hbk
      have gle : w.heap.size ≤ b := by omega
      clear hbk
      go_enter Try.func18, Try.ntmps18
      go_wp2_with fail
      refine (rout_any s u r false _ q1).mono ?_
      rintro e w' ⟨rfl, rfl⟩
      go_wp2
      rw [← G.out]
      go_loopw [11, 26] (fun x i wr => ∃ t : Nat, t ≤ z.length ∧ x = .int .i64 (S t) ∧ i = .int .i64 t ∧ Blk wr b 3 (rowAt z.length t F).toArray ∧ Below w.heap.size w wr) (fun _ i _ => z.length - (intOf i).toNat)
      case atStart =>
        refine ⟨0, Nat.zero_le _, by rw [H0.out], rfl, ?_, (Below.refl _ w).alloc (Nat.le_refl _) _⟩
        rw [rowAt_zero, G.out]; exact Blk.new _ _ _
      case round =>
        obtain ⟨t, ht, rfl, rfl, B0, hbel⟩ := hrel
        by_cases hlt : t < z.length
        · obtain ⟨b1, o1, x, rfl, hc1, HX⟩ := (h.below hbel).get hlt
          have i1 : (t : Int) < (z.length : Int) := by omega
          have hn := HS.out t
          rw [hv_at HX.out] at hn
          have hd := HD.out t
          obtain ⟨R, hR⟩ : ∃ R, R = S t := ⟨_, rfl⟩
          rw [← hR] at hn hd ⊢
          have d0 := hd.1
          have d1 := hd.2
          have m1 : IntKind.i64.wrap (R + r) = R + r := IntWalk.i64_in _ ⟨by omega, by omega⟩
          have ck : wr.cell? ⟨b, t, none⟩ = some (.int .i64 0) := by rw [B0.cell t]; simpa using rowAt_get F hlt
          have fk := B0.frozen t
          have gl := B0.lt
          clear hd hR
          rcases Int.lt_trichotomy s (R + r) with q | q | q
          · have j1 : ¬ s < s := by omega
            rw [show min s (R + r) = s by omega, ke_no (by omega)] at hn
            obtain ⟨Y, hY⟩ : ∃ Y, Y = s := ⟨_, rfl⟩
            have HN : Hid (S (t + 1) = Y) := Lib.hid (by (rw [hn, hY]))
            have R0 : Hid (Blk (wr.setCell ⟨b, t, none⟩ (.int .i64 Y)) b 3 (rowAt z.length (t + 1) F).toArray) := Lib.hid (by
              have q := B0.set_ t (.int .i64 Y)
              rw [← HN.out, ← HF.out t, rowAt_succ F hlt] at q
              rw [← HN.out, ← HF.out t]; exact q)
            have HB2 : Hid (Below w.heap.size w (wr.setCell ⟨b, t, none⟩ (.int .i64 Y))) := Lib.hid (hbel.setCell (p := ⟨b, t, none⟩) gle _)
            subst hY
            clear hn B0 hbel
            cases x with
            | true =>
              go_wp2
              go_roundw
              case rel => exact ⟨t + 1, by omega, by rw [HN.out], by go_num, R0.out, HB2.out⟩
              case measure => simp [intOf]; omega
            | false =>
              go_wp2
              go_roundw
              case rel => exact ⟨t + 1, by omega, by rw [HN.out], by go_num, R0.out, HB2.out⟩
              case measure => simp [intOf]; omega
          · have j1 : ¬ s < s := by omega
            rw [show min s (R + r) = s by omega, ke_no (by omega)] at hn
            obtain ⟨Y, hY⟩ : ∃ Y, Y = s := ⟨_, rfl⟩
            have HN : Hid (S (t + 1) = Y) := Lib.hid (by (rw [hn, hY]))
            have R0 : Hid (Blk (wr.setCell ⟨b, t, none⟩ (.int .i64 Y)) b 3 (rowAt z.length (t + 1) F).toArray) := Lib.hid (by
              have q := B0.set_ t (.int .i64 Y)
              rw [← HN.out, ← HF.out t, rowAt_succ F hlt] at q
              rw [← HN.out, ← HF.out t]; exact q)
            have HB2 : Hid (Below w.heap.size w (wr.setCell ⟨b, t, none⟩ (.int .i64 Y))) := Lib.hid (hbel.setCell (p := ⟨b, t, none⟩) gle _)
            subst hY
            have m1 : IntKind.i64.wrap (R + r) = Y := by rw [← q]; exact IntWalk.i64_in _ ⟨by omega, by omega⟩
            clear hn B0 hbel q
            cases x with
            | true =>
              go_wp2
              go_roundw
              case rel => exact ⟨t + 1, by omega, by rw [HN.out], by go_num, R0.out, HB2.out⟩
              case measure => simp [intOf]; omega
            | false =>
              go_wp2
              go_roundw
              case rel => exact ⟨t + 1, by omega, by rw [HN.out], by go_num, R0.out, HB2.out⟩
              case measure => simp [intOf]; omega
          · cases x with
            | true =>
              rw [show min s (R + r) = R + r by omega, ke_yes rfl q] at hn
              have j0 := Int.emod_nonneg (R + r) (show u ≠ 0 by omega)
              have j1 : (R + r) % u ≤ R + r := by
                have h1 := Int.mul_ediv_add_emod (R + r) u
                have h2 := Int.mul_nonneg (show 0 ≤ u by omega) (Int.ediv_nonneg (show 0 ≤ R + r by omega) (show 0 ≤ u by omega))
                omega
              have j2 : Int.tmod (R + r) u = (R + r) % u := Int.tmod_eq_emod_of_nonneg (by omega)
              obtain ⟨M, hM⟩ : ∃ M, M = (R + r) % u := ⟨_, rfl⟩
              rw [← hM] at hn j0 j1 j2
              have m2 : IntKind.i64.wrap M = M := IntWalk.i64_in _ ⟨by omega, by omega⟩
              have m3 : IntKind.i64.wrap (R + r - M) = R + r - M := IntWalk.i64_in _ ⟨by omega, by omega⟩
              obtain ⟨Y, hY⟩ : ∃ Y, Y = R + r - M := ⟨_, rfl⟩
              have HN : Hid (S (t + 1) = Y) := Lib.hid (by (rw [hn, hY]))
              have R0 : Hid (Blk (wr.setCell ⟨b, t, none⟩ (.int .i64 Y)) b 3 (rowAt z.length (t + 1) F).toArray) := Lib.hid (by
                have q := B0.set_ t (.int .i64 Y)
                rw [← HN.out, ← HF.out t, rowAt_succ F hlt] at q
                rw [← HN.out, ← HF.out t]; exact q)
              have HB2 : Hid (Below w.heap.size w (wr.setCell ⟨b, t, none⟩ (.int .i64 Y))) := Lib.hid (hbel.setCell (p := ⟨b, t, none⟩) gle _)
              subst hY
              clear hn B0 hbel hM
              go_wp2
              go_roundw
              case rel => exact ⟨t + 1, by omega, by rw [HN.out], by go_num, R0.out, HB2.out⟩
              case measure => simp [intOf]; omega
            | false =>
              rw [show min s (R + r) = R + r by omega, ke_no (by simp)] at hn
              obtain ⟨Y, hY⟩ : ∃ Y, Y = R + r := ⟨_, rfl⟩
              have HN : Hid (S (t + 1) = Y) := Lib.hid (by (rw [hn, hY]))
              have R0 : Hid (Blk (wr.setCell ⟨b, t, none⟩ (.int .i64 Y)) b 3 (rowAt z.length (t + 1) F).toArray) := Lib.hid (by
                have q := B0.set_ t (.int .i64 Y)
                rw [← HN.out, ← HF.out t, rowAt_succ F hlt] at q
                rw [← HN.out, ← HF.out t]; exact q)
              have HB2 : Hid (Below w.heap.size w (wr.setCell ⟨b, t, none⟩ (.int .i64 Y))) := Lib.hid (hbel.setCell (p := ⟨b, t, none⟩) gle _)
              subst hY
              clear hn B0 hbel
              go_wp2
              go_roundw
              case rel => exact ⟨t + 1, by omega, by rw [HN.out], by go_num, R0.out, HB2.out⟩
              case measure => simp [intOf]; omega
        · obtain rfl : t = z.length := by omega
          have i1 : ¬ (z.length : Int) < (z.length : Int) := by omega
          go_wp2
          go_ret2
          rw [rowAt_full] at B0
          refine ⟨some ⟨b, 0, none⟩, z.length, by rw [HE.out, HL.out, length_tab]; rfl, ?_, hbel⟩
          rw [HL.out, length_tab]
          have := own_of_blk (n := z.length) B0 gle (length_tab _ _).symm (by omega)
          rwa [length_tab] at this

theorem resC : ResC := ⟨rrun_any, rbound_any⟩

end Go.Proofs.Ytjlkcjaofglpmaa
