
/-
  The law RetryLater.
-/
import Derived.Test.YtnpdcllfdoobeaaRetX
import Derived.Test.YtnpdcllfdoobeaaBlsN
import Derived.Deep.RegionHeld3
namespace Go.Proofs.Ytnpdcllfdoobeaa
set_option linter.all false
open Go.RowKit Go.Shelf Go.Lib

theorem Bls.rowR {w : World} {base : Nat} {A : Option Addr} {c : Nat} {l : List Bool} (h : w.ownsRow base 4 1 (.slice A l.length c) l.length (l.map Value.bool)) : Bls w A l := by
  rcases h.2 with ⟨hv, h0⟩ | ⟨g, cap, cur, hv, _, hh, hn, hm, hs, ht⟩
  · rw [List.eq_nil_of_length_eq_zero h0]
    exact Bls.nil_ _ _
  · refine ⟨by unfold maxLen at hm; omega, fun hl => ?_⟩
    have hA : A = some ⟨g, 0, none⟩ := by injection hv
    subst hA
    refine ⟨g, 0, rfl, fun j hj => ?_⟩
    have := h.cells (g := g) rfl j (.bool (l.getD j false)) (by simp [List.getD, List.getElem?_eq_getElem hj])
    rw [Addr.add_lit] at this
    exact this
theorem Bls.takeR {w : World} {A : Option Addr} {l : List Bool} (h : Bls w A l) (k : Nat) : Bls w A (l.take k) := by
  refine ⟨by have := h.1; rw [List.length_take]; omega, fun hl => ?_⟩
  rw [List.length_take] at hl
  obtain ⟨b, off, rfl, hc⟩ := h.2 (by omega)
  refine ⟨b, off, rfl, fun j hj => ?_⟩
  rw [List.length_take] at hj
  have := hc j (by omega)
  rwa [show (l.take k).getD j false = l.getD j false by simp [List.getD, List.getElem?_take, show j < k by omega]]
theorem Bls.tailR {w : World} {b off : Nat} {l : List Bool} (h : Bls w (some ⟨b, off, none⟩) l) : Bls w (some ⟨b, off + 1, none⟩) (l.drop 1) := by
  refine ⟨by have := h.1; rw [List.length_drop]; omega, fun hl => ?_⟩
  rw [List.length_drop] at hl
  obtain ⟨b', off', e, hc⟩ := h.2 (by omega)
  obtain ⟨rfl, rfl⟩ : b' = b ∧ off' = off := by injection e with e; injection e with e1 e2; exact ⟨e1.symm, e2.symm⟩
  refine ⟨b', off' + 1, rfl, fun j hj => ?_⟩
  rw [List.length_drop] at hj
  have := hc (j + 1) (by omega)
  rw [show (l.drop 1).getD j false = l.getD (j + 1) false by simp [List.getD, Nat.add_comm]]
  rwa [show off' + 1 + j = off' + (j + 1) by omega]
/-- What counts is what comes ahead of the first that is not lost. -/
theorem fst_take {l : List Bool} {k : Nat} (h : fstN l < l.length) (hk : fstN l < k) : ∀ m, fstN (l.take k ++ m) = fstN l := by
  intro m
  induction l generalizing k with
  | nil => simp at h
  | cons a l ih =>
    cases k with
    | zero => omega
    | succ k =>
      cases a with
      | false => rfl
      | true =>
        have := ih (k := k) (by simpa [fstN] using h) (by simpa [fstN] using hk)
        simp only [List.take_succ_cons, List.cons_append, fstN, this]
theorem fst_drop {l : List Bool} (h : 0 < fstN l) : fstN (l.drop 1) = fstN l - 1 := by
  match l, h with
  | true :: l, _ => simp [fstN]
theorem whn_ok {first most : Int} {z : List Bool} (h : whnE first most z = 0) : z.length ≤ 40 ∧ RtOk first most ∧ fstN z < z.length ∧ whnV first most z = wtS first most (fstN z) := by
  have hv : whnV first most z = wtS first most (fstN z) := if_pos h
  unfold whnE at h
  by_cases c : 40 < z.length
  · rw [if_pos c] at h; exact absurd h (by decide)
  · rw [if_neg c] at h
    by_cases d : rtE first most 0 = 0
    · rw [if_pos d] at h
      by_cases e : fstN z < z.length
      · exact ⟨by omega, (rt_iff.mp d).1, e, hv⟩
      · rw [if_neg e] at h; exact absurd h (by decide)
    · rw [if_neg d] at h; exact absurd h (by decide)
theorem whn_mk {first most : Int} {z : List Bool} (v : RtOk first most) (h : z.length ≤ 40) (k : fstN z < z.length) : whnE first most z = 0 ∧ whnV first most z = wtS first most (fstN z) := by
  have e : whnE first most z = 0 := by
    unfold whnE
    rw [if_neg (by omega), if_pos (rt_iff.mpr ⟨v, by decide, by decide⟩), if_pos k]
  exact ⟨e, if_pos e⟩

set_option maxRecDepth 100000 in
set_option maxHeartbeats 6400000 in
theorem walk_RetryLater (first most : Int) (A : Option Addr) (c : Nat) (z : List Bool) (B : Option Addr) (d : Nat) (m : List Bool) (w : World) (_h1 : (Lit.int .i64 first).wf = true) (_h2 : (Lit.int .i64 most).wf = true) (h : Bls w A z) (k : z.length ≤ c) (nA : A = none → c = 0) (h' : Bls w B m) (k' : m.length ≤ d) (nB : B = none → d = 0) :
    Calls Try.prog 7 #[.int .i64 first, .int .i64 most, .slice A z.length c, .slice B m.length d] w fun e w' => e = .returned (.bool true) ∧ Below w.heap.size w w' := by
  have hz := h.1
  have hm := h'.1
  have E0 : Hid (whnE 3 10 [true, true, false] = 0) := Lib.hid (by decide)
  have V0 : Hid (whnV 3 10 [true, true, false] = 9) := Lib.hid (by decide)
  go_enter Try.func7, Try.ntmps7
  go_wp2_with fail
  refine (when_any 3 10 (some ⟨w.heap.size, 0, none⟩) [true, true, false] 3 3 _ (by exact Bls.lit w _ _ _ rfl (by decide)) rfl).mono ?_
  rintro e w1 ⟨rfl, b1⟩
  rw [E0.out, V0.out]
  have hb := below_of1 b1
  replace h := h.below hb
  replace h' := h'.below hb
  clear b1 E0 V0
  go_wp2_with fail
  refine (when_any first most A z _ c _ h rfl).mono ?_
  rintro e w2 ⟨rfl, b2⟩
  replace hb := below_trans hb b2
  replace h := h.below b2
  replace h' := h'.below b2
  clear b2
  by_cases hE : whnE first most z = 0
  rotate_left
  · have HV : Hid (whnV first most z = 0) := Lib.hid (if_neg hE)
    have e1 : (whnE first most z != 0) = true := by simp [hE]
    rw [HV.out]
    clear hE
    go_wp2
    go_ret
    exact ⟨rfl, hb⟩
  obtain ⟨z40, v, hF, hV⟩ := whn_ok hE
  have HE := Lib.hid hE
  have HI : Hid (fstI z = (fstN z : Int)) := Lib.hid (by rw [fstI, if_pos hF])
  obtain ⟨T, hT⟩ : ∃ T, T = whnV first most z := ⟨_, rfl⟩
  rw [HE.out, ← hT]
  rw [← hT] at hV
  have HT := Lib.hid hV
  obtain ⟨K, hK⟩ : ∃ K, K = fstN z := ⟨_, rfl⟩
  rw [← hK] at HI HT hF
  have HK := Lib.hid hK
  -- the first k + 1
  have L1 : Hid ((z.take (K + 1)).length = K + 1) := Lib.hid (by rw [List.length_take]; omega)
  have F1 : fstN (z.take (K + 1)) = K := by
    have := fst_take (l := z) (k := K + 1) (by rw [← HK.out]; exact hF) (by rw [← HK.out]; omega) []
    rwa [List.append_nil, ← HK.out] at this
  have W1 : whnE first most (z.take (K + 1)) = 0 ∧ whnV first most (z.take (K + 1)) = T := by
    have := whn_mk (z := z.take (K + 1)) v (by rw [L1.out]; omega) (by rw [F1, L1.out]; omega)
    rw [F1, ← HT.out] at this
    exact this
  have E1 := Lib.hid W1.1
  have V1 := Lib.hid W1.2
  clear hE hV hT hK W1
  have i0 : ¬ ((K : Int) < 0) := by omega
  have i1 : (K : Int) + 1 ≤ (c : Int) := by omega
  have i2 : ((K : Int) + 1).toNat = K + 1 := by omega
  have i3 : IntKind.i64.wrap ((K : Int) + 1) = (K : Int) + 1 := IntWalk.i64_in _ ⟨by omega, by omega⟩
  have i4 : (0 : Int) ≤ (K : Int) + 1 := by omega
  go_wp2_with fail
  refine (bindex_any A z _ c _ h rfl).mono ?_
  rintro e w3 ⟨rfl, rfl⟩
  rw [HI.out]
  have ht := h.takeR (K + 1)
  go_wp2_with fail
  refine (when_any first most A (z.take (K + 1)) _ c _ ht L1.out.symm).mono ?_
  rintro e w4 ⟨rfl, b4⟩
  rw [E1.out, V1.out]
  replace hb := below_trans hb b4
  replace h := h.below b4
  replace h' := h'.below b4
  replace ht := ht.below b4
  clear b4
  obtain ⟨ad, hA⟩ : ∃ ad, A = some ad := by
    obtain ⟨b, off, e, _⟩ := h.2 (by omega)
    exact ⟨_, e⟩
  subst hA
  obtain ⟨i6, hi0, hz0, hz1, hz2⟩ := info_parts bool_info
  obtain ⟨Q, hQ⟩ : ∃ Q, Q = 39 - K := ⟨_, rfl⟩
  have q1 : IntKind.i64.wrap (40 - (K : Int)) = 40 - (K : Int) := IntWalk.i64_in _ ⟨by omega, by omega⟩
  have q2 : IntKind.i64.wrap (40 - (K : Int) - 1) = (Q : Int) := by rw [IntWalk.i64_in _ ⟨by omega, by omega⟩]; omega
  have hQ40 : K + 1 + Q ≤ 40 := by omega
  have i5 : i6 = i6 := rfl
  clear hQ i5
  rcases Nat.lt_trichotomy m.length Q with q | q | q
  · have qi : (m.length : Int) < (Q : Int) := by omega
    have p1 : m.length ≤ m.length := by omega
    have p2 : m.length ≤ Q := by omega
    have p3 : (0 : Int) ≤ (m.length : Int) := by omega
    have PL : Hid ((m.take m.length).length = m.length) := Lib.hid (by rw [List.length_take]; omega)
    have FJ : fstN (z.take (K + 1) ++ m.take m.length) = K := by
      have := fst_take (l := z) (k := K + 1) (by rw [← HK.out]; exact hF) (by rw [← HK.out]; omega) (m.take m.length)
      rwa [← HK.out] at this
    have JL : Hid ((z.take (K + 1) ++ m.take m.length).length = K + 1 + m.length) := Lib.hid (by rw [List.length_append, L1.out, PL.out])
    have WJ : whnE first most (z.take (K + 1) ++ m.take m.length) = 0 ∧ whnV first most (z.take (K + 1) ++ m.take m.length) = T := by
      have := whn_mk (z := z.take (K + 1) ++ m.take m.length) v (by rw [JL.out]; omega) (by rw [FJ, JL.out]; omega)
      rw [FJ, ← HT.out] at this
      exact this
    have EJ := Lib.hid WJ.1
    have VJ := Lib.hid WJ.2
    have NB : Hid (B = none → m.length = 0 ∧ d = 0) := Lib.hid (fun e => ⟨by have := nB e; omega, nB e⟩)
    have hp := h'.takeR m.length
    have SRC : Hid (∀ ad, B = some ad → Bls w4 (some ad) (m.take m.length)) := Lib.hid (fun ad e => by rw [← e]; exact hp)
    have r1 : (m.length : Int) ≤ (d : Int) := by omega
    have OB : Hid (∀ u ∈ (m.take m.length).map Value.bool, u.oneCell' = true) := Lib.hid (bool_oneB _)
    have htd : Bls w4.drew (some ad) (z.take (K + 1)) := ht
    have hsz4 : w4.heap.size = w4.drew.heap.size := rfl
    have HS4 := Lib.hid hsz4
    clear WJ FJ hp hsz4
    go_wp2
    refine wp_region_any (by kernel_rfl) ?_
    change wpAny _ _ _ _ _ _ _ (World.drew _)
    refine wpAny_take (i := 0) (v := .int .i64 first) rfl (by kernel_rfl) (by kernel_rfl) (by kernel_rfl) (fun _ _ _ h => h) (Or.inl ⟨by rfl, by intro w; go_simp⟩) ?_
    refine wpAny_take (i := 1) (v := .int .i64 most) rfl (by kernel_rfl) (by kernel_rfl) (by kernel_rfl) (fun _ _ _ h => h) (Or.inl ⟨by rfl, by intro w; go_simp⟩) ?_
    refine wpAny_take (i := 2) (v := .slice (some ad) z.length c) rfl (by kernel_rfl) (by kernel_rfl) (by kernel_rfl) (fun _ _ _ h => h) (Or.inl ⟨by rfl, by intro w; go_simp⟩) ?_
    refine wpAny_take (i := 3) (v := .int .i64 (K : Int)) rfl (by kernel_rfl) (by kernel_rfl) (by kernel_rfl) (fun _ _ _ h => h) (Or.inl ⟨by rfl, by intro w; go_simp⟩) ?_
    refine wpAny_take (i := 4) (v := .int .i64 ((K : Int) + 1)) rfl (by kernel_rfl) (by kernel_rfl) (by kernel_rfl) (fun _ _ _ h => h) (Or.inl ⟨by rfl, by intro w; go_simp⟩) ?_
    refine wpAny_take (i := 5) (v := .slice (some ad) (K + 1) c) rfl (by kernel_rfl) (by kernel_rfl) (by kernel_rfl) (fun _ _ _ h => h) (Or.inl ⟨by rfl, by intro w; go_simp⟩) ?_
    refine wpAny_take (i := 7) (v := .slice B m.length d) rfl (by kernel_rfl) (by kernel_rfl) (by kernel_rfl) (fun _ _ _ h => h) (Or.inl ⟨by rfl, by intro w; go_simp⟩) ?_
    refine wpAny_take (i := 8) (v := .slice B m.length d) rfl (by kernel_rfl) (by kernel_rfl) (by kernel_rfl) (fun _ _ _ h => h) (Or.inl ⟨by rfl, by intro w; go_simp⟩) ?_
    refine wpAny_take (i := 9) (v := .int .i64 (m.length : Int)) rfl (by kernel_rfl) (by kernel_rfl) (by kernel_rfl) (fun _ _ _ h => h) (Or.inl ⟨by rfl, by intro w; go_simp⟩) ?_
    refine wpAny_take (i := 10) (v := .int .i64 (K : Int)) rfl (by kernel_rfl) (by kernel_rfl) (by kernel_rfl) (fun _ _ _ h => h) (Or.inl ⟨by rfl, by intro w; go_simp⟩) ?_
    refine wpAny_take (i := 11) (v := .int .i64 (40 - (K : Int))) rfl (by kernel_rfl) (by kernel_rfl) (by kernel_rfl) (fun _ _ _ h => h) (Or.inl ⟨by rfl, by intro w; go_simp⟩) ?_
    refine wpAny_take (i := 12) (v := .int .i64 (Q : Int)) rfl (by kernel_rfl) (by kernel_rfl) (by kernel_rfl) (fun _ _ _ h => h) (Or.inl ⟨by rfl, by intro w; go_simp⟩) ?_
    refine wpAny_take (i := 13) (v := .int .i64 (m.length : Int)) rfl (by kernel_rfl) (by kernel_rfl) (by kernel_rfl) (fun _ _ _ h => h) (Or.inl ⟨by rfl, by intro w; go_simp; all_goals (intros; omega)⟩) ?_
    refine wpAny_take (i := 14) (v := .slice B m.length d) rfl (by kernel_rfl) (by kernel_rfl) (by kernel_rfl) (fun _ _ _ h => h) (Or.inl ⟨by rfl, by intro w; go_simp⟩) ?_
    refine wpAny_ready (rs := [6]) (by kernel_rfl) (by simp) ?_
    refine AllReady.cons rfl (fun K' hK => ?_) AllReady.nil
    go_simp
    go_wp2_with (go_at_call 33; refine (clone_bl ad (z.take (K + 1)) _ c _ htd L1.out.symm (by omega)).mono ?_; rintro e w5 ⟨A5, c5, rfl, o5, b5⟩)
    refine wpAny_ready (rs := [15]) (by kernel_rfl) (by simp) ?_
    refine AllReady.cons rfl (fun K' hK => ?_) AllReady.nil
    refine step_append_b (by rfl) _ _ _ (by rfl) w4.drew.heap.size 4 i6 (.bool false) 1 1 Try.underlying22 hi0 hz0 hz1 hz2 rfl (by decide) _ (K + 1) ((z.take (K + 1)).map Value.bool) (by rfl) o5 B m.length d ((m.take m.length).map Value.bool) (by rfl) NB.out (by rw [List.length_map, PL.out, Nat.mul_one]) (fun ad' e => ((SRC.out ad' e).below (below_trans (below_of_drewN (n := 1) rfl) b5)).cellsB) OB.out (by unfold maxLen; omega) (by omega) b5.size ?_
    intro v6 w6 o6 g6
    have b6 : Below w4.heap.size w4 w6 := (below_trans (below_of_drewN (n := 1) rfl) b5).grown g6 (by have := b5.size; exact this) (fun k hk => (o5.lt k hk).1)
    rw [← List.map_append] at o6
    obtain ⟨A6, c6, rfl⟩ := row_formB o6
    have ij : Bls w6 A6 (z.take (K + 1) ++ m.take m.length) := Bls.rowR (base := w4.drew.heap.size) (c := c6) (by rw [JL.out]; exact o6)
    refine hK _ _ ?_
    clear hK K' o5 b5 o6 g6
    refine wpAny_ready (rs := [16]) (by kernel_rfl) (by simp) ?_
    refine AllReady.cons rfl (fun K' hK => ?_) AllReady.nil
    go_simp
    go_wp2_with (go_at_call 14; refine (when_any first most A6 (z.take (K + 1) ++ m.take m.length) _ c6 _ ij JL.out.symm).mono ?_; rintro e w7 ⟨rfl, b7⟩; rw [EJ.out, VJ.out])
    refine wpAny_take (i := 17) (v := .tuple #[.int .i64 T, .int .i64 0]) rfl (by kernel_rfl) (by kernel_rfl) (by kernel_rfl) (fun _ _ _ h => h) (Or.inl ⟨by rfl, by intro w; go_simp⟩) ?_
    refine wpAny_take (i := 18) (v := .int .i64 T) rfl (by kernel_rfl) (by kernel_rfl) (by kernel_rfl) (fun _ _ _ h => h) (Or.inl ⟨by rfl, by intro w; go_simp⟩) ?_
    refine wpAny_take (i := 19) (v := .int .i64 0) rfl (by kernel_rfl) (by kernel_rfl) (by kernel_rfl) (fun _ _ _ h => h) (Or.inl ⟨by rfl, by intro w; go_simp⟩) ?_
    refine wpAny_take (i := 20) (v := .int .i64 T) rfl (by kernel_rfl) (by kernel_rfl) (by kernel_rfl) (fun _ _ _ h => h) (Or.inl ⟨by rfl, by intro w; go_simp⟩) ?_
    refine wpAny_take (i := 21) (v := .int .i64 0) rfl (by kernel_rfl) (by kernel_rfl) (by kernel_rfl) (fun _ _ _ h => h) (Or.inl ⟨by rfl, by intro w; go_simp⟩) ?_
    refine wpAny_done (by kernel_rfl) ?_ _
    go_simp
    have b7' := below_trans b6 b7
    replace hb := below_trans hb b7'
    have h7 := h.below b7'
    by_cases k0 : K = 0
    · have T0 : T = 0 := by rw [HT.out, k0]; rfl
      have e1 : ((K : Int) == 0) = true := by simp [k0]
      subst T0
      clear k0
      go_wp2
      go_ret
      exact ⟨rfl, hb⟩
    · have e1 : ((K : Int) == 0) = false := by rw [beq_eq_false_iff_ne]; omega
      obtain ⟨ab, ao, e, _⟩ := h7.2 (by omega)
      obtain rfl := Option.some.inj e
      have h8 := Bls.tailR h7
      have DL : Hid ((z.drop 1).length = z.length - 1) := Lib.hid (by rw [List.length_drop])
      have F8 : fstN (z.drop 1) = K - 1 := by rw [HK.out]; exact fst_drop (by rw [← HK.out]; omega)
      have W8 := whn_mk (first := first) (most := most) (z := z.drop 1) v (by rw [DL.out]; omega) (by rw [F8, DL.out]; omega)
      have LT : wtS first most (K - 1) < T := by
        have := ws_lt v (K - 1)
        rw [HT.out]
        rwa [show K - 1 + 1 = K by omega] at this
      obtain ⟨S, hS⟩ : ∃ S, S = wtS first most (K - 1) := ⟨_, rfl⟩
      rw [F8, ← hS] at W8
      rw [← hS] at LT
      have E8 := Lib.hid W8.1
      have V8 := Lib.hid W8.2
      have y1 : ¬ c = 1 := by omega
      have y2 : (1 : Int) ≤ (z.length : Int) := by omega
      have y3 : 1 ≤ z.length := by omega
      have y4 : (1 : Int) ≤ (c : Int) := by omega
      clear W8 F8 hS k0 e
      go_wp2_with fail
      refine (when_any first most (some ⟨ab, ao + 1, none⟩) (z.drop 1) (z.length - 1) (c - 1) _ h8 DL.out.symm).mono ?_
      rintro e w8 ⟨rfl, b8⟩
      rw [E8.out, V8.out]
      replace hb := below_trans hb b8
      go_wp2
      go_ret
      exact ⟨rfl, hb⟩
  · subst q
    have p1 : m.length ≤ m.length := by omega
    have p2 : m.length ≤ m.length := by omega
    have p3 : (0 : Int) ≤ (m.length : Int) := by omega
    have PL : Hid ((m.take m.length).length = m.length) := Lib.hid (by rw [List.length_take]; omega)
    have FJ : fstN (z.take (K + 1) ++ m.take m.length) = K := by
      have := fst_take (l := z) (k := K + 1) (by rw [← HK.out]; exact hF) (by rw [← HK.out]; omega) (m.take m.length)
      rwa [← HK.out] at this
    have JL : Hid ((z.take (K + 1) ++ m.take m.length).length = K + 1 + m.length) := Lib.hid (by rw [List.length_append, L1.out, PL.out])
    have WJ : whnE first most (z.take (K + 1) ++ m.take m.length) = 0 ∧ whnV first most (z.take (K + 1) ++ m.take m.length) = T := by
      have := whn_mk (z := z.take (K + 1) ++ m.take m.length) v (by rw [JL.out]; omega) (by rw [FJ, JL.out]; omega)
      rw [FJ, ← HT.out] at this
      exact this
    have EJ := Lib.hid WJ.1
    have VJ := Lib.hid WJ.2
    have NB : Hid (B = none → m.length = 0 ∧ d = 0) := Lib.hid (fun e => ⟨by have := nB e; omega, nB e⟩)
    have hp := h'.takeR m.length
    have SRC : Hid (∀ ad, B = some ad → Bls w4 (some ad) (m.take m.length)) := Lib.hid (fun ad e => by rw [← e]; exact hp)
    have r1 : (m.length : Int) ≤ (d : Int) := by omega
    have OB : Hid (∀ u ∈ (m.take m.length).map Value.bool, u.oneCell' = true) := Lib.hid (bool_oneB _)
    have htd : Bls w4.drew (some ad) (z.take (K + 1)) := ht
    have hsz4 : w4.heap.size = w4.drew.heap.size := rfl
    have HS4 := Lib.hid hsz4
    clear WJ FJ hp hsz4
    go_wp2
    refine wp_region_any (by kernel_rfl) ?_
    change wpAny _ _ _ _ _ _ _ (World.drew _)
    refine wpAny_take (i := 0) (v := .int .i64 first) rfl (by kernel_rfl) (by kernel_rfl) (by kernel_rfl) (fun _ _ _ h => h) (Or.inl ⟨by rfl, by intro w; go_simp⟩) ?_
    refine wpAny_take (i := 1) (v := .int .i64 most) rfl (by kernel_rfl) (by kernel_rfl) (by kernel_rfl) (fun _ _ _ h => h) (Or.inl ⟨by rfl, by intro w; go_simp⟩) ?_
    refine wpAny_take (i := 2) (v := .slice (some ad) z.length c) rfl (by kernel_rfl) (by kernel_rfl) (by kernel_rfl) (fun _ _ _ h => h) (Or.inl ⟨by rfl, by intro w; go_simp⟩) ?_
    refine wpAny_take (i := 3) (v := .int .i64 (K : Int)) rfl (by kernel_rfl) (by kernel_rfl) (by kernel_rfl) (fun _ _ _ h => h) (Or.inl ⟨by rfl, by intro w; go_simp⟩) ?_
    refine wpAny_take (i := 4) (v := .int .i64 ((K : Int) + 1)) rfl (by kernel_rfl) (by kernel_rfl) (by kernel_rfl) (fun _ _ _ h => h) (Or.inl ⟨by rfl, by intro w; go_simp⟩) ?_
    refine wpAny_take (i := 5) (v := .slice (some ad) (K + 1) c) rfl (by kernel_rfl) (by kernel_rfl) (by kernel_rfl) (fun _ _ _ h => h) (Or.inl ⟨by rfl, by intro w; go_simp⟩) ?_
    refine wpAny_take (i := 7) (v := .slice B m.length d) rfl (by kernel_rfl) (by kernel_rfl) (by kernel_rfl) (fun _ _ _ h => h) (Or.inl ⟨by rfl, by intro w; go_simp⟩) ?_
    refine wpAny_take (i := 8) (v := .slice B m.length d) rfl (by kernel_rfl) (by kernel_rfl) (by kernel_rfl) (fun _ _ _ h => h) (Or.inl ⟨by rfl, by intro w; go_simp⟩) ?_
    refine wpAny_take (i := 9) (v := .int .i64 (m.length : Int)) rfl (by kernel_rfl) (by kernel_rfl) (by kernel_rfl) (fun _ _ _ h => h) (Or.inl ⟨by rfl, by intro w; go_simp⟩) ?_
    refine wpAny_take (i := 10) (v := .int .i64 (K : Int)) rfl (by kernel_rfl) (by kernel_rfl) (by kernel_rfl) (fun _ _ _ h => h) (Or.inl ⟨by rfl, by intro w; go_simp⟩) ?_
    refine wpAny_take (i := 11) (v := .int .i64 (40 - (K : Int))) rfl (by kernel_rfl) (by kernel_rfl) (by kernel_rfl) (fun _ _ _ h => h) (Or.inl ⟨by rfl, by intro w; go_simp⟩) ?_
    refine wpAny_take (i := 12) (v := .int .i64 (m.length : Int)) rfl (by kernel_rfl) (by kernel_rfl) (by kernel_rfl) (fun _ _ _ h => h) (Or.inl ⟨by rfl, by intro w; go_simp⟩) ?_
    refine wpAny_take (i := 13) (v := .int .i64 (m.length : Int)) rfl (by kernel_rfl) (by kernel_rfl) (by kernel_rfl) (fun _ _ _ h => h) (Or.inl ⟨by rfl, by intro w; go_simp; all_goals (intros; omega)⟩) ?_
    refine wpAny_take (i := 14) (v := .slice B m.length d) rfl (by kernel_rfl) (by kernel_rfl) (by kernel_rfl) (fun _ _ _ h => h) (Or.inl ⟨by rfl, by intro w; go_simp⟩) ?_
    refine wpAny_ready (rs := [6]) (by kernel_rfl) (by simp) ?_
    refine AllReady.cons rfl (fun K' hK => ?_) AllReady.nil
    go_simp
    go_wp2_with (go_at_call 33; refine (clone_bl ad (z.take (K + 1)) _ c _ htd L1.out.symm (by omega)).mono ?_; rintro e w5 ⟨A5, c5, rfl, o5, b5⟩)
    refine wpAny_ready (rs := [15]) (by kernel_rfl) (by simp) ?_
    refine AllReady.cons rfl (fun K' hK => ?_) AllReady.nil
    refine step_append_b (by rfl) _ _ _ (by rfl) w4.drew.heap.size 4 i6 (.bool false) 1 1 Try.underlying22 hi0 hz0 hz1 hz2 rfl (by decide) _ (K + 1) ((z.take (K + 1)).map Value.bool) (by rfl) o5 B m.length d ((m.take m.length).map Value.bool) (by rfl) NB.out (by rw [List.length_map, PL.out, Nat.mul_one]) (fun ad' e => ((SRC.out ad' e).below (below_trans (below_of_drewN (n := 1) rfl) b5)).cellsB) OB.out (by unfold maxLen; omega) (by omega) b5.size ?_
    intro v6 w6 o6 g6
    have b6 : Below w4.heap.size w4 w6 := (below_trans (below_of_drewN (n := 1) rfl) b5).grown g6 (by have := b5.size; exact this) (fun k hk => (o5.lt k hk).1)
    rw [← List.map_append] at o6
    obtain ⟨A6, c6, rfl⟩ := row_formB o6
    have ij : Bls w6 A6 (z.take (K + 1) ++ m.take m.length) := Bls.rowR (base := w4.drew.heap.size) (c := c6) (by rw [JL.out]; exact o6)
    refine hK _ _ ?_
    clear hK K' o5 b5 o6 g6
    refine wpAny_ready (rs := [16]) (by kernel_rfl) (by simp) ?_
    refine AllReady.cons rfl (fun K' hK => ?_) AllReady.nil
    go_simp
    go_wp2_with (go_at_call 14; refine (when_any first most A6 (z.take (K + 1) ++ m.take m.length) _ c6 _ ij JL.out.symm).mono ?_; rintro e w7 ⟨rfl, b7⟩; rw [EJ.out, VJ.out])
    refine wpAny_take (i := 17) (v := .tuple #[.int .i64 T, .int .i64 0]) rfl (by kernel_rfl) (by kernel_rfl) (by kernel_rfl) (fun _ _ _ h => h) (Or.inl ⟨by rfl, by intro w; go_simp⟩) ?_
    refine wpAny_take (i := 18) (v := .int .i64 T) rfl (by kernel_rfl) (by kernel_rfl) (by kernel_rfl) (fun _ _ _ h => h) (Or.inl ⟨by rfl, by intro w; go_simp⟩) ?_
    refine wpAny_take (i := 19) (v := .int .i64 0) rfl (by kernel_rfl) (by kernel_rfl) (by kernel_rfl) (fun _ _ _ h => h) (Or.inl ⟨by rfl, by intro w; go_simp⟩) ?_
    refine wpAny_take (i := 20) (v := .int .i64 T) rfl (by kernel_rfl) (by kernel_rfl) (by kernel_rfl) (fun _ _ _ h => h) (Or.inl ⟨by rfl, by intro w; go_simp⟩) ?_
    refine wpAny_take (i := 21) (v := .int .i64 0) rfl (by kernel_rfl) (by kernel_rfl) (by kernel_rfl) (fun _ _ _ h => h) (Or.inl ⟨by rfl, by intro w; go_simp⟩) ?_
    refine wpAny_done (by kernel_rfl) ?_ _
    go_simp
    have b7' := below_trans b6 b7
    replace hb := below_trans hb b7'
    have h7 := h.below b7'
    by_cases k0 : K = 0
    · have T0 : T = 0 := by rw [HT.out, k0]; rfl
      have e1 : ((K : Int) == 0) = true := by simp [k0]
      subst T0
      clear k0
      go_wp2
      go_ret
      exact ⟨rfl, hb⟩
    · have e1 : ((K : Int) == 0) = false := by rw [beq_eq_false_iff_ne]; omega
      obtain ⟨ab, ao, e, _⟩ := h7.2 (by omega)
      obtain rfl := Option.some.inj e
      have h8 := Bls.tailR h7
      have DL : Hid ((z.drop 1).length = z.length - 1) := Lib.hid (by rw [List.length_drop])
      have F8 : fstN (z.drop 1) = K - 1 := by rw [HK.out]; exact fst_drop (by rw [← HK.out]; omega)
      have W8 := whn_mk (first := first) (most := most) (z := z.drop 1) v (by rw [DL.out]; omega) (by rw [F8, DL.out]; omega)
      have LT : wtS first most (K - 1) < T := by
        have := ws_lt v (K - 1)
        rw [HT.out]
        rwa [show K - 1 + 1 = K by omega] at this
      obtain ⟨S, hS⟩ : ∃ S, S = wtS first most (K - 1) := ⟨_, rfl⟩
      rw [F8, ← hS] at W8
      rw [← hS] at LT
      have E8 := Lib.hid W8.1
      have V8 := Lib.hid W8.2
      have y1 : ¬ c = 1 := by omega
      have y2 : (1 : Int) ≤ (z.length : Int) := by omega
      have y3 : 1 ≤ z.length := by omega
      have y4 : (1 : Int) ≤ (c : Int) := by omega
      clear W8 F8 hS k0 e
      go_wp2_with fail
      refine (when_any first most (some ⟨ab, ao + 1, none⟩) (z.drop 1) (z.length - 1) (c - 1) _ h8 DL.out.symm).mono ?_
      rintro e w8 ⟨rfl, b8⟩
      rw [E8.out, V8.out]
      replace hb := below_trans hb b8
      go_wp2
      go_ret
      exact ⟨rfl, hb⟩
  · have qi : (Q : Int) < (m.length : Int) := by omega
    have p1 : Q ≤ m.length := by omega
    have p2 : Q ≤ Q := by omega
    have p3 : (0 : Int) ≤ (Q : Int) := by omega
    have PL : Hid ((m.take Q).length = Q) := Lib.hid (by rw [List.length_take]; omega)
    have FJ : fstN (z.take (K + 1) ++ m.take Q) = K := by
      have := fst_take (l := z) (k := K + 1) (by rw [← HK.out]; exact hF) (by rw [← HK.out]; omega) (m.take Q)
      rwa [← HK.out] at this
    have JL : Hid ((z.take (K + 1) ++ m.take Q).length = K + 1 + Q) := Lib.hid (by rw [List.length_append, L1.out, PL.out])
    have WJ : whnE first most (z.take (K + 1) ++ m.take Q) = 0 ∧ whnV first most (z.take (K + 1) ++ m.take Q) = T := by
      have := whn_mk (z := z.take (K + 1) ++ m.take Q) v (by rw [JL.out]; omega) (by rw [FJ, JL.out]; omega)
      rw [FJ, ← HT.out] at this
      exact this
    have EJ := Lib.hid WJ.1
    have VJ := Lib.hid WJ.2
    have NB : Hid (B = none → Q = 0 ∧ d = 0) := Lib.hid (fun e => ⟨by have := nB e; omega, nB e⟩)
    have hp := h'.takeR Q
    have SRC : Hid (∀ ad, B = some ad → Bls w4 (some ad) (m.take Q)) := Lib.hid (fun ad e => by rw [← e]; exact hp)
    have r1 : (Q : Int) ≤ (d : Int) := by omega
    have OB : Hid (∀ u ∈ (m.take Q).map Value.bool, u.oneCell' = true) := Lib.hid (bool_oneB _)
    have htd : Bls w4.drew (some ad) (z.take (K + 1)) := ht
    have hsz4 : w4.heap.size = w4.drew.heap.size := rfl
    have HS4 := Lib.hid hsz4
    clear WJ FJ hp hsz4
    go_wp2
    refine wp_region_any (by kernel_rfl) ?_
    change wpAny _ _ _ _ _ _ _ (World.drew _)
    refine wpAny_take (i := 0) (v := .int .i64 first) rfl (by kernel_rfl) (by kernel_rfl) (by kernel_rfl) (fun _ _ _ h => h) (Or.inl ⟨by rfl, by intro w; go_simp⟩) ?_
    refine wpAny_take (i := 1) (v := .int .i64 most) rfl (by kernel_rfl) (by kernel_rfl) (by kernel_rfl) (fun _ _ _ h => h) (Or.inl ⟨by rfl, by intro w; go_simp⟩) ?_
    refine wpAny_take (i := 2) (v := .slice (some ad) z.length c) rfl (by kernel_rfl) (by kernel_rfl) (by kernel_rfl) (fun _ _ _ h => h) (Or.inl ⟨by rfl, by intro w; go_simp⟩) ?_
    refine wpAny_take (i := 3) (v := .int .i64 (K : Int)) rfl (by kernel_rfl) (by kernel_rfl) (by kernel_rfl) (fun _ _ _ h => h) (Or.inl ⟨by rfl, by intro w; go_simp⟩) ?_
    refine wpAny_take (i := 4) (v := .int .i64 ((K : Int) + 1)) rfl (by kernel_rfl) (by kernel_rfl) (by kernel_rfl) (fun _ _ _ h => h) (Or.inl ⟨by rfl, by intro w; go_simp⟩) ?_
    refine wpAny_take (i := 5) (v := .slice (some ad) (K + 1) c) rfl (by kernel_rfl) (by kernel_rfl) (by kernel_rfl) (fun _ _ _ h => h) (Or.inl ⟨by rfl, by intro w; go_simp⟩) ?_
    refine wpAny_take (i := 7) (v := .slice B m.length d) rfl (by kernel_rfl) (by kernel_rfl) (by kernel_rfl) (fun _ _ _ h => h) (Or.inl ⟨by rfl, by intro w; go_simp⟩) ?_
    refine wpAny_take (i := 8) (v := .slice B m.length d) rfl (by kernel_rfl) (by kernel_rfl) (by kernel_rfl) (fun _ _ _ h => h) (Or.inl ⟨by rfl, by intro w; go_simp⟩) ?_
    refine wpAny_take (i := 9) (v := .int .i64 (m.length : Int)) rfl (by kernel_rfl) (by kernel_rfl) (by kernel_rfl) (fun _ _ _ h => h) (Or.inl ⟨by rfl, by intro w; go_simp⟩) ?_
    refine wpAny_take (i := 10) (v := .int .i64 (K : Int)) rfl (by kernel_rfl) (by kernel_rfl) (by kernel_rfl) (fun _ _ _ h => h) (Or.inl ⟨by rfl, by intro w; go_simp⟩) ?_
    refine wpAny_take (i := 11) (v := .int .i64 (40 - (K : Int))) rfl (by kernel_rfl) (by kernel_rfl) (by kernel_rfl) (fun _ _ _ h => h) (Or.inl ⟨by rfl, by intro w; go_simp⟩) ?_
    refine wpAny_take (i := 12) (v := .int .i64 (Q : Int)) rfl (by kernel_rfl) (by kernel_rfl) (by kernel_rfl) (fun _ _ _ h => h) (Or.inl ⟨by rfl, by intro w; go_simp⟩) ?_
    refine wpAny_take (i := 13) (v := .int .i64 (Q : Int)) rfl (by kernel_rfl) (by kernel_rfl) (by kernel_rfl) (fun _ _ _ h => h) (Or.inl ⟨by rfl, by intro w; go_simp; all_goals (intros; omega)⟩) ?_
    refine wpAny_take (i := 14) (v := .slice B Q d) rfl (by kernel_rfl) (by kernel_rfl) (by kernel_rfl) (fun _ _ _ h => h) (Or.inl ⟨by rfl, by intro w; go_simp⟩) ?_
    refine wpAny_ready (rs := [6]) (by kernel_rfl) (by simp) ?_
    refine AllReady.cons rfl (fun K' hK => ?_) AllReady.nil
    go_simp
    go_wp2_with (go_at_call 33; refine (clone_bl ad (z.take (K + 1)) _ c _ htd L1.out.symm (by omega)).mono ?_; rintro e w5 ⟨A5, c5, rfl, o5, b5⟩)
    refine wpAny_ready (rs := [15]) (by kernel_rfl) (by simp) ?_
    refine AllReady.cons rfl (fun K' hK => ?_) AllReady.nil
    refine step_append_b (by rfl) _ _ _ (by rfl) w4.drew.heap.size 4 i6 (.bool false) 1 1 Try.underlying22 hi0 hz0 hz1 hz2 rfl (by decide) _ (K + 1) ((z.take (K + 1)).map Value.bool) (by rfl) o5 B Q d ((m.take Q).map Value.bool) (by rfl) NB.out (by rw [List.length_map, PL.out, Nat.mul_one]) (fun ad' e => ((SRC.out ad' e).below (below_trans (below_of_drewN (n := 1) rfl) b5)).cellsB) OB.out (by unfold maxLen; omega) (by omega) b5.size ?_
    intro v6 w6 o6 g6
    have b6 : Below w4.heap.size w4 w6 := (below_trans (below_of_drewN (n := 1) rfl) b5).grown g6 (by have := b5.size; exact this) (fun k hk => (o5.lt k hk).1)
    rw [← List.map_append] at o6
    obtain ⟨A6, c6, rfl⟩ := row_formB o6
    have ij : Bls w6 A6 (z.take (K + 1) ++ m.take Q) := Bls.rowR (base := w4.drew.heap.size) (c := c6) (by rw [JL.out]; exact o6)
    refine hK _ _ ?_
    clear hK K' o5 b5 o6 g6
    refine wpAny_ready (rs := [16]) (by kernel_rfl) (by simp) ?_
    refine AllReady.cons rfl (fun K' hK => ?_) AllReady.nil
    go_simp
    go_wp2_with (go_at_call 14; refine (when_any first most A6 (z.take (K + 1) ++ m.take Q) _ c6 _ ij JL.out.symm).mono ?_; rintro e w7 ⟨rfl, b7⟩; rw [EJ.out, VJ.out])
    refine wpAny_take (i := 17) (v := .tuple #[.int .i64 T, .int .i64 0]) rfl (by kernel_rfl) (by kernel_rfl) (by kernel_rfl) (fun _ _ _ h => h) (Or.inl ⟨by rfl, by intro w; go_simp⟩) ?_
    refine wpAny_take (i := 18) (v := .int .i64 T) rfl (by kernel_rfl) (by kernel_rfl) (by kernel_rfl) (fun _ _ _ h => h) (Or.inl ⟨by rfl, by intro w; go_simp⟩) ?_
    refine wpAny_take (i := 19) (v := .int .i64 0) rfl (by kernel_rfl) (by kernel_rfl) (by kernel_rfl) (fun _ _ _ h => h) (Or.inl ⟨by rfl, by intro w; go_simp⟩) ?_
    refine wpAny_take (i := 20) (v := .int .i64 T) rfl (by kernel_rfl) (by kernel_rfl) (by kernel_rfl) (fun _ _ _ h => h) (Or.inl ⟨by rfl, by intro w; go_simp⟩) ?_
    refine wpAny_take (i := 21) (v := .int .i64 0) rfl (by kernel_rfl) (by kernel_rfl) (by kernel_rfl) (fun _ _ _ h => h) (Or.inl ⟨by rfl, by intro w; go_simp⟩) ?_
    refine wpAny_done (by kernel_rfl) ?_ _
    go_simp
    have b7' := below_trans b6 b7
    replace hb := below_trans hb b7'
    have h7 := h.below b7'
    by_cases k0 : K = 0
    · have T0 : T = 0 := by rw [HT.out, k0]; rfl
      have e1 : ((K : Int) == 0) = true := by simp [k0]
      subst T0
      clear k0
      go_wp2
      go_ret
      exact ⟨rfl, hb⟩
    · have e1 : ((K : Int) == 0) = false := by rw [beq_eq_false_iff_ne]; omega
      obtain ⟨ab, ao, e, _⟩ := h7.2 (by omega)
      obtain rfl := Option.some.inj e
      have h8 := Bls.tailR h7
      have DL : Hid ((z.drop 1).length = z.length - 1) := Lib.hid (by rw [List.length_drop])
      have F8 : fstN (z.drop 1) = K - 1 := by rw [HK.out]; exact fst_drop (by rw [← HK.out]; omega)
      have W8 := whn_mk (first := first) (most := most) (z := z.drop 1) v (by rw [DL.out]; omega) (by rw [F8, DL.out]; omega)
      have LT : wtS first most (K - 1) < T := by
        have := ws_lt v (K - 1)
        rw [HT.out]
        rwa [show K - 1 + 1 = K by omega] at this
      obtain ⟨S, hS⟩ : ∃ S, S = wtS first most (K - 1) := ⟨_, rfl⟩
      rw [F8, ← hS] at W8
      rw [← hS] at LT
      have E8 := Lib.hid W8.1
      have V8 := Lib.hid W8.2
      have y1 : ¬ c = 1 := by omega
      have y2 : (1 : Int) ≤ (z.length : Int) := by omega
      have y3 : 1 ≤ z.length := by omega
      have y4 : (1 : Int) ≤ (c : Int) := by omega
      clear W8 F8 hS k0 e
      go_wp2_with fail
      refine (when_any first most (some ⟨ab, ao + 1, none⟩) (z.drop 1) (z.length - 1) (c - 1) _ h8 DL.out.symm).mono ?_
      rintro e w8 ⟨rfl, b8⟩
      rw [E8.out, V8.out]
      replace hb := below_trans hb b8
      go_wp2
      go_ret
      exact ⟨rfl, hb⟩

end Go.Proofs.Ytnpdcllfdoobeaa
