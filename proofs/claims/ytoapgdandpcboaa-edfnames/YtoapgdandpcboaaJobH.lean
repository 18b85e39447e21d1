
/-
  The law EdfEasier over what package edf owes.
-/
import Derived.Test.YtoapgdandpcboaaJobG
import Derived.Test.YtoapgdandpcboaaKeepA
import Derived.StillTailTactics
import Derived.Deep.DeepCutAuto
namespace Go.Proofs.Ytoapgdandpcboaa
set_option linter.all false
open Go.RowKit Go.Shelf Go.Lib

theorem wiN (n m : Int) (h : 1 ≤ m) : ∃ k : Nat, wi n m = (k : Int) ∧ (k : Int) < m := by
  have h0 := Int.emod_nonneg (n % 18446744073709551616) (show m ≠ 0 by omega)
  have h1 := Int.emod_lt_of_pos (n % 18446744073709551616) (show 0 < m by omega)
  refine ⟨(wi n m).toNat, ?_, ?_⟩
  · unfold wi; omega
  · unfold wi; omega
theorem pcs_three : ∀ {l : List Pk} {k : Nat} (p : Pk), k < l.length → (((pcs l).set (k * 3) (.int .i64 p.at_)).set (k * 3 + 1) (.int .i64 p.size)).set (k * 3 + 2) (.int .i64 p.flow) = pcs (l.set k p)
  | [], k, p, h => by simp at h
  | q :: l, 0, p, h => by simp [pcs_cons]
  | q :: l, k + 1, p, h => by
    have ih := pcs_three (l := l) (k := k) p (by simpa using h)
    rw [pcs_cons, List.set_append_right _ _ (by simp; omega), List.set_append_right _ _ (by simp; omega), List.set_append_right _ _ (by simp; omega), List.set_cons_succ, pcs_cons, ← ih]
    simp [show (k + 1) * 3 - 3 = k * 3 by omega, show (k + 1) * 3 + 1 - 3 = k * 3 + 1 by omega, show (k + 1) * 3 + 2 - 3 = k * 3 + 2 by omega]
theorem jcs_three {l : List Jb} {k : Nat} (j : Jb) (h : k < l.length) : (((jcs l).set (k * 3) (.int .i64 j.at_)).set (k * 3 + 1) (.int .i64 j.work)).set (k * 3 + 2) (.int .i64 j.due) = jcs (l.set k j) := by
  have := pcs_three (l := l.map jp) (k := k) (jp j) (by simpa using h)
  unfold jcs
  rw [List.map_set]
  exact this
theorem jb_set {l : List Jb} {k : Nat} {j : Jb} (h : k < l.length) (i : Nat) : jb (l.set k j) i = if i = k then j else jb l i := by
  unfold jb
  by_cases c : i = k
  · subst c; simp [List.getD, h]
  · rw [if_neg c]; simp [List.getD, List.getElem?_set_ne (fun e : k = i => c e.symm)]
theorem clone_job (A : Option Addr) (l : List Jb) (n c : Nat) (w : World) (h : Jbs w A l) (hp : 0 < n) (h12 : n ≤ 12) (hn : n = l.length) :
    Calls Try.prog 21 #[.slice A n c] w fun e w' => ∃ g d, e = .returned (.slice (some ⟨g, 0, none⟩) n d) ∧ w'.ownsRow w.heap.size 31 3 (.slice (some ⟨g, 0, none⟩) n d) n (jcs l) ∧ Below w.heap.size w w' := by
  have := clone_jp A (l.map jp) c w h (by simp; omega) (by simp; omega)
  rw [List.length_map, ← hn] at this
  refine this.mono ?_
  rintro e w' ⟨B, d, rfl, o, b⟩
  rw [List.length_map, ← hn] at o
  rcases o.2 with ⟨_, h0⟩ | ⟨g, cap, cur, hv, _⟩
  · omega
  · injection hv with e1 _ e3
    subst e1 e3
    exact ⟨g, d, by rw [List.length_map, ← hn], o, b⟩
theorem delete_job (g base i n cap : Nat) (l : List Jb) (w : World) (hl : l.length = n) (hi : i < n) (h12 : n ≤ 12) (own : w.ownsRow base 31 3 (.slice (some ⟨g, 0, none⟩) n cap) n (jcs l)) :
    Calls Try.prog 22 #[.slice (some ⟨g, 0, none⟩) n cap, .int .i64 i, .int .i64 ((i : Int) + 1)] w fun e w' =>
      e = .returned (.slice (some ⟨g, 0, none⟩) (n - 1 : Nat) cap) ∧ Jbs w' (some ⟨g, 0, none⟩) (l.eraseIdx i) ∧ Below base w w' := by
  obtain ⟨m, rfl⟩ : ∃ m, n = i + m + 1 := ⟨n - i - 1, by omega⟩
  refine (delete_jp g base i m cap (l.map jp) w (by simpa using hl) (by simp; omega) own).mono ?_
  rintro e w' ⟨rfl, p, b⟩
  refine ⟨rfl, ?_, b⟩
  unfold Jbs
  have e : ∀ (x : List Jb) (k : Nat), (x.map jp).eraseIdx k = (x.eraseIdx k).map jp := fun x => by
    induction x with
    | nil => intro k; simp
    | cons a x ih => intro k; cases k with
      | zero => simp
      | succ k => simp [ih k]
  rwa [e] at p
theorem jobsB_set {l : List Jb} (v : JobsB l) {k : Nat} (hk : k < l.length) {j : Jb} (a0 : 0 ≤ j.at_) (ad : j.at_ < j.due) (d1 : j.due ≤ 200) (w0 : 1 ≤ j.work) (w1 : j.work ≤ 200) : JobsB (l.set k j) := by
  have key : ∀ (P : Jb → Prop), P j → (∀ i, i < l.length → P (jb l i)) → ∀ i, i < (l.set k j).length → P (jb (l.set k j) i) := fun P pj pl i hi => by
    rw [List.length_set] at hi
    rw [jb_set hk]
    by_cases c : i = k
    · rw [if_pos c]; exact pj
    · rw [if_neg c]; exact pl i hi
  exact ⟨⟨key (fun x => 0 ≤ x.at_) a0 v.a0, key (fun x => x.at_ < x.due) ad v.ad, key (fun x => 1 ≤ x.work) w0 v.w0⟩, by rw [List.length_set]; exact v.le, key (fun x => x.due ≤ 200) d1 v.d1, key (fun x => x.work ≤ 200) w1 v.w1⟩
theorem jobsB_erase {l : List Jb} (v : JobsB l) {k : Nat} (hk : k < l.length) : JobsB (l.eraseIdx k) := by
  have hl : (l.eraseIdx k).length = l.length - 1 := by rw [List.length_eraseIdx, if_pos hk]
  have key : ∀ (P : Jb → Prop), (∀ i, i < l.length → P (jb l i)) → ∀ i, i < (l.eraseIdx k).length → P (jb (l.eraseIdx k) i) := fun P pl i hi => by
    rw [hl] at hi
    rw [jb_erase]
    split
    · exact pl i (by omega)
    · exact pl (i + 1) (by omega)
  exact ⟨⟨key (fun x => 0 ≤ x.at_) v.a0, key (fun x => x.at_ < x.due) v.ad, key (fun x => 1 ≤ x.work) v.w0⟩, by have := v.le; omega, key (fun x => x.due ≤ 200) v.d1, key (fun x => x.work ≤ 200) v.w1⟩
abbrev je1 : List Jb := [⟨0, 2, 1⟩]
abbrev je2 : List Jb := [⟨0, 1, 1⟩]
theorem je1_not : demB je1 = false := demB_not 0 1 (by omega) (by decide)
theorem je2_fit : demB je2 = true := demB_of (by decide) (by decide)

set_option maxRecDepth 100000 in
set_option maxHeartbeats 6400000 in
theorem v_EdfEasier (E : EdfC) (a0 : Option Addr) (c0 : Nat) (l0 : List Jb) (ni nw na nd : Int) (w : World) (h0 : Jbs w a0 l0) (_k0 : l0.length ≤ c0) :
    Calls Try.prog 8 #[.slice a0 l0.length c0, .int .i64 ni, .int .i64 nw, .int .i64 na, .int .i64 nd] w fun e w' => e = .returned (.bool true) ∧ Below w.heap.size w w' := by
  have hb : Below w.heap.size w w := Below.refl _ _
  have hl := h0.le
  go_enter Try.func8, Try.ntmps8
  go_wp2_with fail
  refine (fits_at E _ je1 false _ _ _ (by exact Jbs.lit _ je1 _ _ rfl (by decide)) (by decide) (Lib.hid je1_not) rfl).mono ?_
  rintro e w1 ⟨rfl, b1⟩
  replace b1 := below_of1 b1
  replace h0 := h0.below b1
  replace hb := below_trans hb b1
  clear b1
  go_wp2_with fail
  refine (fits_at E _ je2 true _ _ _ (by exact Jbs.lit _ je2 _ _ rfl (by decide)) (by decide) (Lib.hid je2_fit) rfl).mono ?_
  rintro e w2 ⟨rfl, b1⟩
  replace b1 := below_of1 b1
  replace h0 := h0.below b1
  replace hb := below_trans hb b1
  clear b1
  by_cases hE : jbsE l0 = 0
  · have v := jbs_iff.1 hE
    have hle := v.le
    by_cases hd : Dem l0
    · go_wp2_with fail
      refine (fits_at E a0 l0 true _ c0 _ h0 hE (Lib.hid (demB_true hd)) rfl).mono ?_
      rintro e w3 ⟨rfl, b3⟩
      replace h0 := h0.below b3
      replace hb := below_trans hb b3
      clear b3 hE
      by_cases hn0 : l0.length = 0
      · have e1 : ((l0.length : Int) == 0) = true := by rw [hn0]; rfl
        clear hn0
        go_wp2
        go_ret
        exact ⟨rfl, hb⟩
      · have e1 : ((l0.length : Int) == 0) = false := by rw [beq_eq_false_iff_ne]; omega
        obtain ⟨I, hI, I1⟩ := wiN ni (l0.length : Int) (by omega)
        have HI := Lib.hid hI
        have Il : I < l0.length := by omega
        have np : 0 < l0.length := by omega
        clear hI hn0
        go_wp2_with fail
        refine (within_any ni (l0.length : Int) _ (by omega) (by omega)).mono ?_
        rintro e w' ⟨rfl, rfl⟩
        rw [HI.out]
        go_wp2_with fail
        refine (clone_job a0 l0 _ c0 _ h0 np hle rfl).mono ?_
        rintro e w4 ⟨g, d4, rfl, o4, b4⟩
        have h04 := h0.below b4
        obtain ⟨bb, off, q, hA', hbl, p0, p1, p2, HJ⟩ := h04.get Il
        subst hA'
        have hq := jb_of HJ.out
        have va := v.a0 I Il
        have vd := v.ad I Il
        have vd1 := v.d1 I Il
        have vw := v.w0 I Il
        have vw1 := v.w1 I Il
        rw [hq] at va vd vd1 vw vw1
        obtain ⟨A3, hA3, A31⟩ := wiN na (q.at_ + 1) (by omega)
        obtain ⟨B3, hB3, B31⟩ := wiN nw q.work (by omega)
        obtain ⟨C3, hC3, C31⟩ := wiN nd 50 (by omega)
        have HA3 := Lib.hid hA3
        have HB3 := Lib.hid hB3
        have HC3 := Lib.hid hC3
        obtain ⟨X, hX⟩ : ∃ X : Int, X = min 200 (q.due + C3) := ⟨_, rfl⟩
        have hXb : q.due ≤ X ∧ X ≤ 200 := by omega
        have HX := Lib.hid hX
        have j' : JobsB (l0.set I ⟨q.at_ - A3, q.work - B3, X⟩) := jobsB_set v Il (by simp only; omega) (by simp only; omega) (by simp only; omega) (by simp only; omega) (by simp only; omega)
        have hde : Dem (l0.set I ⟨q.at_ - A3, q.work - B3, X⟩) := by
          refine dem_easier (l := l0) (by simp) (fun i hi => by have := v.w0 i hi; omega) (fun i hi => ?_) hd
          rw [jb_set Il]
          by_cases c : i = I
          · subst c; rw [if_pos rfl, hq]; simp only; omega
          · rw [if_neg c]; omega
        have j'' := jobsB_erase v Il
        have hde2 := dem_erase (fun i hi => by have := v.w0 i hi; omega) Il hd
        have gl := (o4.lt g rfl).2
        have glo := (o4.lt g rfl).1
        obtain ⟨W, hW⟩ : ∃ W, W = (((w4.setCell ⟨g, I * 3, none⟩ (.int .i64 (q.at_ - A3))).setCell ⟨g, I * 3 + 1, none⟩ (.int .i64 (q.work - B3))).setCell ⟨g, I * 3 + 2, none⟩ (.int .i64 X)).drew := ⟨_, rfl⟩
        have s1 := (o4.stored (I * 3) (.int .i64 (q.at_ - A3))).1
        have s2 := (s1.stored (I * 3 + 1) (.int .i64 (q.work - B3))).1
        have s3 := (s2.stored (I * 3 + 2) (.int .i64 X)).1
        rw [jcs_three (l := l0) (k := I) ⟨q.at_ - A3, q.work - B3, X⟩ Il] at s3
        have oW : W.ownsRow w3.heap.size 31 3 (.slice (some ⟨g, 0, none⟩) l0.length d4) l0.length (jcs (l0.set I ⟨q.at_ - A3, q.work - B3, X⟩)) := by rw [hW]; exact s3
        have bW : Below w3.heap.size w3 W := by rw [hW]; exact (((b4.setCell (p := ⟨g, I * 3, none⟩) glo _).setCell (p := ⟨g, I * 3 + 1, none⟩) glo _).setCell (p := ⟨g, I * 3 + 2, none⟩) glo _).drew
        have jW : Jbs W (some ⟨g, 0, none⟩) (l0.set I ⟨q.at_ - A3, q.work - B3, X⟩) := by
          have := oW
          refine Jbs.of_row (base := w3.heap.size) (t := 31) (c := d4) ?_
          rw [List.length_set]; exact this
        have cg : ∀ k, k < 3 → ∃ u, w4.cell? ⟨g, I * 3 + k, none⟩ = some u := fun k hk => ⟨_, (o4.cellAt _ (by omega)).trans (List.getElem?_eq_getElem (by rw [length_jcs]; omega))⟩
        obtain ⟨u0, g0⟩ := cg 0 (by omega)
        obtain ⟨u1, g1⟩ := cg 1 (by omega)
        obtain ⟨u2, g2⟩ := cg 2 (by omega)
        rw [Nat.add_zero] at g0
        have f0 := o4.frozenAt (I * 3)
        have f1 := o4.frozenAt (I * 3 + 1)
        have f2 := o4.frozenAt (I * 3 + 2)
        have st0 : ∀ a, (w4.setCell ⟨g, I * 3, none⟩ a).cell? ⟨g, I * 3, none⟩ = some a := fun a => by
          rw [(o4.stored (I * 3) a).1.cellAt _ (by omega), List.getElem?_set_self (by rw [length_jcs]; omega)]
        have HW := Lib.hid hW
        have i5 : (I : Int) < (l0.length : Int) := by omega
        have hcA : Hid (∀ W0 : World, Calls Try.prog 20 #[.int .i64 na, .int .i64 (q.at_ + 1)] W0 fun e w' => e = .returned (.int .i64 A3) ∧ w' = W0) := Lib.hid (fun W0 => (within_any na (q.at_ + 1) W0 (by omega) (by omega)).mono (by rintro e w' ⟨rfl, rfl⟩; exact ⟨by rw [HA3.out], rfl⟩))
        have hcB : Hid (∀ W0 : World, Calls Try.prog 20 #[.int .i64 nw, .int .i64 q.work] W0 fun e w' => e = .returned (.int .i64 B3) ∧ w' = W0) := Lib.hid (fun W0 => (within_any nw q.work W0 (by omega) (by omega)).mono (by rintro e w' ⟨rfl, rfl⟩; exact ⟨by rw [HB3.out], rfl⟩))
        have hcC : Hid (∀ W0 : World, Calls Try.prog 20 #[.int .i64 nd, .int .i64 50] W0 fun e w' => e = .returned (.int .i64 C3) ∧ w' = W0) := Lib.hid (fun W0 => (within_any nd 50 W0 (by omega) (by omega)).mono (by rintro e w' ⟨rfl, rfl⟩; exact ⟨by rw [HC3.out], rfl⟩))
        clear s1 s2 s3 hW hA3 hB3 hC3 hX cg hq o4 b4
        go_upto_region 12 with fail
        go_cut [] (fun wx => wx = W)
        case first =>
          have hXX := HX.out
          have m1 : IntKind.i64.wrap (q.at_ + 1) = q.at_ + 1 := IntWalk.i64_in _ ⟨by omega, by omega⟩
          have m2 : IntKind.i64.wrap (q.at_ - (A3 : Int)) = q.at_ - A3 := IntWalk.i64_in _ ⟨by omega, by omega⟩
          have m3 : IntKind.i64.wrap (q.work - (B3 : Int)) = q.work - B3 := IntWalk.i64_in _ ⟨by omega, by omega⟩
          have m4 : IntKind.i64.wrap (q.due + (C3 : Int)) = q.due + C3 := IntWalk.i64_in _ ⟨by omega, by omega⟩
          have HXX := Lib.hid hXX
          clear hXX
          rcases Int.lt_trichotomy 200 (q.due + C3) with c | c | c
          all_goals
            go_still_tail 40, (by kernel_rfl)
            still_call (hcA.out _)
            repeat still_step
            still_call (hcB.out _)
            repeat still_step
            still_call (hcC.out _)
            repeat still_step
            refine wpStill_nil ?_
            change wpList _ _ _ _ _ w4.drew
            go_wp2_with fail
            go_meet
            rw [HW.out]
            clear m1 m2 m3 m4
            have hXX := HXX.out
            first
              | (have e : X = 200 := by omega
                 rw [e]
                 done)
              | (have e : X = q.due + C3 := by omega
                 rw [e]
                 done)
        case rest =>
        subst hcut
        clear HW hcA hcB hcC g0 g1 g2 f0 f1 f2 st0 p0 p1 p2 h04
        replace h0 := h0.below bW
        replace hb := below_trans hb bW
        go_wp2_with fail
        refine (fits_at E _ (l0.set I ⟨q.at_ - A3, q.work - B3, X⟩) true _ d4 _ jW (jbs_iff.2 j') (Lib.hid (demB_true hde)) (by simp)).mono ?_
        rintro e w5 ⟨rfl, b5⟩
        replace h0 := h0.below b5
        replace hb := below_trans hb b5
        clear b5 bW oW jW
        go_wp2_with fail
        refine (clone_job _ l0 _ c0 _ h0 np hle rfl).mono ?_
        rintro e w6 ⟨g6, d6, rfl, o6, b6⟩
        have h06 := h0.below b6
        go_wp2_with fail
        refine (delete_job g6 w5.heap.size I l0.length d6 l0 _ rfl Il hle o6).mono ?_
        rintro e w7 ⟨rfl, j7, b7⟩
        replace hb := below_trans hb (b6.trans b7)
        clear b6 o6 b7
        go_wp2_with fail
        refine (fits_at E _ (l0.eraseIdx I) true _ d6 _ j7 (jbs_iff.2 j'') (Lib.hid (demB_true hde2)) (by rw [List.length_eraseIdx, if_pos Il])).mono ?_
        rintro e w8 ⟨rfl, b8⟩
        replace hb := below_trans hb b8
        clear b8
        go_wp2
        go_ret
        exact ⟨rfl, hb⟩
    · go_wp2_with fail
      refine (fits_at E a0 l0 false _ c0 _ h0 hE (Lib.hid (demB_false hd)) rfl).mono ?_
      rintro e w3 ⟨rfl, b3⟩
      replace h0 := h0.below b3
      replace hb := below_trans hb b3
      clear b3
      go_wp2
      go_ret
      exact ⟨rfl, hb⟩
  · have e1 : (jbsE l0 != 0) = true := by simp [hE]
    go_wp2_with fail
    refine (E.fits_no a0 l0 c0 _ h0 hE).mono ?_
    rintro e w3 ⟨rfl, b3⟩
    replace h0 := h0.below b3
    replace hb := below_trans hb b3
    clear b3
    go_wp2
    go_ret
    exact ⟨rfl, hb⟩

end Go.Proofs.Ytoapgdandpcboaa
