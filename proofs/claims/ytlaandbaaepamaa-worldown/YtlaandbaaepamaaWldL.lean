
/-
  Walks over what package world owes: headkeep's lags and act.
-/
import Derived.Test.YtlaandbaaepamaaWldT
namespace Go.Proofs.Ytlaandbaaepamaa
set_option linter.all false
open Go.RowKit Go.Shelf Go.Lib

variable {Rep : World → Value → (Nat → Prop) → WSt → Prop}
theorem needs_bd {s : WSt} (h : StOk s) : ∀ j, j ≤ s.d.l.length → 0 ≤ needs s.d.l j ∧ needs s.d.l j ≤ (j : Int) * 1000000
  | 0, _ => by simp [needs]
  | j + 1, hj => by
    have ih := needs_bd h j (by omega)
    have k1 := (h.ok.ok j (by omega)).need.1
    have k2 := h.lag j (by omega)
    have k3 := (h.ok.ok j (by omega)).part0
    rw [needs]
    unfold Per.need at k1 ⊢
    omega
set_option maxHeartbeats 1600000 in
theorem lags_any (K : WldC Rep) (w wr : World) (p : Value) (s : WSt) (h : Own1 Rep w wr p s) : Calls Try.prog 21 #[p] wr fun e w' => e = .returned (.int .i64 s.d.sum) ∧ Own1 Rep w w' p s := by
  have ho := h.ok K
  obtain ⟨N, hN⟩ : ∃ N, s.d.l.length = N := ⟨_, rfl⟩
  have hN8 : N ≤ 8 := by have := ho.n1; omega
  have HN := Lib.hid hN
  have HB : Hid (∀ j, j ≤ N → 0 ≤ needs s.d.l j ∧ needs s.d.l j ≤ 8000000) := Lib.hid (fun j hj => by have := needs_bd ho j (by omega); omega)
  have HS : Hid (s.d.sum = needs s.d.l N) := Lib.hid (by rw [Wd.sum, hN])
  clear hN ho
  go_enter Try.func21, Try.ntmps21
  go_wp2_with fail
  refine (K.peers1 N w _ _ _ h HN.out).mono ?_
  rintro e w6 ⟨B, c, rfl, hP, b6, O6⟩
  clear h b6
  go_wp2
  go_loopw [3, 9] (fun o i wi => ∃ j : Nat, j ≤ N ∧ i = .int .i64 j ∧ o = .int .i64 (needs s.d.l j) ∧ Below w6.heap.size w6 wi) (fun _ i _ => N - (intOf i).toNat)
  case atStart => exact ⟨0, Nat.zero_le _, rfl, rfl, Below.refl _ _⟩
  case round =>
    obtain ⟨j, hj, rfl, rfl, hbel⟩ := hrel
    obtain ⟨m, hm⟩ : ∃ m, m = needs s.d.l j := ⟨_, rfl⟩
    have mb := HB.out j hj
    rw [← hm] at mb
    rw [← hm]
    obtain ⟨m0, m1⟩ := mb
    by_cases hlt : j < N
    · obtain ⟨bb, off, rfl, hbl, g0, g1, g2⟩ := (hP.below hbel).get (k := j) (by rw [HN.out]; exact hlt)
      have mb2 := HB.out (j + 1) hlt
      have hq : needs s.d.l (j + 1) = m + ((pr s.d.l j).lag - (pr s.d.l j).part) := by rw [needs, ← hm]; rfl
      rw [hq] at mb2
      obtain ⟨x, hx⟩ : ∃ x, x = (pr s.d.l j).lag := ⟨_, rfl⟩
      obtain ⟨y, hy⟩ : ∃ y, y = (pr s.d.l j).part := ⟨_, rfl⟩
      obtain ⟨z, hz⟩ : ∃ z, z = (pr s.d.l j).done := ⟨_, rfl⟩
      rw [← hx] at g0 hq mb2
      rw [← hy] at g1 hq mb2
      rw [← hz] at g2
      have HQ := Lib.hid hq
      have i1 : (j : Int) < (N : Int) := by omega
      have s1 : IntKind.i64.wrap (x - y) = x - y := IntWalk.i64_in _ ⟨by omega, by omega⟩
      have s2 : IntKind.i64.wrap (m + (x - y)) = m + (x - y) := IntWalk.i64_in _ ⟨by omega, by omega⟩
      have hb2 := hbel.alloc hbel.size (.cells #[.int .i64 x, .int .i64 y, .bool z] 34)
      clear hx hy hz hq hm
      go_wp2
      go_roundw
      case rel => exact ⟨j + 1, by omega, by go_num, by rw [HQ.out], hb2⟩
      case measure => simp [intOf]; omega
    · obtain rfl : j = N := by omega
      have HM : Hid (s.d.sum = m) := Lib.hid (by rw [HS.out, hm])
      clear hm
      go_wp2
      go_ret
      exact ⟨ret_int HM.out.symm, O6.keep K hbel⟩

def kV (l : List Int) : Int := if 1 < l.length then gt l 1 else 0
/-- What a word of a script does, and what a crash loses. -/
def ActIs (n : Nat) (l : List Int) (s s' : WSt) (v : Int) : Prop :=
  (l.length = 0 ∧ s' = s ∧ v = 0) ∨
  (0 < l.length ∧ wi (gt l 0) 3 = 0 ∧ s' = apW (wi (kV l) 100) s ∧ v = 0) ∨
  (0 < l.length ∧ wi (gt l 0) 3 = 1 ∧ v = 0 ∧ ∃ t m, Tick s.unit s.rate s.d t m ∧ s' = tickW t s) ∨
  (0 < l.length ∧ wi (gt l 0) 3 = 2 ∧ ∃ i : Nat, wi (kV l) n = i ∧ s' = crashW i s ∧ v = (pr s.d.l i).part)
theorem ActIs.same {n : Nat} {l : List Int} {s s' : WSt} {v : Int} (h : ActIs n l s s' v) (ok : StOk s) : Same s s' := by
  rcases h with ⟨_, rfl, _⟩ | ⟨_, _, rfl, _⟩ | ⟨_, _, _, t, m, ht, rfl⟩ | ⟨_, _, i, _, rfl, _⟩
  · exact ⟨rfl, rfl, rfl⟩
  · exact ap_same _ _
  · exact tick_same ok ht
  · exact crash_same _ _
theorem crash_sum {i : Nat} {s : WSt} (h : StOk s) (hi : i < s.d.l.length) : (crashW i s).d.sum = s.d.sum + (pr s.d.l i).part := by
  have hl : (crashW i s).d.l.length = s.d.l.length := by simp [crashW]
  rw [Wd.sum, Wd.sum, hl, needs_one (m := s.d.l) (k := i) s.d.l.length (fun j hj ne => by simp only [crashW]; rw [pr_other (Ne.symm ne)]) hi]
  simp only [crashW]
  rw [pr_set hi, (crash_ok h.u0 (h.ok.ok i hi)).2]
  omega
set_option maxRecDepth 100000 in
set_option maxHeartbeats 1600000 in
theorem act_any (K : WldC Rep) (N : Nat) (A : Option Addr) (c : Nat) (l : List Int) (w wr : World) (p : Value) (s : WSt) (h : Own1 Rep w wr p s) (hl : Ints wr A l) (hN : s.d.l.length = N) :
    Calls Try.prog 22 #[p, .int .i64 N, .slice A l.length c] wr fun e w' => ∃ s' v, ActIs N l s s' v ∧ e = .returned (.int .i64 v) ∧ Own1 Rep w w' p s' := by
  have ho := h.ok K
  have hN1 : 1 ≤ N := by have := ho.n0; omega
  have hN8 : N ≤ 8 := by have := ho.n1; omega
  have HN := Lib.hid hN
  have hll := hl.1
  clear hN ho
  by_cases hp : l.length = 0
  · have HA : Hid (ActIs N l s s 0) := Lib.hid (.inl ⟨hp, rfl, rfl⟩)
    have e1 : ((l.length : Int) == 0) = true := by rw [hp]; rfl
    have e2 : (l.length : Int) = 0 := by omega
    have O := h
    clear hp
    go_enter Try.func22, Try.ntmps22
    go_wp2
    go_ret
    exact ⟨_, _, HA.out, rfl, O⟩
  · replace hp : 0 < l.length := by omega
    have e1 : ((l.length : Int) == 0) = false := by rw [beq_eq_false_iff_ne]; omega
    have hi0 : (0 : Int) < (l.length : Int) := by omega
    obtain ⟨b0, o0, x, rfl, hc0, HX⟩ := hl.at_ (k := 0) hp
    have hg0 := gt_of_get HX.out
    have hw : wi x 3 = 0 ∨ wi x 3 = 1 ∨ wi x 3 = 2 := by
      have := wi_nonneg x 3 (by omega); have := wi_lt x 3 (by omega); omega
    simp only [Nat.add_zero] at hc0
    by_cases h1 : 1 < l.length
    · have hi1 : (1 : Int) < (l.length : Int) := by omega
      obtain ⟨b1, o1, y, e2, hc1, HY⟩ := hl.at_ (k := 1) h1
      obtain ⟨rfl, rfl⟩ : b1 = b0 ∧ o1 = o0 := by injection e2 with e1; injection e1 with e1 e2; exact ⟨e1.symm, e2.symm⟩
      clear e2
      have HK : Hid (kV l = y) := Lib.hid (by rw [kV, if_pos h1]; exact gt_of_get HY.out)
      clear h1
      go_enter Try.func22, Try.ntmps22
      rcases hw with q | q | q
      · have HA : Hid (ActIs N l s (apW (wi (kV l) 100) s) 0) := Lib.hid (.inr (.inl ⟨hp, by rw [hg0]; exact q, rfl, rfl⟩))
        have HQ := Lib.hid q
        clear q hg0
        go_wp2_with fail
        refine (within_any x 3 _ (by omega) (by omega)).mono ?_
        rintro e w5 ⟨rfl, rfl⟩
        rw [HQ.out]
        go_wp2_with fail
        rw [← HK.out]
        refine (within_any (kV l) 100 _ (by omega) (by omega)).mono ?_
        rintro e w5 ⟨rfl, rfl⟩
        go_wp2_with fail
        refine (K.append1 (wi (kV l) 100) (apE (wi (kV l) 100) s) w _ _ _ h (Lib.hid rfl)).mono ?_
        rintro e w6 ⟨rfl, O⟩
        go_wp2
        go_ret
        exact ⟨_, _, HA.out, rfl, O⟩
      · obtain ⟨t, m, ht⟩ := ex_tick (h.ok K)
        have HA : Hid (ActIs N l s (tickW t s) 0) := Lib.hid (.inr (.inr (.inl ⟨hp, by rw [hg0]; exact q, rfl, t, m, ht, rfl⟩)))
        have HQ := Lib.hid q
        have HT := Lib.hid ht
        clear q hg0 ht
        go_wp2_with fail
        refine (within_any x 3 _ (by omega) (by omega)).mono ?_
        rintro e w5 ⟨rfl, rfl⟩
        rw [HQ.out]
        go_wp2_with fail
        refine (K.tick1 w _ _ _ t m h HT.out).mono ?_
        rintro e w6 ⟨rfl, O⟩
        go_wp2
        go_ret
        exact ⟨_, _, HA.out, rfl, O⟩
      · obtain ⟨i, hi⟩ := Int.eq_ofNat_of_zero_le (wi_nonneg (kV l) (N : Int) (by omega))
        have hiN : i < N := by have := wi_lt (kV l) (N : Int) (by omega); omega
        have HA : Hid (ActIs N l s (crashW i s) (pr s.d.l i).part) := Lib.hid (.inr (.inr (.inr ⟨hp, by rw [hg0]; exact q, i, hi, rfl, rfl⟩)))
        have HQ := Lib.hid q
        have HI := Lib.hid hi
        have i1 : (i : Int) < (N : Int) := by omega
        clear q hg0 hi
        go_wp2_with fail
        refine (within_any x 3 _ (by omega) (by omega)).mono ?_
        rintro e w5 ⟨rfl, rfl⟩
        rw [HQ.out]
        go_wp2_with fail
        rw [← HK.out]
        refine (within_n (kV l) (N : Int) i _ (by omega) (by omega) HI).mono ?_
        rintro e w5 ⟨rfl, rfl⟩
        go_wp2_with fail
        refine (K.peers1 N w _ _ _ h HN.out).mono ?_
        rintro e w6 ⟨B, cB, rfl, hP, b6, O6⟩
        obtain ⟨bb, off, rfl, hbl, g0, g1, g2⟩ := hP.get (k := i) (by rw [HN.out]; exact hiN)
        go_wp2_with fail
        refine (K.crash1 i w _ _ _ O6 (by rw [HN.out]; exact hiN)).mono ?_
        rintro e w7 ⟨rfl, O⟩
        go_wp2
        go_ret
        exact ⟨_, _, HA.out, rfl, O⟩
    · have hi1 : ¬ (1 : Int) < (l.length : Int) := by omega
      have HK : Hid (kV l = 0) := Lib.hid (by rw [kV, if_neg h1])
      clear h1
      go_enter Try.func22, Try.ntmps22
      rcases hw with q | q | q
      · have HA : Hid (ActIs N l s (apW (wi (kV l) 100) s) 0) := Lib.hid (.inr (.inl ⟨hp, by rw [hg0]; exact q, rfl, rfl⟩))
        have HQ := Lib.hid q
        clear q hg0
        go_wp2_with fail
        refine (within_any x 3 _ (by omega) (by omega)).mono ?_
        rintro e w5 ⟨rfl, rfl⟩
        rw [HQ.out]
        go_wp2_with fail
        rw [← HK.out]
        refine (within_any (kV l) 100 _ (by omega) (by omega)).mono ?_
        rintro e w5 ⟨rfl, rfl⟩
        go_wp2_with fail
        refine (K.append1 (wi (kV l) 100) (apE (wi (kV l) 100) s) w _ _ _ h (Lib.hid rfl)).mono ?_
        rintro e w6 ⟨rfl, O⟩
        go_wp2
        go_ret
        exact ⟨_, _, HA.out, rfl, O⟩
      · obtain ⟨t, m, ht⟩ := ex_tick (h.ok K)
        have HA : Hid (ActIs N l s (tickW t s) 0) := Lib.hid (.inr (.inr (.inl ⟨hp, by rw [hg0]; exact q, rfl, t, m, ht, rfl⟩)))
        have HQ := Lib.hid q
        have HT := Lib.hid ht
        clear q hg0 ht
        go_wp2_with fail
        refine (within_any x 3 _ (by omega) (by omega)).mono ?_
        rintro e w5 ⟨rfl, rfl⟩
        rw [HQ.out]
        go_wp2_with fail
        refine (K.tick1 w _ _ _ t m h HT.out).mono ?_
        rintro e w6 ⟨rfl, O⟩
        go_wp2
        go_ret
        exact ⟨_, _, HA.out, rfl, O⟩
      · obtain ⟨i, hi⟩ := Int.eq_ofNat_of_zero_le (wi_nonneg (kV l) (N : Int) (by omega))
        have hiN : i < N := by have := wi_lt (kV l) (N : Int) (by omega); omega
        have HA : Hid (ActIs N l s (crashW i s) (pr s.d.l i).part) := Lib.hid (.inr (.inr (.inr ⟨hp, by rw [hg0]; exact q, i, hi, rfl, rfl⟩)))
        have HQ := Lib.hid q
        have HI := Lib.hid hi
        have i1 : (i : Int) < (N : Int) := by omega
        clear q hg0 hi
        go_wp2_with fail
        refine (within_any x 3 _ (by omega) (by omega)).mono ?_
        rintro e w5 ⟨rfl, rfl⟩
        rw [HQ.out]
        go_wp2_with fail
        rw [← HK.out]
        refine (within_n (kV l) (N : Int) i _ (by omega) (by omega) HI).mono ?_
        rintro e w5 ⟨rfl, rfl⟩
        go_wp2_with fail
        refine (K.peers1 N w _ _ _ h HN.out).mono ?_
        rintro e w6 ⟨B, cB, rfl, hP, b6, O6⟩
        obtain ⟨bb, off, rfl, hbl, g0, g1, g2⟩ := hP.get (k := i) (by rw [HN.out]; exact hiN)
        go_wp2_with fail
        refine (K.crash1 i w _ _ _ O6 (by rw [HN.out]; exact hiN)).mono ?_
        rintro e w7 ⟨rfl, O⟩
        go_wp2
        go_ret
        exact ⟨_, _, HA.out, rfl, O⟩

theorem act_at (K : WldC Rep) (k : Int) (N : Nat) (A : Option Addr) (n c : Nat) (l : List Int) (w wr : World) (p : Value) (s : WSt) (h : Own1 Rep w wr p s) (hl : Ints wr A l) (hN : s.d.l.length = N) (hk : k = N) (hn : n = l.length) :
    Calls Try.prog 22 #[p, .int .i64 k, .slice A n c] wr fun e w' => ∃ s' v, ActIs N l s s' v ∧ e = .returned (.int .i64 v) ∧ Own1 Rep w w' p s' := by
  subst hk hn
  exact act_any K N A c l w wr p s h hl hN

end Go.Proofs.Ytlaandbaaepamaa
