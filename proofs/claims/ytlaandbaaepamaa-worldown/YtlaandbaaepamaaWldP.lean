
/-
  The walk of the law WorldOwn over what package world owes.
-/
import Derived.Test.YtlaandbaaepamaaWldN
namespace Go.Proofs.Ytlaandbaaepamaa
set_option linter.all false
open Go.RowKit Go.Shelf Go.Lib

variable {Rep : World → Value → (Nat → Prop) → WSt → Prop}
set_option maxRecDepth 100000 in
set_option maxHeartbeats 3200000 in
theorem v_WorldOwn (K : WldC Rep) (n1 n2 n3 : Int) (a3 : Option Addr) (c3 : Nat) (l3 : List Lw) (w : World) (_1 : (Lit.int .i64 n1).wf = true) (_2 : (Lit.int .i64 n2).wf = true) (_3 : (Lit.int .i64 n3).wf = true) (h3 : Lls w a3 l3) (k3 : l3.length ≤ c3) :
    Calls Try.prog 8 #[.int .i64 n1, .int .i64 n2, .int .i64 n3, .slice a3 l3.length c3] w fun e w' => e = .returned (.bool true) ∧ Below w.heap.size w w' := by
  clear _1 _2 _3
  have h3l := h3.1
  obtain ⟨A, hA⟩ := Int.eq_ofNat_of_zero_le (wi_nonneg n1 8 (by omega))
  have hA8 : A < 8 := by have := wi_lt n1 8 (by omega); omega
  obtain ⟨R, hR⟩ := Int.eq_ofNat_of_zero_le (wi_nonneg n2 50 (by omega))
  have hR1 : R < 50 := by have := wi_lt n2 50 (by omega); omega
  obtain ⟨U, hU⟩ := Int.eq_ofNat_of_zero_le (wi_nonneg n3 20 (by omega))
  have hU1 : U < 20 := by have := wi_lt n3 20 (by omega); omega
  have HA := Lib.hid hA
  have HR := Lib.hid hR
  have HU := Lib.hid hU
  have hnew : NewOk ((A + 1 : Nat) : Int) (R : Int) (1 + (U : Int)) := ⟨by omega, by omega, by omega, by omega, by omega, by omega⟩
  have HNW := Lib.hid hnew
  have hE : apE 2 (newW (A + 1) (R : Int) (1 + (U : Int))) = 0 := by
    have : overB 2 (newW (A + 1) (R : Int) (1 + (U : Int))).d.l = false := over_iff.2 (fun i hi => by simp [newW] at hi ⊢; rw [pr_rep hi]; simp)
    rw [apE, if_neg (by decide), this]; rfl
  have HE := Lib.hid hE
  obtain ⟨s0, hs0⟩ : ∃ s, s = apW 2 (newW (A + 1) (R : Int) (1 + (U : Int))) := ⟨_, rfl⟩
  have HS0 := Lib.hid hs0
  have FR0 : Frm s0 (R : Int) (1 + (U : Int)) (A + 1) := Frm.same (s := newW (A + 1) (R : Int) (1 + (U : Int))) ⟨rfl, rfl, List.length_replicate⟩ (by rw [hs0]; exact ap_same _ _)
  have e5 : (((A : Int) + 1) != (1 + (A : Int))) = false := by rw [bne_eq_false_iff_eq]; omega
  clear hA hR hU hnew hE hs0
  go_enter Try.func8, Try.ntmps8
  go_wp2_with fail
  refine (within_n n1 8 A _ (by omega) (by omega) HA).mono ?_
  rintro e w' ⟨rfl, rfl⟩
  go_wp2_with fail
  refine (within_n n2 50 R _ (by omega) (by omega) HR).mono ?_
  rintro e w' ⟨rfl, rfl⟩
  go_wp2_with fail
  refine (within_n n3 20 U _ (by omega) (by omega) HU).mono ?_
  rintro e w' ⟨rfl, rfl⟩
  go_wp2_with fail
  refine (K.new_at (1 + (A : Int)) (R : Int) (1 + (U : Int)) (A + 1) _ (by omega) HNW.out).mono ?_
  rintro e w1 ⟨a, S, rfl, hR1', hS, b1⟩
  have O1 : Own1 Rep w w1 (.pointer (some a)) (newW (A + 1) (R : Int) (1 + (U : Int))) := ⟨⟨S, hR1', hS⟩, b1⟩
  clear hR1' hS b1
  go_wp2_with fail
  refine (K.new2 (1 + (A : Int)) (R : Int) (1 + (U : Int)) (A + 1) w _ _ _ O1 (by omega) HNW.out).mono ?_
  rintro e w2 ⟨a', rfl, T2⟩
  clear O1
  go_wp2_with fail
  refine (K.append2 2 0 w _ _ _ _ _ T2 HE).mono ?_
  rintro e w3 ⟨rfl, T3⟩
  rw [← HS0.out] at T3
  replace T3 := T3.swap
  clear T2
  go_wp2_with fail
  refine (K.append2 2 0 w _ _ _ _ _ T3 HE).mono ?_
  rintro e w4 ⟨rfl, T4⟩
  rw [← HS0.out] at T4
  replace T4 := T4.swap
  clear T3
  go_wp2_with fail
  refine (K.peers2 (A + 1) w _ _ _ _ _ T4 FR0.len).mono ?_
  rintro e w5 ⟨B, cB, rfl, _, _, _, T5⟩
  clear T4
  go_wp2
  clear HS0 HE HNW e5
  go_loopw [70] (fun i wr => ∃ (k : Nat) (s : WSt), k ≤ l3.length ∧ i = .int .i64 k ∧ Two Rep w wr (.pointer (some a)) (.pointer (some a')) s s ∧ Frm s (R : Int) (1 + (U : Int)) (A + 1)) (fun i _ => l3.length - (intOf i).toNat)
  case atStart => exact ⟨0, s0, Nat.zero_le _, rfl, T5, FR0⟩
  case round =>
    clear T5
    obtain ⟨k, s, hk, rfl, T, FR⟩ := hrel
    by_cases hlt : k < l3.length
    · obtain ⟨b', o', f, rfl, hbl0, c00, iz0, kz, HF⟩ := h3.get (k := k) hlt
      have c0 := (T.b.cell (p := ⟨b', o' + k, none⟩) hbl0).trans c00
      have hbl : b' < wr.heap.size := Nat.lt_of_lt_of_le hbl0 T.b.size
      have iz := iz0.below T.b
      have i1 : (k : Int) < (l3.length : Int) := by omega
      clear c00 hbl0
      go_wp2_with fail
      refine (act2 K (1 + (A : Int)) (A + 1) f.a _ f.c f.z w _ _ _ s s T iz FR.len (by omega) rfl).mono ?_
      rintro e w6 ⟨s1, v1, hact1, rfl, T6⟩
      replace T6 := T6.swap
      have iz6 := iz0.below T6.b
      have hok := T.ok K
      clear T iz
      go_wp2_with fail
      refine (act2 K (1 + (A : Int)) (A + 1) f.a _ f.c f.z w _ _ _ s s1 T6 iz6 FR.len (by omega) rfl).mono ?_
      rintro e w7 ⟨s2, v2, hact2, rfl, T7⟩
      obtain rfl : s1 = s2 := hact1.uniq hact2 hok
      have FR5 := FR.same (hact1.same hok)
      replace T7 := T7.swap
      clear hact1 hact2 hok T6 iz6 iz0 FR
      go_wp2_with fail
      refine (K.peers2 (A + 1) w _ _ _ _ _ T7 FR5.len).mono ?_
      rintro e w8 ⟨B8, c8, rfl, _, ho, b8, _⟩
      go_wp2_with fail
      refine (spoile_row B8 (A + 1) c8 w7.heap.size _ w7 _ b8 (Nat.le_refl _) ho).mono ?_
      rintro e w9 ⟨rfl, b9⟩
      have T9 := T7.keep K b9
      clear T7 ho b8 b9
      go_wp2
      go_roundw
      case rel => exact ⟨k + 1, s1, by omega, by go_num, T9, FR5⟩
      case measure => simp [intOf]; omega
    · have HN : Hid (A + 1 = s.d.l.length) := Lib.hid FR.len.symm
      go_wp2_with fail
      refine (K.peers2 (A + 1) w _ _ _ _ _ T HN.out.symm).mono ?_
      rintro e w6 ⟨B1, c1, rfl, hP1, _, _, T6⟩
      replace T6 := T6.swap
      clear T
      go_wp2_with fail
      refine (K.peers2 (A + 1) w _ _ _ _ _ T6 HN.out.symm).mono ?_
      rintro e w7 ⟨B2, c2, rfl, hP2, _, b7, T7⟩
      replace hP1 := hP1.below b7
      replace T7 := T7.swap
      clear T6 b7
      go_wp2_with fail
      refine (peSame B1 B2 s.d.l _ _ c1 c2 _ hP1 hP2 HN.out HN.out).mono ?_
      rintro e w8 ⟨rfl, nd, hnd⟩
      have T8 := T7.keep K (below_of_drewN hnd)
      clear T7 hP1 hP2 hnd
      go_wp2_with fail
      refine (K.peers2 (A + 1) w _ _ _ _ _ T8 HN.out.symm).mono ?_
      rintro e w9 ⟨B3, c3', rfl, hP3, _, _, T9⟩
      clear T8
      go_wp2_with fail
      refine (K.peers2 (A + 1) w _ _ _ _ _ T9 HN.out.symm).mono ?_
      rintro e w10 ⟨B4, c4, rfl, hP4, _, b10, T10⟩
      replace hP3 := hP3.below b10
      clear T9 b10
      go_wp2_with fail
      refine (peSame B3 B4 s.d.l _ _ c3' c4 _ hP3 hP4 HN.out HN.out).mono ?_
      rintro e w11 ⟨rfl, nd, hnd⟩
      have hb := below_trans T10.b (below_of_drewN hnd)
      clear T10 hP3 hP4 hnd
      go_wp2
      go_ret
      exact ⟨rfl, hb⟩

end Go.Proofs.Ytlaandbaaepamaa
