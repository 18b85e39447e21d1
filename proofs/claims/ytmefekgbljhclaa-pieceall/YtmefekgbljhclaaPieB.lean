
/-
  The document's own pieces and stages: headref.Whole, Pieces, Stage, SameStage.
-/
import Derived.Test.YtmefekgbljhclaaPieA
import Derived.Test.YtmefekgbljhclaaWinF
import Derived.Test.YtmefekgbljhclaaBucketA
import Derived.Deep.RegionHeld3
import Derived.Deep.DeepCutAuto
namespace Go.Proofs.Ytmefekgbljhclaa
set_option linter.all false
open Go.RowKit Go.Shelf Go.Lib

set_option maxHeartbeats 800000 in
theorem refWhole_any (s u R : Int) (w : World) (HR : Hid (whE s u = R)) : Calls Try.prog 18 #[.int .i64 s, .int .i64 u] w fun e w' => e = .returned (.int .i64 R) ∧ w = w' := by
  by_cases c1 : s < 0 ∨ 1000000 < s
  · have HQ : Hid (1 = R) := Lib.hid (by rw [← HR.out, whE, if_pos (by omega)])
    have H1 : Hid (decide (s < 0 ∨ 1000000 < s) = !false) := Lib.hid (by simp; omega)
    clear HR c1
    go_enter Try.func18, Try.ntmps18
    go_wp2_with fail
    refine (wit_any s 0 1000000 false _ H1).mono ?_
    rintro e w' ⟨rfl, rfl⟩
    go_wp2
    go_ret
    exact ⟨ret_int HQ.out, rfl⟩
  · have H1 : Hid (decide (s < 0 ∨ 1000000 < s) = !true) := Lib.hid (by simp; omega)
    by_cases c2 : u < 1 ∨ 1000000 < u
    · have HQ : Hid (1 = R) := Lib.hid (by rw [← HR.out, whE, if_pos (by omega)])
      have H2 : Hid (decide (u < 1 ∨ 1000000 < u) = !false) := Lib.hid (by simp; omega)
      clear HR c1 c2
      go_enter Try.func18, Try.ntmps18
      go_wp2_with fail
      refine (wit_any s 0 1000000 true _ H1).mono ?_
      rintro e w' ⟨rfl, rfl⟩
      go_wp2_with fail
      refine (wit_any u 1 1000000 false _ H2).mono ?_
      rintro e w' ⟨rfl, rfl⟩
      go_wp2
      go_ret
      exact ⟨ret_int HQ.out, rfl⟩
    · have H2 : Hid (decide (u < 1 ∨ 1000000 < u) = !true) := Lib.hid (by simp; omega)
      have m1 : IntKind.i64.wrap (200 * u) = 200 * u := IntWalk.i64_in _ ⟨by omega, by omega⟩
      by_cases c3 : 200 * u < s
      · have HQ : Hid (2 = R) := Lib.hid (by rw [← HR.out, whE, if_neg (by omega), if_pos c3])
        clear HR c1 c2
        go_enter Try.func18, Try.ntmps18
        go_wp2_with fail
        refine (wit_any s 0 1000000 true _ H1).mono ?_
        rintro e w' ⟨rfl, rfl⟩
        go_wp2_with fail
        refine (wit_any u 1 1000000 true _ H2).mono ?_
        rintro e w' ⟨rfl, rfl⟩
        go_wp2
        go_ret
        exact ⟨ret_int HQ.out, rfl⟩
      · have HQ : Hid (0 = R) := Lib.hid (by rw [← HR.out, whE, if_neg (by omega), if_neg c3])
        clear HR c1 c2
        go_enter Try.func18, Try.ntmps18
        go_wp2_with fail
        refine (wit_any s 0 1000000 true _ H1).mono ?_
        rintro e w' ⟨rfl, rfl⟩
        go_wp2_with fail
        refine (wit_any u 1 1000000 true _ H2).mono ?_
        rintro e w' ⟨rfl, rfl⟩
        go_wp2
        go_ret
        exact ⟨ret_int HQ.out, rfl⟩

theorem pc_left {s u R : Int} (v : WhOk s u) {i : Nat} (hi : i ≤ pcN s u) (h : R = s - pcS s u i) : (0 < R ↔ i < pcN s u) ∧ (i < pcN s u → pcV s u i = min u R) ∧ 0 ≤ R ∧ R ≤ 1000000 := by
  have a := pc_sum v.s0 v.u0 i hi
  have b := pcn_iff v.s0 v.u0 (i := i)
  have c := v.s1
  have d := v.s0
  have e : 0 ≤ u * (i : Int) := Int.mul_nonneg (by have := v.u0; omega) (by omega)
  rw [a] at h
  refine ⟨⟨fun k => b.mpr (by omega), fun k => by have := b.mp k; omega⟩, fun k => ?_, by omega, by omega⟩
  have := b.mp k
  unfold pcV
  rw [h, show min s (u * (i : Int)) = u * (i : Int) by omega]
set_option maxRecDepth 100000 in
set_option maxHeartbeats 1600000 in
theorem refPieces_any (s u : Int) (N : Nat) (w : World) (v : WhOk s u) (HN : Hid (pcN s u = N)) : Calls Try.prog 20 #[.int .i64 s, .int .i64 u] w fun e w' => ∃ (A : Option Addr) (c : Nat), e = .returned (.slice A N c) ∧ w'.ownsRow w.heap.size 3 1 (.slice A N c) N ((tab N (pcV s u)).map (Value.int .i64)) ∧ Below w.heap.size w w' := by
  obtain ⟨i0, hi0, hz0, hz1, hz2⟩ := info_parts int_info
  have v3 := v.u0
  have v4 := v.u1
  have hN2 := pcn_max v
  rw [HN.out] at hN2
  go_enter Try.func20, Try.ntmps20
  go_wp2
  go_loopw [0, 5] (fun r x wr => ∃ (i : Nat) (R : Int), i ≤ N ∧ r = .int .i64 R ∧ Hid (R = s - pcS s u i) ∧ wr.ownsRow w.heap.size 3 1 x i ((tab i (pcV s u)).map (Value.int .i64)) ∧ Below w.heap.size w wr) (fun r _ _ => (intOf r).toNat)
  case atStart => exact ⟨0, s, Nat.zero_le _, rfl, Lib.hid (by simp [pcS]), by rw [tab_zero]; exact World.ownsRow_nil _ _ _ _, Below.refl _ _⟩
  case round =>
    obtain ⟨i, R, hi, rfl, HR, own, hb⟩ := hrel
    obtain ⟨p1, p2, p3, p4⟩ := pc_left v (by rw [HN.out]; exact hi) HR.out
    rw [HN.out] at p1 p2
    have sz := hb.size
    by_cases hlt : i < N
    · have hR := p1.mpr hlt
      have hV := p2 hlt
      have dR : decide (0 < R) = true := decide_eq_true hR
      obtain ⟨V, hVV⟩ : ∃ V, V = pcV s u i := ⟨_, rfl⟩
      have HV := Lib.hid hVV
      have HR' : Hid (R - V = s - pcS s u (i + 1)) := Lib.hid (by rw [pcS, ← hVV, HR.out]; omega)
      rw [← hVV] at hV
      have hm : V = min R u := by omega
      have V0 : 1 ≤ V := by omega
      have V1 : V ≤ R := by omega
      have m1 : IntKind.i64.wrap (R - V) = R - V := IntWalk.i64_in _ ⟨by omega, by omega⟩
      have HM := Lib.hid hm
      clear p1 p2 hVV hV hm
      go_upto_region 3 with fail
      go_cut [6] (fun n wx => n = .int .i64 V ∧ wr = wx)
      case first =>
        rcases Int.lt_trichotomy R u with k | k | k
        all_goals
          go_wp2_with fail
          go_meet
          refine ⟨?_, rfl⟩
          have := HM.out
          congr 1
          omega
      case rest =>
        obtain ⟨rfl, rfl⟩ := hcut
        go_wp2_with (at_builtin; refine wpList_append_own _ rfl _ _ 25 rfl w.heap.size 3 i0 (.int .i64 0) 1 8 Try.underlying25 hi0 hz0 hz1 hz2 rfl (by decide) _ _ _ rfl (World.ownsRow.alloc own _) ⟨wr.heap.size, 0, none⟩ 1 1 [.int .i64 V] rfl rfl ?c1 ?c2 ?c3 ?c4 ?c5 ?_)
        case c1 => exact new_oneW _ _ _
        case c2 => intro u hu; simp at hu; subst hu; rfl
        case c3 => unfold maxLen; omega
        case c4 => omega
        case c5 => simp; omega
        intro v' w6 hown' hgrow _
        have hb6 : Below w.heap.size w w6 := (hb.alloc hb.size _).grown hgrow (by simp; omega) (fun k hk => (own.lt k hk).1)
        have o6 : w6.ownsRow w.heap.size 3 1 v' (i + 1) ((tab (i + 1) (pcV s u)).map (Value.int .i64)) := by rw [tab_snocW, ← HV.out]; exact hown'
        clear hown' hgrow own hb
        go_wp2
        go_roundw
        case rel => exact ⟨i + 1, R - V, by omega, rfl, HR', o6, hb6⟩
        case measure => simp [intOf]; omega
    · obtain rfl : i = N := by omega
      have hR : ¬ 0 < R := fun k => hlt (p1.mp k)
      have dR : decide (0 < R) = false := decide_eq_false hR
      obtain ⟨B, d, rfl⟩ := row_formW own
      clear p1 p2
      go_wp2
      go_ret
      exact ⟨B, d, rfl, own, hb⟩

end Go.Proofs.Ytmefekgbljhclaa
