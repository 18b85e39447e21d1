
/-
  The law WindowSays over what package window owes.
-/
import Derived.Test.YtmefekgbljhclaaWinB
namespace Go.Proofs.Ytmefekgbljhclaa
set_option linter.all false
open Go.RowKit Go.Shelf Go.Lib

theorem own_belW {w w' : World} {base n size : Nat} {e : TypeId} {v : Value} {xs : List Value} (h : w.ownsRow base e size v n xs) (hb : Below w.heap.size w w') : w'.ownsRow base e size v n xs :=
  h.kept (row := none) ⟨hb.os, hb.tape, hb.output, hb.size, fun k hk _ => hb.block k hk⟩ (by cases v.ownBlock <;> simp)
theorem row_formW {w : World} {base n size : Nat} {e : TypeId} {v : Value} {xs : List Value} (h : w.ownsRow base e size v n xs) : ∃ A c, v = .slice A n c := by
  rcases h.2 with ⟨rfl, h0⟩ | ⟨g, cap, cur, rfl, _⟩
  · exact ⟨none, 0, by rw [h0]⟩
  · exact ⟨_, _, rfl⟩
theorem tab_snocW (n : Nat) (f : Nat → Int) : (tab (n + 1) f).map (Value.int .i64) = (tab n f).map (Value.int .i64) ++ [.int .i64 (f n)] := by rw [tab_succ, List.map_append]; rfl
set_option maxRecDepth 100000 in
set_option maxHeartbeats 6400000 in
theorem v_WindowSays (E : WinC) (n1 n2 n3 : Int) (w : World) (_h1 : (Lit.int .i64 n1).wf = true) (_h2 : (Lit.int .i64 n2).wf = true) (_h3 : (Lit.int .i64 n3).wf = true) :
    Calls Try.prog 8 #[.int .i64 n1, .int .i64 n2, .int .i64 n3] w fun e w' => e = .returned (.bool true) ∧ Below w.heap.size w w' := by
  have hb := Below.refl w.heap.size w
  obtain ⟨i0, hi0, hz0, hz1, hz2⟩ := info_parts int_info
  go_enter Try.func8, Try.ntmps8
  by_cases hE : wnE n1 n2 n3 = 0
  · obtain ⟨N, W, P, rfl, rfl, rfl, v⟩ := wn_of hE
    have v1 := v.n1
    have v2 := v.w0
    have v3 := v.w1
    have v4 := v.p0
    have v5 := v.p1
    clear hE
    go_wp2_with fail
    refine (E.sent' N W P _ v).mono ?_
    rintro e w3 ⟨A, c, rfl, ix, hc, b3⟩
    replace hb := below_trans hb b3
    clear b3
    go_wp2_with fail
    refine (E.done N W P _ v).mono ?_
    rintro e w4 ⟨rfl, b4⟩
    replace hb := below_trans hb b4
    replace ix := ix.below b4
    obtain ⟨K, hK⟩ : ∃ K, K = dnV W P N := ⟨_, rfl⟩
    have HK := Lib.hid hK
    rw [← hK]
    obtain ⟨B0, hB0⟩ : ∃ B0, B0 = w4.heap.size := ⟨_, rfl⟩
    have HB0 := Lib.hid hB0
    clear b4 hK hB0
    have i1 : ¬ (N : Int) < 0 := by omega
    have i2 : ¬ 200 < (N : Int) := by omega
    have i3 : ¬ (W : Int) < 1 := by omega
    have i4 : ¬ 200 < (W : Int) := by omega
    have i5 : ¬ (P : Int) < 1 := by omega
    have i6 : ¬ 200 < (P : Int) := by omega
    have d1 := decide_eq_false i1
    have d2 := decide_eq_false i2
    have d3 := decide_eq_false i3
    have d4 := decide_eq_false i4
    have d5 := decide_eq_false i5
    have d6 := decide_eq_false i6
    have j2 : (N : Int) ≤ 200 := by omega
    have j3 : (1 : Int) ≤ (W : Int) := by omega
    have j4 : (W : Int) ≤ 200 := by omega
    have j5 : (1 : Int) ≤ (P : Int) := by omega
    have j6 : (P : Int) ≤ 200 := by omega
    have q1 : ¬ N = 0 ∨ N = 0 := by omega
    go_wp2
    go_loopw [11, 12, 66] (fun u x s wr => ∃ i : Nat, i ≤ N ∧ s = .int .i64 i ∧ (∃ L : Nat, x = .int .i64 L ∧ Hid (L = dnV W P i)) ∧ wr.ownsRow B0 3 1 u i ((tab i (swV W P)).map (Value.int .i64)) ∧ Below w4.heap.size w4 wr) (fun _ _ s _ => N - (intOf s).toNat)
    case atStart => exact ⟨0, Nat.zero_le _, rfl, ⟨0, rfl, Lib.hid rfl⟩, by rw [tab_zero]; exact World.ownsRow_nil _ _ _ _, Below.refl _ _⟩
    case round =>
      obtain ⟨i, hi, rfl, ⟨L, rfl, HL⟩, own, hbB⟩ := hrel
      have szB : B0 ≤ wr.heap.size := by rw [HB0.out]; exact hbB.size
      by_cases hlt : i < N
      · have i7 : (i : Int) < (N : Int) := by omega
        obtain ⟨R, hR⟩ : ∃ R, swV W P i = R := ⟨_, rfl⟩
        have HR := Lib.hid hR
        have tm := sf_max v (i := i) (by omega)
        have R0 : 0 ≤ R := by rw [← hR]; unfold swV; omega
        have R1 : R ≤ 40200 := by rw [← hR]; unfold swV; omega
        have HLN : Hid (R + (P : Int) = ((dnV W P (i + 1) : Nat) : Int)) := Lib.hid (by rw [← hR, dnV, if_neg (by omega), Nat.add_sub_cancel]; unfold swV; omega)
        clear hR tm
        go_wp2_with fail
        refine (refSent_any N W P i R _ v (by omega) HR).mono ?_
        rintro e w5 ⟨rfl, m5, hw5⟩
        have o5 := own_belW own (below_of_drewN hw5)
        have hb5 := below_trans hbB (below_of_drewN hw5)
        have sz5 : B0 ≤ w5.heap.size := by rw [HB0.out]; exact hb5.size
        clear own hbB hw5 szB
        go_wp2_with (at_builtin; refine wpList_append_own _ rfl _ _ 25 rfl B0 3 i0 (.int .i64 0) 1 8 Try.underlying25 hi0 hz0 hz1 hz2 rfl (by decide) _ _ _ rfl (World.ownsRow.alloc o5 _) ⟨w5.heap.size, 0, none⟩ 1 1 [.int .i64 R] rfl rfl ?c1 ?c2 ?c3 ?c4 ?c5 ?_)
        case c1 => exact new_oneW _ _ _
        case c2 => intro u hu; simp at hu; subst hu; rfl
        case c3 => unfold maxLen; omega
        case c4 => omega
        case c5 => simp; omega
        intro v' w6 hown' hgrow _
        have hb6 : Below w4.heap.size w4 w6 := (hb5.alloc hb5.size _).grown hgrow (by have := hb5.size; simp; omega) (fun k hk => by have := (o5.lt k hk).1; have := HB0.out; omega)
        have o6 : w6.ownsRow B0 3 1 v' (i + 1) ((tab (i + 1) (swV W P)).map (Value.int .i64)) := by rw [tab_snocW, HR.out]; exact hown'
        clear hown' hgrow o5 hb5
        go_wp2_with fail
        refine (refSent_any N W P i R _ v (by omega) HR).mono ?_
        rintro e w7 ⟨rfl, m7, hw7⟩
        have o7 := own_belW o6 (below_of_drewN hw7)
        have hb7 := below_trans hb6 (below_of_drewN hw7)
        clear o6 hb6 hw7
        have m9 : IntKind.i64.wrap (R + (P : Int)) = R + (P : Int) := IntWalk.i64_in _ ⟨by omega, by omega⟩
        go_wp2
        go_roundw
        case rel => exact ⟨i + 1, by omega, by go_num, ⟨dnV W P (i + 1), by rw [HLN.out], Lib.hid rfl⟩, o7, hb7⟩
        case measure => simp [intOf]; omega
      · obtain rfl : i = N := by omega
        obtain ⟨B, d, rfl⟩ := row_formW own
        have iy : Ints wr B (tab i (swV W P)) := Ints.of_own (by rw [length_tab]; exact own)
        replace ix := ix.below hbB
        replace hb := below_trans hb hbB
        have HLK : Hid (K = L) := Lib.hid (by rw [HK.out, HL.out])
        clear own hbB szB
        go_wp2_with fail
        refine (equal_at A B (tab i (swV W P)) (tab i (swV W P)) _ _ _ _ _ ix iy (length_tab _ _).symm (length_tab _ _).symm).mono ?_
        rintro e w8 ⟨rfl, m8, hw8⟩
        rw [eqB_true rfl, HLK.out]
        replace hb := below_trans hb (below_of_drewN hw8)
        clear hw8
        go_wp2
        go_ret
        exact ⟨rfl, hb⟩
  · go_wp2_with fail
    refine (E.sent_no n1 n2 n3 _ hE).mono ?_
    rintro e w3 ⟨⟨A, c, rfl⟩, b3⟩
    replace hb := below_trans hb b3
    clear b3
    go_wp2_with fail
    refine (E.done_no n1 n2 n3 _ hE).mono ?_
    rintro e w4 ⟨rfl, b4⟩
    replace hb := below_trans hb b4
    clear b4
    have HE : Hid (n1 < 0 ∨ 200 < n1 ∨ n2 < 1 ∨ 200 < n2 ∨ n3 < 1 ∨ 200 < n3) := Lib.hid (by
      by_cases c : n1 < 0 ∨ 200 < n1 ∨ n2 < 1 ∨ 200 < n2 ∨ n3 < 1 ∨ 200 < n3
      · exact c
      · exact absurd (if_neg c) hE)
    clear hE
    by_cases g1 : n1 < 0
    · have d1 := decide_eq_true g1
      go_wp2
      go_ret
      exact ⟨rfl, hb⟩
    · have d1 := decide_eq_false g1
      by_cases g2 : 200 < n1
      · have d2 := decide_eq_true g2
        go_wp2
        go_ret
        exact ⟨rfl, hb⟩
      · have d2 := decide_eq_false g2
        by_cases g3 : n2 < 1
        · have d3 := decide_eq_true g3
          go_wp2
          go_ret
          exact ⟨rfl, hb⟩
        · have d3 := decide_eq_false g3
          by_cases g4 : 200 < n2
          · have d4 := decide_eq_true g4
            go_wp2
            go_ret
            exact ⟨rfl, hb⟩
          · have d4 := decide_eq_false g4
            by_cases g5 : n3 < 1
            · have d5 := decide_eq_true g5
              go_wp2
              go_ret
              exact ⟨rfl, hb⟩
            · have d5 := decide_eq_false g5
              have g6 : 200 < n3 := by have := HE.out; omega
              have d6 := decide_eq_true g6
              go_wp2
              go_ret
              exact ⟨rfl, hb⟩

end Go.Proofs.Ytmefekgbljhclaa
