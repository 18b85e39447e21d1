
/-
  The walk of the law FifoLittle.
-/
import Derived.Test.YtmejapenidociaaFifoA
import Derived.Test.YtmejapenidociaaSortA
import Derived.Deep.AppendLies
namespace Go.Proofs.Ytmejapenidociaa
set_option linter.all false
open Go.RowKit Go.Shelf


theorem sort_at (base g N c : Nat) (l T : List Int) (w : World) (hT : Hid (T = srt l)) (hN : N = l.length) (own : w.ownsRow base 3 1 (.slice (some ⟨g, 0, none⟩) N c) N (l.map (Value.int .i64))) (hl : N ≤ 1000) :
    Calls Try.prog 14 #[.slice (some ⟨g, 0, none⟩) N c] w fun e w' => e = .returned (.tuple #[]) ∧ Ints w' (some ⟨g, 0, none⟩) T ∧ Below base w w' := by
  subst hN
  have hT := hT.out
  subst hT
  refine (sort_own base g c l w own hl).mono ?_
  rintro e w' ⟨rfl, o, hb⟩
  have o' : w'.ownsRow base 3 1 (.slice (some ⟨g, 0, none⟩) (srt l).length c) (srt l).length ((srt l).map (Value.int .i64)) := by rw [length_srt]; exact o
  exact ⟨rfl, Ints.of_own o', hb⟩

set_option maxRecDepth 100000 in
set_option maxHeartbeats 6400000 in
theorem walk_FifoLittle (a0 : Option Addr) (c0 : Nat) (l0 : List Pk) (w : World) (h0 : Pks w a0 l0) (_k0 : l0.length ≤ c0) :
    Calls Try.prog 4 #[.slice a0 l0.length c0] w fun e w' => e = .returned (.bool true) ∧ Below w.heap.size w w' := by
  have hb : Below w.heap.size w w := Below.refl _ _
  clear _k0
  by_cases hE : pksE l0 = 0
  · have q := qu_of hE
    have HE := Lib.hid hE
    have hle := q.le
    clear hE
    obtain ⟨i0, hi0, hz0, hz1, hz2⟩ := info_parts int_info
    rcases Nat.eq_zero_or_pos l0.length with z0 | p0
    · obtain rfl : l0 = [] := List.eq_nil_of_length_eq_zero z0
      clear z0
      go_enter Try.func4, Try.ntmps4
      go_wp2_with fail
      refine (frun_yes _ [⟨0, 3, 0⟩, ⟨1, 2, 0⟩] [3, 5] _ 2 _ _ (Lib.hid (by decide)) (Lib.hid (by decide)) (by exact Pks.lit _ [⟨0, 3, 0⟩, ⟨1, 2, 0⟩] _ _ rfl (by decide)) rfl rfl).mono ?_
      rintro e w1 ⟨Ax, cx, rfl, hx, kx, b1⟩
      have hone := (Pks.lit w [⟨0, 3, 0⟩, ⟨1, 2, 0⟩] #[.int .i64 0, .int .i64 3, .int .i64 0, .int .i64 1, .int .i64 2, .int .i64 0] 32 rfl (by decide)).below b1
      replace b1 := below_of1 b1
      replace h0 := h0.below b1
      replace hb := below_trans hb b1
      clear b1
      go_wp2_with fail
      refine (equal_at Ax _ [3, 5] [3, 5] _ _ _ _ _ (by exact Ints.alloc hx _) (by exact Ints.lit _ [3, 5] _ _ rfl (by decide)) rfl rfl).mono ?_
      rintro e w2 ⟨rfl, nw2, hww2⟩
      have bw2 := below_of_drewN hww2
      clear hww2
      replace bw2 := below_of1 bw2
      replace h0 := h0.below bw2
      replace hone := hone.below bw2
      replace hb := below_trans hb bw2
      clear bw2
      rw [eqB_true rfl]
      go_wp2_with fail
      refine (fcount_yes _ [⟨0, 3, 0⟩, ⟨1, 2, 0⟩] _ _ 2 2 _ (Lib.hid (by decide)) (Lib.hid (by decide)) hone rfl).mono ?_
      rintro e w3 ⟨rfl, bw3⟩
      replace h0 := h0.below bw3
      replace hb := below_trans hb bw3
      clear bw3
      clear hx kx hone
      go_wp2_with fail
      refine (frun_yes a0 [] [] _ 0 c0 _ HE (Lib.hid rfl) h0 rfl rfl).mono ?_
      rintro e w4 ⟨Ad, cd, rfl, hd, kd, bw4⟩
      replace hb := below_trans hb bw4
      clear bw4
      go_wp2
      go_loop [10, 11, 68] (fun v s i => v = .slice none 0 0 ∧ s = .int .i64 0 ∧ i = .int .i64 0) (fun _ _ _ => 0)
      case atStart => exact ⟨rfl, rfl, rfl⟩
      case round =>
        obtain ⟨rfl, rfl, rfl⟩ := hrel
        go_wp2_with fail
        refine (Try.slices_Sort_int_none none 0 _).mono ?_
        rintro e w' ⟨rfl, hw'⟩
        subst hw'
        go_wp2
        go_loop [14, 15] (fun v i => v = .int .i64 0 ∧ i = .int .i64 1) (fun _ _ => 0)
        case atStart => exact ⟨rfl, rfl⟩
        case round =>
          obtain ⟨rfl, rfl⟩ := hrel
          go_wp2
          go_ret
          exact ⟨rfl, hb⟩
    · obtain ⟨T, HT⟩ : ∃ T, Hid (T = srt (tmL l0 l0.length)) := ⟨_, Lib.hid rfl⟩
      have TL : Hid (T.length = 2 * l0.length) := Lib.hid (by rw [HT.out, length_srt, length_tmL])
      have TB : Hid (∀ i, i < 2 * l0.length → 0 ≤ gt T i ∧ gt T i ≤ 60200) := Lib.hid (fun i hi => by have := srt_bd q (i := i) (by rw [← HT.out, TL.out]; exact hi); rw [← HT.out] at this; exact this)
      have TU : Hid (∀ i, i + 1 < 2 * l0.length → gt T i ≤ gt T (i + 1)) := Lib.hid (fun i hi => by have := up_srt (tmL l0 l0.length) i (by rw [← HT.out, TL.out]; exact hi); rw [← HT.out] at this; exact this)
      have AB : Hid (∀ j, j < 2 * l0.length → 0 ≤ alV l0 T l0.length j ∧ alV l0 T l0.length j ≤ 3612000 * j) := Lib.hid (fun j hj => by have := al_bd q j (by rw [← HT.out, TL.out]; exact hj); rw [← HT.out] at this; exact this)
      have AE : Hid (alV l0 T l0.length (2 * l0.length - 1) = soV l0 l0.length) := Lib.hid (by rw [HT.out]; exact little_all q)
      go_enter Try.func4, Try.ntmps4
      go_wp2_with fail
      refine (frun_yes _ [⟨0, 3, 0⟩, ⟨1, 2, 0⟩] [3, 5] _ 2 _ _ (Lib.hid (by decide)) (Lib.hid (by decide)) (by exact Pks.lit _ [⟨0, 3, 0⟩, ⟨1, 2, 0⟩] _ _ rfl (by decide)) rfl rfl).mono ?_
      rintro e w1 ⟨Ax, cx, rfl, hx, kx, b1⟩
      have hone := (Pks.lit w [⟨0, 3, 0⟩, ⟨1, 2, 0⟩] #[.int .i64 0, .int .i64 3, .int .i64 0, .int .i64 1, .int .i64 2, .int .i64 0] 32 rfl (by decide)).below b1
      replace b1 := below_of1 b1
      replace h0 := h0.below b1
      replace hb := below_trans hb b1
      clear b1
      go_wp2_with fail
      refine (equal_at Ax _ [3, 5] [3, 5] _ _ _ _ _ (by exact Ints.alloc hx _) (by exact Ints.lit _ [3, 5] _ _ rfl (by decide)) rfl rfl).mono ?_
      rintro e w2 ⟨rfl, nw2, hww2⟩
      have bw2 := below_of_drewN hww2
      clear hww2
      replace bw2 := below_of1 bw2
      replace h0 := h0.below bw2
      replace hone := hone.below bw2
      replace hb := below_trans hb bw2
      clear bw2
      rw [eqB_true rfl]
      go_wp2_with fail
      refine (fcount_yes _ [⟨0, 3, 0⟩, ⟨1, 2, 0⟩] _ _ 2 2 _ (Lib.hid (by decide)) (Lib.hid (by decide)) hone rfl).mono ?_
      rintro e w3 ⟨rfl, bw3⟩
      replace h0 := h0.below bw3
      replace hb := below_trans hb bw3
      clear bw3
      clear hx kx hone
      go_wp2_with fail
      refine (frun_yes a0 l0 (dnL l0) _ l0.length c0 _ HE (Lib.hid rfl) h0 rfl rfl).mono ?_
      rintro e w4 ⟨Ad, cd, rfl, hd, kd, bw4⟩
      replace h0 := h0.below bw4
      replace hb := below_trans hb bw4
      clear bw4
      go_wp2
      go_loopw [10, 11, 68] (fun v s i wr => ∃ k : Nat, k ≤ l0.length ∧ i = .int .i64 k ∧ s = .int .i64 (soV l0 k) ∧ wr.ownsRow w4.heap.size 3 1 v (2 * k) ((tmL l0 k).map (Value.int .i64)) ∧ Below w4.heap.size w4 wr) (fun _ _ i _ => l0.length - (intOf i).toNat)
      case atStart => exact ⟨0, Nat.zero_le _, rfl, rfl, World.ownsRow_nil _ _ _ _, Below.refl _ _⟩
      case round =>
        obtain ⟨k, hk, rfl, rfl, own, hbel⟩ := hrel
        obtain ⟨s, hs⟩ : ∃ s, s = soV l0 k := ⟨_, rfl⟩
        have s0 : 0 ≤ s ∧ s ≤ 4000000 := by rw [hs]; have := so_bd q k hk; omega
        obtain ⟨sa, sb⟩ := s0
        rw [← hs]
        by_cases hlt : k < l0.length
        · obtain ⟨bb, off, p, rfl, hbl, d0, d1, d2, HP⟩ := (h0.below hbel).get hlt
          have hK := pk_of HP.out
          have ok := q.ok k hlt
          rw [hK] at ok
          have pa0 := ok.a0
          have pa1 := ok.a1
          have i1 : (k : Int) < (l0.length : Int) := by omega
          obtain ⟨W, hW⟩ : ∃ W, W = wr.alloc (.cells #[.int .i64 p.at_, .int .i64 p.size, .int .i64 p.flow] 32) := ⟨_, rfl⟩
          have Bp : Blk W wr.heap.size 32 #[.int .i64 p.at_, .int .i64 p.size, .int .i64 p.flow] := by rw [hW]; exact Blk.new _ _ _
          have hbW : Below wr.heap.size wr W := by rw [hW]; exact alloc_below _ _
          have hbW4 := below_trans hbel hbW
          obtain ⟨b1, o1, y, e1, hc1, HY⟩ := (hd.below hbW4).at_ (k := k) (by rw [length_dnL]; exact hlt)
          subst e1
          have hy := gt_of_get HY.out
          rw [gt_dnL hlt] at hy
          have y0 : 0 ≤ y ∧ y ≤ 70000 := by rw [← hy]; have := dn_bd q (k + 1) (by omega); omega
          obtain ⟨ya, yb⟩ := y0
          have ownW : W.ownsRow w4.heap.size 3 1 u10 (2 * k) ((tmL l0 k).map (Value.int .i64)) := by rw [hW]; exact World.ownsRow.alloc own _
          have HS : Hid (soV l0 (k + 1) = s + (y - p.at_)) := Lib.hid (by rw [soV, ← hs, hy, hK])
          have HTM : Hid (tmL l0 (k + 1) = tmL l0 k ++ [p.at_, y]) := Lib.hid (by rw [tmL, hK, hy])
          have HW := Lib.hid hW
          obtain ⟨u0, u1, u2⟩ := three_read Bp
          have w1' : IntKind.i64.wrap (y - p.at_) = y - p.at_ := IntWalk.i64_in _ ⟨by omega, by omega⟩
          have w2' : IntKind.i64.wrap (s + (y - p.at_)) = s + (y - p.at_) := IntWalk.i64_in _ ⟨by omega, by omega⟩
          have n1 : u10.ownBlock ≠ some wr.heap.size := fun e => by have := (own.lt _ e).2; omega
          have lb1 : b1 < w4.heap.size := by obtain ⟨_, _, e, hc⟩ := hd.2 (by rw [length_dnL]; omega); injection e with e; injection e with e1 e2; subst e1; exact cell_lt (hc 0 (by rw [length_dnL]; omega))
          have n2 : u10.ownBlock ≠ some b1 := fun e => by have := (own.lt _ e).1; omega
          have hgl := Bp.lt
          clear hs hy hK ok hW Bp own hbel hbW
          go_wp2
          rw [← HW.out]
          clear d0 d1 d2
          go_quiet (fail)
          obtain ⟨V, hV⟩ : ∃ V, V = W.drewN nq := ⟨_, rfl⟩
          have v0 : V.cell? ⟨wr.heap.size, 0, none⟩ = some (.int .i64 p.at_) := by rw [hV]; exact u0
          have v1 : V.cell? ⟨b1, o1 + k, none⟩ = some (.int .i64 y) := by rw [hV]; exact hc1
          have ownV : V.ownsRow w4.heap.size 3 1 u10 (2 * k) ((tmL l0 k).map (Value.int .i64)) := by rw [hV]; exact ownW
          have hbV := below_trans hbW4 (below_of_drewN hV)
          have hgV : wr.heap.size < V.heap.size := by rw [hV]; exact hgl
          have hsz := hbV.size
          rw [← hV]
          clear hV u0 u1 u2 hc1 ownW hbW4 hgl
          go_wp2
          go_region_held3 (fun w' => w'.cell? ⟨wr.heap.size, 0, none⟩ = some (.int .i64 p.at_) ∧ w'.cell? ⟨b1, o1 + k, none⟩ = some (.int .i64 y)) (first | go_keep | (go_split_ands; refine ⟨?_, ?_⟩; (rw [hgrow.cell_far _ (by simp; omega) (Ne.symm n1)]; assumption); (rw [hgrow.cell_far _ (by simp; omega) (Ne.symm n2)]; assumption)))
            ((refine step_append_lies _ (by rfl) _ _ _ (by rfl) w4.heap.size 3 i0 _ 1 8 Try.underlying23 hi0 hz0 hz1 hz2 rfl (by omega) u10 (2 * k) ((tmL l0 k).map (Value.int .i64)) (by rfl) ((World.ownsRow.alloc ownV _).drew)
                ⟨V.heap.size, 0, none⟩ 2 2 [.int .i64 p.at_, .int .i64 y] (by rfl) (by rfl) (World.news_of_block (cs := #[.int .i64 p.at_, .int .i64 y]) (t := 3) (fr := (0, 0)) (heap_alloc_new V _)) (by simp [Value.oneCell'])
                (by omega) (by unfold maxLen; omega) (by omega) (by simp; omega) (V.heap.size + 1) (by simp) ?_; intro gg cap w1 hown1 hgrow hat hlt'))
          have hbel' : Below w4.heap.size w4 w1 := (((hbV.alloc hbV.size _).drew).grown hgrow (by simp; omega) (fun k hk => (ownV.lt k hk).1))
          have hown'' : w1.ownsRow w4.heap.size 3 1 (.slice (some ⟨gg, 0, none⟩) (2 * k + 2) cap) (2 * (k + 1)) ((tmL l0 (k + 1)).map (Value.int .i64)) := by rw [HTM.out, List.map_append, show 2 * (k + 1) = 2 * k + 2 by omega]; exact hown1
          clear hown1 hgrow ownV hbV hat v0 v1
          go_wp2
          go_roundw
          case rel => exact ⟨k + 1, by omega, by go_num, by rw [HS.out], hown'', hbel'⟩
          case measure => simp [intOf]; omega
        · obtain rfl : k = l0.length := by omega
          obtain ⟨g, cap, hv, hg, hgl⟩ := own.form (by omega)
          subst hv
          have HSS : Hid (s = soV l0 l0.length) := Lib.hid hs
          have b2n : 2 * l0.length ≤ 1000 := by omega
          have TM : Hid (2 * l0.length = (tmL l0 l0.length).length) := Lib.hid (length_tmL _ _).symm
          clear hs
          go_wp2_with fail
          refine (sort_at w4.heap.size g (2 * l0.length) cap (tmL l0 l0.length) T _ HT TM.out own b2n).mono ?_
          rintro e w5 ⟨rfl, hT, b5⟩
          have b45 : Below w4.heap.size w4 w5 := hbel.trans b5
          replace h0 := h0.below b45
          replace hb := below_trans hb b45
          obtain ⟨N, hN⟩ : ∃ N, N = 2 * l0.length := ⟨_, rfl⟩
          have HN := Lib.hid hN
          have N1 : N ≤ 120 := by omega
          have N0 : 2 ≤ N := by omega
          rw [← hN] at TL TB TU AB AE
          rw [← HN.out]
          clear own hbel b5 b45 hN b2n TM
          go_wp2
          go_loopw [14, 15] (fun v i wr => ∃ j : Nat, j + 1 ≤ N ∧ i = .int .i64 (j + 1 : Nat) ∧ v = .int .i64 (alV l0 T l0.length j) ∧ Below w5.heap.size w5 wr) (fun _ i _ => N - (intOf i).toNat)
          case atStart => exact ⟨0, by omega, rfl, rfl, Below.refl _ _⟩
          case round =>
            obtain ⟨j, hj, rfl, rfl, hbel⟩ := hrel
            obtain ⟨A, hA⟩ : ∃ A, A = alV l0 T l0.length j := ⟨_, rfl⟩
            have A0 : 0 ≤ A ∧ A ≤ 440000000 := by rw [hA]; have := AB.out j (by omega); omega
            obtain ⟨Aa, Ab⟩ := A0
            rw [← hA]
            obtain ⟨J, hJ⟩ : ∃ J, J = j + 1 := ⟨_, rfl⟩
            have HJ := Lib.hid hJ
            have j1 : (J : Int) - 1 = (j : Int) := by omega
            rw [← hJ]
            by_cases hlt : J < N
            · obtain ⟨b1, o1, x, e1, hc1, HX⟩ := (hT.below hbel).at_ (k := j) (by rw [TL.out]; omega)
              obtain ⟨rfl, rfl⟩ : b1 = g ∧ o1 = 0 := by injection e1 with e1; injection e1 with e1 e2; exact ⟨e1.symm, e2.symm⟩
              clear e1
              have hx := gt_of_get HX.out
              obtain ⟨C, hC⟩ : ∃ C, cnV l0 x l0.length = C := ⟨_, rfl⟩
              have C0 : 0 ≤ C ∧ C ≤ 60 := by rw [← hC]; have := cn_bd l0 x l0.length; omega
              obtain ⟨Ca, Cb⟩ := C0
              have x0 : 0 ≤ x ∧ x ≤ 60200 := by rw [← hx]; exact TB.out j (by omega)
              obtain ⟨xa, xb⟩ := x0
              have i1 : (J : Int) < (N : Int) := by omega
              have i2 : (j : Int) < (N : Int) := by omega
              have HC := Lib.hid hC
              simp only [Nat.zero_add] at hc1
              have HA : Hid (alV l0 T l0.length (j + 1) = A + C * (gt T (j + 1) - x)) := Lib.hid (by rw [alV, ← hA, hx, hC])
              clear hx hC hA
              have h0r := h0.below hbel
              go_wp2_with fail
              refine (fcount_yes a0 l0 _ c0 x C _ HE HC h0r rfl).mono ?_
              rintro e w6 ⟨rfl, b6⟩
              have hbel6 := below_trans hbel b6
              clear hc1 hbel b6 h0r
              obtain ⟨b2, o2, x', e2, hc2, HX'⟩ := (hT.below hbel6).at_ (k := j) (by rw [TL.out]; omega)
              obtain ⟨rfl, rfl⟩ : b2 = b1 ∧ o2 = 0 := by injection e2 with e1; injection e1 with e1 e2; exact ⟨e1.symm, e2.symm⟩
              obtain rfl : x' = x := by have := HX.out; rw [HX'.out] at this; injection this
              obtain ⟨b3, o3, y, e3, hc3, HY⟩ := (hT.below hbel6).at_ (k := J) (by rw [TL.out]; omega)
              obtain ⟨rfl, rfl⟩ : b3 = b2 ∧ o3 = 0 := by injection e3 with e1; injection e1 with e1 e2; exact ⟨e1.symm, e2.symm⟩
              clear e2 e3
              simp only [Nat.zero_add] at hc2 hc3
              have hy := gt_of_get HY.out
              rw [hJ] at hy
              have y0 : 0 ≤ y ∧ y ≤ 60200 := by rw [← hy]; exact TB.out (j + 1) (by omega)
              obtain ⟨ya, yb⟩ := y0
              have xy : x' ≤ y := by rw [← hy, ← gt_of_get HX.out]; exact TU.out j (by omega)
              obtain ⟨P, hP⟩ : ∃ P, P = C * (y - x') := ⟨_, rfl⟩
              have P0 : 0 ≤ P := by rw [hP]; exact Int.mul_nonneg Ca (by omega)
              have P1 : P ≤ 3612000 := by rw [hP]; have := Int.mul_le_mul Cb (show y - x' ≤ 60200 by omega) (by omega) (by omega); omega
              have HA2 : Hid (alV l0 T l0.length (j + 1) = A + P) := Lib.hid (by rw [HA.out, hy, hP])
              have w1' : IntKind.i64.wrap (y - x') = y - x' := IntWalk.i64_in _ ⟨by omega, by omega⟩
              have w2' : IntKind.i64.wrap (C * (y - x')) = P := by rw [← hP]; exact IntWalk.i64_in _ ⟨by omega, by omega⟩
              have w3' : IntKind.i64.wrap (A + P) = A + P := IntWalk.i64_in _ ⟨by omega, by omega⟩
              have w4' : IntKind.i64.wrap ((J : Int) - 1) = (j : Int) := by rw [j1]; exact IntWalk.i64_in _ ⟨by omega, by omega⟩
              clear hy hP hJ
              have hJN : J + 1 ≤ N := hlt
              go_wp2
              go_quiet (fail)
              clear w1' w2' w3' w4' hc2 hc3
              go_wp2
              go_roundw
              case rel => exact ⟨J, hJN, by go_num, by rw [HJ.out, HA2.out], below_trans hbel6 (below_of_drewN rfl)⟩
              case measure =>
                clear xy ya yb xa xb P0 P1 Ca Cb Aa Ab i2 j1
                simp [intOf]
                omega
            · obtain rfl : J = N := by omega
              obtain rfl : A = s := by rw [hA, HSS.out, ← AE.out, hJ]; rfl
              have e0 : (A == A) = true := by simp
              replace hb := below_trans hb hbel
              clear hA hJ
              go_wp2
              go_ret
              exact ⟨rfl, hb⟩
  · have e1 : (pksE l0 != 0) = true := by simp [hE]
    go_enter Try.func4, Try.ntmps4
    go_wp2_with fail
    refine (frun_yes _ [⟨0, 3, 0⟩, ⟨1, 2, 0⟩] [3, 5] _ 2 _ _ (Lib.hid (by decide)) (Lib.hid (by decide)) (by exact Pks.lit _ [⟨0, 3, 0⟩, ⟨1, 2, 0⟩] _ _ rfl (by decide)) rfl rfl).mono ?_
    rintro e w1 ⟨Ax, cx, rfl, hx, kx, b1⟩
    have hone := (Pks.lit w [⟨0, 3, 0⟩, ⟨1, 2, 0⟩] #[.int .i64 0, .int .i64 3, .int .i64 0, .int .i64 1, .int .i64 2, .int .i64 0] 32 rfl (by decide)).below b1
    replace b1 := below_of1 b1
    replace h0 := h0.below b1
    replace hb := below_trans hb b1
    clear b1
    go_wp2_with fail
    refine (equal_at Ax _ [3, 5] [3, 5] _ _ _ _ _ (by exact Ints.alloc hx _) (by exact Ints.lit _ [3, 5] _ _ rfl (by decide)) rfl rfl).mono ?_
    rintro e w2 ⟨rfl, nw2, hww2⟩
    have bw2 := below_of_drewN hww2
    clear hww2
    replace bw2 := below_of1 bw2
    replace h0 := h0.below bw2
    replace hone := hone.below bw2
    replace hb := below_trans hb bw2
    clear bw2
    rw [eqB_true rfl]
    go_wp2_with fail
    refine (fcount_yes _ [⟨0, 3, 0⟩, ⟨1, 2, 0⟩] _ _ 2 2 _ (Lib.hid (by decide)) (Lib.hid (by decide)) hone rfl).mono ?_
    rintro e w3 ⟨rfl, bw3⟩
    replace h0 := h0.below bw3
    replace hb := below_trans hb bw3
    clear bw3
    clear hx kx hone
    go_wp2_with fail
    refine (frun_no a0 l0 c0 _ hE h0).mono ?_
    rintro e w4 ⟨Ax, cx, rfl, b1⟩
    replace hb := below_trans hb b1
    clear b1
    go_wp2
    go_ret
    exact ⟨rfl, hb⟩

end Go.Proofs.Ytmejapenidociaa
