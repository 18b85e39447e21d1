
/-
  The walk of the law TopBucket.
-/
import Derived.Test.YtmejapenidociaaLineA
import Derived.Test.YtmejapenidociaaTopA
import Derived.Test.YtmejapenidociaaTopP
import Derived.Test.YtmejapenidociaaBucketE
import Derived.Test.YtmejapenidociaaShapeK
namespace Go.Proofs.Ytmejapenidociaa
set_option linter.all false
open Go.RowKit Go.Shelf



/-- What has passed of the first k packets, time by time. -/
def paL (r b f : Int) (l : List Pk) (k : Nat) : List Int := tab 60 (fun t => pasV r b f l (t : Int) k)
theorem length_paL (r b f : Int) (l : List Pk) (k : Nat) : (paL r b f l k).length = 60 := length_tab _ _
theorem gt_paL {r b f : Int} {l : List Pk} {k t : Nat} (h : t < 60) : gt (paL r b f l k) t = pasV r b f l (t : Int) k := gt_tab (fun t => pasV r b f l (t : Int) k) h
theorem paL_zero (r b f : Int) (l : List Pk) : ((paL r b f l 0).map (Value.int .i64)).toArray = madeCells #[Value.int .i64 0] 60 := by
  rw [← rowAt_zero 60 (fun _ => 0)]
  congr 1
theorem pas_skip {r b f : Int} {l : List Pk} {k : Nat} (h : okV r b f l k = false ∨ 60 ≤ (pk l k).at_) : paL r b f l (k + 1) = paL r b f l k := by
  refine tab_ext (fun t ht => ?_)
  rw [pasV]
  rcases h with h | h
  · rw [tkn, h]; simp
  · rw [if_neg (by omega)]; omega
theorem pas_set {r b f : Int} {l : List Pk} {k T : Nat} (ho : okV r b f l k = true) (hT : (pk l k).at_ = (T : Int)) (h60 : T < 60) :
    (paL r b f l k).set T (pasV r b f l (T : Int) k + (pk l k).size) = paL r b f l (k + 1) := by
  refine list_ext (by rw [List.length_set, length_paL, length_paL]) (fun t ht => ?_)
  rw [List.length_set, length_paL] at ht
  rw [gt_paL ht, gt_set (by rw [length_paL]; exact h60), pasV, hT]
  by_cases e : t = T
  · subst e; rw [if_pos rfl, if_pos rfl, tkn, if_pos ho]
  · rw [if_neg e, if_neg (by omega), gt_paL ht]; omega
theorem pas_bd {r b f : Int} {l : List Pk} (q : Qu l) (t : Int) : ∀ k, k ≤ l.length → 0 ≤ pasV r b f l t k ∧ pasV r b f l t k ≤ 1000 * k
  | 0, _ => by simp [pasV]
  | k + 1, h => by
    have ih := pas_bd (r := r) (b := b) (f := f) q t k (by omega)
    have := tkn_bd (r := r) (b := b) (f := f) q (j := k) (by omega)
    simp only [pasV]
    split <;> omega

theorem trCheck_at (A : Option Addr) (l : List Int) (nl c : Nat) (E : Int) (w : World) (hE : Hid (trk l = E)) (h : Ints w A l) (hl : nl = l.length) :
    Calls Try.prog 21 #[.slice A nl c] w fun e w' => e = .returned (.int .i64 E) ∧ w = w' := by
  subst hl
  have := trCheck_any A l c w h
  rw [hE.out] at this
  exact this

set_option maxRecDepth 100000 in
set_option maxHeartbeats 6400000 in
theorem walk_TopBucket (r b f : Int) (a1 : Option Addr) (c1 : Nat) (l1 : List Pk) (n : Int) (w : World) (_hr : (Lit.int .i64 r).wf = true) (_hb : (Lit.int .i64 b).wf = true) (_hf : (Lit.int .i64 f).wf = true) (hp : Pks w a1 l1) (_k1 : l1.length ≤ c1) (_hn : (Lit.int .i64 n).wf = true) :
    Calls Try.prog 8 #[.agg #[.int .i64 r, .int .i64 b, .int .i64 f], .slice a1 l1.length c1, .int .i64 n] w fun e w' => e = .returned (.bool true) ∧ Below w.heap.size w w' := by
  have hb : Below w.heap.size w w := Below.refl _ _
  clear _hr _hb _hf _k1 _hn
  by_cases hB : Bk r b f
  · by_cases hq : pksE l1 = 0
    · have HB := Lib.hid hB
      have HQ := Lib.hid hq
      have q := qu_of hq
      have hle := q.le
      have r0 := hB.r0
      have r1 := hB.r1
      have b0 := hB.b0
      have b1' := hB.b1
      clear hB hq
      by_cases hr5 : 5000 < r
      · have t1 : decide (5000 < r) = true := decide_eq_true hr5
        go_enter Try.func8, Try.ntmps8
        go_wp2_with fail
        refine (run_ok a1 l1 r b f c1 _ HB.out (hp.alloc _) HQ.out).mono ?_
        rintro e w1 ⟨Ax, cx, rfl, hx, b1⟩
        have B0 := (Blk.new w 44 #[.int .i64 r, .int .i64 b, .int .i64 f]).below b1
        replace hb := below_of1 b1
        replace hp := (hp.alloc _).below b1
        clear b1
        go_wp2_with fail
        refine (begun_any _).mono ?_
        rintro e w2 ⟨rfl, b2⟩
        replace B0 := B0.below b2
        replace hx := hx.below b2
        replace hp := hp.below b2
        replace hb := below_trans hb b2
        clear b2
        obtain ⟨u0, u1, u2⟩ := three_read B0
        have ul := B0.lt
        go_wp2_with fail
        refine (begun_any _).mono ?_
        rintro e w3 ⟨rfl, b3⟩
        replace hb := below_trans hb b3
        clear b3
        go_wp2
        go_ret
        exact ⟨rfl, hb⟩
      have t1 : decide (5000 < r) = false := decide_eq_false hr5
      by_cases hb4 : 400000 < b
      · have t2 : decide (400000 < b) = true := decide_eq_true hb4
        go_enter Try.func8, Try.ntmps8
        go_wp2_with fail
        refine (run_ok a1 l1 r b f c1 _ HB.out (hp.alloc _) HQ.out).mono ?_
        rintro e w1 ⟨Ax, cx, rfl, hx, b1⟩
        have B0 := (Blk.new w 44 #[.int .i64 r, .int .i64 b, .int .i64 f]).below b1
        replace hb := below_of1 b1
        replace hp := (hp.alloc _).below b1
        clear b1
        go_wp2_with fail
        refine (begun_any _).mono ?_
        rintro e w2 ⟨rfl, b2⟩
        replace B0 := B0.below b2
        replace hx := hx.below b2
        replace hp := hp.below b2
        replace hb := below_trans hb b2
        clear b2
        obtain ⟨u0, u1, u2⟩ := three_read B0
        have ul := B0.lt
        go_wp2_with fail
        refine (begun_any _).mono ?_
        rintro e w3 ⟨rfl, b3⟩
        replace hb := below_trans hb b3
        clear b3
        go_wp2
        go_ret
        exact ⟨rfl, hb⟩
      have t2 : decide (400000 < b) = false := decide_eq_false hb4
      have hmk : ∀ W, Sem.run Try.prog (Instr.makeSlice 23 (.int .i64 60) (.int .i64 60)) W = .ok (.slice (some ⟨W.heap.size, 0, none⟩) 60 60) (W.alloc (.cells (madeCells #[Value.int .i64 0] 60) 3)) := fun W => run_make_row' (P := Try.prog) 23 3 (.int .i64 0) 8 Try.underlying23 int_info rfl .i64 .i64 60 (by omega) (by omega) W
      go_enter Try.func8, Try.ntmps8
      go_wp2_with fail
      refine (run_ok a1 l1 r b f c1 _ HB.out (hp.alloc _) HQ.out).mono ?_
      rintro e w1 ⟨Ax, cx, rfl, hx, b1⟩
      have B0 := (Blk.new w 44 #[.int .i64 r, .int .i64 b, .int .i64 f]).below b1
      replace hb := below_of1 b1
      replace hp := (hp.alloc _).below b1
      clear b1
      go_wp2_with fail
      refine (begun_any _).mono ?_
      rintro e w2 ⟨rfl, b2⟩
      replace B0 := B0.below b2
      replace hx := hx.below b2
      replace hp := hp.below b2
      replace hb := below_trans hb b2
      clear b2
      obtain ⟨u0, u1, u2⟩ := three_read B0
      have ul := B0.lt
      obtain ⟨g0, hg0⟩ : ∃ g, g = w.heap.size := ⟨_, rfl⟩
      obtain ⟨g, hg⟩ : ∃ g, g = w2.heap.size := ⟨_, rfl⟩
      have G0 := Lib.hid hg0
      have G := Lib.hid hg
      have gg : g0 < g := by omega
      have ge : w.heap.size ≤ g := by omega
      rw [← hg0] at B0
      clear hg hg0
      go_wp2
      rw [← G.out, ← G0.out]
      clear u0 u1 u2 ul
      go_loopw [69] (fun v wr => ∃ k : Nat, k ≤ l1.length ∧ v = .int .i64 k ∧ Blk wr g0 44 #[.int .i64 r, .int .i64 b, .int .i64 f] ∧ Blk wr g 3 ((paL r b f l1 k).map (Value.int .i64)).toArray ∧ Below w.heap.size w wr ∧ Below w2.heap.size w2 wr) (fun v _ => l1.length - (intOf v).toNat)
      case atStart => exact ⟨0, Nat.zero_le _, rfl, B0.alloc _, by rw [paL_zero, G.out]; exact Blk.new _ _ _, hb.alloc hb.size _, alloc_below _ _⟩
      case round =>
        clear B0 hb
        obtain ⟨k, hk, rfl, B0, BA, hb, hb2⟩ := hrel
        by_cases hlt : k < l1.length
        · obtain ⟨bb, off, ⟨at_, sz, fl⟩, rfl, hbl, d0, d1, d2, HP⟩ := (hp.below hb2).get hlt
          simp only at d0 d1 d2
          have hK := pk_of HP.out
          have ok := q.ok k hlt
          rw [hK] at ok
          have pa0 := ok.a0
          have pz0 := ok.s0
          have pz1 := ok.s1
          simp only at pa0 pz0 pz1
          obtain ⟨T, hT⟩ := Int.eq_ofNat_of_zero_le pa0
          subst hT
          have i1 : (k : Int) < (l1.length : Int) := by omega
          obtain ⟨bp, op, s, e1, hc1, HS⟩ := (hx.below hb2).get (k := k) (by rw [length_runL]; exact hlt)
          subst e1
          have hs : okV r b f l1 k = s := by have := HS.out; rw [get_runL hlt] at this; injection this
          have blp := cell_lt hc1
          obtain ⟨W, hW⟩ : ∃ W, W = wr.alloc (.cells #[.int .i64 (T : Int), .int .i64 sz, .int .i64 fl] 32) := ⟨_, rfl⟩
          have Bp : Blk W wr.heap.size 32 #[.int .i64 (T : Int), .int .i64 sz, .int .i64 fl] := by rw [hW]; exact Blk.new _ _ _
          have hbW : Below wr.heap.size wr W := by rw [hW]; exact alloc_below _ _
          have HW := Lib.hid hW
          have B0W := B0.below hbW
          have BAW := BA.below hbW
          have hbw := below_trans hb hbW
          have hbw2 := below_trans hb2 hbW
          cases s
          · have HN : Hid (paL r b f l1 (k + 1) = paL r b f l1 k) := Lib.hid (pas_skip (.inl hs))
            clear hs hK ok hW Bp
            go_wp2
            rw [← HW.out]
            go_roundw
            case rel => exact ⟨k + 1, by omega, by go_num, B0W, by rw [HN.out]; exact BAW, hbw, hbw2⟩
            case measure => simp [intOf]; omega
          · by_cases h60 : T < 60
            · have HN : Hid ((paL r b f l1 k).set T (pasV r b f l1 (T : Int) k + sz) = paL r b f l1 (k + 1)) := Lib.hid (by have := pas_set (r := r) (b := b) (f := f) hs (by rw [hK]) h60; rw [hK] at this; exact this)
              obtain ⟨X, hX⟩ : ∃ X, X = pasV r b f l1 (T : Int) k := ⟨_, rfl⟩
              have X0 : 0 ≤ X ∧ X ≤ 60000 := by rw [hX]; have := pas_bd (r := r) (b := b) (f := f) q (T : Int) k hk; omega
              obtain ⟨xa, xb⟩ := X0
              rw [← hX] at HN
              have cT : W.cell? ⟨g, T, none⟩ = some (.int .i64 X) := by
                rw [BAW.cell T, List.getElem?_toArray, List.getElem?_map, get_of_lt (by rw [length_paL]; exact h60), gt_paL h60, hX]; rfl
              have fT := BAW.frozen T
              have R1 : Hid (Blk ((W.setCell ⟨g, T, none⟩ (.int .i64 (X + sz))).drew) g 3 ((paL r b f l1 (k + 1)).map (Value.int .i64)).toArray) := Lib.hid (by
                have := BAW.set_ T (.int .i64 (X + sz))
                rw [set_cells, HN.out] at this
                exact this)
              have R0 : Hid (Blk ((W.setCell ⟨g, T, none⟩ (.int .i64 (X + sz))).drew) g0 44 #[.int .i64 r, .int .i64 b, .int .i64 f]) := Lib.hid (B0W.past (a := ⟨g, T, none⟩) (by simp; omega) _)
              have R2 : Hid (Below w.heap.size w ((W.setCell ⟨g, T, none⟩ (.int .i64 (X + sz))).drew)) := Lib.hid (hbw.setCell (p := ⟨g, T, none⟩) ge _).drew
              have R3 : Hid (Below w2.heap.size w2 ((W.setCell ⟨g, T, none⟩ (.int .i64 (X + sz))).drew)) := Lib.hid (hbw2.setCell (p := ⟨g, T, none⟩) (by rw [← G.out]; exact Nat.le_refl _) _).drew
              obtain ⟨p0, p1, p2⟩ := three_read Bp
              have i2 : (T : Int) < 60 := by omega
              have s1 : IntKind.i64.wrap (X + sz) = X + sz := IntWalk.i64_in _ ⟨by omega, by omega⟩
              have ne1 : ¬ g = wr.heap.size := by have := BA.lt; omega
              have ne2 : ¬ wr.heap.size = g := by have := BA.lt; omega
              clear hs hK ok hW Bp hX HN
              go_wp2
              rw [← HW.out]
              clear d0 d1 d2
              go_region
              go_wp2
              go_roundw
              case rel => exact ⟨k + 1, by omega, by go_num, R0.out, R1.out, R2.out, R3.out⟩
              case measure => simp [intOf]; omega
            · have HN : Hid (paL r b f l1 (k + 1) = paL r b f l1 k) := Lib.hid (pas_skip (.inr (by rw [hK]; simp only; omega)))
              have i2 : ¬ (T : Int) < 60 := by omega
              have i3 : decide ((T : Int) < 60) = false := decide_eq_false i2
              have i4 : decide (T < 60) = false := decide_eq_false h60
              clear hs hK ok hW Bp
              go_wp2
              rw [← HW.out]
              go_roundw
              case rel => exact ⟨k + 1, by omega, by go_num, B0W, by rw [HN.out]; exact BAW, hbw, hbw2⟩
              case measure => simp [intOf]; omega
        · obtain rfl : k = l1.length := by omega
          obtain ⟨A, hA⟩ : ∃ A, A = paL r b f l1 l1.length := ⟨_, rfl⟩
          rw [← hA] at BA
          have al : A.length = 60 := by rw [hA]; exact length_paL _ _ _ _ _
          have AL := Lib.hid al
          have hav : ∀ t, t < A.length → gt A t = pasV r b f l1 (t : Int) l1.length := fun t ht => by rw [hA, gt_paL (by omega)]
          have hfit := pas_fit (r := r) (b := b) (f := f) HB.out q hav
          rw [al] at hfit
          have hAr : Ints wr (some ⟨g, 0, none⟩) A := ⟨by omega, fun _ => ⟨g, 0, rfl, fun j hj => by
            rw [BA.cell, List.getElem?_toArray, List.getElem?_map, Nat.zero_add, get_of_lt hj]; rfl⟩⟩
          clear hA hav al
          obtain ⟨E, HE⟩ : ∃ E, Hid (trk A = E) := ⟨_, Lib.hid rfl⟩
          by_cases hC : E = 0
          · subst hC
            have v := trk_iff.1 HE.out
            obtain ⟨R, hR⟩ : ∃ y, y = wi n 10001 := ⟨_, rfl⟩
            have Rlo : 0 ≤ R := by rw [hR]; exact wi_nonneg _ _ (by omega)
            have Rhi : R < 10001 := by rw [hR]; exact wi_lt n 10001 (by omega)
            have HR := Lib.hid hR
            clear hR
            obtain ⟨Z, hZ⟩ : ∃ Z, Z = tab (60 + 1) (buV r b) := ⟨_, rfl⟩
            obtain ⟨U, hU⟩ : ∃ U, U = tab (60 + 1) (liV R 0) := ⟨_, rfl⟩
            have vZ : Cv Z := by rw [hZ]; exact bu_cv r0 (by omega) b0 (by omega) (by omega)
            have vU : Cv U := by rw [hU]; exact li_cv Rlo (by omega) (Int.le_refl _) (by omega)
            have zl : Z.length = 61 := by rw [hZ, length_tab]
            have ull : U.length = 61 := by rw [hU, length_tab]
            have fl' : (adL A).length = 61 := by rw [length_adL, AL.out]
            have bZ := Lib.hid vZ.small
            have bU := Lib.hid vU.small
            have HZ := Lib.hid hZ
            have HU := Lib.hid hU
            have ZL := Lib.hid zl
            have UL := Lib.hid ull
            have FL := Lib.hid fl'
            have hfit' : Fit (adL A) Z := by rw [hZ]; exact hfit
            have HFB : Hid (fitB (adL A) Z = true) := Lib.hid ((fitB_iff (ad_cv v) vZ (by rw [fl', zl])).2 hfit')
            have EFZ : Hid ((adL A).length = Z.length) := Lib.hid (by rw [fl', zl])
            have HQ2 : Hid (chk2 Z U = 0) := Lib.hid (chk2_iff.2 ⟨vZ, vU, by rw [zl, ull]⟩)
            obtain ⟨M, HM⟩ : ∃ M, Hid (backV Z U = M) := ⟨_, Lib.hid rfl⟩
            have hw : Hid (∀ t, t ≤ 60 → waV A R t ≤ M) := Lib.hid (fun t ht => by
              have := wa_back (a := A) (g := Z) (r := R) hfit' (by rw [zl, AL.out]) (t := t) (by rw [AL.out]; exact ht)
              rw [AL.out, ← hU, HM.out] at this
              exact this)
            have HL := Lib.hid (lin_of (r := R) v Rlo (by omega))
            have hp60 : 0 < (waL A R).length := by rw [length_waL, AL.out]; omega
            obtain ⟨X, hX⟩ : ∃ X, X = maxTo (waL A R) ((waL A R).length - 1) := ⟨_, rfl⟩
            have hXM : X ≤ M := by
              by_cases c : M < X
              · rw [hX] at c
                obtain ⟨i, hi, hgt⟩ := (maxTo_iff _ _ _).1 c
                rw [length_waL, AL.out] at hi
                rw [gt_waL (by rw [AL.out]; omega)] at hgt
                have := hw.out (i + 1) (by omega)
                omega
              · omega
            have HX := Lib.hid hX
            have LW : Hid ((waL A R).length = 60) := Lib.hid (by rw [length_waL, AL.out])
            clear hX hZ hU zl ull fl' hfit hfit'
            go_wp2_with fail
            refine (trCheck_at _ A _ _ 0 _ HE hAr AL.out.symm).mono ?_
            rintro e w' ⟨rfl, rfl⟩
            go_wp2_with fail
            refine (within_any n 10001 _ (by omega) (by omega)).mono ?_
            rintro e w' ⟨rfl, rfl⟩
            rw [← HR.out]
            go_wp2_with fail
            refine (sum_yes' _ A (adL A) _ 61 _ _ v (Lib.hid rfl) hAr AL.out.symm (by rw [AL.out])).mono ?_
            rintro e w4 ⟨Af, cf, rfl, hf, kf, bw4⟩
            replace hAr := hAr.below bw4
            replace B0 := B0.below bw4
            replace hb := below_trans hb bw4
            clear bw4
            obtain ⟨u0, u1, u2⟩ := three_read B0
            go_wp2_with fail
            refine (bucket_yes 60 60 r b Z _ rfl (by omega) r0 r1 b0 b1' HZ.out bZ.out).mono ?_
            rintro e w5 ⟨Az, cz, rfl, oz, bw5⟩
            replace hAr := hAr.below bw5
            replace hf := hf.below bw5
            replace hb := below_trans hb bw5
            have hz := Ints.of_own oz
            clear bw5 oz
            go_wp2_with fail
            refine (line_yes 60 60 R 0 U _ rfl (by omega) Rlo (by omega) (by omega) (by omega) HU.out bU.out).mono ?_
            rintro e w6 ⟨As, cs, rfl, os, bw6⟩
            replace hAr := hAr.below bw6
            replace hf := hf.below bw6
            replace hz := hz.below bw6
            replace hb := below_trans hb bw6
            have hs := Ints.of_own os
            clear bw6 os
            go_wp2_with fail
            refine (fits_yes Af Az (adL A) Z _ _ _ _ true _ (ad_cv v) vZ EFZ.out HFB hf hz (by rw [FL.out]; exact kf) FL.out.symm rfl).mono ?_
            rintro e w7 ⟨rfl, bw7⟩
            replace hAr := hAr.below bw7
            replace hz := hz.below bw7
            replace hs := hs.below bw7
            replace hb := below_trans hb bw7
            clear bw7
            go_wp2_with fail
            refine (lrun_yes _ A (goL A R) (waL A R) _ 60 _ R _ HL (Lib.hid rfl) (Lib.hid rfl) hAr AL.out.symm AL.out.symm).mono ?_
            rintro e w8 ⟨Ap, cp, Ay, cy, rfl, hp, hy, kp, ky, bw8⟩
            replace hz := hz.below bw8
            replace hs := hs.below bw8
            replace hb := below_trans hb bw8
            clear bw8
            go_wp2_with fail
            refine (back_lits Az As Z U _ _ _ _ M _ HQ2.out HM hz hs rfl rfl).mono ?_
            rintro e w9 ⟨rfl, bw9⟩
            replace hy := hy.below bw9
            replace hb := below_trans hb bw9
            clear bw9
            go_wp2_with fail
            refine (smax_at Ay (waL A R) _ _ _ hy hp60 LW.out.symm).mono ?_
            rintro e w' ⟨rfl, rfl⟩
            rw [← HX.out]
            go_wp2
            go_ret
            exact ⟨rfl, hb⟩
          · have t3 : (E != 0) = true := by simp [hC]
            go_wp2_with fail
            refine (trCheck_at _ A _ _ E _ HE hAr AL.out.symm).mono ?_
            rintro e w' ⟨rfl, rfl⟩
            go_wp2
            go_ret
            exact ⟨rfl, hb⟩
    · have t1 : (pksE l1 != 0) = true := by simp [hq]
      go_enter Try.func8, Try.ntmps8
      go_wp2_with fail
      refine (run_no a1 l1 r b f c1 _ hB (hp.alloc _) hq).mono ?_
      rintro e w1 ⟨Ax, cx, rfl, hx, b1⟩
      have B0 := (Blk.new w 44 #[.int .i64 r, .int .i64 b, .int .i64 f]).below b1
      replace hb := below_of1 b1
      replace hp := (hp.alloc _).below b1
      clear b1
      go_wp2_with fail
      refine (begun_any _).mono ?_
      rintro e w2 ⟨rfl, b2⟩
      replace B0 := B0.below b2
      replace hx := hx.below b2
      replace hp := hp.below b2
      replace hb := below_trans hb b2
      clear b2
      obtain ⟨u0, u1, u2⟩ := three_read B0
      have ul := B0.lt
      go_wp2_with fail
      refine (begun_any _).mono ?_
      rintro e w3 ⟨rfl, b3⟩
      replace hb := below_trans hb b3
      clear b3
      go_wp2
      go_ret
      exact ⟨rfl, hb⟩
  · go_enter Try.func8, Try.ntmps8
    go_wp2_with fail
    refine (run_bad a1 l1 r b f c1 _ hB).mono ?_
    rintro e w1 ⟨Ax, cx, rfl, hx, b1⟩
    have B0 := (Blk.new w 44 #[.int .i64 r, .int .i64 b, .int .i64 f]).below b1
    replace hb := below_of1 b1
    replace hp := (hp.alloc _).below b1
    clear b1
    go_wp2_with fail
    refine (begun_any _).mono ?_
    rintro e w2 ⟨rfl, b2⟩
    replace B0 := B0.below b2
    replace hx := hx.below b2
    replace hp := hp.below b2
    replace hb := below_trans hb b2
    clear b2
    obtain ⟨u0, u1, u2⟩ := three_read B0
    have ul := B0.lt
    go_wp2_with fail
    refine (begun_any _).mono ?_
    rintro e w3 ⟨rfl, b3⟩
    replace hb := below_trans hb b3
    clear b3
    go_wp2
    go_ret
    exact ⟨rfl, hb⟩

end Go.Proofs.Ytmejapenidociaa
