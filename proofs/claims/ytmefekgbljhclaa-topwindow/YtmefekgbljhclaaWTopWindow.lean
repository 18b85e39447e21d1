
/-
  The walk of the law TopWindow.
-/
import Derived.Test.YtmefekgbljhclaaWinX
import Derived.Test.YtmefekgbljhclaaWindowQ
import Derived.Test.YtmefekgbljhclaaBoundK
import Derived.Test.YtmefekgbljhclaaShapeK
import Derived.Test.YtmefekgbljhclaaBegA
namespace Go.Proofs.Ytmefekgbljhclaa
set_option linter.all false
open Go.RowKit Go.Shelf

/-- What is sent in each slot, of the first k pieces. -/
def snV (w p k t : Nat) : Int := ctV (sfV w p) t (t + 1) k
def snL (w p k : Nat) : List Int := tab 60 (snV w p k)
/-- A window in each trip. -/
def stwV (w p t : Nat) : Int := (((t + p - 1) / p * w : Nat) : Int)
theorem sn_next (w p k t : Nat) : snV w p (k + 1) t = snV w p k t + if t ≤ sfV w p k ∧ sfV w p k < t + 1 then 1 else 0 := rfl
theorem length_snL (w p k : Nat) : (snL w p k).length = 60 := length_tab _ _
theorem gt_snL {w p k t : Nat} (h : t < 60) : gt (snL w p k) t = snV w p k t := gt_tab _ h
theorem snL_zero (w p : Nat) : ((snL w p 0).map (Value.int .i64)).toArray = madeCells #[Value.int .i64 0] 60 := by
  rw [← rowAt_zero 60 (fun _ => 0)]
  congr 1
theorem sn_skip {w p k : Nat} (h : 60 ≤ sfV w p k) : snL w p (k + 1) = snL w p k := by
  refine tab_ext (fun t ht => ?_)
  rw [sn_next, if_neg (by omega), Int.add_zero]
theorem sn_set {w p k T : Nat} (hT : sfV w p k = T) (h60 : T < 60) : (snL w p k).set T (snV w p k T + 1) = snL w p (k + 1) := by
  refine list_ext (by rw [List.length_set, length_snL, length_snL]) (fun t ht => ?_)
  rw [List.length_set, length_snL] at ht
  rw [gt_snL ht, gt_set (by rw [length_snL]; exact h60), sn_next, hT]
  by_cases e : t = T
  · subst e; rw [if_pos rfl, if_pos (by omega)]
  · rw [if_neg e, if_neg (by omega), gt_snL ht]; omega
theorem sn_bd (w p k t : Nat) : 0 ≤ snV w p k t ∧ snV w p k t ≤ k := ct_lo _ _ _ k
theorem stw_q (p t : Nat) (hp : 1 ≤ p) : (t + p - 1) / p ≤ t := by
  rw [Nat.div_le_iff_le_mul_add_pred (by omega)]
  have : 1 * t ≤ p * t := Nat.mul_le_mul_right t hp
  omega
theorem stw_bd {w p t : Nat} (hp : 1 ≤ p) (hw : w ≤ 200) (ht : t ≤ 60) : (t + p - 1) / p * w ≤ 12000 := by
  have := stw_q p t hp
  have h : (t + p - 1) / p * w ≤ 60 * 200 := Nat.mul_le_mul (by omega) hw
  omega
theorem stw_cv {w p : Nat} (hp : 1 ≤ p) (hw : w ≤ 200) : Cv (tab 61 (stwV w p)) :=
  Cv.tab (by omega) (by omega) (fun t _ => by unfold stwV; omega) (fun t ht => by have := stw_bd (w := w) (p := p) (t := t) hp hw (by omega); unfold stwV; omega)
    (fun t _ => by
      have h : (t + p - 1) / p ≤ (t + 1 + p - 1) / p := Nat.div_le_div_right (by omega)
      have := Nat.mul_le_mul_right w h
      unfold stwV; omega)
theorem li_one (t : Nat) : liV 1 0 t = (t : Int) := by
  unfold liV
  split <;> omega
theorem set_cellsW (l : List Int) (k : Nat) (v : Int) : ((l.map (Value.int .i64)).toArray).setIfInBounds k (.int .i64 v) = ((l.set k v).map (Value.int .i64)).toArray := by
  rw [List.map_set]; simp
theorem trSum_at (A : Option Addr) (l F : List Int) (nl n c : Nat) (w : World) (h0 : trk l = 0) (hF : trL l = F) (hl : l.length = nl) (hn : F.length = n) (h : Ints w A l) :
    Calls Try.prog 33 #[.slice A nl c] w fun e w' => ∃ B d, e = .returned (.tuple #[.slice B n d, .int .i64 0]) ∧ Ints w' B F ∧ n ≤ d ∧ Below w.heap.size w w' := by
  subst hl hn hF
  refine (trSum_any A l c w h).mono ?_
  rintro e w' ⟨B, d, rfl, o, hb⟩
  exact ⟨B, d, by rw [h0], Ints.of_own o, own_cap o, hb⟩
set_option maxRecDepth 100000 in
set_option maxHeartbeats 6400000 in
theorem walk_TopWindow (n1 n2 n3 : Int) (w : World) (_h1 : (Lit.int .i64 n1).wf = true) (_h2 : (Lit.int .i64 n2).wf = true) (_h3 : (Lit.int .i64 n3).wf = true) :
    Calls Try.prog 13 #[.int .i64 n1, .int .i64 n2, .int .i64 n3] w fun e w' => e = .returned (.bool true) ∧ Below w.heap.size w w' := by
  have hb := Below.refl w.heap.size w
  clear _h1 _h2 _h3
  by_cases hE : wnE n1 n2 n3 = 0
  · obtain ⟨N, Wd, P, rfl, rfl, rfl, v⟩ := wn_of hE
    have v1 := v.n1
    have v2 := v.w0
    have v3 := v.w1
    have v4 := v.p0
    have v5 := v.p1
    have n200 : ¬ 200 < (N : Int) := by omega
    have e200 : decide (200 < (N : Int)) = false := decide_eq_false n200
    have hmk : ∀ W, Sem.run Try.prog (Instr.makeSlice 25 (.int .i64 60) (.int .i64 60)) W = .ok (.slice (some ⟨W.heap.size, 0, none⟩) 60 60) (W.alloc (.cells (madeCells #[Value.int .i64 0] 60) 3)) := fun W => run_make_row' (P := Try.prog) 25 3 (.int .i64 0) 8 Try.underlying25 int_info rfl .i64 .i64 60 (by omega) (by omega) W
    have hmk2 : ∀ W, Sem.run Try.prog (Instr.makeSlice 25 (.int .i64 61) (.int .i64 61)) W = .ok (.slice (some ⟨W.heap.size, 0, none⟩) 61 61) (W.alloc (.cells (madeCells #[Value.int .i64 0] 61) 3)) := fun W => run_make_row' (P := Try.prog) 25 3 (.int .i64 0) 8 Try.underlying25 int_info rfl .i64 .i64 61 (by omega) (by omega) W
    clear hE
    go_enter Try.func13, Try.ntmps13
    go_wp2_with fail
    refine (winC.sent' N Wd P _ v).mono ?_
    rintro e w1 ⟨A, c, rfl, ix, hc, b1⟩
    replace hb := below_trans hb b1
    clear b1
    go_wp2_with fail
    refine (begin_any _).mono ?_
    rintro e w2 ⟨rfl, b2⟩
    replace ix := ix.below b2
    replace hb := below_trans hb b2
    clear b2
    obtain ⟨g, hg⟩ : ∃ g, g = w2.heap.size := ⟨_, rfl⟩
    have G := Lib.hid hg
    have ge : w.heap.size ≤ g := by have := hb.size; omega
    clear hg
    go_wp2
    rw [← G.out]
    go_loopw [45] (fun s wr => ∃ k : Nat, k ≤ N ∧ s = .int .i64 k ∧ Blk wr g 3 ((snL Wd P k).map (Value.int .i64)).toArray ∧ Below w.heap.size w wr ∧ Below w2.heap.size w2 wr) (fun s _ => N - (intOf s).toNat)
    case atStart => exact ⟨0, Nat.zero_le _, rfl, by rw [snL_zero, G.out]; exact Blk.new _ _ _, hb.alloc hb.size _, (Below.refl _ w2).alloc (Nat.le_refl _) _⟩
    case round =>
      clear hb
      obtain ⟨k, hk, rfl, BA, hb, hb2⟩ := hrel
      by_cases hlt : k < N
      · obtain ⟨b1', o1', x, rfl, cx, HX⟩ := (ix.below hb2).at_ (k := k) (by rw [length_tab]; exact hlt)
        obtain ⟨T, hT⟩ : ∃ T, T = sfV Wd P k := ⟨_, rfl⟩
        obtain rfl : x = (T : Int) := by have := HX.out; rw [get_tab _ hlt] at this; rw [← Option.some.inj this, hT]; rfl
        have i1 : (k : Int) < (N : Int) := by omega
        have blx := cell_lt cx
        clear HX
        by_cases h60 : T < 60
        · have HN := Lib.hid (sn_set hT.symm h60)
          obtain ⟨X, hX⟩ : ∃ X, X = snV Wd P k T := ⟨_, rfl⟩
          have xb := sn_bd Wd P k T
          rw [← hX] at HN xb
          obtain ⟨xa, xb⟩ := xb
          have cT : wr.cell? ⟨g, T, none⟩ = some (.int .i64 X) := by
            rw [BA.cell T, List.getElem?_toArray, List.getElem?_map, get_of_lt (by rw [length_snL]; exact h60), gt_snL h60, hX]; rfl
          have fT := BA.frozen T
          have R1 : Hid (Blk (wr.setCell ⟨g, T, none⟩ (.int .i64 (X + 1))) g 3 ((snL Wd P (k + 1)).map (Value.int .i64)).toArray) := Lib.hid (by
            have := BA.set_ T (.int .i64 (X + 1))
            rw [set_cellsW, HN.out] at this
            exact this)
          have R2 : Hid (Below w.heap.size w (wr.setCell ⟨g, T, none⟩ (.int .i64 (X + 1)))) := Lib.hid (hb.setCell (p := ⟨g, T, none⟩) ge _)
          have R3 : Hid (Below w2.heap.size w2 (wr.setCell ⟨g, T, none⟩ (.int .i64 (X + 1)))) := Lib.hid (hb2.setCell (p := ⟨g, T, none⟩) (by rw [← G.out]; exact Nat.le_refl _) _)
          have i2 : (T : Int) < 60 := by omega
          have s1 : IntKind.i64.wrap (X + 1) = X + 1 := IntWalk.i64_in _ ⟨by omega, by omega⟩
          clear hX HN hT BA hb hb2
          go_wp2
          go_roundw
          case rel => exact ⟨k + 1, by omega, by go_num, R1.out, R2.out, R3.out⟩
          case measure => simp [intOf]; omega
        · have HN := Lib.hid (sn_skip (w := Wd) (p := P) (k := k) (by omega))
          have i2 : ¬ (T : Int) < 60 := by omega
          have i3 : decide ((T : Int) < 60) = false := decide_eq_false i2
          have i4 : decide (T < 60) = false := decide_eq_false h60
          clear hT
          go_wp2
          go_roundw
          case rel => exact ⟨k + 1, by omega, by go_num, by rw [HN.out]; exact BA, hb, hb2⟩
          case measure => simp [intOf]; omega
      · obtain rfl : N = k := by omega
        have i1 : ¬ (N : Int) < (N : Int) := by omega
        clear ix hb2 hc
        obtain ⟨L, hL⟩ : ∃ L, L = snL Wd P N := ⟨_, rfl⟩
        have ll : L.length = 60 := by rw [hL, length_snL]
        have lv : ∀ t, t < L.length → gt L t = ctV (sfV Wd P) t (t + 1) N := fun t ht => by rw [hL, gt_snL (by omega)]; rfl
        have vL : Tr L := ⟨by omega, fun i hi => by rw [lv i hi]; exact (ct_lo _ _ _ N).1, fun i hi => by rw [lv i hi]; have := (ct_lo (sfV Wd P) i (i + 1) N).2; omega⟩
        rw [← hL] at BA
        have hAr : Ints wr (some ⟨g, 0, none⟩) L := ⟨by omega, fun _ => ⟨g, 0, rfl, fun j hj => by
          rw [BA.cell, List.getElem?_toArray, List.getElem?_map, Nat.zero_add, get_of_lt hj]; rfl⟩⟩
        obtain ⟨F, hF⟩ : ∃ F, F = adL L := ⟨_, rfl⟩
        have vF : Cv F := by rw [hF]; exact ad_cv vL
        have fl : F.length = 61 := by rw [hF, length_adL, ll]
        obtain ⟨U, hU⟩ : ∃ U, U = tab (60 + 1) (liV 1 0) := ⟨_, rfl⟩
        have vU : Cv U := by rw [hU]; exact li_cv (by omega) (by omega) (Int.le_refl _) (by omega)
        have ul : U.length = 61 := by rw [hU, length_tab]
        have uv : ∀ d, d ≤ L.length → gt U d = (d : Int) := fun d hd => by rw [hU, gt_tab _ (by omega), li_one]
        obtain ⟨S, hS⟩ : ∃ S, S = tab 61 (stwV Wd P) := ⟨_, rfl⟩
        have vS : Cv S := by rw [hS]; exact stw_cv v4 v3
        have sl : S.length = 61 := by rw [hS, length_tab]
        obtain ⟨M, zM⟩ := ex_min vS vU (by rw [sl, ul])
        have ml : M.length = 61 := by rw [zM.rlen, sl]
        have mv : ∀ d, d ≤ L.length → gt M d = min (((d + P - 1) / P * Wd : Nat) : Int) (d : Int) := fun d hd => by
          rw [zM.val d (by omega), uv d hd, hS, gt_tab _ (by omega)]; rfl
        have hfit : fitB F M = true := (fitB_iff vF zM.r (by rw [fl, ml])).2 (by rw [hF]; exact win_fit v2 v4 lv mv)
        have hbk : backV F U = 0 := by rw [hF]; exact win_back v2 v4 lv uv
        have hq : chk2 F U = 0 := chk2_iff.2 ⟨vF, vU, by rw [fl, ul]⟩
        have HT : Hid (trk L = 0) := Lib.hid (trk_iff.2 vL)
        have HTL : Hid (trL L = F) := Lib.hid (by rw [trL_yes vL, hF])
        have HFit := Lib.hid hfit
        have HBk := Lib.hid hbk
        have HQ := Lib.hid hq
        have HLL := Lib.hid ll
        have HFL := Lib.hid fl
        have HUL := Lib.hid ul
        have HML := Lib.hid ml
        have HS := Lib.hid hS
        have HU := Lib.hid hU
        have bU := Lib.hid vU.small
        have HZ := Lib.hid zM
        have HFM : Hid (F.length = M.length) := Lib.hid (by rw [fl, ml])
        have vM := zM.r
        have HSL := Lib.hid sl
        clear hfit hbk hq ll fl ul ml hS hU zM mv uv lv hF hL BA sl vS
        go_wp2_with fail
        refine (trSum_at _ L F 60 61 _ _ HT.out HTL.out HLL.out HFL.out hAr).mono ?_
        rintro e w4 ⟨Af, cf, rfl, hf, kf, b4⟩
        replace hb := below_trans hb b4
        clear b4 hAr
        go_wp2_with fail
        refine (line_yes 60 60 1 0 U _ rfl (by omega) (by omega) (by omega) (by omega) (by omega) HU.out bU.out).mono ?_
        rintro e w5 ⟨Au, cu, rfl, ou, bw5⟩
        replace hf := hf.below bw5
        replace hb := below_trans hb bw5
        have hu := Ints.of_own ou
        clear bw5 ou
        obtain ⟨g2, hg2⟩ : ∃ g2, g2 = w5.heap.size := ⟨_, rfl⟩
        have G2 := Lib.hid hg2
        have ge2 : w.heap.size ≤ g2 := by have := hb.size; omega
        clear hg2
        go_wp2
        rw [← G2.out]
        go_loopw [70] (fun s wr => ∃ k : Nat, k ≤ 61 ∧ s = .int .i64 k ∧ Blk wr g2 3 (rowAt 61 k (stwV Wd P)).toArray ∧ Below w.heap.size w wr ∧ Below w5.heap.size w5 wr) (fun s _ => 61 - (intOf s).toNat)
        case atStart => exact ⟨0, Nat.zero_le _, rfl, by rw [rowAt_zero, G2.out]; exact Blk.new _ _ _, hb.alloc hb.size _, (Below.refl _ w5).alloc (Nat.le_refl _) _⟩
        case round =>
          clear hb
          obtain ⟨k, hk, rfl, BA, hb, hb2⟩ := hrel
          by_cases hlt : k < 61
          · have i2 : (k : Int) < 61 := by omega
            have qb := stw_q P k v4
            have sb := stw_bd (w := Wd) (p := P) (t := k) v4 v3 (by omega)
            have HV : Hid (stwV Wd P k = (((k + P - 1) / P * Wd : Nat) : Int)) := Lib.hid rfl
            obtain ⟨q, hq⟩ : ∃ q, q = (k + P - 1) / P := ⟨_, rfl⟩
            rw [← hq] at qb sb HV
            have m1 : IntKind.i64.wrap ((k : Int) + (P : Int)) = (k : Int) + (P : Int) := IntWalk.i64_in _ ⟨by omega, by omega⟩
            have m2 : IntKind.i64.wrap ((k : Int) + (P : Int) - 1) = (k : Int) + (P : Int) - 1 := IntWalk.i64_in _ ⟨by omega, by omega⟩
            have m3 : Int.tdiv ((k : Int) + (P : Int) - 1) (P : Int) = (q : Int) := by
              rw [hq, Int.tdiv_eq_ediv_of_nonneg (by omega), show (k : Int) + (P : Int) - 1 = ((k + P - 1 : Nat) : Int) by omega]; simp
            have m4 : IntKind.i64.wrap (q : Int) = (q : Int) := IntWalk.i64_in _ ⟨by omega, by omega⟩
            obtain ⟨Y, hY⟩ : ∃ Y, Y = (q : Int) * (Wd : Int) := ⟨_, rfl⟩
            have HV' : Hid (stwV Wd P k = Y) := Lib.hid (by rw [HV.out, hY]; simp)
            have yb : 0 ≤ Y ∧ Y ≤ 12000 := by rw [← HV'.out, HV.out]; omega
            obtain ⟨y0, y1⟩ := yb
            have m5 : IntKind.i64.wrap ((q : Int) * (Wd : Int)) = Y := by rw [← hY]; exact IntWalk.i64_in _ ⟨by omega, by omega⟩
            have z1 : ¬ (P : Int) = 0 := by omega
            have z2 : ¬ P = 0 := by omega
            have ck : wr.cell? ⟨g2, k, none⟩ = some (.int .i64 0) := by rw [BA.cell k]; simpa using rowAt_get (stwV Wd P) hlt
            have fk := BA.frozen k
            have R1 : Hid (Blk (wr.setCell ⟨g2, k, none⟩ (.int .i64 Y)) g2 3 (rowAt 61 (k + 1) (stwV Wd P)).toArray) := Lib.hid (by
              have := BA.set_ k (.int .i64 Y)
              rw [← HV'.out, rowAt_succ _ hlt, HV'.out] at this
              exact this)
            have R2 : Hid (Below w.heap.size w (wr.setCell ⟨g2, k, none⟩ (.int .i64 Y))) := Lib.hid (hb.setCell (p := ⟨g2, k, none⟩) ge2 _)
            have R3 : Hid (Below w5.heap.size w5 (wr.setCell ⟨g2, k, none⟩ (.int .i64 Y))) := Lib.hid (hb2.setCell (p := ⟨g2, k, none⟩) (by rw [← G2.out]; exact Nat.le_refl _) _)
            clear hq hY BA hb hb2 qb sb HV HV'
            go_wp2
            go_roundw
            case rel => exact ⟨k + 1, by omega, by go_num, R1.out, R2.out, R3.out⟩
            case measure => simp [intOf]; omega
          · obtain rfl : k = 61 := by omega
            have hSr : Ints wr (some ⟨g2, 0, none⟩) S := ⟨by rw [HSL.out]; omega, fun _ => ⟨g2, 0, rfl, fun j hj => by
              rw [HSL.out] at hj
              rw [BA.cell, rowAt_full, List.getElem?_toArray, List.getElem?_map, Nat.zero_add, ← HS.out, get_of_lt (by rw [HSL.out]; exact hj)]; rfl⟩⟩
            replace hf := hf.below hb2
            replace hu := hu.below hb2
            obtain ⟨X, hX⟩ : ∃ X, X = (Wd : Int) * 60 := ⟨_, rfl⟩
            have m1 : IntKind.i64.wrap ((Wd : Int) * 60) = X := by rw [hX]; exact IntWalk.i64_in _ ⟨by omega, by omega⟩
            have i2 : ¬ 1000000 < X := by omega
            have i3 : decide (1000000 < X) = false := decide_eq_false i2
            clear hX
            clear BA hb2
            go_wp2_with fail
            refine (pmin_at _ _ S U M _ _ _ _ _ HZ.out hSr hu HSL.out.symm rfl).mono ?_
            rintro e w6 ⟨Am, cm, rfl, om, bw6⟩
            replace hf := hf.below bw6
            replace hu := hu.below bw6
            replace hb := below_trans hb bw6
            have hm := Ints.of_own om
            have km := own_cap om
            clear bw6 om
            go_wp2_with fail
            refine (fits_yes Af Am F M _ _ _ _ true _ vF vM HFM.out HFit hf hm (by rw [HFL.out]; exact kf) HFL.out.symm rfl).mono ?_
            rintro e w7 ⟨rfl, bw7⟩
            replace hf := hf.below bw7
            replace hu := hu.below bw7
            replace hm := hm.below bw7
            replace hb := below_trans hb bw7
            clear bw7
            go_wp2_with fail
            refine (back_lits Af Au F U _ _ _ _ 0 _ HQ.out HBk hf hu HFL.out.symm rfl).mono ?_
            rintro e w8 ⟨rfl, bw8⟩
            replace hb := below_trans hb bw8
            clear bw8
            go_wp2
            go_ret
            exact ⟨rfl, hb⟩
  · go_enter Try.func13, Try.ntmps13
    go_wp2_with fail
    refine (winC.sent_no n1 n2 n3 _ hE).mono ?_
    rintro e w1 ⟨⟨A, c, rfl⟩, b1⟩
    replace hb := below_trans hb b1
    clear b1
    go_wp2_with fail
    refine (begin_any _).mono ?_
    rintro e w2 ⟨rfl, b2⟩
    replace hb := below_trans hb b2
    clear b2
    go_wp2_with fail
    refine (begin_any _).mono ?_
    rintro e w3 ⟨rfl, b3⟩
    replace hb := below_trans hb b3
    clear b3
    go_wp2
    go_ret
    exact ⟨rfl, hb⟩

end Go.Proofs.Ytmefekgbljhclaa
