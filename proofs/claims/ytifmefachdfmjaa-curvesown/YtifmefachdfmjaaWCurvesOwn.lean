
/-
  The walk of the law CurvesOwn.
-/
import Derived.Test.YtifmefachdfmjaaOwnL
namespace Go.Proofs.Ytifmefachdfmjaa
set_option linter.all false
open Go.RowKit Go.Shelf

theorem late_lit (A : Option Addr) (nl c : Nat) (w : World) (h : Ints w A [1, 2]) (hn : nl = 2) : Calls Try.prog 28 #[.slice A nl c, .int .i64 0] w (Ans [1, 2] 0 w) := by
  subst hn
  have := late_any A [1, 2] c 0 w h
  rw [show resL (lateE [1, 2] 0) (tab ([1, 2] : List Int).length (lateV [1, 2] 0)) = [1, 2] by decide, show resE (lateE [1, 2] 0) (tab ([1, 2] : List Int).length (lateV [1, 2] 0)) = 0 by decide] at this
  exact this

set_option maxRecDepth 100000 in
set_option maxHeartbeats 6400000 in
theorem walk_CurvesOwn (a0 : Option Addr) (c0 : Nat) (l0 : List Int) (a1 : Option Addr) (c1 : Nat) (l1 : List Int) (n : Int) (w : World)
    (h0 : Ints w a0 l0) (_k0 : l0.length ≤ c0) (n0 : a0 = none → c0 = 0) (s0 : 8 * (l0.length + 3) ≤ 281474976710656) (h1 : Ints w a1 l1) (_k1 : l1.length ≤ c1) (n1 : a1 = none → c1 = 0) (s1 : 8 * (l1.length + 3) ≤ 281474976710656) (_hn : (Lit.int .i64 n).wf = true) :
    Calls Try.prog 11 #[.slice a0 l0.length c0, .slice a1 l1.length c1, .int .i64 n] w fun e w' => e = .returned (.bool true) ∧ Below w.heap.size w w' := by
  clear _k0 _k1 _hn
  have hb : Below w.heap.size w w := Below.refl _ _
  have H0 := h0
  have H1 := h1
  obtain ⟨i0, hi0, hz0, hz1, hz2⟩ := info_parts row_info
  obtain ⟨L1, E1, K1⟩ := fn_cut l0 ((l0.length : Int) - 1)
  obtain ⟨L2, E2, K2⟩ := fn_min l0 l1
  obtain ⟨L3, E3, K3⟩ := fn_max l0 l1
  obtain ⟨L4, E4, K4⟩ := fn_sum l0 l1
  obtain ⟨L5, E5, K5⟩ := fn_less l0 l1
  obtain ⟨L6, E6, K6⟩ := fn_late l0 0
  obtain ⟨L7, E7, K7⟩ := fn_up l0 0
  obtain ⟨L8, E8, K8⟩ := fn_conv l0 l1
  obtain ⟨L9, E9, K9⟩ := fn_times l0 1
  obtain ⟨L10, E10, K10⟩ := fn_deconv l0 l1
  obtain ⟨L11, E11, K11⟩ := fn_clos l0
  obtain ⟨L12, E12, K12⟩ := fn_dual l0 l1
  obtain ⟨L13, E13, K13⟩ := fn_super l0
  obtain ⟨L14, E14, K14⟩ := fn_trsum l0
  obtain ⟨L15, E15, K15⟩ := fn_slots l0
  obtain ⟨L16, E16, K16⟩ := fn_env l0
  obtain ⟨L17, E17, K17⟩ := fn_shaper l0 l1
  obtain ⟨LX, LY, EL, KL⟩ := fn_line l0 (wi n 100)
  go_enter Try.func11, Try.ntmps11
  go_wp2_with fail
  refine (late_lit _ _ _ _ (by exact Ints.lit _ [1, 2] _ _ rfl (by decide)) rfl).mono ?_
  rintro e wa ⟨Ax, cx, rfl, ox, bwa⟩
  replace bwa := below_of1 bwa
  replace h0 := h0.below bwa
  replace h1 := h1.below bwa
  replace hb := below_trans hb bwa
  have hx := Ints.of_own ox
  clear bwa ox
  go_wp2_with fail
  refine (equal_at Ax _ [1, 2] [1, 2] _ _ _ _ _ (by exact Ints.alloc hx _) (by exact Ints.lit _ _ _ _ rfl (by decide)) rfl rfl).mono ?_
  rintro e wb ⟨rfl, nwb, hwwb⟩
  have bwb := below_of_drewN hwwb
  clear hwwb
  replace bwb := below_of1 bwb
  replace h0 := h0.below bwb
  replace h1 := h1.below bwb
  replace hb := below_trans hb bwb
  clear bwb
  rw [eqB_true rfl]
  clear hx
  go_wp2_with fail
  refine (roomy_any a0 l0 c0 (-7) _ h0 n0 s0).mono ?_
  rintro e wc ⟨ga, rfl, ga1, Ba, bc⟩
  replace h1 := h1.below bc
  replace ga1 : w.heap.size ≤ ga := Nat.le_trans hb.size ga1
  replace hb := below_trans hb bc
  clear bc
  go_wp2_with fail
  refine (roomy_any a1 l1 c1 (-8) _ h1 n1 s1).mono ?_
  rintro e wd ⟨gb, rfl, gb1, Bb, bd⟩
  have hab : ga < gb := Nat.lt_of_lt_of_le Ba.lt gb1
  replace Ba := Ba.belowO bd
  replace gb1 : w.heap.size ≤ gb := Nat.le_trans hb.size gb1
  replace hb := below_trans hb bd
  clear bd
  obtain ⟨gl, hgl'⟩ : ∃ g, g = wd.heap.size := ⟨_, rfl⟩
  have GL := Lib.hid hgl'
  have hga : ga < gl := by rw [hgl']; exact Ba.lt
  have hgb : gb < gl := by rw [hgl']; exact Bb.lt
  have hgl : w.heap.size ≤ gl := by omega
  obtain ⟨base, hbase⟩ : ∃ b, b = gl + 1 := ⟨_, rfl⟩
  obtain ⟨ps, hps⟩ : ∃ ps : List (Value × List Int), ps = [] := ⟨_, rfl⟩
  obtain ⟨v, hv⟩ : ∃ v : Value, v = .slice none 0 0 := ⟨_, rfl⟩
  have HPL : Hid (ps.length = 0) := Lib.hid (by rw [hps]; rfl)
  have HH : Hold (wd.alloc (.cells #[.slice none 0 0] 46)) base gl ps v := by
    subst hps hv
    refine ⟨by rw [hgl']; exact Blk.new _ _ _, by omega, by simp; omega, World.ownsRow_nil _ _ _ _, fun p hp => by simp at hp, fun p hp => by simp at hp, fun p hp => by simp at hp, List.Pairwise.nil⟩
  clear hps hv hgl' hbase
  replace Ba := Ba.alloc (.cells #[.slice none 0 0] 46)
  replace Bb := Bb.alloc (.cells #[.slice none 0 0] 46)
  have z1 : IntKind.i64.wrap ((l0.length : Int) - 1) = (l0.length : Int) - 1 := IntWalk.i64_in _ ⟨by omega, by omega⟩
  have ha9 : l0.length ≤ 9223372036854775807 := by omega
  have hb9 : l1.length ≤ 9223372036854775807 := by omega
  have hk0 : l0.length ≤ l0.length + 3 := by omega
  have hk1 : l1.length ≤ l1.length + 3 := by omega
  go_wp2_with fail
  rw [← GL.out]
  clear GL
  go_wp2_with fail
  refine (K1.call (some ⟨ga, 0, none⟩) (l0.length + 3) _ (Ints.of_room Ba ha9) hk0).mono ?_
  rintro e wx ⟨Ar, cr, rfl, or, br⟩
  obtain ⟨nr1, nr2⟩ := HH.new or
  have or' := own_lower or HH.le
  replace HH := HH.below br
  replace Ba := Ba.belowO br
  replace Bb := Bb.belowO br
  replace hb := below_trans hb (below_of1 br)
  clear br or
  go_wp2_with fail
  refine (keep_any Ar _ cr _ L1 base gl ps _ wx HH or' nr1 nr2 K1.len (by rw [HPL.out]; decide)).mono ?_
  rintro e wr ⟨rfl, v', HH', bk⟩
  replace Ba : Blk wr ga 3 _ := (bk.block ga hga).trans Ba
  replace Bb : Blk wr gb 3 _ := (bk.block gb hgb).trans Bb
  replace hb := hb.trans (bk.mono hgl)
  have HPL' : Hid ((ps ++ [(Value.slice Ar (List.length L1) cr, L1)]).length = 1) := Lib.hid (by simp [HPL.out])
  clear HH or' nr1 nr2 bk HPL
  generalize (ps ++ [(Value.slice Ar (List.length L1) cr, L1)]) = ps at HH' HPL'
  have HH := HH'
  have HPL := HPL'
  clear HH' HPL'
  go_wp2_with fail
  refine (K2.call (some ⟨ga, 0, none⟩) (some ⟨gb, 0, none⟩) (l0.length + 3) (l1.length + 3) _ (Ints.of_room Ba ha9) (Ints.of_room Bb hb9) hk0 hk1).mono ?_
  rintro e wx ⟨Ar, cr, rfl, or, br⟩
  obtain ⟨nr1, nr2⟩ := HH.new or
  have or' := own_lower or HH.le
  replace HH := HH.below br
  replace Ba := Ba.belowO br
  replace Bb := Bb.belowO br
  replace hb := below_trans hb br
  clear br or
  go_wp2_with fail
  refine (keep_any Ar _ cr _ L2 base gl ps _ wx HH or' nr1 nr2 K2.len (by rw [HPL.out]; decide)).mono ?_
  rintro e wr ⟨rfl, v', HH', bk⟩
  replace Ba : Blk wr ga 3 _ := (bk.block ga hga).trans Ba
  replace Bb : Blk wr gb 3 _ := (bk.block gb hgb).trans Bb
  replace hb := hb.trans (bk.mono hgl)
  have HPL' : Hid ((ps ++ [(Value.slice Ar (List.length L2) cr, L2)]).length = 2) := Lib.hid (by simp [HPL.out])
  clear HH or' nr1 nr2 bk HPL
  generalize (ps ++ [(Value.slice Ar (List.length L2) cr, L2)]) = ps at HH' HPL'
  have HH := HH'
  have HPL := HPL'
  clear HH' HPL'
  go_wp2_with fail
  refine (K3.call (some ⟨ga, 0, none⟩) (some ⟨gb, 0, none⟩) (l0.length + 3) (l1.length + 3) _ (Ints.of_room Ba ha9) (Ints.of_room Bb hb9) hk0 hk1).mono ?_
  rintro e wx ⟨Ar, cr, rfl, or, br⟩
  obtain ⟨nr1, nr2⟩ := HH.new or
  have or' := own_lower or HH.le
  replace HH := HH.below br
  replace Ba := Ba.belowO br
  replace Bb := Bb.belowO br
  replace hb := below_trans hb br
  clear br or
  go_wp2_with fail
  refine (keep_any Ar _ cr _ L3 base gl ps _ wx HH or' nr1 nr2 K3.len (by rw [HPL.out]; decide)).mono ?_
  rintro e wr ⟨rfl, v', HH', bk⟩
  replace Ba : Blk wr ga 3 _ := (bk.block ga hga).trans Ba
  replace Bb : Blk wr gb 3 _ := (bk.block gb hgb).trans Bb
  replace hb := hb.trans (bk.mono hgl)
  have HPL' : Hid ((ps ++ [(Value.slice Ar (List.length L3) cr, L3)]).length = 3) := Lib.hid (by simp [HPL.out])
  clear HH or' nr1 nr2 bk HPL
  generalize (ps ++ [(Value.slice Ar (List.length L3) cr, L3)]) = ps at HH' HPL'
  have HH := HH'
  have HPL := HPL'
  clear HH' HPL'
  go_wp2_with fail
  refine (K4.call (some ⟨ga, 0, none⟩) (some ⟨gb, 0, none⟩) (l0.length + 3) (l1.length + 3) _ (Ints.of_room Ba ha9) (Ints.of_room Bb hb9) hk0 hk1).mono ?_
  rintro e wx ⟨Ar, cr, rfl, or, br⟩
  obtain ⟨nr1, nr2⟩ := HH.new or
  have or' := own_lower or HH.le
  replace HH := HH.below br
  replace Ba := Ba.belowO br
  replace Bb := Bb.belowO br
  replace hb := below_trans hb br
  clear br or
  go_wp2_with fail
  refine (keep_any Ar _ cr _ L4 base gl ps _ wx HH or' nr1 nr2 K4.len (by rw [HPL.out]; decide)).mono ?_
  rintro e wr ⟨rfl, v', HH', bk⟩
  replace Ba : Blk wr ga 3 _ := (bk.block ga hga).trans Ba
  replace Bb : Blk wr gb 3 _ := (bk.block gb hgb).trans Bb
  replace hb := hb.trans (bk.mono hgl)
  have HPL' : Hid ((ps ++ [(Value.slice Ar (List.length L4) cr, L4)]).length = 4) := Lib.hid (by simp [HPL.out])
  clear HH or' nr1 nr2 bk HPL
  generalize (ps ++ [(Value.slice Ar (List.length L4) cr, L4)]) = ps at HH' HPL'
  have HH := HH'
  have HPL := HPL'
  clear HH' HPL'
  go_wp2_with fail
  refine (K5.call (some ⟨ga, 0, none⟩) (some ⟨gb, 0, none⟩) (l0.length + 3) (l1.length + 3) _ (Ints.of_room Ba ha9) (Ints.of_room Bb hb9) hk0 hk1).mono ?_
  rintro e wx ⟨Ar, cr, rfl, or, br⟩
  obtain ⟨nr1, nr2⟩ := HH.new or
  have or' := own_lower or HH.le
  replace HH := HH.below br
  replace Ba := Ba.belowO br
  replace Bb := Bb.belowO br
  replace hb := below_trans hb br
  clear br or
  go_wp2_with fail
  refine (keep_any Ar _ cr _ L5 base gl ps _ wx HH or' nr1 nr2 K5.len (by rw [HPL.out]; decide)).mono ?_
  rintro e wr ⟨rfl, v', HH', bk⟩
  replace Ba : Blk wr ga 3 _ := (bk.block ga hga).trans Ba
  replace Bb : Blk wr gb 3 _ := (bk.block gb hgb).trans Bb
  replace hb := hb.trans (bk.mono hgl)
  have HPL' : Hid ((ps ++ [(Value.slice Ar (List.length L5) cr, L5)]).length = 5) := Lib.hid (by simp [HPL.out])
  clear HH or' nr1 nr2 bk HPL
  generalize (ps ++ [(Value.slice Ar (List.length L5) cr, L5)]) = ps at HH' HPL'
  have HH := HH'
  have HPL := HPL'
  clear HH' HPL'
  go_wp2_with fail
  refine (K6.call (some ⟨ga, 0, none⟩) (l0.length + 3) _ (Ints.of_room Ba ha9) hk0).mono ?_
  rintro e wx ⟨Ar, cr, rfl, or, br⟩
  obtain ⟨nr1, nr2⟩ := HH.new or
  have or' := own_lower or HH.le
  replace HH := HH.below br
  replace Ba := Ba.belowO br
  replace Bb := Bb.belowO br
  replace hb := below_trans hb br
  clear br or
  go_wp2_with fail
  refine (keep_any Ar _ cr _ L6 base gl ps _ wx HH or' nr1 nr2 K6.len (by rw [HPL.out]; decide)).mono ?_
  rintro e wr ⟨rfl, v', HH', bk⟩
  replace Ba : Blk wr ga 3 _ := (bk.block ga hga).trans Ba
  replace Bb : Blk wr gb 3 _ := (bk.block gb hgb).trans Bb
  replace hb := hb.trans (bk.mono hgl)
  have HPL' : Hid ((ps ++ [(Value.slice Ar (List.length L6) cr, L6)]).length = 6) := Lib.hid (by simp [HPL.out])
  clear HH or' nr1 nr2 bk HPL
  generalize (ps ++ [(Value.slice Ar (List.length L6) cr, L6)]) = ps at HH' HPL'
  have HH := HH'
  have HPL := HPL'
  clear HH' HPL'
  go_wp2_with fail
  refine (K7.call (some ⟨ga, 0, none⟩) (l0.length + 3) _ (Ints.of_room Ba ha9) hk0).mono ?_
  rintro e wx ⟨Ar, cr, rfl, or, br⟩
  obtain ⟨nr1, nr2⟩ := HH.new or
  have or' := own_lower or HH.le
  replace HH := HH.below br
  replace Ba := Ba.belowO br
  replace Bb := Bb.belowO br
  replace hb := below_trans hb br
  clear br or
  go_wp2_with fail
  refine (keep_any Ar _ cr _ L7 base gl ps _ wx HH or' nr1 nr2 K7.len (by rw [HPL.out]; decide)).mono ?_
  rintro e wr ⟨rfl, v', HH', bk⟩
  replace Ba : Blk wr ga 3 _ := (bk.block ga hga).trans Ba
  replace Bb : Blk wr gb 3 _ := (bk.block gb hgb).trans Bb
  replace hb := hb.trans (bk.mono hgl)
  have HPL' : Hid ((ps ++ [(Value.slice Ar (List.length L7) cr, L7)]).length = 7) := Lib.hid (by simp [HPL.out])
  clear HH or' nr1 nr2 bk HPL
  generalize (ps ++ [(Value.slice Ar (List.length L7) cr, L7)]) = ps at HH' HPL'
  have HH := HH'
  have HPL := HPL'
  clear HH' HPL'
  go_wp2_with fail
  refine (K8.call (some ⟨ga, 0, none⟩) (some ⟨gb, 0, none⟩) (l0.length + 3) (l1.length + 3) _ (Ints.of_room Ba ha9) (Ints.of_room Bb hb9) hk0 hk1).mono ?_
  rintro e wx ⟨Ar, cr, rfl, or, br⟩
  obtain ⟨nr1, nr2⟩ := HH.new or
  have or' := own_lower or HH.le
  replace HH := HH.below br
  replace Ba := Ba.belowO br
  replace Bb := Bb.belowO br
  replace hb := below_trans hb br
  clear br or
  go_wp2_with fail
  refine (keep_any Ar _ cr _ L8 base gl ps _ wx HH or' nr1 nr2 K8.len (by rw [HPL.out]; decide)).mono ?_
  rintro e wr ⟨rfl, v', HH', bk⟩
  replace Ba : Blk wr ga 3 _ := (bk.block ga hga).trans Ba
  replace Bb : Blk wr gb 3 _ := (bk.block gb hgb).trans Bb
  replace hb := hb.trans (bk.mono hgl)
  have HPL' : Hid ((ps ++ [(Value.slice Ar (List.length L8) cr, L8)]).length = 8) := Lib.hid (by simp [HPL.out])
  clear HH or' nr1 nr2 bk HPL
  generalize (ps ++ [(Value.slice Ar (List.length L8) cr, L8)]) = ps at HH' HPL'
  have HH := HH'
  have HPL := HPL'
  clear HH' HPL'
  go_wp2_with fail
  refine (K9.call (some ⟨ga, 0, none⟩) (l0.length + 3) _ (Ints.of_room Ba ha9) hk0).mono ?_
  rintro e wx ⟨Ar, cr, rfl, or, br⟩
  obtain ⟨nr1, nr2⟩ := HH.new or
  have or' := own_lower or HH.le
  replace HH := HH.below br
  replace Ba := Ba.belowO br
  replace Bb := Bb.belowO br
  replace hb := below_trans hb br
  clear br or
  go_wp2_with fail
  refine (keep_any Ar _ cr _ L9 base gl ps _ wx HH or' nr1 nr2 K9.len (by rw [HPL.out]; decide)).mono ?_
  rintro e wr ⟨rfl, v', HH', bk⟩
  replace Ba : Blk wr ga 3 _ := (bk.block ga hga).trans Ba
  replace Bb : Blk wr gb 3 _ := (bk.block gb hgb).trans Bb
  replace hb := hb.trans (bk.mono hgl)
  have HPL' : Hid ((ps ++ [(Value.slice Ar (List.length L9) cr, L9)]).length = 9) := Lib.hid (by simp [HPL.out])
  clear HH or' nr1 nr2 bk HPL
  generalize (ps ++ [(Value.slice Ar (List.length L9) cr, L9)]) = ps at HH' HPL'
  have HH := HH'
  have HPL := HPL'
  clear HH' HPL'
  go_wp2_with fail
  refine (K10.call (some ⟨ga, 0, none⟩) (some ⟨gb, 0, none⟩) (l0.length + 3) (l1.length + 3) _ (Ints.of_room Ba ha9) (Ints.of_room Bb hb9) hk0 hk1).mono ?_
  rintro e wx ⟨Ar, cr, rfl, or, br⟩
  obtain ⟨nr1, nr2⟩ := HH.new or
  have or' := own_lower or HH.le
  replace HH := HH.below br
  replace Ba := Ba.belowO br
  replace Bb := Bb.belowO br
  replace hb := below_trans hb br
  clear br or
  go_wp2_with fail
  refine (keep_any Ar _ cr _ L10 base gl ps _ wx HH or' nr1 nr2 K10.len (by rw [HPL.out]; decide)).mono ?_
  rintro e wr ⟨rfl, v', HH', bk⟩
  replace Ba : Blk wr ga 3 _ := (bk.block ga hga).trans Ba
  replace Bb : Blk wr gb 3 _ := (bk.block gb hgb).trans Bb
  replace hb := hb.trans (bk.mono hgl)
  have HPL' : Hid ((ps ++ [(Value.slice Ar (List.length L10) cr, L10)]).length = 10) := Lib.hid (by simp [HPL.out])
  clear HH or' nr1 nr2 bk HPL
  generalize (ps ++ [(Value.slice Ar (List.length L10) cr, L10)]) = ps at HH' HPL'
  have HH := HH'
  have HPL := HPL'
  clear HH' HPL'
  go_wp2_with fail
  refine (K11.call (some ⟨ga, 0, none⟩) (l0.length + 3) _ (Ints.of_room Ba ha9) hk0).mono ?_
  rintro e wx ⟨Ar, cr, rfl, or, br⟩
  obtain ⟨nr1, nr2⟩ := HH.new or
  have or' := own_lower or HH.le
  replace HH := HH.below br
  replace Ba := Ba.belowO br
  replace Bb := Bb.belowO br
  replace hb := below_trans hb br
  clear br or
  go_wp2_with fail
  refine (keep_any Ar _ cr _ L11 base gl ps _ wx HH or' nr1 nr2 K11.len (by rw [HPL.out]; decide)).mono ?_
  rintro e wr ⟨rfl, v', HH', bk⟩
  replace Ba : Blk wr ga 3 _ := (bk.block ga hga).trans Ba
  replace Bb : Blk wr gb 3 _ := (bk.block gb hgb).trans Bb
  replace hb := hb.trans (bk.mono hgl)
  have HPL' : Hid ((ps ++ [(Value.slice Ar (List.length L11) cr, L11)]).length = 11) := Lib.hid (by simp [HPL.out])
  clear HH or' nr1 nr2 bk HPL
  generalize (ps ++ [(Value.slice Ar (List.length L11) cr, L11)]) = ps at HH' HPL'
  have HH := HH'
  have HPL := HPL'
  clear HH' HPL'
  go_wp2_with fail
  refine (K12.call (some ⟨ga, 0, none⟩) (some ⟨gb, 0, none⟩) (l0.length + 3) (l1.length + 3) _ (Ints.of_room Ba ha9) (Ints.of_room Bb hb9) hk0 hk1).mono ?_
  rintro e wx ⟨Ar, cr, rfl, or, br⟩
  obtain ⟨nr1, nr2⟩ := HH.new or
  have or' := own_lower or HH.le
  replace HH := HH.below br
  replace Ba := Ba.belowO br
  replace Bb := Bb.belowO br
  replace hb := below_trans hb br
  clear br or
  go_wp2_with fail
  refine (keep_any Ar _ cr _ L12 base gl ps _ wx HH or' nr1 nr2 K12.len (by rw [HPL.out]; decide)).mono ?_
  rintro e wr ⟨rfl, v', HH', bk⟩
  replace Ba : Blk wr ga 3 _ := (bk.block ga hga).trans Ba
  replace Bb : Blk wr gb 3 _ := (bk.block gb hgb).trans Bb
  replace hb := hb.trans (bk.mono hgl)
  have HPL' : Hid ((ps ++ [(Value.slice Ar (List.length L12) cr, L12)]).length = 12) := Lib.hid (by simp [HPL.out])
  clear HH or' nr1 nr2 bk HPL
  generalize (ps ++ [(Value.slice Ar (List.length L12) cr, L12)]) = ps at HH' HPL'
  have HH := HH'
  have HPL := HPL'
  clear HH' HPL'
  go_wp2_with fail
  refine (K13.call (some ⟨ga, 0, none⟩) (l0.length + 3) _ (Ints.of_room Ba ha9) hk0).mono ?_
  rintro e wx ⟨Ar, cr, rfl, or, br⟩
  obtain ⟨nr1, nr2⟩ := HH.new or
  have or' := own_lower or HH.le
  replace HH := HH.below br
  replace Ba := Ba.belowO br
  replace Bb := Bb.belowO br
  replace hb := below_trans hb br
  clear br or
  go_wp2_with fail
  refine (keep_any Ar _ cr _ L13 base gl ps _ wx HH or' nr1 nr2 K13.len (by rw [HPL.out]; decide)).mono ?_
  rintro e wr ⟨rfl, v', HH', bk⟩
  replace Ba : Blk wr ga 3 _ := (bk.block ga hga).trans Ba
  replace Bb : Blk wr gb 3 _ := (bk.block gb hgb).trans Bb
  replace hb := hb.trans (bk.mono hgl)
  have HPL' : Hid ((ps ++ [(Value.slice Ar (List.length L13) cr, L13)]).length = 13) := Lib.hid (by simp [HPL.out])
  clear HH or' nr1 nr2 bk HPL
  generalize (ps ++ [(Value.slice Ar (List.length L13) cr, L13)]) = ps at HH' HPL'
  have HH := HH'
  have HPL := HPL'
  clear HH' HPL'
  go_wp2_with fail
  refine (K14.call (some ⟨ga, 0, none⟩) (l0.length + 3) _ (Ints.of_room Ba ha9) hk0).mono ?_
  rintro e wx ⟨Ar, cr, rfl, or, br⟩
  obtain ⟨nr1, nr2⟩ := HH.new or
  have or' := own_lower or HH.le
  replace HH := HH.below br
  replace Ba := Ba.belowO br
  replace Bb := Bb.belowO br
  replace hb := below_trans hb br
  clear br or
  go_wp2_with fail
  refine (keep_any Ar _ cr _ L14 base gl ps _ wx HH or' nr1 nr2 K14.len (by rw [HPL.out]; decide)).mono ?_
  rintro e wr ⟨rfl, v', HH', bk⟩
  replace Ba : Blk wr ga 3 _ := (bk.block ga hga).trans Ba
  replace Bb : Blk wr gb 3 _ := (bk.block gb hgb).trans Bb
  replace hb := hb.trans (bk.mono hgl)
  have HPL' : Hid ((ps ++ [(Value.slice Ar (List.length L14) cr, L14)]).length = 14) := Lib.hid (by simp [HPL.out])
  clear HH or' nr1 nr2 bk HPL
  generalize (ps ++ [(Value.slice Ar (List.length L14) cr, L14)]) = ps at HH' HPL'
  have HH := HH'
  have HPL := HPL'
  clear HH' HPL'
  go_wp2_with fail
  refine (K15.call (some ⟨ga, 0, none⟩) (l0.length + 3) _ (Ints.of_room Ba ha9) hk0).mono ?_
  rintro e wx ⟨Ar, cr, rfl, or, br⟩
  obtain ⟨nr1, nr2⟩ := HH.new or
  have or' := own_lower or HH.le
  replace HH := HH.below br
  replace Ba := Ba.belowO br
  replace Bb := Bb.belowO br
  replace hb := below_trans hb br
  clear br or
  go_wp2_with fail
  refine (keep_any Ar _ cr _ L15 base gl ps _ wx HH or' nr1 nr2 K15.len (by rw [HPL.out]; decide)).mono ?_
  rintro e wr ⟨rfl, v', HH', bk⟩
  replace Ba : Blk wr ga 3 _ := (bk.block ga hga).trans Ba
  replace Bb : Blk wr gb 3 _ := (bk.block gb hgb).trans Bb
  replace hb := hb.trans (bk.mono hgl)
  have HPL' : Hid ((ps ++ [(Value.slice Ar (List.length L15) cr, L15)]).length = 15) := Lib.hid (by simp [HPL.out])
  clear HH or' nr1 nr2 bk HPL
  generalize (ps ++ [(Value.slice Ar (List.length L15) cr, L15)]) = ps at HH' HPL'
  have HH := HH'
  have HPL := HPL'
  clear HH' HPL'
  go_wp2_with fail
  refine (K16.call (some ⟨ga, 0, none⟩) (l0.length + 3) _ (Ints.of_room Ba ha9) hk0).mono ?_
  rintro e wx ⟨Ar, cr, rfl, or, br⟩
  obtain ⟨nr1, nr2⟩ := HH.new or
  have or' := own_lower or HH.le
  replace HH := HH.below br
  replace Ba := Ba.belowO br
  replace Bb := Bb.belowO br
  replace hb := below_trans hb br
  clear br or
  go_wp2_with fail
  refine (keep_any Ar _ cr _ L16 base gl ps _ wx HH or' nr1 nr2 K16.len (by rw [HPL.out]; decide)).mono ?_
  rintro e wr ⟨rfl, v', HH', bk⟩
  replace Ba : Blk wr ga 3 _ := (bk.block ga hga).trans Ba
  replace Bb : Blk wr gb 3 _ := (bk.block gb hgb).trans Bb
  replace hb := hb.trans (bk.mono hgl)
  have HPL' : Hid ((ps ++ [(Value.slice Ar (List.length L16) cr, L16)]).length = 16) := Lib.hid (by simp [HPL.out])
  clear HH or' nr1 nr2 bk HPL
  generalize (ps ++ [(Value.slice Ar (List.length L16) cr, L16)]) = ps at HH' HPL'
  have HH := HH'
  have HPL := HPL'
  clear HH' HPL'
  go_wp2_with fail
  refine (K17.call (some ⟨ga, 0, none⟩) (some ⟨gb, 0, none⟩) (l0.length + 3) (l1.length + 3) _ (Ints.of_room Ba ha9) (Ints.of_room Bb hb9) hk0 hk1).mono ?_
  rintro e wx ⟨Ar, cr, rfl, or, br⟩
  obtain ⟨nr1, nr2⟩ := HH.new or
  have or' := own_lower or HH.le
  replace HH := HH.below br
  replace Ba := Ba.belowO br
  replace Bb := Bb.belowO br
  replace hb := below_trans hb br
  clear br or
  go_wp2_with fail
  refine (keep_any Ar _ cr _ L17 base gl ps _ wx HH or' nr1 nr2 K17.len (by rw [HPL.out]; decide)).mono ?_
  rintro e wr ⟨rfl, v', HH', bk⟩
  replace Ba : Blk wr ga 3 _ := (bk.block ga hga).trans Ba
  replace Bb : Blk wr gb 3 _ := (bk.block gb hgb).trans Bb
  replace hb := hb.trans (bk.mono hgl)
  have HPL' : Hid ((ps ++ [(Value.slice Ar (List.length L17) cr, L17)]).length = 17) := Lib.hid (by simp [HPL.out])
  clear HH or' nr1 nr2 bk HPL
  generalize (ps ++ [(Value.slice Ar (List.length L17) cr, L17)]) = ps at HH' HPL'
  have HH := HH'
  have HPL := HPL'
  clear HH' HPL'
  clear K1 K2 K3 K4 K5 K6 K7 K8 K9 K10 K11 K12 K13 K14 K15 K16 K17 h1 n0 n1 z1
  go_wp2_with fail
  refine (within_any n 100 _ (by omega) (by omega)).mono ?_
  rintro e w' ⟨rfl, rfl⟩
  go_wp2_with fail
  refine (KL.call (some ⟨ga, 0, none⟩) (l0.length + 3) _ (Ints.of_room Ba ha9) hk0).mono ?_
  rintro e wy ⟨Ay, cy, Bz, cz, rfl, oy, oz, ayz, by1⟩
  obtain ⟨y1, y2⟩ := HH.new oy
  obtain ⟨y3, y4⟩ := HH.new oz
  have oy' := own_lower oy HH.le
  have oz' := own_lower oz HH.le
  replace HH := HH.below by1
  replace Ba := Ba.belowO by1
  replace Bb := Bb.belowO by1
  replace hb := below_trans hb by1
  have lx := KL.len
  have ly := KL.len'
  clear by1 oy oz KL
  have vle := HH.le
  have vlo := HH.lo
  have cv : wy.cell? ⟨gl, 0, none⟩ = some v' := by simpa using HH.var.cell 0
  have vl := HH.var.lt
  have HHH := Lib.hid HH
  clear HH
  go_wp2_with (at_builtin; refine wpList_append_own_at _ rfl _ _ 46 rfl base 22 i0 (.slice none 0 0) 1 24 Try.underlying46 hi0 hz0 hz1 hz2 rfl (by decide) v' ps.length (ps.map (·.1)) rfl (World.ownsRow.alloc HHH.out.row _) ⟨wy.heap.size, 0, none⟩ 2 2 [.slice Ay LX.length cy, .slice Bz LY.length cz] rfl rfl (new_two _ _ _ _) (two_slices _ _ _ _ _ _) (by rw [HPL.out]; decide) (by rw [HPL.out]; decide) (by simp; omega) ?_)
  intro v2 w1 hrow hgrow _ hat
  obtain ⟨P1, P2⟩ := HHH.out.app (qs := [(.slice Ay LX.length cy, LX), (.slice Bz LY.length cz, LY)])
    (by intro q hq; simp at hq; rcases hq with rfl | rfl; exact oy'; exact oz') (by intro q hq; simp at hq; rcases hq with rfl | rfl; exact lx; exact ly)
    (by intro q hq; simp at hq; rcases hq with rfl | rfl; exact y1; exact y3) (by intro p hp q hq; simp at hq; rcases hq with rfl | rfl; exact y2 p hp; exact y4 p hp)
    (by simp [List.pairwise_cons]; exact ayz) hrow hgrow hat
  have BL : Blk w1 gl 46 #[v'] := by
    have e : w1.heap[gl]? = wy.heap[gl]? := by
      rw [hgrow.block gl (by simp; omega) (fun e => by have := (HHH.out.row.lt gl e.symm).1; omega)]
      exact Below.heap_alloc wy _ gl vl
    exact e.trans HHH.out.var
  have cl : w1.cell? ⟨gl, 0, none⟩ = some v' := by simpa using BL.cell 0
  have fl := BL.frozen 0
  have HP2 : Hid ((ps ++ [(Value.slice Ay LX.length cy, LX), (Value.slice Bz LY.length cz, LY)]).length = 19) := Lib.hid (by simp [HPL.out])
  have hrow' : w1.ownsRow base 22 1 v2 19 (ps.map (·.1) ++ [.slice Ay LX.length cy, .slice Bz LY.length cz]) := by
    have := hrow
    rw [HPL.out] at this
    exact this
  obtain ⟨gr, cap, rfl, gr1, gr2⟩ := hrow'.form (by decide)
  replace Ba : Blk _ ga 3 _ := (P2.block ga hga).trans Ba
  replace Bb : Blk _ gb 3 _ := (P2.block gb hgb).trans Bb
  replace hb := hb.trans (P2.mono hgl)
  clear hrow hrow' hgrow hat BL HHH P2 oy' oz' y1 y2 y3 y4 ayz lx ly vle vlo cv vl HPL gr1 gr2
  generalize (ps ++ [(Value.slice Ay LX.length cy, LX), (Value.slice Bz LY.length cz, LY)]) = ps at P1 HP2
  have h0 := H0.below hb
  have h1 := H1.below hb
  go_wp2_with fail
  clear cl fl
  generalize (w1.setCell ⟨gl, 0, none⟩ (Value.slice (some ⟨gr, 0, none⟩) 19 cap)) = wz at *
  refine (equal_at (some ⟨ga, 0, none⟩) a0 l0 l0 _ _ _ _ _ (Ints.of_room Ba ha9) h0 rfl rfl).mono ?_
  rintro e wq ⟨rfl, nq, hq⟩
  have bq := below_of_drewN hq
  rw [eqB_true rfl]
  replace P1 := P1.below bq
  replace Ba := Ba.belowO bq
  replace Bb := Bb.belowO bq
  replace h1 := h1.below bq
  replace hb := below_trans hb bq
  clear bq hq h0
  go_wp2_with fail
  refine (equal_at (some ⟨gb, 0, none⟩) a1 l1 l1 _ _ _ _ _ (Ints.of_room Bb hb9) h1 rfl rfl).mono ?_
  rintro e wo ⟨rfl, nr, hr⟩
  have br := below_of_drewN hr
  rw [eqB_true rfl]
  replace P1 := P1.below br
  replace Ba := Ba.belowO br
  replace Bb := Bb.belowO br
  replace hb := below_trans hb br
  clear br hr h1
  go_wp2_with fail
  refine (marked_any ga l0 (-7) _ Ba s0).mono ?_
  rintro e w' ⟨rfl, rfl⟩
  go_wp2_with fail
  refine (marked_any gb l1 (-8) _ Bb s1).mono ?_
  rintro e w' ⟨rfl, rfl⟩
  have cg : wo.cell? ⟨gl, 0, none⟩ = some (.slice (some ⟨gr, 0, none⟩) 19 cap) := by simpa using P1.var.cell 0
  obtain ⟨base2, hbase2⟩ : ∃ b, b = wo.heap.size := ⟨_, rfl⟩
  have HB2 := Lib.hid hbase2
  have vlo := P1.lo
  have vle := P1.le
  have g2 : gl < base2 := by omega
  have g3 : base ≤ base2 := by omega
  clear hbase2
  go_wp2
  go_loopw [16, 187] (fun u iv wv => ∃ (k : Nat) (ws : List (Value × List Int)), k ≤ 19 ∧ iv = .int .i64 k ∧ Hid (ws.map (·.2) = (ps.take k).map (·.2)) ∧ Hid (ws.length = k) ∧ Kept wv base2 ws u ∧ Below base2 wo wv) (fun _ iv _ => 19 - (intOf iv).toNat)
  case atStart => exact ⟨0, [], by omega, rfl, Lib.hid rfl, Lib.hid rfl, Kept.nil (by rw [HB2.out]; exact Nat.le_refl _), Below.refl _ _⟩
  case round =>
    obtain ⟨k, ws, hk, rfl, HM, HW, KP, hbr⟩ := hrel
    have PP := P1.below (w' := wr) (by rw [← HB2.out]; exact hbr)
    by_cases hlt : k < 19
    · obtain ⟨p, hp⟩ : ∃ p, ps[k]? = some p := ⟨_, List.getElem?_eq_getElem (show k < ps.length by rw [HP2.out]; exact hlt)⟩
      have cp := PP.row.cells (g := gr) rfl k p.1 (by simp [hp])
      rw [Addr.add_lit, Nat.zero_add] at cp
      have op := PP.each p (List.mem_of_getElem? hp)
      have lp := PP.len p (List.mem_of_getElem? hp)
      have HP := Lib.hid hp
      have HO := Lib.hid op
      have i1 : (k : Int) < 19 := by omega
      clear hp op PP cg
      go_wp2_with fail
      refine (clone_row p.1 p.2 base wr HO.out lp).mono ?_
      rintro e wt ⟨Ac, cc, rfl, oc, bc⟩
      have KP' := KP.below bc
      have kle := KP'.le
      go_wp2_with (at_builtin; refine wpList_append_own_at _ rfl _ _ 46 rfl base2 22 i0 (.slice none 0 0) 1 24 Try.underlying46 hi0 hz0 hz1 hz2 rfl (by decide) _ ws.length (ws.map (·.1)) rfl (World.ownsRow.alloc KP'.row _) ⟨wt.heap.size, 0, none⟩ 1 1 [.slice Ac p.2.length cc] rfl rfl (cell_one_new _ _ _) (one_slice _ _ _) (by rw [HW.out]; unfold maxLen; omega) (by rw [HW.out]; omega) (by simp; omega) ?_)
      intro u2 w2 hrow hgrow _ hat
      obtain ⟨Q1, Q2⟩ := KP.app (L := p.2) oc bc hrow hgrow (by simpa using hat)
      clear hrow hgrow hat oc bc KP KP'
      go_wp2
      go_roundw
      case rel => exact ⟨k + 1, ws ++ [(.slice Ac p.2.length cc, p.2)], by omega, by go_num, Lib.hid (by rw [List.map_append, HM.out, List.take_add_one, HP.out]; simp), Lib.hid (by simp [HW.out]), Q1, hbr.trans Q2⟩
      case measure => simp [intOf]; omega
    · obtain rfl : k = 19 := by omega
      obtain ⟨gu, cu, hu, _, _⟩ := KP.row.form (by rw [HW.out]; decide)
      rw [HW.out] at hu
      subst hu
      have hbw := hb.trans (hbr.mono (show w.heap.size ≤ base2 by omega))
      have BA : Blk wr ga 3 _ := (hbr.block ga (by omega)).trans Ba
      have BB : Blk wr gb 3 _ := (hbr.block gb (by omega)).trans Bb
      clear hlt hk cg
      go_wp2_with fail
      refine (spoil_any ga l0.length (l0.length + 3) 5 _ wr BA (by simp) (by omega) (by omega)).mono ?_
      rintro e wf ⟨rfl, t1⟩
      replace PP := PP.turned t1 hga
      replace KP := KP.turned t1 (by omega)
      replace hbw := t1.below hbw ga1
      replace BB : Blk wf gb 3 _ := (t1.block gb (by omega)).trans BB
      clear t1 BA hbr
      go_wp2_with fail
      refine (spoil_any gb l1.length (l1.length + 3) 6 _ wf BB (by simp) (by omega) (by omega)).mono ?_
      rintro e wg ⟨rfl, t2⟩
      replace PP := PP.turned t2 hgb
      replace KP := KP.turned t2 (by omega)
      replace hbw := t2.below hbw gb1
      clear t2 BB
      have cg : wg.cell? ⟨gl, 0, none⟩ = some (.slice (some ⟨gr, 0, none⟩) 19 cap) := by simpa using PP.var.cell 0
      have RS := PP.rest
      have lt2 : ∀ p ∈ ps, ∀ g, p.1.ownBlock = some g → base ≤ g ∧ g < base2 := fun p hp g hg => by have q := (P1.each p hp).lt g hg; rw [← HB2.out] at q; exact q
      clear PP
      have HWM : Hid (∀ (j : Nat) (x : Value × List Int), ps[j]? = some x → ∃ y, ws[j]? = some y ∧ y.2 = x.2) := Lib.hid (fun j x hx => by
        have hj := (List.getElem?_eq_some_iff.1 hx).1
        have e : (ws.map (·.2))[j]? = (ps.map (·.2))[j]? := by rw [HM.out, List.take_of_length_le (by rw [HP2.out]; exact Nat.le_refl _)]
        rw [List.getElem?_map, List.getElem?_map, hx] at e
        simp only [Option.map_some, Option.map_eq_some_iff] at e
        exact e)
      go_wp2
      go_loopw [203] (fun iv wv => ∃ k : Nat, k ≤ 19 ∧ iv = .int .i64 k ∧ Rest wv base ps (.slice (some ⟨gr, 0, none⟩) 19 cap) k ∧ Kept wv base2 ws (.slice (some ⟨gu, 0, none⟩) 19 cu) ∧ Below w.heap.size w wv) (fun iv _ => 19 - (intOf iv).toNat)
      case atStart => exact ⟨0, by omega, rfl, RS, KP, hbw⟩
      case round =>
        clear RS KP hbw cg
        obtain ⟨k, hk, rfl, RS, KP, hbw⟩ := hrel
        by_cases hlt : k < 19
        · obtain ⟨p, hp⟩ : ∃ p, ps[k]? = some p := ⟨_, List.getElem?_eq_getElem (show k < ps.length by rw [HP2.out]; exact hlt)⟩
          obtain ⟨y, hy, hyp⟩ := HWM.out k p hp
          have op := RS.each k p hp (Nat.le_refl _)
          have oy := KP.each y (List.mem_of_getElem? hy)
          obtain ⟨Ap, cp, ep⟩ := form_any op
          obtain ⟨Ay, cy, ey⟩ := form_any oy
          have c1 := RS.row.cells (g := gr) rfl k p.1 (by simp [hp])
          have c2 := KP.row.cells (g := gu) rfl k y.1 (by simp [hy])
          rw [Addr.add_lit, Nat.zero_add, ep] at c1
          rw [Addr.add_lit, Nat.zero_add, ey, hyp] at c2
          rw [ep] at op
          rw [ey, hyp] at oy
          have HP := Lib.hid hp
          have HEP := Lib.hid ep
          have i1 : (k : Int) < 19 := by omega
          have mp := List.mem_of_getElem? hp
          have bd : ∀ g, (Value.slice Ap p.2.length cp).ownBlock = some g → base ≤ g ∧ g < base2 := fun g hg => lt2 p mp g (by rw [ep]; exact hg)
          have HO := Lib.hid op
          have HY := Lib.hid oy
          have HBD := Lib.hid bd
          clear hp hy hyp ep ey op oy mp bd
          go_wp2_with fail
          refine (equal_at Ap Ay p.2 p.2 _ _ _ _ _ (Ints.of_own HO.out) (Ints.of_own HY.out) rfl rfl).mono ?_
          rintro e wx ⟨rfl, nx, rfl⟩
          rw [eqB_true rfl]
          go_wp2_with fail
          refine (spoil_row (.slice Ap p.2.length cp) p.2 base 9 (wr.drewN nx) HO.out).mono ?_
          rintro e wv ⟨rfl, ht⟩
          have RS' := (RS.drewN nx).next HP.out P1.off P1.apart (by rw [HEP.out]; exact ht)
          have KP0 : Kept (wr.drewN nx) base2 ws (.slice (some ⟨gu, 0, none⟩) 19 cu) := ⟨KP.le, KP.row, KP.each, KP.off⟩
          have hb0 : Below w.heap.size w (wr.drewN nx) := below_trans hbw (below_of_drewN rfl)
          have KP' : Kept wv base2 ws (.slice (some ⟨gu, 0, none⟩) 19 cu) := by
            rcases ht with rfl | ⟨g, hg, ht⟩
            · exact KP0
            · exact KP0.turned ht (HBD.out g hg).2
          have hb' : Below w.heap.size w wv := by
            rcases ht with rfl | ⟨g, hg, ht⟩
            · exact hb0
            · exact ht.below hb0 (by have := (HBD.out g hg).1; omega)
          clear RS KP hbw KP0 hb0 ht c1 c2
          go_wp2
          go_roundw
          case rel => exact ⟨k + 1, by omega, by go_num, RS', KP', hb'⟩
          case measure => simp [intOf]; omega
        · go_wp2
          go_ret
          exact ⟨rfl, hbw⟩

end Go.Proofs.Ytifmefachdfmjaa
