
/-
  Walks of package ranks: release, Run; headkeep's finished.
-/
import Derived.Test.YtccjegnflienhaaRankA
import Derived.Test.YtccjegnflienhaaRankS
import Derived.Deep.DeepCutAuto
namespace Go.Proofs.Ytccjegnflienhaa
set_option linter.all false
open Go.RowKit Go.Shelf Go.Lib

theorem tab_upd {n k : Nat} {F G : Nat → Int} (h : k < n) (h1 : ∀ j, j < n → j ≠ k → G j = F j) : (((tab n F).map (Value.int .i64)).toArray).setIfInBounds k (.int .i64 (G k)) = ((tab n G).map (Value.int .i64)).toArray := by
  apply Array.ext'
  simp only [Array.toList_setIfInBounds]
  apply List.ext_getElem?
  intro j
  by_cases c : j < n
  · have e : ∀ (F : Nat → Int), ((tab n F).map (Value.int .i64))[j]? = some (.int .i64 (F j)) := fun F => by simp [tab, c]
    rw [e]
    by_cases d : j = k
    · subst d; rw [List.getElem?_set_self (by simp [length_tab]; exact c)]
    · rw [List.getElem?_set_ne (fun e => d e.symm), e, h1 j c d]
  · rw [List.getElem?_eq_none (by simp [length_tab]; omega), List.getElem?_eq_none (by simp [length_tab]; omega)]
theorem tab_same {n : Nat} {F G : Nat → Int} (h : ∀ j, j < n → F j = G j) : tab n F = tab n G := eq_tab (by rw [length_tab]) (fun i hi => by rw [gt_tab F hi]; exact h i hi)
theorem tab_cell {n k : Nat} (F : Nat → Int) (h : k < n) : (((tab n F).map (Value.int .i64)).toArray)[k]? = some (.int .i64 (F k)) := by simp [tab, h]
/-- Of what was there nothing but block g has turned. -/
theorem gr_refl (w : World) (g : Nat) : w.grownBy w (some g) := ⟨rfl, rfl, rfl, Nat.le_refl _, fun _ _ _ => rfl⟩
theorem gr_bel {w a b : World} {g : Nat} (h1 : w.grownBy a (some g)) (h2 : Below a.heap.size a b) : w.grownBy b (some g) :=
  ⟨h2.os.trans h1.os, h2.tape.trans h1.tape, h2.output.trans h1.output, Nat.le_trans h1.size h2.size, fun k hk hne => by
    rw [h2.block k (Nat.lt_of_lt_of_le hk h1.size), h1.block k hk hne]⟩
theorem gr_set {w a : World} {g : Nat} (h1 : w.grownBy a (some g)) (i : Nat) (u : Value) : w.grownBy (a.setCell ⟨g, i, none⟩ u) (some g) := by
  have b : Below g a (a.setCell ⟨g, i, none⟩ u) := (Below.refl g a).setCell (p := ⟨g, i, none⟩) (Nat.le_refl _) u
  exact ⟨b.os.trans h1.os, b.tape.trans h1.tape, b.output.trans h1.output, Nat.le_trans h1.size b.size, fun k hk hne => by
    rw [Below.heap_setCell a ⟨g, i, none⟩ u k (fun e => hne (by rw [e])), h1.block k hk hne]⟩
theorem gr_alloc {w a : World} {g : Nat} (h1 : w.grownBy a (some g)) (o : Obj) : w.grownBy (a.alloc o) (some g) := gr_bel h1 ((Below.refl _ _).alloc (Nat.le_refl _) _)
theorem gr_drew {w a : World} {g : Nat} (h1 : w.grownBy a (some g)) : w.grownBy a.drew (some g) := ⟨h1.os, h1.tape, h1.output, h1.size, h1.block⟩
theorem gr_blk {w w' : World} {g g' : Nat} {t : TypeId} {cs : Array Value} (h : Blk w g' t cs) (hg : w.grownBy w' (some g)) (hb : g' ≠ g) : Blk w' g' t cs := h.same (hg.block g' h.lt (fun e => by injection e with e; exact hb e))
theorem gr_below {B : Nat} {w0 w w' : World} {g : Nat} (h : Below B w0 w) (hg : w.grownBy w' (some g)) (hB : B ≤ w.heap.size) (h' : B ≤ g) : Below B w0 w' := h.grown hg hB (fun k e => by injection e with e; omega)
theorem blk_drew {w : World} {g : Nat} {t : TypeId} {cs : Array Value} (h : Blk w g t cs) : Blk w.drew g t cs := h

def mixV (l : List Tk) (t k j : Nat) : Int := if j < k then lgV l t j else lfV l t j
theorem mix_bd {l : List Tk} (v : TksB l) {t k j : Nat} (hj : j < l.length) (ht : t ≤ 200) : 0 ≤ mixV l t k j ∧ mixV l t k j ≤ 12120 := by
  unfold mixV
  split
  · exact lg_bd v hj ht
  · have := lf_bd v hj (t := t) (by omega); omega
def nums (n : Nat) (F : Nat → Int) : Array Value := ((tab n F).map (Value.int .i64)).toArray

set_option maxHeartbeats 3200000 in
theorem release_any (A : Option Addr) (l : List Tk) (n c g t : Nat) (w0 w : World) (h : Tas w0 A l) (hb0 : Below w0.heap.size w0 w) (hg0 : w0.heap.size ≤ g) (v : TksB l) (ht : t ≤ 200) (hn : n = l.length) (B : Blk w g 3 (nums n (lfV l t))) :
    Calls Try.prog 34 #[.slice A n c, .slice (some ⟨g, 0, none⟩) n n, .int .i64 t] w fun e w' => e = .returned (.tuple #[]) ∧ Blk w' g 3 (nums n (lgV l t)) ∧ w.grownBy w' (some g) := by
  subst hn
  have hle := v.le
  go_enter Try.func34, Try.ntmps34
  go_wp2
  go_loopw [10] (fun i wr => ∃ k : Nat, k ≤ l.length ∧ i = .int .i64 k ∧ Blk wr g 3 (nums l.length (mixV l t k)) ∧ w.grownBy wr (some g)) (fun i _ => l.length - (intOf i).toNat)
  case atStart =>
    refine ⟨0, Nat.zero_le _, rfl, ?_, gr_refl _ _⟩
    have e : nums l.length (mixV l t 0) = nums l.length (lfV l t) := by unfold nums; rw [tab_same (F := mixV l t 0) (G := lfV l t) (fun j _ => by unfold mixV; rw [if_neg (by omega)])]
    rw [e]; exact B
  case round =>
    clear B
    obtain ⟨k, hk, rfl, B, hgr⟩ := hrel
    by_cases hlt : k < l.length
    · have hT : Tas wr A l := h.below ((hb0.grown hgr hb0.size (fun k e => by injection e with e; omega)))
      obtain ⟨bb, off, q, rfl, hbl, c0, c1, c2, HJ⟩ := hT.get hlt
      have hq := tk_of HJ.out
      have p1 := v.p1 k hlt
      have p60 := v.p60 k hlt
      have w1 := v.w1 k hlt
      have wd := v.wd k hlt
      have dp := v.dp k hlt
      have HG := lg_lf v.toTks (t := t) hlt
      rw [hq] at p1 p60 w1 wd dp HG
      clear hq
      obtain ⟨X, hX⟩ : ∃ X, X = lfV l t k := ⟨_, rfl⟩
      have Xb := lf_bd v (t := t) hlt (by omega)
      rw [← hX] at HG Xb
      obtain ⟨X0, X1⟩ := Xb
      have cX : wr.cell? ⟨g, k, none⟩ = some (.int .i64 X) := by rw [B.cell k]; unfold nums; rw [tab_cell _ hlt, hX, mixV, if_neg (by omega)]
      have fX := B.frozen k
      have i1 : (k : Int) < (l.length : Int) := by omega
      have pz : ¬ q.per = 0 := by omega
      have ne : ¬ g = wr.heap.size := by have := B.lt; omega
      by_cases d : (t : Int) % q.per = 0
      · have HN : Hid (lgV l t k = X + q.work) := Lib.hid (by rw [HG, if_pos d])
        have m1 : Int.tmod (t : Int) q.per = 0 := by rw [Int.tmod_eq_emod_of_nonneg (by omega)]; exact d
        have m2 : IntKind.i64.wrap (X + q.work) = X + q.work := IntWalk.i64_in _ ⟨by omega, by omega⟩
        have BN : Blk (wr.setCell ⟨g, k, none⟩ (.int .i64 (X + q.work))) g 3 (nums l.length (mixV l t (k + 1))) := by
          have := B.set_ k (.int .i64 (mixV l t (k + 1) k))
          unfold nums at this ⊢
          rw [tab_upd hlt (fun j hj hne => by
            unfold mixV
            by_cases c : j < k
            · rw [if_pos c, if_pos (by omega)]
            · rw [if_neg c, if_neg (by omega)]), show mixV l t (k + 1) k = X + q.work by rw [mixV, if_pos (by omega), HN.out]] at this
          exact this
        obtain ⟨W1, hW1⟩ : ∃ W, W = wr.alloc (.cells #[.int .i64 q.per, .int .i64 q.work, .int .i64 q.due] 30) := ⟨_, rfl⟩
        obtain ⟨g1, hg1⟩ : ∃ g, g = wr.heap.size := ⟨_, rfl⟩
        have B1 : Blk W1 g1 30 #[.int .i64 q.per, .int .i64 q.work, .int .i64 q.due] := by rw [hW1, hg1]; exact Blk.new _ _ _
        have BL : Blk W1 g 3 (nums l.length (mixV l t k)) := by rw [hW1]; exact B.alloc _
        have G1 : w.grownBy W1 (some g) := by rw [hW1]; exact gr_alloc hgr _
        have BF : Blk (W1.setCell ⟨g, k, none⟩ (.int .i64 (X + q.work))) g 3 (nums l.length (mixV l t (k + 1))) := by
          have e := B.set_ k (.int .i64 (X + q.work))
          have e2 := BL.set_ k (.int .i64 (X + q.work))
          have x : (nums l.length (mixV l t k)).setIfInBounds k (.int .i64 (X + q.work)) = nums l.length (mixV l t (k + 1)) := by
            have a1 := e.symm.trans BN
            injection a1 with a1
            injection a1
          rw [x] at e2; exact e2
        have cX1 : W1.cell? ⟨g, k, none⟩ = some (.int .i64 X) := by rw [BL.cell k, ← B.cell k]; exact cX
        have fX1 := BL.frozen k
        obtain ⟨x0, x1, x2⟩ := three_read B1
        have BFd := Lib.hid (blk_drew BF)
        have GFd := Lib.hid (gr_drew (gr_set G1 k (.int .i64 (X + q.work))))
        have HW1 := Lib.hid hW1
        have HG1 := Lib.hid hg1
        clear hW1 hg1 BN HG hX B BL G1 hgr BF cX fX
        go_wp2
        rw [← HG1.out, ← HW1.out]
        clear c0 c1 c2
        go_region
        all_goals
          go_wp2
          go_roundw
          case rel => exact ⟨k + 1, by omega, by go_num, BFd.out, GFd.out⟩
          case measure => simp [intOf]; omega
      · have HN : Hid (lgV l t k = X) := Lib.hid (by rw [HG, if_neg d, Int.add_zero])
        obtain ⟨M, hM⟩ : ∃ M, M = Int.tmod (t : Int) q.per := ⟨_, rfl⟩
        have m0 : ¬ M = 0 := by rw [hM, Int.tmod_eq_emod_of_nonneg (by omega)]; exact d
        have e1 : (M == 0) = false := by simp [m0]
        have Mb : 0 ≤ M ∧ M < 60 := by
          rw [hM, Int.tmod_eq_emod_of_nonneg (by omega)]
          exact ⟨Int.emod_nonneg _ pz, by have := Int.emod_lt_of_pos (t : Int) (show 0 < q.per by omega); omega⟩
        obtain ⟨M0, M1⟩ := Mb
        have m1 : Int.tmod (t : Int) q.per = M := hM.symm
        have m2 : IntKind.i64.wrap M = M := IntWalk.i64_in _ ⟨by omega, by omega⟩
        have BN : Blk wr g 3 (nums l.length (mixV l t (k + 1))) := by
          have e : nums l.length (mixV l t (k + 1)) = nums l.length (mixV l t k) := by
            unfold nums
            rw [tab_same (F := mixV l t (k + 1)) (G := mixV l t k) (fun j _ => by
              unfold mixV
              by_cases c : j < k
              · rw [if_pos c, if_pos (by omega)]
              · by_cases c2 : j = k
                · subst c2; rw [if_pos (by omega), if_neg (by omega), HN.out, hX]
                · rw [if_neg c, if_neg (by omega)])]
          rw [e]; exact B
        clear hM HG hX B
        go_wp2
        go_roundw
        case rel => exact ⟨k + 1, by omega, by go_num, BN.alloc _, gr_alloc hgr _⟩
        case measure => simp [intOf]; omega
    · obtain rfl : k = l.length := by omega
      have BN : Blk wr g 3 (nums l.length (lgV l t)) := by
        have e : nums l.length (mixV l t l.length) = nums l.length (lgV l t) := by unfold nums; rw [tab_same (F := mixV l t l.length) (G := lgV l t) (fun j hj => by unfold mixV; rw [if_pos hj])]
        rw [← e]; exact B
      have i1 : ¬ (l.length : Int) < (l.length : Int) := by omega
      go_wp2
      exact ⟨rfl, .tuple #[], by simp [results, Try.results34, go_sem], rfl, BN, hgr⟩

def NoP (F : Nat → Int) (k : Nat) : Prop := ∀ i, i < k → ¬ 0 < F i
/-- The first that is left over 0; -1: none. -/
def FstP (n : Nat) (F : Nat → Int) (R : Int) : Prop := (R = -1 ∧ ∀ i, i < n → ¬ 0 < F i) ∨ ∃ k : Nat, R = (k : Int) ∧ k < n ∧ 0 < F k ∧ ∀ i, i < k → ¬ 0 < F i
theorem pos_any (x : Int) (s : Bool) (w : World) (hs : Hid (decide (0 < x) = s)) : Calls Try.prog 36 #[.int .i64 x] w fun e w' => e = .returned (.bool s) ∧ w' = w := by
  go_enter Try.func36, Try.ntmps36
  go_wp2
  go_ret
  exact ⟨ret_bool hs.out, rfl⟩
set_option maxHeartbeats 800000 in
theorem firstPos_any (A : Option Addr) (n c : Nat) (F : Nat → Int) (w : World) (h : Ints w A (tab n F)) :
    Calls Try.prog 35 #[.slice A n c, .func (.func 36) #[] #[]] w fun e w' => (∃ R, FstP n F R ∧ e = .returned (.int .i64 R)) ∧ w' = w := by
  have hent := enters_of Try.func36 (by kernel_rfl) rfl
  have hl := h.1
  rw [length_tab] at hl
  go_enter Try.func35, Try.ntmps35
  go_wp2
  go_loop [8] (fun i => ∃ k : Nat, k ≤ n ∧ i = .int .i64 k ∧ Hid (NoP F k)) (fun i => n - (intOf i).toNat)
  case atStart => exact ⟨0, Nat.zero_le _, rfl, Lib.hid (fun i hi => by omega)⟩
  case round =>
    obtain ⟨t, ht, rfl, HR⟩ := hrel
    by_cases hlt : t < n
    · obtain ⟨bb, off, x, rfl, hcell, HX⟩ := h.at_ (k := t) (by rw [length_tab]; exact hlt)
      have hx : x = F t := by have := HX.out; rw [get_tab F hlt] at this; exact (Option.some.inj this).symm
      have i1 : (t : Int) < (n : Int) := by omega
      cases q : decide (0 < x)
      · have HQ := Lib.hid q
        have HN : Hid (NoP F (t + 1)) := Lib.hid (fun i hi => by
          by_cases c : i = t
          · subst c; rw [← hx]; exact of_decide_eq_false q
          · exact HR.out i (by omega))
        clear q hx
        go_wp2_with fail
        refine (pos_any x false _ HQ).mono ?_
        rintro e w' ⟨rfl, rfl⟩
        go_wp2
        go_round
        case rel => exact ⟨t + 1, by omega, by go_num, HN⟩
        case measure => simp [intOf]; omega
      · have HQ := Lib.hid q
        have HN : Hid (FstP n F t) := Lib.hid (.inr ⟨t, rfl, hlt, by rw [← hx]; exact of_decide_eq_true q, HR.out⟩)
        clear q hx
        go_wp2_with fail
        refine (pos_any x true _ HQ).mono ?_
        rintro e w' ⟨rfl, rfl⟩
        go_wp2
        go_ret
        exact ⟨⟨t, HN.out, rfl⟩, rfl⟩
    · have HN : Hid (FstP n F (-1)) := Lib.hid (.inl ⟨rfl, fun i hi => HR.out i (by omega)⟩)
      go_wp2
      go_ret
      exact ⟨⟨-1, HN.out, rfl⟩, rfl⟩
theorem fst_rk {l : List Tk} {t : Nat} {R : Int} (h : FstP l.length (lgV l t) R) : R = rkR l t := by
  rcases h with ⟨e, hn⟩ | ⟨k, e, hk, hp, hm⟩
  · rw [e, rkR_none hn]
  · rw [e, rkR_some hk hp hm]

theorem two_madeT (w : World) (t t' : TypeId) (cs cs' : Array Value) : Blk ((w.alloc (.cells cs t)).alloc (.cells cs' t')).drew w.heap.size t cs ∧ Blk ((w.alloc (.cells cs t)).alloc (.cells cs' t')).drew (w.heap.size + 1) t' cs' ∧ Below w.heap.size w ((w.alloc (.cells cs t)).alloc (.cells cs' t')).drew := by
  refine ⟨(Blk.new w t cs).alloc _, ?_, ?_⟩
  · have := Blk.new (w.alloc (.cells cs t)) t' cs'
    have e : (w.alloc (.cells cs t)).heap.size = w.heap.size + 1 := by simp
    rw [e] at this
    exact this
  · have := ((Below.refl w.heap.size w).alloc (Nat.le_refl _) (.cells cs t)).alloc (by simp) (.cells cs' t')
    exact ⟨this.os, this.tape, this.output, this.size, this.block⟩
theorem ints_blk {w : World} {g n : Nat} {F : Nat → Int} (B : Blk w g 3 (nums n F)) (hn : n ≤ 1000) : Ints w (some ⟨g, 0, none⟩) (tab n F) := by
  refine ⟨by rw [length_tab]; omega, fun _ => ⟨g, 0, rfl, fun j hj => ?_⟩⟩
  rw [length_tab] at hj
  rw [Nat.zero_add, B.cell j]
  unfold nums
  rw [tab_cell F hj]
  simp [tab, List.getD, hj]
theorem nums_zero (n : Nat) : nums n (fun _ => 0) = madeCells #[Value.int .i64 0] n := by
  have := rowAt_zero n (fun _ => 0)
  rw [← this]
  unfold nums rowAt
  congr 1
  apply List.ext_getElem?
  intro i
  by_cases c : i < n
  · simp [tab, c]
  · rw [List.getElem?_eq_none (by simp [length_tab]; omega), List.getElem?_eq_none (by simp [length_tab]; omega)]
/-- The slots that are filled so far; the rest is 0. -/
def toT (F : Nat → Int) (t j : Nat) : Int := if j < t then F j else 0

set_option maxHeartbeats 3200000 in
theorem rrun_yes (A : Option Addr) (l : List Tk) (c H : Nat) (w : World) (h : Tas w A l) (hE : tasE l = 0) (hH : H ≤ 200) :
    Calls Try.prog 17 #[.slice A l.length c, .int .i64 H] w fun e w' => ∃ (B : Option Addr) (k : Nat), e = .returned (.tuple #[.slice B H k, .int .i64 0]) ∧ w'.ownsRow w.heap.size 3 1 (.slice B H k) H ((tab H (rkR l)).map (Value.int .i64)) ∧ Below w.heap.size w w' := by
  have v := tas_iff.1 hE
  have hle := v.le
  have HE := Lib.hid hE
  clear hE
  have q1 : Hid (decide ((H : Int) < 0 ∨ 200 < (H : Int)) = false) := Lib.hid (decide_eq_false (by omega))
  have hmk := fun W => run_make_row' (P := Try.prog) 35 3 (.int .i64 0) 8 Try.underlying35 int_info rfl .i64 .i64 H (by omega) (by omega) W
  have hmk2 := fun W => run_make_row' (P := Try.prog) 35 3 (.int .i64 0) 8 Try.underlying35 int_info rfl .i64 .i64 l.length (by omega) (by omega) W
  go_enter Try.func17, Try.ntmps17
  go_wp2_with fail
  refine (rcheck_any A l c w h).mono ?_
  rintro e w1 ⟨rfl, b1⟩
  rw [HE.out]
  go_wp2_with fail
  refine (lim_any (H : Int) 0 200 false _ q1).mono ?_
  rintro e w' ⟨rfl, rfl⟩
  go_upto_region 6 with fail
  go_cut [7, 8] (fun s8 s9 wx => ∃ g g' : Nat, s8 = .slice (some ⟨g, 0, none⟩) H H ∧ s9 = .slice (some ⟨g', 0, none⟩) l.length l.length ∧ Blk wx g 3 (madeCells #[Value.int .i64 0] H) ∧ Blk wx g' 3 (madeCells #[Value.int .i64 0] l.length) ∧ ¬ g = g' ∧ w.heap.size ≤ g ∧ w.heap.size ≤ g' ∧ Below w.heap.size w wx)
  case first =>
    have s1 := b1.size
    go_region
    all_goals
      go_wp2_with fail
      go_meet
    · obtain ⟨m0, m1, m2⟩ := two_madeT w1 3 3 (madeCells #[Value.int .i64 0] H) (madeCells #[Value.int .i64 0] l.length)
      exact ⟨_, _, rfl, rfl, m0, m1, by omega, s1, by omega, b1.trans (m2.mono s1)⟩
    · obtain ⟨m0, m1, m2⟩ := two_madeT w1 3 3 (madeCells #[Value.int .i64 0] l.length) (madeCells #[Value.int .i64 0] H)
      exact ⟨_, _, rfl, rfl, m1, m0, by omega, by omega, s1, b1.trans (m2.mono s1)⟩
  case rest =>
  obtain ⟨g, g', rfl, rfl, M0, M1, ne, g0, g0', hb0⟩ := hcut
  clear b1 hmk hmk2
  go_wp2
  go_loopw [24] (fun i wr => ∃ t : Nat, t ≤ H ∧ i = .int .i64 t ∧ Blk wr g 3 (nums H (toT (rkR l) t)) ∧ Blk wr g' 3 (nums l.length (lfV l t)) ∧ Below w.heap.size w wr) (fun i _ => H - (intOf i).toNat)
  case atStart =>
    refine ⟨0, Nat.zero_le _, rfl, ?_, ?_, hb0⟩
    · rw [show nums H (toT (rkR l) 0) = nums H (fun _ => 0) by unfold nums; rw [tab_same (fun j _ => by unfold toT; rw [if_neg (by omega)])], nums_zero]; exact M0
    · rw [show nums l.length (lfV l 0) = nums l.length (fun _ => 0) by unfold nums; rw [tab_same (fun j hj => lf_zero v.toTks hj)], nums_zero]; exact M1
  case round =>
    clear M0 M1 hb0
    obtain ⟨t, ht, rfl, B0, B1, hbel⟩ := hrel
    by_cases hlt : t < H
    · have i1 : (t : Int) < (H : Int) := by omega
      go_wp2_with fail
      refine (release_any A l l.length c g' t w _ h hbel g0' v (by omega) rfl B1).mono ?_
      rintro e w2 ⟨rfl, B2, hg2⟩
      have A2 := gr_blk B0 hg2 ne
      have hb2 := gr_below hbel hg2 hbel.size g0'
      clear B0 B1 hg2 hbel
      go_wp2_with fail
      refine (firstPos_any _ l.length l.length (lgV l t) _ (ints_blk B2 (by omega))).mono ?_
      rintro e w3 ⟨⟨R, hR, rfl⟩, hw3⟩
      have B3 : Blk w3 g' 3 (nums l.length (lgV l t)) := by rw [hw3]; exact B2
      have A3 : Blk w3 g 3 (nums H (toT (rkR l) t)) := by rw [hw3]; exact A2
      have hb3 : Below w.heap.size w w3 := by rw [hw3]; exact hb2
      have HRk := Lib.hid (fst_rk hR)
      have HR := Lib.hid hR
      clear hR hw3 A2 B2 hb2
      have cA : ∃ u, w3.cell? ⟨g, t, none⟩ = some u := ⟨_, (A3.cell t).trans (tab_cell _ hlt)⟩
      obtain ⟨uA, cA⟩ := cA
      have fA := A3.frozen t
      have A4 : Blk (w3.setCell ⟨g, t, none⟩ (.int .i64 R)) g 3 (nums H (toT (rkR l) (t + 1))) := by
        have := A3.set_ t (.int .i64 (toT (rkR l) (t + 1) t))
        unfold nums at this ⊢
        rw [tab_upd hlt (fun j hj hne => by
          unfold toT
          by_cases c : j < t
          · rw [if_pos c, if_pos (by omega)]
          · rw [if_neg c, if_neg (by omega)]), show toT (rkR l) (t + 1) t = R by rw [toT, if_pos (by omega), HRk.out]] at this
        exact this
      have cA4 : (w3.setCell ⟨g, t, none⟩ (.int .i64 R)).cell? ⟨g, t, none⟩ = some (.int .i64 R) := by
        rw [A4.cell t]; unfold nums; rw [tab_cell _ hlt, toT, if_pos (by omega), HRk.out]
      have B4 : Blk (w3.setCell ⟨g, t, none⟩ (.int .i64 R)) g' 3 (nums l.length (lgV l t)) := B3.past (a := ⟨g, t, none⟩) (fun e => ne e.symm) _
      have hb4 := hb3.setCell (p := ⟨g, t, none⟩) g0 (.int .i64 R)
      rcases HR.out with ⟨hR, hn⟩ | ⟨k, hR, hk, hp, hm⟩
      · have HN : Hid (nums l.length (lfV l (t + 1)) = nums l.length (lgV l t)) := Lib.hid (by
          unfold nums
          rw [tab_same (F := lfV l (t + 1)) (G := lgV l t) (fun j hj => by rw [lf_lg, ← HRk.out, hR, if_neg (by omega), Int.sub_zero])])
        have i2 : ¬ 0 ≤ R := by omega
        have i3 : decide (0 ≤ R) = false := decide_eq_false i2
        have B4' : Blk (w3.setCell ⟨g, t, none⟩ (.int .i64 R)) g' 3 (nums l.length (lfV l (t + 1))) := by rw [HN.out]; exact B4
        have A4' := Lib.hid A4
        have B4' := Lib.hid B4'
        have hb4' := Lib.hid hb4
        clear hR hn HR A3 B3 hb3 A4 B4 hb4
        go_wp2
        go_roundw
        case rel => exact ⟨t + 1, by omega, by go_num, A4'.out, B4'.out, hb4'.out⟩
        case measure => simp [intOf]; omega
      · subst hR
        obtain ⟨X, hX⟩ : ∃ X, X = lgV l t k := ⟨_, rfl⟩
        have Xb := lg_bd v hk (t := t) (by omega)
        rw [← hX] at Xb hp
        obtain ⟨X0, X1⟩ := Xb
        have cX : w3.cell? ⟨g', k, none⟩ = some (.int .i64 X) := by rw [B3.cell k, hX]; exact tab_cell _ hk
        have fX := B3.frozen k
        have ne' : ¬ g' = g := fun e => ne e.symm
        have i2 : (0 : Int) ≤ (k : Int) := by omega
        have i3 : (k : Int) < (l.length : Int) := by omega
        have m1 : IntKind.i64.wrap (X - 1) = X - 1 := IntWalk.i64_in _ ⟨by omega, by omega⟩
        have B5 : Blk ((w3.setCell ⟨g, t, none⟩ (.int .i64 (k : Int))).setCell ⟨g', k, none⟩ (.int .i64 (X - 1))) g' 3 (nums l.length (lfV l (t + 1))) := by
          have := B4.set_ k (.int .i64 (lfV l (t + 1) k))
          unfold nums at this ⊢
          rw [tab_upd hk (fun j hj hne => by rw [lf_lg, ← HRk.out, if_neg (by omega), Int.sub_zero]), show lfV l (t + 1) k = X - 1 by rw [lf_lg, ← HRk.out, if_pos rfl, ← hX]] at this
          exact this
        have A5 : Blk ((w3.setCell ⟨g, t, none⟩ (.int .i64 (k : Int))).setCell ⟨g', k, none⟩ (.int .i64 (X - 1))) g 3 (nums H (toT (rkR l) (t + 1))) := A4.past (a := ⟨g', k, none⟩) ne _
        have hb5 := hb4.setCell (p := ⟨g', k, none⟩) g0' (.int .i64 (X - 1))
        have A5' := Lib.hid A5
        have B5' := Lib.hid B5
        have hb5' := Lib.hid hb5
        clear hm hp HR hX HRk A5 B5 hb5 A3 B3 hb3 A4 B4 hb4
        go_wp2
        go_roundw
        case rel => exact ⟨t + 1, by omega, by go_num, A5'.out, B5'.out, hb5'.out⟩
        case measure => simp [intOf]; omega
    · obtain rfl : t = H := by omega
      have e : nums t (toT (rkR l) t) = ((tab t (rkR l)).map (Value.int .i64)).toArray := by unfold nums; rw [tab_same (F := toT (rkR l) t) (G := rkR l) (fun j hj => by unfold toT; rw [if_pos hj])]
      rw [e] at B0
      have o0 := own_of_blk (n := t) B0 g0 (length_tab _ _).symm (by omega)
      rw [length_tab] at o0
      have O0 := Lib.hid o0
      clear o0 e
      go_wp2
      go_ret2
      exact ⟨some ⟨g, 0, none⟩, t, rfl, O0.out, hbel⟩
set_option maxHeartbeats 800000 in
theorem rrun_arg (A : Option Addr) (l : List Tk) (c : Nat) (H : Int) (w : World) (h : Tas w A l) (hE : tasE l = 0) (hH : H < 0 ∨ 200 < H) :
    Calls Try.prog 17 #[.slice A l.length c, .int .i64 H] w fun e w' => e = .returned (.tuple #[.slice none 0 0, .int .i64 1]) ∧ Below w.heap.size w w' := by
  have q1 : Hid (decide (H < 0 ∨ 200 < H) = true) := Lib.hid (decide_eq_true hH)
  have HE := Lib.hid hE
  clear hE hH
  go_enter Try.func17, Try.ntmps17
  go_wp2_with fail
  refine (rcheck_any A l c w h).mono ?_
  rintro e w1 ⟨rfl, b1⟩
  rw [HE.out]
  go_wp2_with fail
  refine (lim_any H 0 200 true _ q1).mono ?_
  rintro e w' ⟨rfl, rfl⟩
  go_wp2
  go_ret2
  exact ⟨rfl, b1⟩
set_option maxHeartbeats 800000 in
theorem rrun_no (A : Option Addr) (l : List Tk) (c : Nat) (H : Int) (w : World) (h : Tas w A l) (hE : ¬ tasE l = 0) :
    Calls Try.prog 17 #[.slice A l.length c, .int .i64 H] w fun e w' => e = .returned (.tuple #[.slice none 0 0, .int .i64 (tasE l)]) ∧ Below w.heap.size w w' := by
  have e1 : (tasE l != 0) = true := by simp [hE]
  go_enter Try.func17, Try.ntmps17
  go_wp2_with fail
  refine (rcheck_any A l c w h).mono ?_
  rintro e w1 ⟨rfl, b1⟩
  go_wp2
  go_ret2
  exact ⟨rfl, b1⟩

end Go.Proofs.Ytccjegnflienhaa
