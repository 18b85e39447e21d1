
/-
  Walks: the document's own schedule by rank; slices.Repeat to nothing.
-/
import Derived.Test.YtccjegnflienhaaRankD
import Derived.Test.YtccjegnflienhaaConvB
namespace Go.Proofs.Ytccjegnflienhaa
set_option linter.all false
open Go.RowKit Go.Shelf Go.Lib

theorem mul64_zero (w : World) :
    Calls Try.prog 60 #[.int .u64 1, .int .u64 0] w fun e w' => e = .returned (.tuple #[.int .u64 0, .int .u64 0]) ∧ w = w' := by
  have m1 : bits .and .u64 (1 : Int) 4294967295 = 1 := by
    have h := bits_and_u64_nat 1 4294967295 (by omega) (by omega)
    exact h
  have m0 : bits .and .u64 (0 : Int) 4294967295 = 0 := by
    have h := bits_and_u64_nat 0 4294967295 (by omega) (by omega)
    exact h
  go_enter Try.func60, Try.ntmps60
  go_wp2
  go_ret2
  exact ⟨rfl, rfl⟩
theorem mul_zero_any (w : World) :
    Calls Try.prog 47 #[.int .u64 1, .int .u64 0] w fun e w' => e = .returned (.tuple #[.int .u64 0, .int .u64 0]) ∧ w = w' := by
  go_enter Try.func47, Try.ntmps47
  go_wp2_with fail
  refine (mul64_zero _).mono ?_
  rintro e w' ⟨rfl, rfl⟩
  go_wp2
  go_ret2
  exact ⟨rfl, rfl⟩
set_option maxHeartbeats 800000 in
theorem repeat_zero (A : Option Addr) (v : Int) (c : Nat) (w : World) (h : Ints w A [v]) :
    Calls Try.prog 37 #[.slice A 1 c, .int .i64 0] w fun e w' => ∃ g, e = .returned (.slice (some ⟨g, 0, none⟩) 0 0) ∧ w.heap.size ≤ g ∧ Blk w' g 3 #[] ∧ Below w.heap.size w w' := by
  obtain ⟨b, off, x, rfl, hc, HX⟩ := h.at_ (k := 0) (by simp)
  obtain rfl : v = x := by simpa using HX.out
  simp only [Nat.add_zero] at hc
  have hmk : ∀ W : World, (Instr.makeSlice 35 (.int .i64 0) (.int .i64 0)).run Try.prog W = .ok (.slice (some ⟨W.heap.size, 0, none⟩) 0 0) (W.alloc (.cells (madeCells #[Value.int .i64 0] 0) 3)) := fun W => run_make_row' (P := Try.prog) 35 3 (.int .i64 0) 8 Try.underlying35 int_info rfl .i64 .i64 0 (by omega) (by omega) W
  have hlt : b < w.heap.size := cell_lt hc
  have hcu : (madeCells #[Value.int .i64 0] 0).toList = [] := by rw [toList_madeCells_one]; rfl
  have HCU := Lib.hid hcu
  clear hcu hc
  go_enter Try.func37, Try.ntmps37
  go_wp2_with fail
  refine (mul_zero_any _).mono ?_
  rintro e w' ⟨rfl, rfl⟩
  go_wp2_with (with_reducible refine wpList_copy_splice rfl (.tmp 31) (.tmp 32) 35 35 rfl 3 Try.underlying35 int_size _ _ _ _ _ _ rfl rfl w.heap.size 0 [] 3 ?hg [] ?hn ?hpos ?hfit ?hone w.heap.size w ?hb (Nat.le_refl _) ?_)
  case hg =>
    rw [show madeCells #[Value.int .i64 0] 0 = (#[] : Array Value) from Array.ext' HCU.out]
    exact heap_alloc_new w _
  case hn => simp
  case hfit => simp
  case hone => intro u hu; simp at hu
  case hb => exact (Below.refl _ _).alloc (Nat.le_refl _) _
  intro w2 HG2 hb2
  go_wp2
  refine wp_loop_rounds 1 ?_
  rw [rounds_succ]
  go_wp2
  go_ret
  exact ⟨_, rfl, Nat.le_refl _, HG2.out, hb2⟩

/-- What the tasks ahead of k do. -/
def rnkV (l : List Tk) (k t : Nat) : Int := if 0 ≤ rkR l t ∧ rkR l t < k then rkR l t else -1
theorem rnk_zero (l : List Tk) (t : Nat) : rnkV l 0 t = -1 := by unfold rnkV; rw [if_neg (by omega)]
theorem rnk_all (l : List Tk) (t : Nat) : rnkV l l.length t = rkR l t := by
  unfold rnkV
  rcases rkR_range l t with e | ⟨k, e, hk⟩
  · rw [e]; rfl
  · rw [if_pos (by omega)]
theorem rnk_neg {l : List Tk} {k t : Nat} : rnkV l k t < 0 ↔ ¬ (0 ≤ rkR l t ∧ rkR l t < k) := by
  unfold rnkV
  split
  · constructor
    · intro h; omega
    · intro h; rename_i c; exact absurd c h
  · rename_i c; exact ⟨fun _ => c, fun _ => by omega⟩
theorem rnk_pick {l : List Tk} {k t : Nat} (hk : k < l.length) : (rnkV l k t < 0 ∧ 0 < lgV l t k) ↔ rkR l t = (k : Int) := by
  rw [rnk_neg]
  rcases rk_spec l (rkD l t) t l.length with ⟨e, hn⟩ | ⟨k', e, hk', hp, hm⟩
  · have e' : rkR l t = -1 := e
    constructor
    · rintro ⟨_, b⟩
      have := hn k hk
      rw [rkB_lg, decide_eq_true b] at this
      exact absurd this (by simp)
    · intro h; omega
  · have e' : rkR l t = (k' : Int) := e
    rw [rkB_lg] at hp
    have hp' := of_decide_eq_true hp
    rcases Nat.lt_trichotomy k' k with c | c | c
    · exact ⟨fun h => absurd (show 0 ≤ rkR l t ∧ rkR l t < k by omega) h.1, fun h => by omega⟩
    · subst c; exact ⟨fun _ => e', fun _ => ⟨by omega, hp'⟩⟩
    · constructor
      · rintro ⟨_, b⟩
        have := hm k c
        rw [rkB_lg, decide_eq_true b] at this
        exact absurd this (by simp)
      · intro h; omega
theorem rnk_next {l : List Tk} {k t : Nat} : rnkV l (k + 1) t = if rkR l t = (k : Int) then (k : Int) else rnkV l k t := by
  unfold rnkV
  by_cases c : rkR l t = (k : Int)
  · rw [if_pos c, if_pos (by omega), c]
  · rw [if_neg c]
    by_cases d : 0 ≤ rkR l t ∧ rkR l t < k
    · rw [if_pos d, if_pos (by omega)]
    · rw [if_neg d, if_neg (by omega)]
/-- With task k as far as slot t. -/
def rnkW (l : List Tk) (k t s : Nat) : Int := if s < t then rnkV l (k + 1) s else rnkV l k s

set_option maxHeartbeats 3200000 in
/-- Behind the row of -1. -/
theorem refRanked_any (A : Option Addr) (l : List Tk) (n c H : Nat) (w : World) (h : Tas w A l) (hn : n = l.length) (v : TksB l) (hH : H ≤ 200) :
    Calls Try.prog 20 #[.slice A n c, .int .i64 H] w fun e w' => ∃ (g : Nat), e = .returned (.slice (some ⟨g, 0, none⟩) H H) ∧ Ints w' (some ⟨g, 0, none⟩) (tab H (rkR l)) ∧ Below w.heap.size w w' := by
  subst hn
  have hle := v.le
  have HREP : Hid (∀ (w1 : World) (A1 : Option Addr), Ints w1 A1 [-1] → Calls Try.prog 37 #[.slice A1 1 1, .int .i64 H] w1 fun e w' => ∃ g, e = .returned (.slice (some ⟨g, 0, none⟩) H H) ∧ w1.heap.size ≤ g ∧ Blk w' g 3 (nums H (rnkV l 0)) ∧ Below w1.heap.size w1 w') := Lib.hid (fun w1 A1 i1 => by
    by_cases z : H = 0
    · subst z
      exact (repeat_zero A1 (-1) 1 w1 i1).mono (fun e w' ⟨g, a, b, c, d⟩ => ⟨g, a, b, c, d⟩)
    · refine (repeat_one A1 (-1) H 1 w1 i1 (by omega) (by omega)).mono (fun e w' ⟨g, a, b, c, d⟩ => ⟨g, a, b, ?_, d⟩)
      have e : (List.replicate H (-1 : Int)) = tab H (rnkV l 0) := by
        refine List.ext_getElem? (fun i => ?_)
        by_cases q : i < H
        · simp [tab, q, rnk_zero]
        · rw [List.getElem?_eq_none (by simp; omega), List.getElem?_eq_none (by rw [length_tab]; omega)]
      rw [e] at c
      exact c)
  go_enter Try.func20, Try.ntmps20
  go_wp2_with fail
  refine (HREP.out _ _ (Ints.lit _ [-1] _ _ rfl (by simp))).mono ?_
  rintro e w2 ⟨g, rfl, hg, B, b2⟩
  have hb : Below w.heap.size w w2 := below_of1 b2
  have g0 : w.heap.size ≤ g := by have : w.heap.size ≤ w.heap.size + 1 := by omega
                                  simp at hg; omega
  clear b2 hg HREP
  go_wp2
  go_loopw [15] (fun s wr => ∃ k : Nat, k ≤ l.length ∧ s = .int .i64 k ∧ Blk wr g 3 (nums H (rnkV l k)) ∧ Below w.heap.size w wr) (fun s _ => l.length - (intOf s).toNat)
  case atStart => exact ⟨0, Nat.zero_le _, rfl, B, hb⟩
  case round =>
    clear B hb
    obtain ⟨k, hk, rfl, B, hb⟩ := hrel
    by_cases hlt : k < l.length
    · obtain ⟨bb, off, q, hA', hbl, c0, c1, c2, HJ⟩ := (h.below hb).get hlt
      subst hA'
      have hq := tk_of HJ.out
      have p1 := v.p1 k hlt
      have p60 := v.p60 k hlt
      have w1 := v.w1 k hlt
      have wd := v.wd k hlt
      have dp := v.dp k hlt
      rw [hq] at p1 p60 w1 wd dp
      have i1 : (k : Int) < (l.length : Int) := by omega
      have HLG : Hid (∀ t, lgV l t k = lfV l t k + if (t : Int) % q.per = 0 then q.work else 0) := Lib.hid (fun t => by rw [lg_lf v.toTks hlt, hq])
      obtain ⟨g1, hg1⟩ : ∃ g, g = wr.heap.size := ⟨_, rfl⟩
      obtain ⟨W1, hW1⟩ : ∃ W, W = wr.alloc (.cells #[.int .i64 q.per, .int .i64 q.work, .int .i64 q.due] 30) := ⟨_, rfl⟩
      have B1 : Blk W1 g1 30 #[.int .i64 q.per, .int .i64 q.work, .int .i64 q.due] := by rw [hW1, hg1]; exact Blk.new _ _ _
      have A1 : Blk W1 g 3 (nums H (rnkW l k 0)) := by
        have e : nums H (rnkW l k 0) = nums H (rnkV l k) := by unfold nums; rw [tab_same (F := rnkW l k 0) (G := rnkV l k) (fun j _ => by unfold rnkW; rw [if_neg (by omega)])]
        rw [e, hW1]; exact B.alloc _
      have hb1 : Below w.heap.size w W1 := by rw [hW1]; exact hb.alloc hb.size _
      have ne : ¬ g1 = g := by have := B.lt; omega
      have HW1 := Lib.hid hW1
      have HG1 := Lib.hid hg1
      clear hW1 hg1 hq
      go_wp2
      rw [← HG1.out, ← HW1.out]
      clear c0 c1 c2 HW1 HG1 B hb
      go_loopw [8, 21] (fun u s wr => ∃ t : Nat, t ≤ H ∧ s = .int .i64 t ∧ (∃ X : Int, u = .int .i64 X ∧ Hid (X = lfV l t k)) ∧ Blk wr g1 30 #[.int .i64 q.per, .int .i64 q.work, .int .i64 q.due] ∧ Blk wr g 3 (nums H (rnkW l k t)) ∧ Below w.heap.size w wr) (fun _ s _ => H - (intOf s).toNat)
      case atStart => exact ⟨0, Nat.zero_le _, rfl, ⟨0, rfl, Lib.hid (lf_zero v.toTks hlt).symm⟩, B1, A1, hb1⟩
      case round =>
        clear B1 A1 hb1
        obtain ⟨t, ht, rfl, ⟨X, rfl, HX⟩, B1, A1, hb1⟩ := hrel
        by_cases hltt : t < H
        · have Xb := lf_bd v hlt (t := t) (by omega)
          have Gb := lg_bd v hlt (t := t) (by omega)
          have GE := HLG.out t
          rw [← HX.out] at Xb GE
          obtain ⟨X0, X1⟩ := Xb
          obtain ⟨x0, x1, x2⟩ := three_read B1
          obtain ⟨Y, hY⟩ : ∃ Y, Y = rnkV l k t := ⟨_, rfl⟩
          have cY : wr.cell? ⟨g, t, none⟩ = some (.int .i64 Y) := by rw [A1.cell t]; unfold nums; rw [tab_cell _ hltt, rnkW, if_neg (by omega), hY]
          have fY := A1.frozen t
          have i2 : (t : Int) < (H : Int) := by omega
          have pz : ¬ q.per = 0 := by omega
          have HN := Lib.hid (lf_lg (l := l) (t := t) (i := k))
          have HPK : Hid ((Y < 0 ∧ 0 < lgV l t k) ↔ rkR l t = (k : Int)) := Lib.hid (by rw [hY]; exact rnk_pick hlt)
          have HNX : Hid (rnkV l (k + 1) t = if rkR l t = (k : Int) then (k : Int) else Y) := Lib.hid (by rw [hY]; exact rnk_next)
          have AS : Hid (∀ Z : Int, rnkV l (k + 1) t = Z → Blk (wr.setCell ⟨g, t, none⟩ (.int .i64 Z)) g 3 (nums H (rnkW l k (t + 1)))) := Lib.hid (fun Z hZ => by
            have := A1.set_ t (.int .i64 (rnkW l k (t + 1) t))
            unfold nums at this ⊢
            rw [tab_upd hltt (fun j hj hne => by
              unfold rnkW
              by_cases c : j < t
              · rw [if_pos c, if_pos (by omega)]
              · rw [if_neg c, if_neg (by omega)]), show rnkW l k (t + 1) t = Z by rw [rnkW, if_pos (by omega), hZ]] at this
            exact this)
          have AK : Hid (rnkV l (k + 1) t = Y → Blk wr g 3 (nums H (rnkW l k (t + 1)))) := Lib.hid (fun hZ => by
            have e : nums H (rnkW l k (t + 1)) = nums H (rnkW l k t) := by
              unfold nums
              rw [tab_same (F := rnkW l k (t + 1)) (G := rnkW l k t) (fun j _ => by
                unfold rnkW
                by_cases c : j < t
                · rw [if_pos c, if_pos (by omega)]
                · by_cases c2 : j = t
                  · subst c2; rw [if_pos (by omega), if_neg (by omega), hZ, hY]
                  · rw [if_neg c, if_neg (by omega)])]
            rw [e]; exact A1)
          have BS : Blk (wr.setCell ⟨g, t, none⟩ (.int .i64 (k : Int))) g1 30 #[.int .i64 q.per, .int .i64 q.work, .int .i64 q.due] := B1.past (a := ⟨g, t, none⟩) ne _
          have BSH := Lib.hid BS
          have bS := Lib.hid (hb1.setCell (p := ⟨g, t, none⟩) g0 (.int .i64 (k : Int)))
          clear BS
          obtain ⟨M, hM⟩ : ∃ M, M = Int.tmod (t : Int) q.per := ⟨_, rfl⟩
          have Mb : 0 ≤ M ∧ M < 60 ∧ M = (t : Int) % q.per := by
            rw [hM, Int.tmod_eq_emod_of_nonneg (by omega)]
            exact ⟨Int.emod_nonneg _ pz, by have := Int.emod_lt_of_pos (t : Int) (show 0 < q.per by omega); omega, rfl⟩
          obtain ⟨M0, M1, M2⟩ := Mb
          rw [← M2] at GE
          have m1 : Int.tmod (t : Int) q.per = M := hM.symm
          have m2 : IntKind.i64.wrap M = M := IntWalk.i64_in _ ⟨by omega, by omega⟩
          clear hM hY M2
          -- what is left with what has come
          obtain ⟨Z, hZ⟩ : ∃ Z, Z = lgV l t k := ⟨_, rfl⟩
          rw [← hZ] at GE Gb
          obtain ⟨Z0, Z1⟩ := Gb
          have HZ := Lib.hid hZ
          clear hZ
          by_cases d : M = 0
          · rw [if_pos d] at GE
            have e1 : (M == 0) = true := by simp [d]
            have m3 : IntKind.i64.wrap (X + q.work) = Z := by rw [← GE]; exact IntWalk.i64_in _ ⟨by omega, by omega⟩
            clear GE
            by_cases p : Y < 0 ∧ 0 < Z
            case pos =>
              obtain ⟨p1', p2'⟩ := p
              have HK : Hid (rkR l t = (k : Int)) := Lib.hid (HPK.out.mp ⟨p1', by rw [← HZ.out]; exact p2'⟩)
              have e2 : decide (Y < 0) = true := decide_eq_true p1'
              have e3 : decide (0 < Z) = true := decide_eq_true p2'
              have m4 : IntKind.i64.wrap (Z - 1) = Z - 1 := IntWalk.i64_in _ ⟨by omega, by omega⟩
              have HNZ : Hid (Z - 1 = lfV l (t + 1) k) := Lib.hid (by rw [HN.out, if_pos HK.out, HZ.out])
              have AN := Lib.hid (AS.out (k : Int) (by rw [HNX.out, if_pos HK.out]))
              clear A1 B1 hb1
              go_wp2
              go_roundw
              case rel => exact ⟨t + 1, by omega, by go_num, ⟨_, rfl, HNZ⟩, BSH.out, AN.out, bS.out⟩
              case measure => simp [intOf]; omega
            have HK : Hid (¬ rkR l t = (k : Int)) := Lib.hid (fun c => p (by have := HPK.out.mpr c; rw [← HZ.out] at this; exact this))
            have HNZ : Hid (Z = lfV l (t + 1) k) := Lib.hid (by rw [HN.out, if_neg HK.out, Int.sub_zero, HZ.out])
            have AN := AK.out (by rw [HNX.out, if_neg HK.out])
            by_cases p1' : Y < 0
            case pos =>
              have e2 : decide (Y < 0) = true := decide_eq_true p1'
              have e3 : decide (0 < Z) = false := decide_eq_false (fun c => p ⟨p1', c⟩)
              clear p
              go_wp2
              go_roundw
              case rel => exact ⟨t + 1, by omega, by go_num, ⟨_, rfl, HNZ⟩, B1, AN, hb1⟩
              case measure => simp [intOf]; omega
            have e2 : decide (Y < 0) = false := decide_eq_false p1'
            clear p
            go_wp2
            go_roundw
            case rel => exact ⟨t + 1, by omega, by go_num, ⟨_, rfl, HNZ⟩, B1, AN, hb1⟩
            case measure => simp [intOf]; omega
          · rw [if_neg d, Int.add_zero] at GE
            subst GE
            have e1 : (M == 0) = false := by simp [d]
            by_cases p : Y < 0 ∧ 0 < Z
            case pos =>
              obtain ⟨p1', p2'⟩ := p
              have HK : Hid (rkR l t = (k : Int)) := Lib.hid (HPK.out.mp ⟨p1', by rw [← HZ.out]; exact p2'⟩)
              have e2 : decide (Y < 0) = true := decide_eq_true p1'
              have e3 : decide (0 < Z) = true := decide_eq_true p2'
              have m4 : IntKind.i64.wrap (Z - 1) = Z - 1 := IntWalk.i64_in _ ⟨by omega, by omega⟩
              have HNZ : Hid (Z - 1 = lfV l (t + 1) k) := Lib.hid (by rw [HN.out, if_pos HK.out, HZ.out])
              have AN := Lib.hid (AS.out (k : Int) (by rw [HNX.out, if_pos HK.out]))
              clear A1 B1 hb1
              go_wp2
              go_roundw
              case rel => exact ⟨t + 1, by omega, by go_num, ⟨_, rfl, HNZ⟩, BSH.out, AN.out, bS.out⟩
              case measure => simp [intOf]; omega
            have HK : Hid (¬ rkR l t = (k : Int)) := Lib.hid (fun c => p (by have := HPK.out.mpr c; rw [← HZ.out] at this; exact this))
            have HNZ : Hid (Z = lfV l (t + 1) k) := Lib.hid (by rw [HN.out, if_neg HK.out, Int.sub_zero, HZ.out])
            have AN := AK.out (by rw [HNX.out, if_neg HK.out])
            by_cases p1' : Y < 0
            case pos =>
              have e2 : decide (Y < 0) = true := decide_eq_true p1'
              have e3 : decide (0 < Z) = false := decide_eq_false (fun c => p ⟨p1', c⟩)
              clear p
              go_wp2
              go_roundw
              case rel => exact ⟨t + 1, by omega, by go_num, ⟨_, rfl, HNZ⟩, B1, AN, hb1⟩
              case measure => simp [intOf]; omega
            have e2 : decide (Y < 0) = false := decide_eq_false p1'
            clear p
            go_wp2
            go_roundw
            case rel => exact ⟨t + 1, by omega, by go_num, ⟨_, rfl, HNZ⟩, B1, AN, hb1⟩
            case measure => simp [intOf]; omega
        · obtain rfl : t = H := by omega
          have A2 : Blk wr g 3 (nums t (rnkV l (k + 1))) := by
            have e : nums t (rnkW l k t) = nums t (rnkV l (k + 1)) := by unfold nums; rw [tab_same (F := rnkW l k t) (G := rnkV l (k + 1)) (fun j hj => by unfold rnkW; rw [if_pos hj])]
            rw [← e]; exact A1
          go_wp2
          go_roundw
          case rel => exact ⟨k + 1, by omega, by go_num, A2, hb1⟩
          case measure => simp [intOf]; omega
    · obtain rfl : k = l.length := by omega
      have e : nums H (rnkV l l.length) = nums H (rkR l) := by unfold nums; rw [tab_same (F := rnkV l l.length) (G := rkR l) (fun j _ => rnk_all l j)]
      rw [e] at B
      have I := Lib.hid (ints_blk B (by omega))
      go_wp2
      go_ret
      exact ⟨g, rfl, I.out, hb⟩

end Go.Proofs.Ytccjegnflienhaa
