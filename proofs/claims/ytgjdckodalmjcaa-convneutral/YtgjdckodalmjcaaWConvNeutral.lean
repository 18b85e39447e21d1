
/-
  The walk of the law ConvNeutral.
-/
import Derived.Test.YtgjdckodalmjcaaConvK
namespace Go.Proofs.Ytgjdckodalmjcaa
set_option linter.all false
open Go.RowKit Go.Shelf


theorem conv_lit5 : Convs [3, 5] [0, 1000000] [3, 5] := ⟨cv_of (by decide), cv_of (by decide), rfl, by decide⟩

/-- What lets all pass behind time 0. -/
def open_ (n : Nat) : List Int := (List.replicate n 1000000).set 0 0
theorem length_open (n : Nat) : (open_ n).length = n := by simp [open_]
theorem gt_open {n t : Nat} (h : t < n) : gt (open_ n) t = if t = 0 then 0 else 1000000 := by
  unfold open_; rw [gt_set (by simp; omega)]
  split
  · rfl
  · exact gt_replicate h
theorem cv_open {n : Nat} (h0 : 0 < n) (h1 : n ≤ 61) : Cv (open_ n) := by
  refine ⟨by rwa [length_open], by rwa [length_open], fun i hi => ?_, fun i hi => ?_, fun i hi => ?_⟩ <;> rw [length_open] at hi
  · rw [gt_open hi]; split <;> decide
  · rw [gt_open hi]; split <;> decide
  · rw [gt_open hi, gt_open (by omega), if_neg (by omega : ¬ i + 1 = 0)]; split <;> decide
theorem conv_open {l : List Int} (v : Cv l) : Convs l (open_ l.length) l := by
  refine ⟨v, cv_open v.pos v.le, (length_open _).symm, ?_⟩
  refine list_ext (length_cvL _ _).symm (fun t ht => ?_)
  rw [gt_cvL ht]
  refine (cv_eq (fun i j e => ?_) ⟨t, 0, by omega, ?_⟩).symm
  · rw [gt_open (by omega)]
    split
    · subst j; obtain rfl : i = t := by omega
      omega
    · have := v.hi t ht; have := v.lo i (by omega); omega
  · rw [gt_open (by omega), if_pos rfl]; omega

set_option maxHeartbeats 3200000 in
theorem walk_ConvNeutral (a0 : Option Addr) (c0 : Nat) (l0 : List Int) (w : World)
    (h0 : Ints w a0 l0) (k0 : l0.length ≤ c0) :
    Calls Try.prog 13 #[.slice a0 l0.length c0] w fun e w' => e = .returned (.bool true) ∧ Below w.heap.size w w' := by
  have hb : Below w.heap.size w w := Below.refl _ _
  by_cases g : chk l0 = 0
  · have t1 : (chk l0 != 0) = false := by simp [g]
    have v := cv_of g
    have zx := conv_open v
    have zy := zx.symm
    have b0 : bigB l0 = false := bigB_no.2 v.hi
    have B0 := Lib.hid b0
    have LN := Lib.hid (length_open l0.length)
    have hp := v.pos
    have hp' : (0 : Int) < (l0.length : Int) := by omega
    have h61 := v.le
    have hw0 := h0
    clear b0 g
    go_enter Try.func13, Try.ntmps13
    go_wp2_with fail
    refine (conv_yes _ _ [3, 5] [0, 1000000] [3, 5] _ _ _ _ _ conv_lit5 (by decide) (by exact Ints.litA _ _ _ _ _ rfl (by decide)) (by exact Ints.litB _ _ _ _ _ rfl (by decide)) rfl rfl).mono ?_
    rintro e w1 ⟨Ax, cx, rfl, ox, bw1⟩
    replace bw1 := below_of2 bw1
    replace h0 := h0.below bw1
    replace hb := below_trans hb bw1
    have hx := Ints.of_own ox
    clear bw1 ox
    go_wp2_with fail
    refine (equal_at Ax _ [3, 5] [3, 5] _ _ _ _ _ (by exact Ints.alloc hx _) (by exact Ints.lit _ _ _ _ rfl (by decide)) rfl rfl).mono ?_
    rintro e w2 ⟨rfl, nw2, hww2⟩
    have bw2 := below_of_drewN hww2
    clear hww2
    replace bw2 := below_of1 bw2
    replace h0 := h0.below bw2
    replace hb := below_trans hb bw2
    clear bw2
    rw [eqB_true rfl]
    clear hx
    go_wp2_with fail
    refine (check_any a0 l0 c0 _ h0).mono ?_
    rintro e w' ⟨rfl, rfl⟩
    go_wp2_with fail
    refine (repeat_one _ 1000000 l0.length _ _ (by exact Ints.lit _ _ _ _ rfl (by decide)) hp h61).mono ?_
    rintro e w3 ⟨q, rfl, hq0, hblk, b3⟩
    replace b3 := below_of1 b3
    have hq : w.heap.size ≤ q := by have := hb.size; simp at hq0; omega
    replace h0 := h0.below b3
    replace hb := below_trans hb b3
    clear b3
    have hcell : w3.cell? ⟨q, 0, none⟩ = some (.int .i64 1000000) := by rw [hblk.cell]; simp [hp]
    have hfz := hblk.frozen 0
    obtain ⟨W, hW⟩ : ∃ W, W = w3.setCell ⟨q, 0, none⟩ (.int .i64 0) := ⟨_, rfl⟩
    have hblk' : Blk W q 3 ((open_ l0.length).map (Value.int .i64)).toArray := by rw [hW]; unfold open_; rw [← set_cells]; exact hblk.set_ 0 _
    have hg := Ints.of_blk hblk' (by rw [LN.out]; omega)
    have hbW : Below w.heap.size w W := by rw [hW]; exact hb.setCell (by simpa using hq) _
    have hW0 := hw0.below hbW
    have HW := Lib.hid hW
    clear hW hw0
    go_wp2_with fail
    rw [← HW.out]
    clear hcell hfz hblk hblk' h0 hb hq0 hq
    have hb := hbW
    have h0 := hW0
    clear hbW hW0
    refine (conv_yes a0 _ l0 (open_ l0.length) l0 _ _ c0 _ _ zx B0.out h0 hg rfl LN.out.symm).mono ?_
    rintro e w4 ⟨Ax, cx, rfl, ox, b4⟩
    replace h0 := h0.below b4
    replace hg := hg.below b4
    replace hb := below_trans hb b4
    have hx := Ints.of_own ox
    clear b4 ox
    go_wp2_with fail
    refine (conv_yes _ a0 (open_ l0.length) l0 l0 _ _ _ c0 _ zy B0.out hg h0 LN.out.symm rfl).mono ?_
    rintro e w5 ⟨Ay, cy, rfl, oy, bw5⟩
    replace h0 := h0.below bw5
    replace hx := hx.below bw5
    replace hb := below_trans hb bw5
    have hy := Ints.of_own oy
    clear bw5 oy
    go_wp2_with fail
    refine (equal_any Ax a0 l0 l0 cx c0 _ hx h0).mono ?_
    rintro e w6 ⟨rfl, nw6, hww6⟩
    have bw6 := below_of_drewN hww6
    clear hww6
    replace h0 := h0.below bw6
    replace hy := hy.below bw6
    replace hb := below_trans hb bw6
    clear bw6
    rw [eqB_true rfl]
    go_wp2_with fail
    refine (equal_any Ay a0 l0 l0 cy c0 _ hy h0).mono ?_
    rintro e w7 ⟨rfl, nw7, hww7⟩
    have bw7 := below_of_drewN hww7
    clear hww7
    replace hb := below_trans hb bw7
    clear bw7
    rw [eqB_true rfl]
    go_wp2
    go_ret
    exact ⟨rfl, hb⟩
  · have t1 : (chk l0 != 0) = true := by simp [g]
    clear g
    go_enter Try.func13, Try.ntmps13
    go_wp2_with fail
    refine (conv_yes _ _ [3, 5] [0, 1000000] [3, 5] _ _ _ _ _ conv_lit5 (by decide) (by exact Ints.litA _ _ _ _ _ rfl (by decide)) (by exact Ints.litB _ _ _ _ _ rfl (by decide)) rfl rfl).mono ?_
    rintro e w1 ⟨Ax, cx, rfl, ox, bw1⟩
    replace bw1 := below_of2 bw1
    replace h0 := h0.below bw1
    replace hb := below_trans hb bw1
    have hx := Ints.of_own ox
    clear bw1 ox
    go_wp2_with fail
    refine (equal_at Ax _ [3, 5] [3, 5] _ _ _ _ _ (by exact Ints.alloc hx _) (by exact Ints.lit _ _ _ _ rfl (by decide)) rfl rfl).mono ?_
    rintro e w2 ⟨rfl, nw2, hww2⟩
    have bw2 := below_of_drewN hww2
    clear hww2
    replace bw2 := below_of1 bw2
    replace h0 := h0.below bw2
    replace hb := below_trans hb bw2
    clear bw2
    rw [eqB_true rfl]
    clear hx
    go_wp2_with fail
    refine (check_any a0 l0 c0 _ h0).mono ?_
    rintro e w' ⟨rfl, rfl⟩
    go_wp2
    go_ret
    exact ⟨rfl, hb⟩

end Go.Proofs.Ytgjdckodalmjcaa
