
/-
  The document's own stages: headref.Stage, SameStage.
-/
import Derived.Test.YtmefekgbljhclaaPieB
namespace Go.Proofs.Ytmefekgbljhclaa
set_option linter.all false
open Go.RowKit Go.Shelf Go.Lib

set_option maxHeartbeats 800000 in
theorem refSame_yes (s u : Int) (A B : Option Addr) (n m c d : Nat) (z : List Bool) (w : World) (hA : Bls w A z) (hB : Bls w B z) (hn : n = z.length) (hm : m = z.length) : Calls Try.prog 19 #[.agg #[.int .i64 s, .int .i64 u, .slice A n c], .agg #[.int .i64 s, .int .i64 u, .slice B m d]] w fun e w' => e = .returned (.bool true) ∧ Below w.heap.size w w' := by
  subst hn hm
  go_enter Try.func19, Try.ntmps19
  go_wp2_with fail
  refine (bequal_same A B z _ _ _ _ _ ((hA.alloc _).alloc _) ((hB.alloc _).alloc _) rfl rfl).mono ?_
  rintro e w1 ⟨rfl, m1, hw1⟩
  have b1 := below_of1 (below_of1 (below_of_drewN hw1))
  clear hw1
  go_wp2
  go_ret
  exact ⟨rfl, b1⟩

set_option maxHeartbeats 1600000 in
theorem refStage_any (s u : Int) (A : Option Addr) (c n : Nat) (R : Int) (w : World) (hn : n ≤ 9223372036854775807) (HR : Hid (stE s u n = R)) : Calls Try.prog 17 #[.agg #[.int .i64 s, .int .i64 u, .slice A n c]] w fun e w' => e = .returned (.int .i64 R) ∧ Below w.heap.size w w' := by
  by_cases hE : whE s u = 0
  · have v := wh_iff.mp hE
    obtain ⟨N, hN⟩ : ∃ N, pcN s u = N := ⟨_, rfl⟩
    have HN := Lib.hid hN
    have H0 := Lib.hid hE
    have Nb := pcn_max v
    rw [hN] at Nb
    have HQ : Hid ((if n = N then 0 else 4) = R) := Lib.hid (by rw [← HR.out]; unfold stE; rw [hE, hN]; simp)
    clear hE hN HR
    go_enter Try.func17, Try.ntmps17
    go_wp2_with fail
    refine (refWhole_any s u 0 _ H0).mono ?_
    rintro e w1 ⟨rfl, rfl⟩
    obtain ⟨W, hW⟩ : ∃ W, W = w.alloc (.cells #[.int .i64 s, .int .i64 u, .slice A n c] 24) := ⟨_, rfl⟩
    have K0 : Blk W w.heap.size 24 #[.int .i64 s, .int .i64 u, .slice A n c] := by rw [hW]; exact Blk.new _ _ _
    have hb : Below w.heap.size w W := by rw [hW]; exact (Below.refl _ _).alloc (Nat.le_refl _) _
    obtain ⟨c0, c1, c2⟩ := three_read K0
    have lt0 := K0.lt
    have HW := Lib.hid hW
    clear hW
    go_wp2
    rw [← HW.out]
    go_region_held3 (fun w' => w'.cell? ⟨w.heap.size, 0, none⟩ = some (.int .i64 s) ∧ w'.cell? ⟨w.heap.size, 1, none⟩ = some (.int .i64 u) ∧ w'.cell? ⟨w.heap.size, 2, none⟩ = some (.slice A n c))
      (first | go_keep | (go_split_ands; refine ⟨?_, ?_, ?_⟩ <;> exact (b9.cell (cell_lt (by assumption))).trans (by assumption)))
      (first
        | ((with_reducible refine (refPieces_any s u N _ v HN).mono ?_); rintro e w9 ⟨B, d, rfl, o9, b9⟩))
    have hb9 : Below w.heap.size w w9 := below_trans (below_trans hb (below_of_drewN (n := 1) rfl)) b9
    clear b9 o9 c0 c1 c2
    by_cases h : n = N
    · have HQ' : Hid (0 = R) := Lib.hid (by rw [← HQ.out, if_pos h])
      subst h
      go_wp2
      go_ret
      exact ⟨ret_int HQ'.out, hb9⟩
    · have HQ' : Hid (4 = R) := Lib.hid (by rw [← HQ.out, if_neg h])
      go_wp2
      go_ret
      exact ⟨ret_int HQ'.out, hb9⟩
  · have HQ : Hid (whE s u = R) := Lib.hid (by rw [← HR.out, stE, if_pos hE])
    have e1 : (whE s u != 0) = true := by simp [hE]
    clear HR
    go_enter Try.func17, Try.ntmps17
    go_wp2_with fail
    refine (refWhole_any s u (whE s u) _ (Lib.hid rfl)).mono ?_
    rintro e w1 ⟨rfl, rfl⟩
    have hb : Below w.heap.size w (w.alloc (.cells #[.int .i64 s, .int .i64 u, .slice A n c] 24)) := (Below.refl _ _).alloc (Nat.le_refl _) _
    go_wp2
    go_ret
    exact ⟨ret_int HQ.out, hb⟩

end Go.Proofs.Ytmefekgbljhclaa
