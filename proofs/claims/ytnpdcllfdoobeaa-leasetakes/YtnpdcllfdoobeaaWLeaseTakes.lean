
/-
  The law LeaseTakes.
-/
import Derived.Test.YtnpdcllfdoobeaaLeaS
import Derived.Test.YtnpdcllfdoobeaaLeaT
namespace Go.Proofs.Ytnpdcllfdoobeaa
set_option linter.all false
open Go.RowKit Go.Shelf Go.Lib

theorem prz_who (bb : Nat) (x : Lz) (hx : 0 ≤ x.who ∧ x.who ≤ 7) : Prz 24 bb (fun w => Blk w bb 35 #[.int .i64 x.who, .int .i64 x.till, .int .i64 x.pin]) (fun a => decide (a.who = x.who)) where
  ent := enters_of Try.func24 (by kernel_rfl) rfl
  keep := fun h b => h.below b
  ans := fun a w h => by
    obtain ⟨a1, a2, a3⟩ := a
    obtain ⟨c0, c1, c2⟩ := three_read h
    have hlt := h.lt
    obtain ⟨s, hs⟩ : ∃ s, decide (a1 = x.who) = s := ⟨_, rfl⟩
    simp only
    rw [hs]
    have ne : ¬ bb = w.heap.size := by omega
    obtain ⟨z, hz⟩ : ∃ z, z = x.who := ⟨_, rfl⟩
    rw [← hz] at c0 hs
    clear hz h hx
    by_cases c : a1 = z
    · have HS : Hid (s = true) := Lib.hid (by rw [← hs, decide_eq_true c])
      have e1 : (a1 == z) = true := by simp [c]
      clear hs c
      go_enter Try.func24, Try.ntmps24
      go_wp2
      go_ret
      exact ⟨ret_bool HS.out.symm, (Below.refl _ w).alloc (Nat.le_refl _) _⟩
    · have HS : Hid (s = false) := Lib.hid (by rw [← hs, decide_eq_false c])
      have e1 : (a1 == z) = false := by simp [c]
      clear hs c
      go_enter Try.func24, Try.ntmps24
      go_wp2
      go_ret
      exact ⟨ret_bool HS.out.symm, (Below.refl _ w).alloc (Nat.le_refl _) _⟩
theorem apart_of {L : List Lz} (h : L.Pairwise (fun a b => a.who ≠ b.who)) : ∀ i j, i < L.length → j < L.length → i ≠ j → (lzd L i).who ≠ (lzd L j).who := by
  intro i j hi hj ne
  rw [List.pairwise_iff_getElem] at h
  have e : ∀ k (hk : k < L.length), lzd L k = L[k] := fun k hk => by simp [lzd, List.getD, hk]
  rw [e i hi, e j hj]
  rcases Nat.lt_or_ge i j with c | c
  · exact h i j hi hj c
  · exact fun q => h j i hj hi (by omega) q.symm
theorem rest_apart {l : List Lz} (x : Lz) (v : LzOk l) : (l.filter (fun a => !decide (a.who = x.who)) ++ [x]).Pairwise (fun a b => a.who ≠ b.who) := by
  rw [List.pairwise_append]
  refine ⟨(List.Pairwise.filter _ v.sorted).imp (fun h => by omega), by simp, fun a ha b hb => ?_⟩
  simp at hb
  subst hb
  rw [List.mem_filter] at ha
  simpa using ha.2
theorem rest_same {l : List Lz} (x : Lz) (v : LzOk l) {f : Nat → Nat} (h : InsA (ljs (l.filter (fun a => !decide (a.who = x.who)) ++ [x])) f (l.filter (fun a => !decide (a.who = x.who)) ++ [x]).length) : srtZ (l.filter (fun a => !decide (a.who = x.who)) ++ [x]) f = takeL x l := by
  obtain ⟨s, m⟩ := srtZ_who h (apart_of (rest_apart x v))
  refine lzs_ext s (take_sorted v.sorted) (fun a => ?_)
  rw [m, mem_take v.sorted, List.mem_append, List.mem_filter, List.mem_singleton]
  constructor
  · rintro (⟨h1, h2⟩ | h1)
    · exact .inr ⟨h1, by simpa using h2⟩
    · exact .inl h1
  · rintro (h1 | ⟨h1, h2⟩)
    · exact .inr h1
    · exact .inl ⟨h1, by simpa using h2⟩

set_option maxRecDepth 100000 in
set_option maxHeartbeats 6400000 in
theorem walk_LeaseTakes (A : Option Addr) (c : Nat) (l : List Lz) (x1 x2 x3 : Int) (w : World) (h : Les w A l) (_k : l.length ≤ c) (_hx1 : (Lit.int .i64 x1).wf = true) (_hx2 : (Lit.int .i64 x2).wf = true) (_hx3 : (Lit.int .i64 x3).wf = true) :
    Calls Try.prog 4 #[.slice A l.length c, .agg #[.int .i64 x1, .int .i64 x2, .int .i64 x3]] w fun e w' => e = .returned (.bool true) ∧ Below w.heap.size w w' := by
  have hl := h.le
  obtain ⟨x, hX⟩ : ∃ X : Lz, X = ⟨x1, x2, x3⟩ := ⟨_, rfl⟩
  obtain ⟨rfl, rfl, rfl⟩ : x1 = x.who ∧ x2 = x.till ∧ x3 = x.pin := by subst hX; exact ⟨rfl, rfl, rfl⟩
  clear hX
  have E1 : Hid (lzE [⟨8, 0, 0⟩] = 1) := Lib.hid (by decide)
  obtain ⟨B0, hB0⟩ : ∃ B0, B0 = w.heap.size := ⟨_, rfl⟩
  have HB0 := Lib.hid hB0
  obtain ⟨W, hW⟩ : ∃ W, W = w.alloc (.cells #[.int .i64 x.who, .int .i64 x.till, .int .i64 x.pin] 35) := ⟨_, rfl⟩
  have hb : Below w.heap.size w W := by rw [hW]; exact (Below.refl _ _).alloc (Nat.le_refl _) _
  have BX : Blk W B0 35 #[.int .i64 x.who, .int .i64 x.till, .int .i64 x.pin] := by rw [hW, hB0]; exact Blk.new _ _ _
  have HW := Lib.hid hW
  replace h := h.below hb
  clear hB0 hW
  go_enter Try.func4, Try.ntmps4
  by_cases hE : tkE x l = 0
  rotate_left
  · have HE := Lib.hid hE
    clear hE
    go_wp2_with fail
    rw [← HW.out, ← HB0.out]
    refine (take_no A l x _ c _ h rfl HE).mono ?_
    rintro e w1 ⟨rfl, b1⟩
    replace h := h.below b1
    replace BX := BX.below b1
    replace hb := below_trans hb b1
    clear b1
    go_wp2_with fail
    refine (refLeases_any A l _ c _ h rfl).mono ?_
    rintro e w2 ⟨rfl, b2⟩
    replace h := h.below b2
    replace BX := BX.below b2
    replace hb := below_trans hb b2
    clear b2
    go_wp2_with fail
    refine (lcheck_any A l _ c _ h rfl).mono ?_
    rintro e w3 ⟨rfl, b3⟩
    replace h := h.below b3
    replace BX := BX.below b3
    replace hb := below_trans hb b3
    clear b3
    by_cases hL : lzE l = 0
    · have HL := Lib.hid hL
      have hx : lzBad x = true := by
        cases c' : lzBad x with
        | true => rfl
        | false => exact absurd (tk_iff.mpr ⟨lzE_iff.mp hL, c'⟩) HE.out
      have HT : Hid (tkE x l = 1) := Lib.hid (by rw [tkE, if_neg (by simpa using hL), if_pos hx])
      have HC : Hid (lzC x = 1) := Lib.hid (if_pos hx)
      rw [HL.out, HT.out]
      clear hL hx
      go_wp2_with fail
      refine (lcheck_any (some ⟨w3.heap.size, 0, none⟩) [⟨8, 0, 0⟩] 1 1 _ (Les.lit w3 _ _ _ rfl (by decide)) rfl).mono ?_
      rintro e w4 ⟨rfl, b4⟩
      rw [E1.out]
      have b4' := below_of1 b4
      replace h := h.below b4'
      replace BX := BX.below b4'
      replace hb := below_trans hb b4'
      clear b4 b4'
      obtain ⟨z0, z1, z2⟩ := three_read BX
      go_wp2_with fail
      refine (refLease_any x _).mono ?_
      rintro e w5 ⟨rfl, b5⟩
      rw [HC.out]
      replace h := h.below b5
      replace BX := BX.below b5
      replace hb := below_trans hb b5
      clear b5 z0 z1 z2
      go_wp2
      go_ret
      exact ⟨rfl, hb⟩
    · have HT : Hid (tkE x l = lzE l) := Lib.hid (by rw [tkE, if_pos hL])
      have e1 : (lzE l != 0) = true := by simp [hL]
      have e2 : (lzE l == 0) = false := by simp [hL]
      rw [HT.out]
      obtain ⟨E, hEE⟩ : ∃ E, E = lzE l := ⟨_, rfl⟩
      rw [← hEE] at e1 e2 ⊢
      clear hL hEE
      go_wp2_with fail
      refine (lcheck_any (some ⟨w3.heap.size, 0, none⟩) [⟨8, 0, 0⟩] 1 1 _ (Les.lit w3 _ _ _ rfl (by decide)) rfl).mono ?_
      rintro e w4 ⟨rfl, b4⟩
      rw [E1.out]
      have b4' := below_of1 b4
      replace h := h.below b4'
      replace BX := BX.below b4'
      replace hb := below_trans hb b4'
      clear b4 b4'
      go_wp2
      go_ret
      exact ⟨rfl, hb⟩
  have HE := Lib.hid hE
  obtain ⟨v, hx⟩ := tk_iff.mp hE
  have V := Lib.hid v
  have HL := Lib.hid (lzE_iff.mpr v)
  have HC : Hid (lzC x = 0) := Lib.hid (if_neg (by rw [hx]; decide))
  have gx := lzBad_iff.mp hx
  have GX : Hid (0 ≤ x.who ∧ x.who ≤ 7) := Lib.hid ⟨gx.1, gx.2.1⟩
  have h8 := v.len
  obtain ⟨i0, hi0, hz0, hz1, hz2⟩ := info_parts le_info
  clear hE v hx gx
  go_wp2_with fail
  rw [← HW.out, ← HB0.out]
  refine (take_yes A l x _ c _ h rfl HE).mono ?_
  rintro e w1 ⟨A1, c1, rfl, o1, b1⟩
  have iy := Les.of_row o1
  replace h := h.below b1
  replace BX := BX.below b1
  replace hb := below_trans hb b1
  clear b1 o1
  obtain ⟨Y, hY⟩ : ∃ Y, Y = takeL x l := ⟨_, rfl⟩
  rw [← hY] at iy ⊢
  have HY := Lib.hid hY
  clear hY
  go_wp2_with fail
  refine (refLeases_any A l _ c _ h rfl).mono ?_
  rintro e w2 ⟨rfl, b2⟩
  rw [HL.out]
  replace h := h.below b2
  replace BX := BX.below b2
  replace hb := below_trans hb b2
  replace iy := iy.below b2
  clear b2
  go_wp2_with fail
  refine (lcheck_any A l _ c _ h rfl).mono ?_
  rintro e w3 ⟨rfl, b3⟩
  rw [HL.out]
  replace h := h.below b3
  replace BX := BX.below b3
  replace hb := below_trans hb b3
  replace iy := iy.below b3
  clear b3
  go_wp2_with fail
  refine (lcheck_any (some ⟨w3.heap.size, 0, none⟩) [⟨8, 0, 0⟩] 1 1 _ (Les.lit w3 _ _ _ rfl (by decide)) rfl).mono ?_
  rintro e w4 ⟨rfl, b4⟩
  rw [E1.out]
  have b4' := below_of1 b4
  replace h := h.below b4'
  replace BX := BX.below b4'
  replace hb := below_trans hb b4'
  replace iy := iy.below b4'
  clear b4 b4'
  obtain ⟨z0, z1, z2⟩ := three_read BX
  go_wp2_with fail
  refine (refLease_any x _).mono ?_
  rintro e w5 ⟨rfl, b5⟩
  rw [HC.out]
  replace h := h.below b5
  replace BX := BX.below b5
  replace hb := below_trans hb b5
  replace iy := iy.below b5
  clear b5 z0 z1 z2
  -- the document's way
  go_wp2_with fail
  refine (clone_le A l _ c _ h rfl (by omega)).mono ?_
  rintro e w6 ⟨A6, c6, rfl, o6, b6⟩
  have BX6 := BX.below b6
  have lt5 := BX.lt
  clear h
  go_wp2_with fail
  refine (delFunc_any _ B0 35 _ _ (prz_who B0 x GX.out) A6 _ c6 w5.heap.size l w6 rfl (by omega) b6.size o6 BX6 lt5).mono ?_
  rintro e w7 ⟨A7, c7, rfl, o7, b7⟩
  have b57 := b6.trans b7
  have BX7 := BX.below b57
  have hsz7 := b57.size
  obtain ⟨D, hD⟩ : ∃ D, D = l.filter (fun a => !decide (a.who = x.who)) := ⟨_, rfl⟩
  rw [← hD] at o7 ⊢
  have DL : D.length ≤ 8 := by rw [hD]; exact Nat.le_trans (List.length_filter_le _ _) h8
  have DG : Hid (∀ i, i < (D ++ [x]).length → 0 ≤ (lzd (D ++ [x]) i).who ∧ (lzd (D ++ [x]) i).who ≤ 7) := Lib.hid (fun i hi => by
    have e : lzd (D ++ [x]) i = (D ++ [x])[i] := by simp only [lzd, List.getD, List.getElem?_eq_getElem hi, Option.getD_some]
    have m : (D ++ [x])[i] ∈ D ++ [x] := List.getElem_mem _
    rw [e]
    generalize (D ++ [x])[i] = a at m ⊢
    rcases List.mem_append.mp m with q | q
    · rw [hD, List.mem_filter] at q
      have := lzBad_iff.mp (V.out.good _ q.1)
      omega
    · rw [List.mem_singleton] at q
      rw [q]; exact GX.out)
  have SAME : Hid (∀ f, InsA (ljs (D ++ [x])) f (D ++ [x]).length → srtZ (D ++ [x]) f = Y) := Lib.hid (fun f hf => by
    rw [HY.out]
    subst hD
    exact rest_same x V.out hf)
  obtain ⟨m, hm⟩ : ∃ m, m = D.length := ⟨_, rfl⟩
  rw [← hm] at o7 DL ⊢
  have HM := Lib.hid hm
  clear hD hm o6 b6 b7 BX6
  obtain ⟨z0, z1, z2⟩ := three_read BX7
  go_wp2_with (at_builtin; refine wpList_append_own _ rfl _ _ 33 rfl w5.heap.size 35 i0 (.agg #[.int .i64 0, .int .i64 0, .int .i64 0]) 3 24 Try.underlying33 hi0 hz0 hz1 hz2 rfl (by decide) _ _ _ rfl (World.ownsRow.alloc o7 _) ⟨w7.heap.size, 0, none⟩ 1 1 [.int .i64 x.who, .int .i64 x.till, .int .i64 x.pin] rfl rfl (new_threeL _ _ _ _ _) (three_oneL _ _ _) (by unfold maxLen; omega) (by omega) (by simp; omega) ?_)
  intro v8 w8 own8 grow8 _
  have b58 : Below w5.heap.size w5 w8 := (b57.alloc hsz7 _).grown grow8 (by simp; omega) (fun k hk => (o7.lt k hk).1)
  have o8 : w8.ownsRow w5.heap.size 35 3 v8 (m + 1) (lcs (D ++ [x])) := by rw [lcs_append]; exact own8
  obtain ⟨g, cg, rfl⟩ : ∃ g cg, v8 = .slice (some ⟨g, 0, none⟩) (m + 1) cg := by
    rcases o8.2 with ⟨_, h0⟩ | ⟨g, cap, cur, hv', _⟩
    · omega
    · exact ⟨g, cap, hv'⟩
  have ML : Hid (m + 1 = (D ++ [x]).length) := Lib.hid (by rw [List.length_append, ← HM.out]; rfl)
  clear own8 grow8 z0 z1 z2 o7 BX7 b57
  go_wp2_with fail
  refine (lsort_any g (m + 1) cg w5.heap.size (D ++ [x]) _ (by rw [← ML.out]; omega) DG ML.out o8 b58.size).mono ?_
  rintro e w9 ⟨rfl, f, hf, o9, b9⟩
  have eq := SAME.out f (by rw [← ML.out]; exact hf)
  rw [eq] at o9
  have YL : m + 1 = Y.length := by rw [← eq, length_srtZ, ML.out]
  have b59 := b58.trans b9
  have iy9 := iy.below b59
  have i9 : Les w9 (some ⟨g, 0, none⟩) Y := Les.of_row (base := w5.heap.size) (c := cg) (by rw [← YL]; exact o9)
  have HYL := Lib.hid YL
  replace hb := below_trans hb b59
  clear eq hf o9 o8 b9 b58 b59 iy YL BX
  go_wp2_with fail
  refine (leSame A1 (some ⟨g, 0, none⟩) Y _ _ _ _ _ iy9 i9 rfl HYL.out).mono ?_
  rintro e w10 ⟨rfl, n10, hw10⟩
  replace hb := below_trans hb (below_of_drewN hw10)
  clear hw10
  go_wp2
  go_ret
  exact ⟨rfl, hb⟩

end Go.Proofs.Ytnpdcllfdoobeaa
