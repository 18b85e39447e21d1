
/-
  Walks of package piece: Next, Got, New, Put; what it owes, shown.
-/
import Derived.Test.YtjlkcjaofglpmaaPieX
import Derived.Laws.OwnMore
namespace Go.Proofs.Ytjlkcjaofglpmaa
set_option linter.all false
open Go.RowKit Go.Shelf Go.Lib

theorem hv_getY {z : List Bool} {k : Nat} (hk : k < z.length) (h : hv z k = true) : z[k]? = some true := by
  unfold hv at h
  rw [List.getElem?_eq_getElem hk]
  simp [List.getD, hk] at h
  rw [h]
theorem first_noY {z : List Bool} (h : ¬ ∀ k, k < z.length → hv z k = true) : ∃ i, i < z.length ∧ hv z i = false ∧ ∀ k, k < i → hv z k = true := by
  have key : ∀ n, n ≤ z.length → (∀ k, k < n → hv z k = true) ∨ ∃ i, i < n ∧ hv z i = false ∧ ∀ k, k < i → hv z k = true := by
    intro n
    induction n with
    | zero => intro _; exact .inl (fun k hk => by omega)
    | succ n ih =>
      intro hn
      rcases ih (by omega) with a | ⟨i, hi, b⟩
      · cases c : hv z n with
        | true => exact .inl (fun k hk => by
            rcases Nat.lt_or_ge k n with d | d
            · exact a k d
            · obtain rfl : k = n := by omega
              exact c)
        | false => exact .inr ⟨n, by omega, c, a⟩
      · exact .inr ⟨i, by omega, b⟩
  rcases key z.length (Nat.le_refl _) with a | a
  · exact absurd a h
  · exact a
set_option maxHeartbeats 800000 in
theorem pnext_any (s u : Int) (A : Option Addr) (c : Nat) (z : List Bool) (w : World) (hz : Bls w A z) (h0 : stE s u z.length = 0) : Calls Try.prog 28 #[.agg #[.int .i64 s, .int .i64 u, .slice A z.length c]] w fun e w' => ((∃ i : Nat, i < z.length ∧ hv z i = false ∧ (∀ k, k < i → hv z k = true) ∧ e = .returned (.tuple #[.int .i64 i, .int .i64 0])) ∨ ((∀ k, k < z.length → hv z k = true) ∧ e = .returned (.tuple #[.int .i64 0, .int .i64 5]))) ∧ Below w.heap.size w w' := by
  have H0 := Lib.hid h0
  by_cases all : ∀ k, k < z.length → hv z k = true
  · have HA := Lib.hid all
    clear all h0
    obtain ⟨W, hW⟩ : ∃ W, W = w.alloc (.cells #[.int .i64 s, .int .i64 u, .slice A z.length c] 44) := ⟨_, rfl⟩
    have K0 : Blk W w.heap.size 44 #[.int .i64 s, .int .i64 u, .slice A z.length c] := by rw [hW]; exact Blk.new _ _ _
    have hb : Below w.heap.size w W := by rw [hW]; exact alloc_below _ _
    have hzW : Bls W A z := hz.below hb
    obtain ⟨c0, c1, c2⟩ := three_read K0
    have lt0 := K0.lt
    have HW := Lib.hid hW
    clear hW
    go_enter Try.func28, Try.ntmps28
    go_wp2_with fail
    rw [← HW.out]
    refine (pcheck_any s u A c z _ hzW).mono ?_
    rintro e w1 ⟨rfl, b1⟩
    rw [H0.out]
    clear c0 c1 c2 lt0
    replace K0 := K0.below b1
    replace hzW := hzW.below b1
    replace hb := below_trans hb b1
    obtain ⟨c0, c1, c2⟩ := three_read K0
    have lt0 := K0.lt
    clear b1
    go_wp2_with fail
    refine (bindex_all A z c _ hzW (fun k hk => hv_getY hk (HA.out k hk))).mono ?_
    rintro e w2 ⟨rfl, rfl⟩
    go_wp2
    go_ret2
    exact ⟨.inr ⟨HA.out, rfl⟩, hb⟩
  · obtain ⟨i, hi, no, before⟩ := first_noY all
    have HF := Lib.hid no
    have HB := Lib.hid before
    have hzl := hz.1
    have i0 : ¬ (i : Int) < 0 := by omega
    clear all h0 no before
    obtain ⟨W, hW⟩ : ∃ W, W = w.alloc (.cells #[.int .i64 s, .int .i64 u, .slice A z.length c] 44) := ⟨_, rfl⟩
    have K0 : Blk W w.heap.size 44 #[.int .i64 s, .int .i64 u, .slice A z.length c] := by rw [hW]; exact Blk.new _ _ _
    have hb : Below w.heap.size w W := by rw [hW]; exact alloc_below _ _
    have hzW : Bls W A z := hz.below hb
    obtain ⟨c0, c1, c2⟩ := three_read K0
    have lt0 := K0.lt
    have HW := Lib.hid hW
    clear hW
    go_enter Try.func28, Try.ntmps28
    go_wp2_with fail
    rw [← HW.out]
    refine (pcheck_any s u A c z _ hzW).mono ?_
    rintro e w1 ⟨rfl, b1⟩
    rw [H0.out]
    clear c0 c1 c2 lt0
    replace K0 := K0.below b1
    replace hzW := hzW.below b1
    replace hb := below_trans hb b1
    obtain ⟨c0, c1, c2⟩ := three_read K0
    have lt0 := K0.lt
    clear b1
    go_wp2_with fail
    refine (bindex_at A z _ c i _ hzW rfl hi HF.out HB.out).mono ?_
    rintro e w2 ⟨rfl, rfl⟩
    go_wp2
    go_ret2
    exact ⟨.inl ⟨i, hi, HF.out, HB.out, rfl⟩, hb⟩
set_option maxHeartbeats 800000 in
theorem pnext_no (s u : Int) (A : Option Addr) (c : Nat) (z : List Bool) (w : World) (hz : Bls w A z) (h0 : ¬ stE s u z.length = 0) : Calls Try.prog 28 #[.agg #[.int .i64 s, .int .i64 u, .slice A z.length c]] w fun e w' => e = .returned (.tuple #[.int .i64 0, .int .i64 (stE s u z.length)]) ∧ Below w.heap.size w w' := by
  have e1 : (stE s u z.length != 0) = true := by simp [h0]
  clear h0
  obtain ⟨W, hW⟩ : ∃ W, W = w.alloc (.cells #[.int .i64 s, .int .i64 u, .slice A z.length c] 44) := ⟨_, rfl⟩
  have K0 : Blk W w.heap.size 44 #[.int .i64 s, .int .i64 u, .slice A z.length c] := by rw [hW]; exact Blk.new _ _ _
  have hb : Below w.heap.size w W := by rw [hW]; exact alloc_below _ _
  have hzW : Bls W A z := hz.below hb
  obtain ⟨c0, c1, c2⟩ := three_read K0
  have lt0 := K0.lt
  have HW := Lib.hid hW
  clear hW
  go_enter Try.func28, Try.ntmps28
  go_wp2_with fail
  rw [← HW.out]
  refine (pcheck_any s u A c z _ hzW).mono ?_
  rintro e w1 ⟨rfl, b1⟩
  clear c0 c1 c2 lt0
  replace K0 := K0.below b1
  replace hzW := hzW.below b1
  replace hb := below_trans hb b1
  obtain ⟨c0, c1, c2⟩ := three_read K0
  have lt0 := K0.lt
  clear b1
  go_wp2
  go_ret2
  exact ⟨rfl, hb⟩
set_option maxHeartbeats 800000 in
theorem pgot_no (s u : Int) (A : Option Addr) (c : Nat) (z : List Bool) (w : World) (hz : Bls w A z) (h0 : ¬ stE s u z.length = 0) : Calls Try.prog 27 #[.agg #[.int .i64 s, .int .i64 u, .slice A z.length c]] w fun e w' => e = .returned (.tuple #[.int .i64 0, .int .i64 (stE s u z.length)]) ∧ Below w.heap.size w w' := by
  have e1 : (stE s u z.length != 0) = true := by simp [h0]
  clear h0
  obtain ⟨W, hW⟩ : ∃ W, W = w.alloc (.cells #[.int .i64 s, .int .i64 u, .slice A z.length c] 44) := ⟨_, rfl⟩
  have K0 : Blk W w.heap.size 44 #[.int .i64 s, .int .i64 u, .slice A z.length c] := by rw [hW]; exact Blk.new _ _ _
  have hb : Below w.heap.size w W := by rw [hW]; exact alloc_below _ _
  have hzW : Bls W A z := hz.below hb
  obtain ⟨c0, c1, c2⟩ := three_read K0
  have lt0 := K0.lt
  have HW := Lib.hid hW
  clear hW
  go_enter Try.func27, Try.ntmps27
  go_wp2_with fail
  rw [← HW.out]
  refine (pcheck_any s u A c z _ hzW).mono ?_
  rintro e w1 ⟨rfl, b1⟩
  clear c0 c1 c2 lt0
  replace K0 := K0.below b1
  replace hzW := hzW.below b1
  replace hb := below_trans hb b1
  obtain ⟨c0, c1, c2⟩ := three_read K0
  have lt0 := K0.lt
  clear b1
  go_wp2
  go_ret2
  exact ⟨rfl, hb⟩
set_option maxHeartbeats 1600000 in
theorem pgot_any (s u : Int) (A : Option Addr) (c : Nat) (z : List Bool) (w : World) (hz : Bls w A z) (h0 : stE s u z.length = 0) : Calls Try.prog 27 #[.agg #[.int .i64 s, .int .i64 u, .slice A z.length c]] w fun e w' => e = .returned (.tuple #[.int .i64 (gotS s u (hv z) z.length), .int .i64 0]) ∧ Below w.heap.size w w' := by
  obtain ⟨v, hNp⟩ := st_iff.mp h0
  have H0 := Lib.hid h0
  have HE := Lib.hid (wh_iff.mpr v)
  have n200 := pcn_max v
  have v1 := v.s0
  have v2 := v.s1
  have v3 := v.u0
  have HG := Lib.hid (fun (n : Nat) (hn : n ≤ z.length) => got_bd v1 v3 (h := hv z) (n := n) (by omega))
  have HP := Lib.hid (fun (n : Nat) (hn : n < z.length) => pc_bd v1 v3 (i := n) (by omega))
  have v4 := v.u1
  rw [← hNp] at n200
  have HN := Lib.hid hNp
  clear hNp h0 v
  obtain ⟨W, hW⟩ : ∃ W, W = w.alloc (.cells #[.int .i64 s, .int .i64 u, .slice A z.length c] 44) := ⟨_, rfl⟩
  have K0 : Blk W w.heap.size 44 #[.int .i64 s, .int .i64 u, .slice A z.length c] := by rw [hW]; exact Blk.new _ _ _
  have hb : Below w.heap.size w W := by rw [hW]; exact alloc_below _ _
  have hzW : Bls W A z := hz.below hb
  obtain ⟨c0, c1, c2⟩ := three_read K0
  have lt0 := K0.lt
  have HW := Lib.hid hW
  clear hW
  go_enter Try.func27, Try.ntmps27
  go_wp2_with fail
  rw [← HW.out]
  refine (pcheck_any s u A c z _ hzW).mono ?_
  rintro e w1 ⟨rfl, b1⟩
  rw [H0.out]
  clear c0 c1 c2 lt0
  replace K0 := K0.below b1
  replace hzW := hzW.below b1
  replace hb := below_trans hb b1
  obtain ⟨c0, c1, c2⟩ := three_read K0
  have lt0 := K0.lt
  clear b1
  go_wp2_with fail
  refine (psizes_any s u _ HE.out).mono ?_
  rw [← HN.out]
  rintro e w2 ⟨B, d, rfl, o, b2⟩
  clear c0 c1 c2 lt0
  replace K0 := K0.below b2
  replace hzW := hzW.below b2
  replace hb := below_trans hb b2
  obtain ⟨c0, c1, c2⟩ := three_read K0
  have lt0 := K0.lt
  clear b2
  have hx : Ints w2 B (tab z.length (pcV s u)) := Ints.of_own (by rw [length_tab]; exact o)
  clear o
  go_wp2
  go_loopw [7, 25] (fun a x wr => ∃ k : Nat, k ≤ z.length ∧ x = .int .i64 k ∧ a = .int .i64 (gotS s u (hv z) k) ∧ wr = w2) (fun _ x _ => z.length - (intOf x).toNat)
  case atStart => exact ⟨0, Nat.zero_le _, rfl, rfl, rfl⟩
  case round =>
    obtain ⟨k, hk, rfl, rfl, rfl⟩ := hrel
    obtain ⟨m, hm⟩ : ∃ m, m = gotS s u (hv z) k := ⟨_, rfl⟩
    have mb := HG.out k hk
    rw [← hm] at mb ⊢
    obtain ⟨m0, m1⟩ := mb
    by_cases hlt : k < z.length
    · obtain ⟨b1, o1, x, rfl, hc1, HX⟩ := hx.at_ (k := k) (by rw [length_tab]; exact hlt)
      obtain ⟨b2, o2, y, rfl, hc2, HY⟩ := hzW.get hlt
      have ex : x = pcV s u k := by have := HX.out; rw [get_tab _ hlt] at this; exact (Option.some.inj this).symm
      have xb := HP.out k hlt
      rw [← ex] at xb
      obtain ⟨x0, x1, _⟩ := xb
      have ey : hv z k = y := by unfold hv; simp [List.getD, HY.out]
      have i1 : (k : Int) < (z.length : Int) := by omega
      have s1 : IntKind.i64.wrap (m + x) = m + x := IntWalk.i64_in _ ⟨by omega, by omega⟩
      cases y
      · have HQ : Hid (gotS s u (hv z) (k + 1) = m) := Lib.hid (by rw [gotS, ← hm, ey]; simp)
        clear ex ey hm
        go_wp2
        go_roundw
        case rel => exact ⟨k + 1, by omega, by go_num, by rw [HQ.out], trivial⟩
        case measure => simp [intOf]; omega
      · have HQ : Hid (gotS s u (hv z) (k + 1) = m + x) := Lib.hid (by rw [gotS, ← hm, ey, ex]; simp)
        clear ex ey hm
        go_wp2
        go_roundw
        case rel => exact ⟨k + 1, by omega, by go_num, by rw [HQ.out], trivial⟩
        case measure => simp [intOf]; omega
    · obtain rfl : k = z.length := by omega
      have i1 : ¬ (z.length : Int) < (z.length : Int) := by omega
      have HM := Lib.hid hm
      clear hm
      go_wp2
      go_ret2
      exact ⟨by rw [HM.out]; rfl, hb⟩

end Go.Proofs.Ytjlkcjaofglpmaa
