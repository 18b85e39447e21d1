
/-
  Walks: two lists of sent packets are equal; the document's own words of flows, counts and the order.
-/
import Derived.Test.YthjeokdabdjhfaaTurnsE
import Derived.Test.YthjeokdabdjhfaaTraceB
namespace Go.Proofs.Ythjeokdabdjhfaa
set_option linter.all false
open Go.RowKit Go.Shelf

set_option maxHeartbeats 800000 in
theorem sentSame (A B : Option Addr) (l : List Snd) (n m c d : Nat) (w : World) (h : Sns w A l) (h' : Sns w B l) (hn : n = l.length) (hm : m = l.length) :
    Calls Try.prog 13 #[.slice A n c, .slice B m d] w fun e w' => e = .returned (.bool true) ∧ ∃ n, w' = w.drewN n := by
  subst hn hm
  have hl := h.1
  go_enter Try.func13, Try.ntmps13
  go_wp2
  go_loopw [13] (fun i wr => ∃ k nd : Nat, k ≤ l.length ∧ i = .int .i64 k ∧ wr = w.drewN nd) (fun i _ => l.length - (intOf i).toNat)
  case atStart => exact ⟨0, 0, Nat.zero_le _, rfl, rfl⟩
  case round =>
    obtain ⟨k, nd, hk, rfl, rfl⟩ := hrel
    by_cases hlt : k < l.length
    · obtain ⟨b1, o1, s, hA, _, c0, c1, HS⟩ := h.get hlt
      obtain ⟨b2, o2, s', hB, _, d0, d1, HS'⟩ := h'.get hlt
      subst hA hB
      obtain rfl : s' = s := Option.some.inj (HS'.out.symm.trans HS.out)
      have i1 : (k : Int) < (l.length : Int) := by omega
      go_wp2
      go_quiet (fail)
      go_wp2
      go_roundw
      case rel => exact ⟨k + 1, nd + nq, by omega, by go_num, by simp [World.drewN, Nat.add_assoc]⟩
      case measure => simp [intOf]; omega
    · go_wp2
      go_ret
      exact ⟨rfl, nd, rfl⟩

set_option maxHeartbeats 1600000 in
theorem count_any (q : Int) (A : Option Addr) (z : List Int) (c m : Nat) (M : Int) (w : World) (ok : FlwOk ⟨q, z⟩) (h : Ints w A z) (hm : m ≤ 1000000) (hM : M = (m : Int)) :
    Calls Try.prog 15 #[.agg #[.int .i64 q, .slice A z.length c], .int .i64 M] w fun e w' => e = .returned (.int .i64 (Flw.cn ⟨q, z⟩ m : Nat)) ∧ Below w.heap.size w w' := by
  subst hM
  have q0 : 1 ≤ q := ok.q0
  have q1 : q ≤ 1000 := ok.q1
  have sz : Sz z := ok.sz
  have hle := sz.le
  obtain ⟨P, hP⟩ : ∃ P, P = (m : Int) * q := ⟨_, rfl⟩
  have P0 : 0 ≤ P := by rw [hP]; exact Int.mul_nonneg (by omega) (by omega)
  have P1 : P ≤ 1000000000 := by rw [hP]; have := Int.mul_le_mul (show (m : Int) ≤ 1000000 by omega) q1 (by omega) (by omega); omega
  have sP : IntKind.i64.wrap ((m : Int) * q) = P := by rw [← hP]; exact IntWalk.i64_in _ ⟨by omega, by omega⟩
  have HC : Hid (∀ k, k ≤ z.length → sumV z k ≤ P → (k < z.length → P < sumV z (k + 1)) → Flw.cn ⟨q, z⟩ m = k) := Lib.hid (fun k h1 h2 h3 => cn_is ok h1 (by show sumV z k ≤ (m : Int) * q; rw [← hP]; exact h2) (fun c => by show (m : Int) * q < sumV z (k + 1); rw [← hP]; exact h3 c))
  obtain ⟨W, hW⟩ : ∃ W, W = w.alloc (.cells #[.int .i64 q, .slice A z.length c] 36) := ⟨_, rfl⟩
  have hWb : Below w.heap.size w W := by rw [hW]; exact (Below.refl _ _).alloc (Nat.le_refl _) _
  have hz := h.below hWb
  have t0 : W.cell? ⟨w.heap.size, 0, none⟩ = some (.int .i64 q) := by rw [hW]; exact (two_read (Blk.new _ _ _)).1
  have t1 : W.cell? ⟨w.heap.size, 1, none⟩ = some (.slice A z.length c) := by rw [hW]; exact (two_read (Blk.new _ _ _)).2
  have HW := Lib.hid hW
  clear hP hW
  go_enter Try.func15, Try.ntmps15
  go_wp2
  rw [← HW.out]
  go_loopw [5, 6] (fun s i wr => ∃ k nd : Nat, k ≤ z.length ∧ i = .int .i64 k ∧ s = .int .i64 (sumV z k) ∧ Hid (sumV z k ≤ P) ∧ wr = W.drewN nd) (fun _ i _ => z.length - (intOf i).toNat)
  case atStart => exact ⟨0, 0, Nat.zero_le _, rfl, rfl, Lib.hid P0, rfl⟩
  case round =>
    obtain ⟨k, nd, hk, rfl, rfl, HL, rfl⟩ := hrel
    obtain ⟨s, hs⟩ : ∃ s, s = sumV z k := ⟨_, rfl⟩
    have sb := sz.bd k hk
    rw [← hs] at sb
    obtain ⟨sa, sb⟩ := sb
    by_cases hlt : k < z.length
    · obtain ⟨b1, o1, y, e1, hc1, HY⟩ := hz.at_ hlt
      subst e1
      have hy := gt_of_get HY.out
      have y0 : 1 ≤ y := by rw [← hy]; exact sz.lo k hlt
      have y1 : y ≤ 1000 := by rw [← hy]; exact sz.hi k hlt
      have i1 : (k : Int) < (z.length : Int) := by omega
      have HN : Hid (sumV z (k + 1) = s + y) := Lib.hid (by rw [sumV, hy, hs])
      have HK : Hid (sumV z k = s) := Lib.hid hs.symm
      rw [← hs]
      clear hy hs
      by_cases hq : s + y ≤ P
      · have u1 : decide (s + y ≤ P) = true := decide_eq_true hq
        go_wp2
        go_quiet (fail)
        go_wp2
        go_roundw
        case rel => exact ⟨k + 1, nd + nq, by omega, by go_num, by rw [HN.out], Lib.hid (by rw [HN.out]; exact hq), by simp [World.drewN, Nat.add_assoc]⟩
        case measure => simp [intOf]; omega
      · have u1 : decide (s + y ≤ P) = false := decide_eq_false hq
        have HR : Hid (Flw.cn ⟨q, z⟩ m = k) := Lib.hid (HC.out k hk HL.out (fun _ => by rw [HN.out]; omega))
        go_wp2
        go_quiet (fail)
        go_wp2
        go_ret
        exact ⟨by rw [HR.out]; rfl, below_trans hWb (below_of_drewN (n := nd + nq) (by simp [World.drewN, Nat.add_assoc]))⟩
    · obtain rfl : k = z.length := by omega
      have HR : Hid (Flw.cn ⟨q, z⟩ m = z.length) := Lib.hid (HC.out z.length hk HL.out (fun c => absurd c hlt))
      rw [← hs]
      clear hs
      go_wp2
      go_quiet (fail)
      go_wp2
      go_ret
      exact ⟨by rw [HR.out]; rfl, below_trans hWb (below_of_drewN (n := nd + nq) (by simp [World.drewN, Nat.add_assoc]))⟩

def outS (x : Int) : Bool := decide (x < 1 ∨ 1000 < x)
theorem szGo_any (l : List Int) : szGo l = if l.any outS = true then 1 else 0 := by
  induction l with
  | nil => rfl
  | cons x l ih =>
    rw [szGo, List.any_cons]
    by_cases h : x < 1 ∨ 1000 < x
    · rw [if_pos h, show outS x = true from decide_eq_true h]; simp
    · rw [if_neg h, show outS x = false from decide_eq_false h, ih]; simp
theorem outS_pr : Pr 27 outS := by
  refine ⟨enters_of Try.func27 (by kernel_rfl) rfl, fun x w => ?_⟩
  have HO : Hid ((!(decide (1 ≤ x) && decide (x ≤ 1000))) = outS x) := Lib.hid (by
    unfold outS
    by_cases h1 : 1 ≤ x <;> by_cases h2 : x ≤ 1000 <;> simp [h1, h2] <;> omega)
  go_enter Try.func27, Try.ntmps27
  go_wp2_with fail
  refine (refWithin_any x 1 1000 _).mono ?_
  rintro e w' ⟨rfl, rfl⟩
  go_wp2
  go_ret
  exact ⟨ret_bool (by rw [← HO.out, Bool.not_and]), rfl⟩

set_option maxHeartbeats 1600000 in
theorem refFlows_any (A : Option Addr) (l : List Fw) (c : Nat) (w : World) (h : Fls w A l) :
    Calls Try.prog 11 #[.slice A l.length c] w fun e w' => e = .returned (.int .i64 (flE (fls l))) ∧ Below w.heap.size w w' := by
  by_cases h8 : 8 < l.length
  · have HE : Hid (flE (fls l) = 2) := Lib.hid (if_pos (by rw [length_fls]; exact h8))
    have hz : (8 : Int) < (l.length : Int) := by omega
    go_enter Try.func11, Try.ntmps11
    go_wp2
    go_ret
    exact ⟨ret_int HE.out.symm, Below.refl _ _⟩
  have HE : Hid (flE (fls l) = flGo (fls l)) := Lib.hid (if_neg (by rw [length_fls]; exact h8))
  have hz : ¬ (8 : Int) < (l.length : Int) := by omega
  go_enter Try.func11, Try.ntmps11
  go_wp2
  go_loopw [10] (fun i wr => ∃ k : Nat, k ≤ l.length ∧ i = .int .i64 k ∧ Hid (flE (fls l) = flGo ((fls l).drop k)) ∧ Below w.heap.size w wr) (fun i _ => l.length - (intOf i).toNat)
  case atStart => exact ⟨0, Nat.zero_le _, rfl, Lib.hid (by rw [HE.out]; rfl), Below.refl _ _⟩
  case round =>
    clear HE
    obtain ⟨k, hk, rfl, HE, hbel⟩ := hrel
    by_cases hlt : k < l.length
    · obtain ⟨bb, off, ⟨q, a, cc, z⟩, hA, hbl, c0, c1, iz, kz, HP⟩ := (h.below hbel).get hlt
      subst hA
      simp only at c0 c1 iz kz
      have i1 : (k : Int) < (l.length : Int) := by omega
      have hd : Hid ((fls l).drop k = ⟨q, z⟩ :: (fls l).drop (k + 1)) := Lib.hid (fl_drop (by simp [fls, HP.out]; rfl))
      have zi := iz.1
      by_cases hq : q < 1 ∨ 1000 < q
      · have HN : Hid (flE (fls l) = 1) := Lib.hid (by
          have e : chkF ⟨q, z⟩ = 1 := if_pos hq
          rw [HE.out, hd.out, flGo, if_neg (by rw [e]; decide), e])
        have q1 := lim_yes hq
        clear hq
        go_wp2_with fail
        refine (wit_any q 1 1000 false _ q1).mono ?_
        rintro e w' ⟨rfl, rfl⟩
        go_wp2
        go_ret
        exact ⟨ret_int HN.out.symm, hbel.alloc hbel.size _⟩
      have q1 : Hid (decide (q < 1 ∨ 1000 < q) = false) := Lib.hid (decide_eq_false hq)
      by_cases hl : 60 < z.length
      · have HN : Hid (flE (fls l) = 2) := Lib.hid (by
          have e : chkF ⟨q, z⟩ = 2 := by rw [chkF, if_neg (by exact hq), if_pos (by exact hl)]
          rw [HE.out, hd.out, flGo, if_neg (by rw [e]; decide), e])
        have j1 : (60 : Int) < (z.length : Int) := by omega
        clear hq hl
        go_wp2_with fail
        refine (wit_any q 1 1000 true _ q1).mono ?_
        rintro e w' ⟨rfl, rfl⟩
        go_wp2
        go_ret
        exact ⟨ret_int HN.out.symm, hbel.alloc hbel.size _⟩
      have HC : Hid (chkF ⟨q, z⟩ = if z.any outS = true then 1 else 0) := Lib.hid (by rw [chkF, if_neg (by exact hq), if_neg (by exact hl)]; exact szGo_any z)
      have j1 : ¬ (60 : Int) < (z.length : Int) := by omega
      obtain ⟨W, hW⟩ : ∃ W, W = wr.alloc (.cells #[.int .i64 q, .slice a z.length cc] 36) := ⟨_, rfl⟩
      have izW : Ints W a z := by rw [hW]; exact iz.alloc _
      have t0 : W.cell? ⟨wr.heap.size, 0, none⟩ = some (.int .i64 q) := by rw [hW]; exact (two_read (Blk.new _ _ _)).1
      have t1 : W.cell? ⟨wr.heap.size, 1, none⟩ = some (.slice a z.length cc) := by rw [hW]; exact (two_read (Blk.new _ _ _)).2
      have hbW : Below w.heap.size w W := by rw [hW]; exact hbel.alloc hbel.size _
      have HW := Lib.hid hW
      clear hq hl hW
      go_wp2_with fail
      rw [← HW.out]
      refine (wit_any q 1 1000 true _ q1).mono ?_
      rintro e w' ⟨rfl, rfl⟩
      go_wp2_with fail
      refine (containsFunc_any _ outS outS_pr a z cc _ izW).mono ?_
      rintro e w' ⟨rfl, rfl⟩
      cases qa : z.any outS
      · have HN : Hid (flE (fls l) = flGo ((fls l).drop (k + 1))) := Lib.hid (by rw [HE.out, hd.out, flGo, if_pos (by rw [HC.out, qa]; rfl)])
        clear qa
        go_wp2
        go_roundw
        case rel => exact ⟨k + 1, by omega, by go_num, HN, hbW⟩
        case measure => simp [intOf]; omega
      · have HN : Hid (flE (fls l) = 1) := Lib.hid (by
          have e : chkF ⟨q, z⟩ = 1 := by rw [HC.out, qa]; rfl
          rw [HE.out, hd.out, flGo, if_neg (by rw [e]; decide), e])
        clear qa
        go_wp2
        go_ret
        exact ⟨ret_int HN.out.symm, hbW⟩
    · have HN : Hid (flE (fls l) = 0) := Lib.hid (by rw [HE.out, List.drop_of_length_le (by rw [length_fls]; omega)]; rfl)
      go_wp2
      go_ret
      exact ⟨ret_int HN.out.symm, hbel⟩

end Go.Proofs.Ythjeokdabdjhfaa
