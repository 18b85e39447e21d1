/-
  The walk of the law CurveOrder.
-/
import Derived.Test.YthigjcbdlijfbaaKeepA
namespace Go.Proofs.Ythigjcbdlijfbaa
open Go.RowKit

theorem leB_refl : ∀ l : List Int, leB l l = true
  | [] => rfl
  | a :: l => by simp [leB, leB_refl l]

theorem leB_antisymm : ∀ {l m : List Int}, l.length = m.length → ((leB l m && leB m l) = true ↔ l = m)
  | [], [], _ => by simp [leB]
  | a :: l, b :: m, h => by
    have := leB_antisymm (l := l) (m := m) (by simpa using h)
    simp only [leB, Bool.and_eq_true, decide_eq_true_eq, List.cons.injEq] at this ⊢
    constructor
    · rintro ⟨⟨h1, h2⟩, h3, h4⟩; exact ⟨by omega, this.1 ⟨h2, h4⟩⟩
    · rintro ⟨rfl, e⟩; exact ⟨⟨by omega, (this.2 e).1⟩, by omega, (this.2 e).2⟩

theorem leB_trans : ∀ {l m k : List Int}, l.length = m.length → m.length = k.length → leB l m = true → leB m k = true → leB l k = true
  | [], [], _, _, _, _, _ => by simp [leB]
  | a :: l, b :: m, c :: k, h, h', h1, h2 => by
    simp only [leB, Bool.and_eq_true, decide_eq_true_eq] at h1 h2 ⊢
    exact ⟨by omega, leB_trans (by simpa using h) (by simpa using h') h1.2 h2.2⟩

theorem leK_of {l m : List Int} (h : okB l m = true) : leK l m = leB l m := by unfold leK; unfold okB at h; rw [h]; rfl

set_option maxHeartbeats 1600000 in
theorem walk_CurveOrder (a0 : Option Addr) (c0 : Nat) (l0 : List Int) (a1 : Option Addr) (c1 : Nat) (l1 : List Int) (a2 : Option Addr) (c2 : Nat) (l2 : List Int) (w : World)
    (h0 : Ints w a0 l0) (_k0 : l0.length ≤ c0) (h1 : Ints w a1 l1) (_k1 : l1.length ≤ c1) (h2 : Ints w a2 l2) (_k2 : l2.length ≤ c2) :
    Calls Try.prog 8 #[.slice a0 l0.length c0, .slice a1 l1.length c1, .slice a2 l2.length c2] w fun e w' => e = .returned (.bool true) ∧ Below w.heap.size w w' := by
  have hb : Below w.heap.size w w := Below.refl _ _
  have X1 : Hid (leK [0, 1] [0, 2] = true) := Lib.hid (by decide)
  have X2 : Hid (leK [0, 2] [0, 1] = false) := Lib.hid (by decide)
  cases t1 : okB l0 l1
  · have T1 := Lib.hid t1
    clear t1
    go_enter Try.func8, Try.ntmps8
    go_wp2_with fail
    refine (kle_at _ _ [0, 1] [0, 2] _ _ _ _ _ (by exact Ints.litA _ _ _ _ _ rfl (by decide)) (by exact Ints.litB _ _ _ _ _ rfl (by decide)) rfl rfl).mono ?_
    rintro e w1 ⟨rfl, nw1, hww1⟩
    have bw1 := below_of_drewN hww1
    clear hww1
    replace bw1 := below_of2 bw1
    replace h0 := h0.below bw1
    replace h1 := h1.below bw1
    replace h2 := h2.below bw1
    replace hb := below_trans hb bw1
    clear bw1
    rw [X1.out]
    go_wp2_with fail
    refine (kle_at _ _ [0, 2] [0, 1] _ _ _ _ _ (by exact Ints.litA _ _ _ _ _ rfl (by decide)) (by exact Ints.litB _ _ _ _ _ rfl (by decide)) rfl rfl).mono ?_
    rintro e w2 ⟨rfl, nw2, hww2⟩
    have bw2 := below_of_drewN hww2
    clear hww2
    replace bw2 := below_of2 bw2
    replace h0 := h0.below bw2
    replace h1 := h1.below bw2
    replace h2 := h2.below bw2
    replace hb := below_trans hb bw2
    clear bw2
    rw [X2.out]
    go_wp2_with fail
    refine (three_any a0 a1 a2 l0 l1 l2 c0 c1 c2 _ h0 h1 h2).mono ?_
    rintro e w' ⟨rfl, rfl⟩
    rw [T1.out]
    go_wp2
    go_ret
    exact ⟨rfl, hb⟩
  cases t2 : okB l1 l2
  · have T1 := Lib.hid t1
    have T2 := Lib.hid t2
    clear t1 t2
    go_enter Try.func8, Try.ntmps8
    go_wp2_with fail
    refine (kle_at _ _ [0, 1] [0, 2] _ _ _ _ _ (by exact Ints.litA _ _ _ _ _ rfl (by decide)) (by exact Ints.litB _ _ _ _ _ rfl (by decide)) rfl rfl).mono ?_
    rintro e w1 ⟨rfl, nw1, hww1⟩
    have bw1 := below_of_drewN hww1
    clear hww1
    replace bw1 := below_of2 bw1
    replace h0 := h0.below bw1
    replace h1 := h1.below bw1
    replace h2 := h2.below bw1
    replace hb := below_trans hb bw1
    clear bw1
    rw [X1.out]
    go_wp2_with fail
    refine (kle_at _ _ [0, 2] [0, 1] _ _ _ _ _ (by exact Ints.litA _ _ _ _ _ rfl (by decide)) (by exact Ints.litB _ _ _ _ _ rfl (by decide)) rfl rfl).mono ?_
    rintro e w2 ⟨rfl, nw2, hww2⟩
    have bw2 := below_of_drewN hww2
    clear hww2
    replace bw2 := below_of2 bw2
    replace h0 := h0.below bw2
    replace h1 := h1.below bw2
    replace h2 := h2.below bw2
    replace hb := below_trans hb bw2
    clear bw2
    rw [X2.out]
    go_wp2_with fail
    refine (three_any a0 a1 a2 l0 l1 l2 c0 c1 c2 _ h0 h1 h2).mono ?_
    rintro e w' ⟨rfl, rfl⟩
    rw [T1.out, T2.out]
    go_wp2
    go_ret
    exact ⟨rfl, hb⟩
  have o1 := okB_iff.1 t1
  have o2 := okB_iff.1 t2
  have R1 : Hid (leK l0 l0 = true) := Lib.hid (by rw [leK_of (okB_iff.2 ⟨o1.1, o1.1, rfl⟩), leB_refl])
  have q01 := leK_of t1
  have q10 := leK_of (okB_iff.2 ⟨o1.2.1, o1.1, o1.2.2.symm⟩)
  have q12 := leK_of t2
  have q02 := leK_of (okB_iff.2 ⟨o1.1, o2.2.1, o1.2.2.trans o2.2.2⟩)
  have qe : eqB l0 l1 = (leK l0 l1 && leK l1 l0) := by
    have := leB_antisymm o1.2.2
    rw [q01, q10]
    cases e : (leB l0 l1 && leB l1 l0)
    · exact eqB_false (fun h => by rw [this.2 h] at e; cases e)
    · exact eqB_true (this.1 e)
  have qt : leK l0 l1 = true → leK l1 l2 = true → leK l0 l2 = true := by
    rw [q01, q12, q02]; exact leB_trans o1.2.2 o2.2.2
  have T1 := Lib.hid t1
  have T2 := Lib.hid t2
  clear q01 q10 q12 q02 o1 o2 t1 t2
  cases ea : leK l0 l1
  · have EA := Lib.hid ea
    have QE : Hid (eqB l0 l1 = false) := Lib.hid (by rw [qe, ea]; rfl)
    clear qe qt ea
    go_enter Try.func8, Try.ntmps8
    go_wp2_with fail
    refine (kle_at _ _ [0, 1] [0, 2] _ _ _ _ _ (by exact Ints.litA _ _ _ _ _ rfl (by decide)) (by exact Ints.litB _ _ _ _ _ rfl (by decide)) rfl rfl).mono ?_
    rintro e w1 ⟨rfl, nw1, hww1⟩
    have bw1 := below_of_drewN hww1
    clear hww1
    replace bw1 := below_of2 bw1
    replace h0 := h0.below bw1
    replace h1 := h1.below bw1
    replace h2 := h2.below bw1
    replace hb := below_trans hb bw1
    clear bw1
    rw [X1.out]
    go_wp2_with fail
    refine (kle_at _ _ [0, 2] [0, 1] _ _ _ _ _ (by exact Ints.litA _ _ _ _ _ rfl (by decide)) (by exact Ints.litB _ _ _ _ _ rfl (by decide)) rfl rfl).mono ?_
    rintro e w2 ⟨rfl, nw2, hww2⟩
    have bw2 := below_of_drewN hww2
    clear hww2
    replace bw2 := below_of2 bw2
    replace h0 := h0.below bw2
    replace h1 := h1.below bw2
    replace h2 := h2.below bw2
    replace hb := below_trans hb bw2
    clear bw2
    rw [X2.out]
    go_wp2_with fail
    refine (three_any a0 a1 a2 l0 l1 l2 c0 c1 c2 _ h0 h1 h2).mono ?_
    rintro e w' ⟨rfl, rfl⟩
    rw [T1.out, T2.out]
    go_wp2_with fail
    refine (kle_any a0 a0 l0 l0 c0 c0 _ h0 h0).mono ?_
    rintro e w3 ⟨rfl, nw3, hww3⟩
    have bw3 := below_of_drewN hww3
    clear hww3
    replace h0 := h0.below bw3
    replace h1 := h1.below bw3
    replace h2 := h2.below bw3
    replace hb := below_trans hb bw3
    clear bw3
    rw [R1.out]
    go_wp2_with fail
    refine (kle_any a0 a1 l0 l1 c0 c1 _ h0 h1).mono ?_
    rintro e w4 ⟨rfl, nw4, hww4⟩
    have bw4 := below_of_drewN hww4
    clear hww4
    replace h0 := h0.below bw4
    replace h1 := h1.below bw4
    replace h2 := h2.below bw4
    replace hb := below_trans hb bw4
    clear bw4
    rw [EA.out]
    go_wp2_with fail
    refine (equal_any a0 a1 l0 l1 c0 c1 _ h0 h1).mono ?_
    rintro e w5 ⟨rfl, nw5, hww5⟩
    have bw5 := below_of_drewN hww5
    clear hww5
    replace h0 := h0.below bw5
    replace h1 := h1.below bw5
    replace h2 := h2.below bw5
    replace hb := below_trans hb bw5
    clear bw5
    rw [QE.out]
    go_wp2_with fail
    refine (kle_any a0 a1 l0 l1 c0 c1 _ h0 h1).mono ?_
    rintro e w6 ⟨rfl, nw6, hww6⟩
    have bw6 := below_of_drewN hww6
    clear hww6
    replace h0 := h0.below bw6
    replace h1 := h1.below bw6
    replace h2 := h2.below bw6
    replace hb := below_trans hb bw6
    clear bw6
    rw [EA.out]
    go_wp2
    go_ret
    exact ⟨rfl, hb⟩
  cases eb : leK l1 l0
  all_goals cases ec : leK l1 l2
  · have EA := Lib.hid ea
    have EB := Lib.hid eb
    have EC := Lib.hid ec
    have QE : Hid (eqB l0 l1 = false) := Lib.hid (by rw [qe, ea, eb]; rfl)
    skip
    clear qe qt ea eb ec
    go_enter Try.func8, Try.ntmps8
    go_wp2_with fail
    refine (kle_at _ _ [0, 1] [0, 2] _ _ _ _ _ (by exact Ints.litA _ _ _ _ _ rfl (by decide)) (by exact Ints.litB _ _ _ _ _ rfl (by decide)) rfl rfl).mono ?_
    rintro e w1 ⟨rfl, nw1, hww1⟩
    have bw1 := below_of_drewN hww1
    clear hww1
    replace bw1 := below_of2 bw1
    replace h0 := h0.below bw1
    replace h1 := h1.below bw1
    replace h2 := h2.below bw1
    replace hb := below_trans hb bw1
    clear bw1
    rw [X1.out]
    go_wp2_with fail
    refine (kle_at _ _ [0, 2] [0, 1] _ _ _ _ _ (by exact Ints.litA _ _ _ _ _ rfl (by decide)) (by exact Ints.litB _ _ _ _ _ rfl (by decide)) rfl rfl).mono ?_
    rintro e w2 ⟨rfl, nw2, hww2⟩
    have bw2 := below_of_drewN hww2
    clear hww2
    replace bw2 := below_of2 bw2
    replace h0 := h0.below bw2
    replace h1 := h1.below bw2
    replace h2 := h2.below bw2
    replace hb := below_trans hb bw2
    clear bw2
    rw [X2.out]
    go_wp2_with fail
    refine (three_any a0 a1 a2 l0 l1 l2 c0 c1 c2 _ h0 h1 h2).mono ?_
    rintro e w' ⟨rfl, rfl⟩
    rw [T1.out, T2.out]
    go_wp2_with fail
    refine (kle_any a0 a0 l0 l0 c0 c0 _ h0 h0).mono ?_
    rintro e w3 ⟨rfl, nw3, hww3⟩
    have bw3 := below_of_drewN hww3
    clear hww3
    replace h0 := h0.below bw3
    replace h1 := h1.below bw3
    replace h2 := h2.below bw3
    replace hb := below_trans hb bw3
    clear bw3
    rw [R1.out]
    go_wp2_with fail
    refine (kle_any a0 a1 l0 l1 c0 c1 _ h0 h1).mono ?_
    rintro e w4 ⟨rfl, nw4, hww4⟩
    have bw4 := below_of_drewN hww4
    clear hww4
    replace h0 := h0.below bw4
    replace h1 := h1.below bw4
    replace h2 := h2.below bw4
    replace hb := below_trans hb bw4
    clear bw4
    rw [EA.out]
    go_wp2_with fail
    refine (kle_any a1 a0 l1 l0 c1 c0 _ h1 h0).mono ?_
    rintro e w5 ⟨rfl, nw5, hww5⟩
    have bw5 := below_of_drewN hww5
    clear hww5
    replace h0 := h0.below bw5
    replace h1 := h1.below bw5
    replace h2 := h2.below bw5
    replace hb := below_trans hb bw5
    clear bw5
    rw [EB.out]
    go_wp2_with fail
    refine (equal_any a0 a1 l0 l1 c0 c1 _ h0 h1).mono ?_
    rintro e w6 ⟨rfl, nw6, hww6⟩
    have bw6 := below_of_drewN hww6
    clear hww6
    replace h0 := h0.below bw6
    replace h1 := h1.below bw6
    replace h2 := h2.below bw6
    replace hb := below_trans hb bw6
    clear bw6
    rw [QE.out]
    go_wp2_with fail
    refine (kle_any a0 a1 l0 l1 c0 c1 _ h0 h1).mono ?_
    rintro e w7 ⟨rfl, nw7, hww7⟩
    have bw7 := below_of_drewN hww7
    clear hww7
    replace h0 := h0.below bw7
    replace h1 := h1.below bw7
    replace h2 := h2.below bw7
    replace hb := below_trans hb bw7
    clear bw7
    rw [EA.out]
    go_wp2_with fail
    refine (kle_any a1 a2 l1 l2 c1 c2 _ h1 h2).mono ?_
    rintro e w8 ⟨rfl, nw8, hww8⟩
    have bw8 := below_of_drewN hww8
    clear hww8
    replace h0 := h0.below bw8
    replace h1 := h1.below bw8
    replace h2 := h2.below bw8
    replace hb := below_trans hb bw8
    clear bw8
    rw [EC.out]
    skip
    go_wp2
    go_ret
    exact ⟨rfl, hb⟩
  · have EA := Lib.hid ea
    have EB := Lib.hid eb
    have EC := Lib.hid ec
    have QE : Hid (eqB l0 l1 = false) := Lib.hid (by rw [qe, ea, eb]; rfl)
    have QT : Hid (leK l0 l2 = true) := Lib.hid (qt ea ec)
    clear qe qt ea eb ec
    go_enter Try.func8, Try.ntmps8
    go_wp2_with fail
    refine (kle_at _ _ [0, 1] [0, 2] _ _ _ _ _ (by exact Ints.litA _ _ _ _ _ rfl (by decide)) (by exact Ints.litB _ _ _ _ _ rfl (by decide)) rfl rfl).mono ?_
    rintro e w1 ⟨rfl, nw1, hww1⟩
    have bw1 := below_of_drewN hww1
    clear hww1
    replace bw1 := below_of2 bw1
    replace h0 := h0.below bw1
    replace h1 := h1.below bw1
    replace h2 := h2.below bw1
    replace hb := below_trans hb bw1
    clear bw1
    rw [X1.out]
    go_wp2_with fail
    refine (kle_at _ _ [0, 2] [0, 1] _ _ _ _ _ (by exact Ints.litA _ _ _ _ _ rfl (by decide)) (by exact Ints.litB _ _ _ _ _ rfl (by decide)) rfl rfl).mono ?_
    rintro e w2 ⟨rfl, nw2, hww2⟩
    have bw2 := below_of_drewN hww2
    clear hww2
    replace bw2 := below_of2 bw2
    replace h0 := h0.below bw2
    replace h1 := h1.below bw2
    replace h2 := h2.below bw2
    replace hb := below_trans hb bw2
    clear bw2
    rw [X2.out]
    go_wp2_with fail
    refine (three_any a0 a1 a2 l0 l1 l2 c0 c1 c2 _ h0 h1 h2).mono ?_
    rintro e w' ⟨rfl, rfl⟩
    rw [T1.out, T2.out]
    go_wp2_with fail
    refine (kle_any a0 a0 l0 l0 c0 c0 _ h0 h0).mono ?_
    rintro e w3 ⟨rfl, nw3, hww3⟩
    have bw3 := below_of_drewN hww3
    clear hww3
    replace h0 := h0.below bw3
    replace h1 := h1.below bw3
    replace h2 := h2.below bw3
    replace hb := below_trans hb bw3
    clear bw3
    rw [R1.out]
    go_wp2_with fail
    refine (kle_any a0 a1 l0 l1 c0 c1 _ h0 h1).mono ?_
    rintro e w4 ⟨rfl, nw4, hww4⟩
    have bw4 := below_of_drewN hww4
    clear hww4
    replace h0 := h0.below bw4
    replace h1 := h1.below bw4
    replace h2 := h2.below bw4
    replace hb := below_trans hb bw4
    clear bw4
    rw [EA.out]
    go_wp2_with fail
    refine (kle_any a1 a0 l1 l0 c1 c0 _ h1 h0).mono ?_
    rintro e w5 ⟨rfl, nw5, hww5⟩
    have bw5 := below_of_drewN hww5
    clear hww5
    replace h0 := h0.below bw5
    replace h1 := h1.below bw5
    replace h2 := h2.below bw5
    replace hb := below_trans hb bw5
    clear bw5
    rw [EB.out]
    go_wp2_with fail
    refine (equal_any a0 a1 l0 l1 c0 c1 _ h0 h1).mono ?_
    rintro e w6 ⟨rfl, nw6, hww6⟩
    have bw6 := below_of_drewN hww6
    clear hww6
    replace h0 := h0.below bw6
    replace h1 := h1.below bw6
    replace h2 := h2.below bw6
    replace hb := below_trans hb bw6
    clear bw6
    rw [QE.out]
    go_wp2_with fail
    refine (kle_any a0 a1 l0 l1 c0 c1 _ h0 h1).mono ?_
    rintro e w7 ⟨rfl, nw7, hww7⟩
    have bw7 := below_of_drewN hww7
    clear hww7
    replace h0 := h0.below bw7
    replace h1 := h1.below bw7
    replace h2 := h2.below bw7
    replace hb := below_trans hb bw7
    clear bw7
    rw [EA.out]
    go_wp2_with fail
    refine (kle_any a1 a2 l1 l2 c1 c2 _ h1 h2).mono ?_
    rintro e w8 ⟨rfl, nw8, hww8⟩
    have bw8 := below_of_drewN hww8
    clear hww8
    replace h0 := h0.below bw8
    replace h1 := h1.below bw8
    replace h2 := h2.below bw8
    replace hb := below_trans hb bw8
    clear bw8
    rw [EC.out]
    go_wp2_with fail
    refine (kle_any a0 a2 l0 l2 c0 c2 _ h0 h2).mono ?_
    rintro e w9 ⟨rfl, nw9, hww9⟩
    have bw9 := below_of_drewN hww9
    clear hww9
    replace hb := below_trans hb bw9
    clear bw9
    rw [QT.out]
    go_wp2
    go_ret
    exact ⟨rfl, hb⟩
  · have EA := Lib.hid ea
    have EB := Lib.hid eb
    have EC := Lib.hid ec
    have QE : Hid (eqB l0 l1 = true) := Lib.hid (by rw [qe, ea, eb]; rfl)
    skip
    clear qe qt ea eb ec
    go_enter Try.func8, Try.ntmps8
    go_wp2_with fail
    refine (kle_at _ _ [0, 1] [0, 2] _ _ _ _ _ (by exact Ints.litA _ _ _ _ _ rfl (by decide)) (by exact Ints.litB _ _ _ _ _ rfl (by decide)) rfl rfl).mono ?_
    rintro e w1 ⟨rfl, nw1, hww1⟩
    have bw1 := below_of_drewN hww1
    clear hww1
    replace bw1 := below_of2 bw1
    replace h0 := h0.below bw1
    replace h1 := h1.below bw1
    replace h2 := h2.below bw1
    replace hb := below_trans hb bw1
    clear bw1
    rw [X1.out]
    go_wp2_with fail
    refine (kle_at _ _ [0, 2] [0, 1] _ _ _ _ _ (by exact Ints.litA _ _ _ _ _ rfl (by decide)) (by exact Ints.litB _ _ _ _ _ rfl (by decide)) rfl rfl).mono ?_
    rintro e w2 ⟨rfl, nw2, hww2⟩
    have bw2 := below_of_drewN hww2
    clear hww2
    replace bw2 := below_of2 bw2
    replace h0 := h0.below bw2
    replace h1 := h1.below bw2
    replace h2 := h2.below bw2
    replace hb := below_trans hb bw2
    clear bw2
    rw [X2.out]
    go_wp2_with fail
    refine (three_any a0 a1 a2 l0 l1 l2 c0 c1 c2 _ h0 h1 h2).mono ?_
    rintro e w' ⟨rfl, rfl⟩
    rw [T1.out, T2.out]
    go_wp2_with fail
    refine (kle_any a0 a0 l0 l0 c0 c0 _ h0 h0).mono ?_
    rintro e w3 ⟨rfl, nw3, hww3⟩
    have bw3 := below_of_drewN hww3
    clear hww3
    replace h0 := h0.below bw3
    replace h1 := h1.below bw3
    replace h2 := h2.below bw3
    replace hb := below_trans hb bw3
    clear bw3
    rw [R1.out]
    go_wp2_with fail
    refine (kle_any a0 a1 l0 l1 c0 c1 _ h0 h1).mono ?_
    rintro e w4 ⟨rfl, nw4, hww4⟩
    have bw4 := below_of_drewN hww4
    clear hww4
    replace h0 := h0.below bw4
    replace h1 := h1.below bw4
    replace h2 := h2.below bw4
    replace hb := below_trans hb bw4
    clear bw4
    rw [EA.out]
    go_wp2_with fail
    refine (kle_any a1 a0 l1 l0 c1 c0 _ h1 h0).mono ?_
    rintro e w5 ⟨rfl, nw5, hww5⟩
    have bw5 := below_of_drewN hww5
    clear hww5
    replace h0 := h0.below bw5
    replace h1 := h1.below bw5
    replace h2 := h2.below bw5
    replace hb := below_trans hb bw5
    clear bw5
    rw [EB.out]
    go_wp2_with fail
    refine (equal_any a0 a1 l0 l1 c0 c1 _ h0 h1).mono ?_
    rintro e w6 ⟨rfl, nw6, hww6⟩
    have bw6 := below_of_drewN hww6
    clear hww6
    replace h0 := h0.below bw6
    replace h1 := h1.below bw6
    replace h2 := h2.below bw6
    replace hb := below_trans hb bw6
    clear bw6
    rw [QE.out]
    go_wp2_with fail
    refine (kle_any a0 a1 l0 l1 c0 c1 _ h0 h1).mono ?_
    rintro e w7 ⟨rfl, nw7, hww7⟩
    have bw7 := below_of_drewN hww7
    clear hww7
    replace h0 := h0.below bw7
    replace h1 := h1.below bw7
    replace h2 := h2.below bw7
    replace hb := below_trans hb bw7
    clear bw7
    rw [EA.out]
    go_wp2_with fail
    refine (kle_any a1 a2 l1 l2 c1 c2 _ h1 h2).mono ?_
    rintro e w8 ⟨rfl, nw8, hww8⟩
    have bw8 := below_of_drewN hww8
    clear hww8
    replace h0 := h0.below bw8
    replace h1 := h1.below bw8
    replace h2 := h2.below bw8
    replace hb := below_trans hb bw8
    clear bw8
    rw [EC.out]
    skip
    go_wp2
    go_ret
    exact ⟨rfl, hb⟩
  · have EA := Lib.hid ea
    have EB := Lib.hid eb
    have EC := Lib.hid ec
    have QE : Hid (eqB l0 l1 = true) := Lib.hid (by rw [qe, ea, eb]; rfl)
    have QT : Hid (leK l0 l2 = true) := Lib.hid (qt ea ec)
    clear qe qt ea eb ec
    go_enter Try.func8, Try.ntmps8
    go_wp2_with fail
    refine (kle_at _ _ [0, 1] [0, 2] _ _ _ _ _ (by exact Ints.litA _ _ _ _ _ rfl (by decide)) (by exact Ints.litB _ _ _ _ _ rfl (by decide)) rfl rfl).mono ?_
    rintro e w1 ⟨rfl, nw1, hww1⟩
    have bw1 := below_of_drewN hww1
    clear hww1
    replace bw1 := below_of2 bw1
    replace h0 := h0.below bw1
    replace h1 := h1.below bw1
    replace h2 := h2.below bw1
    replace hb := below_trans hb bw1
    clear bw1
    rw [X1.out]
    go_wp2_with fail
    refine (kle_at _ _ [0, 2] [0, 1] _ _ _ _ _ (by exact Ints.litA _ _ _ _ _ rfl (by decide)) (by exact Ints.litB _ _ _ _ _ rfl (by decide)) rfl rfl).mono ?_
    rintro e w2 ⟨rfl, nw2, hww2⟩
    have bw2 := below_of_drewN hww2
    clear hww2
    replace bw2 := below_of2 bw2
    replace h0 := h0.below bw2
    replace h1 := h1.below bw2
    replace h2 := h2.below bw2
    replace hb := below_trans hb bw2
    clear bw2
    rw [X2.out]
    go_wp2_with fail
    refine (three_any a0 a1 a2 l0 l1 l2 c0 c1 c2 _ h0 h1 h2).mono ?_
    rintro e w' ⟨rfl, rfl⟩
    rw [T1.out, T2.out]
    go_wp2_with fail
    refine (kle_any a0 a0 l0 l0 c0 c0 _ h0 h0).mono ?_
    rintro e w3 ⟨rfl, nw3, hww3⟩
    have bw3 := below_of_drewN hww3
    clear hww3
    replace h0 := h0.below bw3
    replace h1 := h1.below bw3
    replace h2 := h2.below bw3
    replace hb := below_trans hb bw3
    clear bw3
    rw [R1.out]
    go_wp2_with fail
    refine (kle_any a0 a1 l0 l1 c0 c1 _ h0 h1).mono ?_
    rintro e w4 ⟨rfl, nw4, hww4⟩
    have bw4 := below_of_drewN hww4
    clear hww4
    replace h0 := h0.below bw4
    replace h1 := h1.below bw4
    replace h2 := h2.below bw4
    replace hb := below_trans hb bw4
    clear bw4
    rw [EA.out]
    go_wp2_with fail
    refine (kle_any a1 a0 l1 l0 c1 c0 _ h1 h0).mono ?_
    rintro e w5 ⟨rfl, nw5, hww5⟩
    have bw5 := below_of_drewN hww5
    clear hww5
    replace h0 := h0.below bw5
    replace h1 := h1.below bw5
    replace h2 := h2.below bw5
    replace hb := below_trans hb bw5
    clear bw5
    rw [EB.out]
    go_wp2_with fail
    refine (equal_any a0 a1 l0 l1 c0 c1 _ h0 h1).mono ?_
    rintro e w6 ⟨rfl, nw6, hww6⟩
    have bw6 := below_of_drewN hww6
    clear hww6
    replace h0 := h0.below bw6
    replace h1 := h1.below bw6
    replace h2 := h2.below bw6
    replace hb := below_trans hb bw6
    clear bw6
    rw [QE.out]
    go_wp2_with fail
    refine (kle_any a0 a1 l0 l1 c0 c1 _ h0 h1).mono ?_
    rintro e w7 ⟨rfl, nw7, hww7⟩
    have bw7 := below_of_drewN hww7
    clear hww7
    replace h0 := h0.below bw7
    replace h1 := h1.below bw7
    replace h2 := h2.below bw7
    replace hb := below_trans hb bw7
    clear bw7
    rw [EA.out]
    go_wp2_with fail
    refine (kle_any a1 a2 l1 l2 c1 c2 _ h1 h2).mono ?_
    rintro e w8 ⟨rfl, nw8, hww8⟩
    have bw8 := below_of_drewN hww8
    clear hww8
    replace h0 := h0.below bw8
    replace h1 := h1.below bw8
    replace h2 := h2.below bw8
    replace hb := below_trans hb bw8
    clear bw8
    rw [EC.out]
    go_wp2_with fail
    refine (kle_any a0 a2 l0 l2 c0 c2 _ h0 h2).mono ?_
    rintro e w9 ⟨rfl, nw9, hww9⟩
    have bw9 := below_of_drewN hww9
    clear hww9
    replace hb := below_trans hb bw9
    clear bw9
    rw [QT.out]
    go_wp2
    go_ret
    exact ⟨rfl, hb⟩

end Go.Proofs.Ythigjcbdlijfbaa
