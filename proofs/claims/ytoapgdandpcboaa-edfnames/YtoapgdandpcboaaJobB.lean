
/-
  Walks: the document's own look at jobs; its demand between all times.
-/
import Derived.Test.YtoapgdandpcboaaJobA
import Derived.Test.YtoapgdandpcboaaBucketA
import Derived.Test.YtoapgdandpcboaaEdfQ
namespace Go.Proofs.Ytoapgdandpcboaa
set_option linter.all false
open Go.RowKit Go.Shelf Go.Lib

abbrev fBadJ : FuncId := 27
set_option maxHeartbeats 1600000 in
theorem badJ_any (j : Jb) (w : World) : Calls Try.prog 27 #[.agg #[.int .i64 j.at_, .int .i64 j.work, .int .i64 j.due]] w fun e w' => e = .returned (.bool (jbBad j)) ∧ Below w.heap.size w w' := by
  obtain ⟨a, k, d⟩ := j
  simp only
  by_cases h1 : a < 0
  · have HR : Hid (jbBad ⟨a, k, d⟩ = true) := Lib.hid (decide_eq_true (.inl h1))
    go_enter Try.func27, Try.ntmps27
    go_wp2
    go_ret
    exact ⟨ret_bool HR.out.symm, (Below.refl _ _).alloc (Nat.le_refl _) _⟩
  · by_cases h2 : d ≤ a
    · have HR : Hid (jbBad ⟨a, k, d⟩ = true) := Lib.hid (decide_eq_true (.inr (.inl h2)))
      have e0 : decide (a < 0) = false := decide_eq_false h1
      obtain ⟨B, hB⟩ : ∃ B, IntKind.i64.wrap (a + 1) = B := ⟨_, rfl⟩
      cases s : decide (d < B ∨ 200 < d)
      · have q := Lib.hid s
        clear s h1
        cases s2 : decide (k < 1 ∨ 200 < k)
        · have q2 := Lib.hid s2
          clear s2
          go_enter Try.func27, Try.ntmps27
          go_wp2_with fail
          refine (wit_any d B 200 true _ q).mono ?_
          rintro e w' ⟨rfl, rfl⟩
          go_wp2_with fail
          refine (wit_any k 1 200 true _ q2).mono ?_
          rintro e w' ⟨rfl, rfl⟩
          go_wp2
          go_ret
          exact ⟨ret_bool HR.out.symm, (Below.refl _ _).alloc (Nat.le_refl _) _⟩
        · have q2 := Lib.hid s2
          clear s2
          go_enter Try.func27, Try.ntmps27
          go_wp2_with fail
          refine (wit_any d B 200 true _ q).mono ?_
          rintro e w' ⟨rfl, rfl⟩
          go_wp2_with fail
          refine (wit_any k 1 200 false _ q2).mono ?_
          rintro e w' ⟨rfl, rfl⟩
          go_wp2
          go_ret
          exact ⟨ret_bool HR.out.symm, (Below.refl _ _).alloc (Nat.le_refl _) _⟩
      · have q := Lib.hid s
        clear s h1
        go_enter Try.func27, Try.ntmps27
        go_wp2_with fail
        refine (wit_any d B 200 false _ q).mono ?_
        rintro e w' ⟨rfl, rfl⟩
        go_wp2
        go_ret
        exact ⟨ret_bool HR.out.symm, (Below.refl _ _).alloc (Nat.le_refl _) _⟩
    · by_cases h3 : 200 < d
      · have HR : Hid (jbBad ⟨a, k, d⟩ = true) := Lib.hid (decide_eq_true (.inr (.inr (.inl h3))))
        obtain ⟨B, hB⟩ : ∃ B, IntKind.i64.wrap (a + 1) = B := ⟨_, rfl⟩
        have q : Hid (decide (d < B ∨ 200 < d) = !false) := Lib.hid (decide_eq_true (.inr h3))
        have e0 : decide (a < 0) = false := decide_eq_false h1
        clear h1 h2 h3
        go_enter Try.func27, Try.ntmps27
        go_wp2_with fail
        refine (wit_any d B 200 false _ q).mono ?_
        rintro e w' ⟨rfl, rfl⟩
        go_wp2
        go_ret
        exact ⟨ret_bool HR.out.symm, (Below.refl _ _).alloc (Nat.le_refl _) _⟩
      · have q : Hid (decide (d < a + 1 ∨ 200 < d) = !true) := Lib.hid (decide_eq_false (by omega))
        by_cases h4 : k < 1 ∨ 200 < k
        · have HR : Hid (jbBad ⟨a, k, d⟩ = true) := Lib.hid (decide_eq_true (.inr (.inr (.inr h4))))
          have q2 : Hid (decide (k < 1 ∨ 200 < k) = !false) := Lib.hid (decide_eq_true h4)
          clear h4
          go_enter Try.func27, Try.ntmps27
          go_wp2_with fail
          refine (wit_any d (a + 1) 200 true _ q).mono ?_
          rintro e w' ⟨rfl, rfl⟩
          go_wp2_with fail
          refine (wit_any k 1 200 false _ q2).mono ?_
          rintro e w' ⟨rfl, rfl⟩
          go_wp2
          go_ret
          exact ⟨ret_bool HR.out.symm, (Below.refl _ _).alloc (Nat.le_refl _) _⟩
        · have HR : Hid (jbBad ⟨a, k, d⟩ = false) := Lib.hid (decide_eq_false (by simp only; omega))
          have q2 : Hid (decide (k < 1 ∨ 200 < k) = !true) := Lib.hid (decide_eq_false h4)
          have e5 : decide (d ≤ a) = false := decide_eq_false h2
          clear h4
          go_enter Try.func27, Try.ntmps27
          go_wp2_with fail
          refine (wit_any d (a + 1) 200 true _ q).mono ?_
          rintro e w' ⟨rfl, rfl⟩
          go_wp2_with fail
          refine (wit_any k 1 200 true _ q2).mono ?_
          rintro e w' ⟨rfl, rfl⟩
          go_wp2
          go_ret
          exact ⟨ret_bool HR.out.symm, (Below.refl _ _).alloc (Nat.le_refl _) _⟩

theorem any_drop {l : List Jb} {k : Nat} {j : Jb} (h : l[k]? = some j) : (l.drop k).any jbBad = (jbBad j || (l.drop (k + 1)).any jbBad) := by
  have hk := (List.getElem?_eq_some_iff.1 h).1
  rw [List.drop_eq_getElem_cons hk, List.any_cons]
  have : l[k] = j := by rw [List.getElem?_eq_getElem hk] at h; exact Option.some.inj h
  rw [this]
set_option maxHeartbeats 800000 in
theorem indexJ_any (A : Option Addr) (l : List Jb) (c : Nat) (w : World) (h : Jbs w A l) :
    Calls Try.prog 35 #[.slice A l.length c, .func (.func fBadJ) #[] #[]] w fun e w' => ∃ r : Int, e = .returned (.int .i64 r) ∧ decide (0 ≤ r) = l.any jbBad ∧ Below w.heap.size w w' := by
  have hent := enters_of Try.func27 (by kernel_rfl) rfl
  have hl := h.le
  go_enter Try.func35, Try.ntmps35
  go_wp2
  go_loopw [8] (fun i wr => ∃ k : Nat, k ≤ l.length ∧ i = .int .i64 k ∧ Hid (l.any jbBad = (l.drop k).any jbBad) ∧ Below w.heap.size w wr) (fun i _ => l.length - (intOf i).toNat)
  case atStart => exact ⟨0, Nat.zero_le _, rfl, Lib.hid rfl, Below.refl _ _⟩
  case round =>
    obtain ⟨k, hk, rfl, HG, hbel⟩ := hrel
    by_cases hlt : k < l.length
    · obtain ⟨bb, off, j, rfl, hbl, c0, c1, c2, HJ⟩ := (h.below hbel).get hlt
      have i1 : (k : Int) < (l.length : Int) := by omega
      have HS : Hid (l.any jbBad = (jbBad j || (l.drop (k + 1)).any jbBad)) := Lib.hid (by rw [HG.out, any_drop HJ.out])
      go_wp2_with fail
      refine (badJ_any j _).mono ?_
      rintro e w1 ⟨rfl, b1⟩
      have hb1 := below_trans hbel b1
      clear b1 c0 c1 c2
      cases q : jbBad j
      · have HN : Hid (l.any jbBad = (l.drop (k + 1)).any jbBad) := Lib.hid (by rw [HS.out, q]; rfl)
        clear q HS
        go_wp2
        go_roundw
        case rel => exact ⟨k + 1, by omega, by go_num, HN, hb1⟩
        case measure => simp [intOf]; omega
      · have HN : Hid (l.any jbBad = true) := Lib.hid (by rw [HS.out, q]; rfl)
        clear q HS
        go_wp2
        go_ret
        exact ⟨k, rfl, by rw [HN.out]; exact decide_eq_true (by omega), hb1⟩
    · have HN : Hid (l.any jbBad = false) := Lib.hid (by rw [HG.out, List.drop_of_length_le (by omega)]; rfl)
      go_wp2
      go_ret
      exact ⟨-1, rfl, by rw [HN.out]; rfl, hbel⟩
set_option maxHeartbeats 800000 in
theorem refJobs_any (A : Option Addr) (l : List Jb) (c : Nat) (w : World) (h : Jbs w A l) :
    Calls Try.prog 12 #[.slice A l.length c] w fun e w' => e = .returned (.int .i64 (jbsE l)) ∧ Below w.heap.size w w' := by
  by_cases h12 : 12 < l.length
  · have HE : Hid (jbsE l = 2) := Lib.hid (if_pos h12)
    have i1 : (12 : Int) < (l.length : Int) := by omega
    go_enter Try.func12, Try.ntmps12
    go_wp2
    go_ret
    exact ⟨ret_int HE.out.symm, Below.refl _ _⟩
  · have HE : Hid (jbsE l = if l.any jbBad = true then 1 else 0) := Lib.hid (if_neg h12)
    have i1 : ¬ (12 : Int) < (l.length : Int) := by omega
    have hcon : Calls Try.prog 23 #[.slice A l.length c, .func (.func fBadJ) #[] #[]] w fun e w' => e = .returned (.bool (l.any jbBad)) ∧ Below w.heap.size w w' := by
      go_enter Try.func23, Try.ntmps23
      go_wp2_with fail
      refine (indexJ_any A l c _ h).mono ?_
      rintro e w1 ⟨r, rfl, hr, b1⟩
      have HR := Lib.hid hr
      clear hr
      go_wp2
      go_ret
      exact ⟨ret_bool HR.out, b1⟩
    cases q : l.any jbBad
    · have HQ : Hid (jbsE l = 0) := Lib.hid (by rw [HE.out, q]; rfl)
      rw [q] at hcon
      clear q HE
      go_enter Try.func12, Try.ntmps12
      go_wp2_with fail
      refine hcon.mono ?_
      rintro e w1 ⟨rfl, b1⟩
      go_wp2
      go_ret
      exact ⟨ret_int HQ.out.symm, b1⟩
    · have HQ : Hid (jbsE l = 1) := Lib.hid (by rw [HE.out, q]; rfl)
      rw [q] at hcon
      clear q HE
      go_enter Try.func12, Try.ntmps12
      go_wp2_with fail
      refine hcon.mono ?_
      rintro e w1 ⟨rfl, b1⟩
      go_wp2
      go_ret
      exact ⟨ret_int HQ.out.symm, b1⟩

end Go.Proofs.Ytoapgdandpcboaa
