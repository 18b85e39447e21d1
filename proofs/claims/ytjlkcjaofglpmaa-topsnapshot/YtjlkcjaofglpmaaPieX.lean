
/-
  Walks of package piece: Sizes, Check, Next, Got.
-/
import Derived.Test.YtjlkcjaofglpmaaPieE
import Derived.Test.YtjlkcjaofglpmaaBucketA
namespace Go.Proofs.Ytjlkcjaofglpmaa
set_option linter.all false
open Go.RowKit Go.Shelf Go.Lib

theorem rowAt_doneP {n k i : Nat} (F : Nat → Int) (h : i < k) : (rowAt n k F)[i]? = some (.int .i64 (F i)) := by
  simp only [rowAt]
  rw [List.getElem?_append_left (by simp [length_tab]; exact h), List.getElem?_map, get_tab _ h]; rfl
theorem pcn_int {s u : Int} (s0 : 0 ≤ s) (u0 : 1 ≤ u) : ((pcN s u : Nat) : Int) = (s + u - 1) / u := by
  have := Int.ediv_nonneg (show 0 ≤ s + u - 1 by omega) (show 0 ≤ u by omega)
  unfold pcN; omega
theorem pcn_large {s u : Int} (s0 : 0 ≤ s) (u0 : 1 ≤ u) : 200 * u < s ↔ 200 < pcN s u := by
  rw [pcn_iff s0 u0, Int.mul_comm]; rfl

set_option maxRecDepth 100000 in
set_option maxHeartbeats 1600000 in
theorem psizes_any (s u : Int) (w : World) (h : whE s u = 0) : Calls Try.prog 22 #[.int .i64 s, .int .i64 u] w fun e w' => ∃ (A : Option Addr) (c : Nat), e = .returned (.tuple #[.slice A (pcN s u) c, .int .i64 0]) ∧ w'.ownsRow w.heap.size 3 1 (.slice A (pcN s u) c) (pcN s u) ((tab (pcN s u) (pcV s u)).map (Value.int .i64)) ∧ Below w.heap.size w w' := by
  have v := wh_iff.mp h
  have v1 := v.s0
  have v2 := v.s1
  have v3 := v.u0
  have v4 := v.u1
  have hN2 := pcn_max v
  have hd := pcn_int v1 v3
  have HI := Lib.hid (fun i => pcn_iff v1 v3 (i := i))
  obtain ⟨N, hN⟩ : ∃ N, N = pcN s u := ⟨_, rfl⟩
  rw [← hN] at hN2 hd HI ⊢
  have q1 : Hid (decide (s < 0 ∨ 1000000 < s) = false) := Lib.hid (decide_eq_false (by omega))
  have q2 : Hid (decide (u < 1 ∨ 1000000 < u) = false) := Lib.hid (decide_eq_false (by omega))
  have hmk := fun W => run_make_row' (P := Try.prog) 22 3 (.int .i64 0) 8 Try.underlying22 int_info rfl .i64 .i64 N (by omega) (by omega) W
  obtain ⟨g, hg⟩ : ∃ g, g = w.heap.size := ⟨_, rfl⟩
  have G := Lib.hid hg
  have gle : w.heap.size ≤ g := by omega
  have z : (u == 0) = false := by rw [beq_eq_false_iff_ne]; omega
  have m1 : IntKind.i64.wrap (s + u) = s + u := IntWalk.i64_in _ ⟨by omega, by omega⟩
  have m2 : IntKind.i64.wrap (s + u - 1) = s + u - 1 := IntWalk.i64_in _ ⟨by omega, by omega⟩
  have m3 : Int.tdiv (s + u - 1) u = (N : Int) := by rw [hd]; exact Int.tdiv_eq_ediv_of_nonneg (by omega)
  have m4 : IntKind.i64.wrap (N : Int) = (N : Int) := IntWalk.i64_in _ ⟨by omega, by omega⟩
  have i0 : ¬ 200 < (N : Int) := by omega
  clear hg hd hN h v
  go_enter Try.func22, Try.ntmps22
  go_wp2_with fail
  refine (lim_any s 0 1000000 false _ q1).mono ?_
  rintro e w' ⟨rfl, rfl⟩
  go_wp2_with fail
  refine (lim_any u 1 1000000 false _ q2).mono ?_
  rintro e w' ⟨rfl, rfl⟩
  go_wp2
  rw [← G.out]
  go_loopw [27] (fun x wr => ∃ k : Nat, k ≤ N ∧ x = .int .i64 k ∧ Blk wr g 3 (rowAt N k (pcV s u)).toArray ∧ Below w.heap.size w wr) (fun x _ => N - (intOf x).toNat)
  case atStart =>
    refine ⟨0, Nat.zero_le _, rfl, ?_, (Below.refl _ w).alloc (Nat.le_refl _) _⟩
    rw [rowAt_zero, G.out]; exact Blk.new _ _ _
  case round =>
    obtain ⟨k, hk, rfl, B0, hbel⟩ := hrel
    by_cases hlt : k < N
    · obtain ⟨P, hP⟩ : ∃ P, P = (k : Int) * u := ⟨_, rfl⟩
      have p1 := (HI.out k).mp hlt
      rw [Int.mul_comm, ← hP] at p1
      have p0 : 0 ≤ P := by rw [hP]; exact Int.mul_nonneg (by omega) (by omega)
      have HV : Hid (pcV s u k = min u (s - P)) := Lib.hid (by rw [pcV, Int.mul_comm, ← hP])
      have m5 : IntKind.i64.wrap ((k : Int) * u) = P := by rw [← hP]; exact IntWalk.i64_in _ ⟨by omega, by omega⟩
      have m6 : IntKind.i64.wrap (s - P) = s - P := IntWalk.i64_in _ ⟨by omega, by omega⟩
      have ck : wr.cell? ⟨g, k, none⟩ = some (.int .i64 0) := by rw [B0.cell k]; simpa using rowAt_get (pcV s u) hlt
      have fk := B0.frozen k
      have gl := B0.lt
      have i1 : (k : Int) < (N : Int) := by omega
      have R0 : Hid (∀ x : Int, x = min u (s - P) → Blk (wr.setCell ⟨g, k, none⟩ (.int .i64 x)) g 3 (rowAt N (k + 1) (pcV s u)).toArray) := Lib.hid (fun x hx => by
        have q := B0.set_ k (.int .i64 x)
        rw [← rowAt_succ _ hlt, HV.out, ← hx]
        exact q)
      have HB2 : Hid (∀ x : Value, Below w.heap.size w (wr.setCell ⟨g, k, none⟩ x)) := Lib.hid (fun x => hbel.setCell (p := ⟨g, k, none⟩) gle x)
      clear hP B0 hbel
      rcases Int.lt_trichotomy u (s - P) with q | q | q
      · go_wp2
        go_roundw
        case rel => exact ⟨k + 1, by omega, by go_num, R0.out _ (by omega), HB2.out _⟩
        case measure => simp [intOf]; omega
      · have m6 : IntKind.i64.wrap (s - P) = u := by rw [← q]; exact IntWalk.i64_in _ ⟨by omega, by omega⟩
        have Q := Lib.hid q
        clear q
        go_wp2
        go_roundw
        case rel => exact ⟨k + 1, by omega, by go_num, R0.out _ (by have := Q.out; omega), HB2.out _⟩
        case measure => simp [intOf]; omega
      · go_wp2
        go_roundw
        case rel => exact ⟨k + 1, by omega, by go_num, R0.out _ (by omega), HB2.out _⟩
        case measure => simp [intOf]; omega
    · obtain rfl : k = N := by omega
      have i1 : ¬ (k : Int) < (k : Int) := by omega
      rw [rowAt_full] at B0
      have o := own_of_blk (n := k) B0 gle (length_tab _ _).symm (by omega)
      rw [length_tab] at o
      clear B0
      go_wp2
      go_ret2
      exact ⟨some ⟨g, 0, none⟩, k, rfl, o, hbel⟩

set_option maxHeartbeats 800000 in
theorem psizes_no (s u : Int) (w : World) (h : ¬ whE s u = 0) : Calls Try.prog 22 #[.int .i64 s, .int .i64 u] w fun e w' => (∃ (A : Option Addr) (c : Nat), e = .returned (.tuple #[.slice A 0 c, .int .i64 (whE s u)])) ∧ Below w.heap.size w w' := by
  by_cases c1 : s < 0 ∨ 1000000 < s
  · have HQ : Hid (whE s u = 1) := Lib.hid (by rw [whE, if_pos (by omega)])
    have q1 := lim_yes c1
    clear h c1
    go_enter Try.func22, Try.ntmps22
    go_wp2_with fail
    refine (lim_any s 0 1000000 true _ q1).mono ?_
    rintro e w' ⟨rfl, rfl⟩
    go_wp2
    go_ret2
    exact ⟨⟨none, 0, by rw [HQ.out]; rfl⟩, Below.refl _ _⟩
  · have q1 : Hid (decide (s < 0 ∨ 1000000 < s) = false) := Lib.hid (decide_eq_false c1)
    by_cases c2 : u < 1 ∨ 1000000 < u
    · have HQ : Hid (whE s u = 1) := Lib.hid (by rw [whE, if_pos (by omega)])
      have q2 := lim_yes c2
      clear h c1 c2
      go_enter Try.func22, Try.ntmps22
      go_wp2_with fail
      refine (lim_any s 0 1000000 false _ q1).mono ?_
      rintro e w' ⟨rfl, rfl⟩
      go_wp2_with fail
      refine (lim_any u 1 1000000 true _ q2).mono ?_
      rintro e w' ⟨rfl, rfl⟩
      go_wp2
      go_ret2
      exact ⟨⟨none, 0, by rw [HQ.out]; rfl⟩, Below.refl _ _⟩
    · have q2 : Hid (decide (u < 1 ∨ 1000000 < u) = false) := Lib.hid (decide_eq_false c2)
      have c3 : 200 * u < s := by
        by_cases c3 : 200 * u < s
        · exact c3
        · exact absurd (show whE s u = 0 by rw [whE, if_neg (by omega), if_neg c3]) h
      have HQ : Hid (whE s u = 2) := Lib.hid (by rw [whE, if_neg (by omega), if_pos c3])
      have hd := pcn_int (s := s) (u := u) (by omega) (by omega)
      have hl := (pcn_large (s := s) (u := u) (by omega) (by omega)).mp c3
      obtain ⟨N, hN⟩ : ∃ N, N = pcN s u := ⟨_, rfl⟩
      rw [← hN] at hd hl
      have hm : (N : Int) ≤ s + u - 1 := by rw [hd]; exact Int.ediv_le_self _ (by omega)
      have z : (u == 0) = false := by rw [beq_eq_false_iff_ne]; omega
      have m1 : IntKind.i64.wrap (s + u) = s + u := IntWalk.i64_in _ ⟨by omega, by omega⟩
      have m2 : IntKind.i64.wrap (s + u - 1) = s + u - 1 := IntWalk.i64_in _ ⟨by omega, by omega⟩
      have m3 : Int.tdiv (s + u - 1) u = (N : Int) := by rw [hd]; exact Int.tdiv_eq_ediv_of_nonneg (by omega)
      have m4 : IntKind.i64.wrap (N : Int) = (N : Int) := IntWalk.i64_in _ ⟨by omega, by omega⟩
      have i0 : 200 < (N : Int) := by omega
      have v3 : 1 ≤ u := by omega
      clear h c1 c2 c3 hd hN
      go_enter Try.func22, Try.ntmps22
      go_wp2_with fail
      refine (lim_any s 0 1000000 false _ q1).mono ?_
      rintro e w' ⟨rfl, rfl⟩
      go_wp2_with fail
      refine (lim_any u 1 1000000 false _ q2).mono ?_
      rintro e w' ⟨rfl, rfl⟩
      go_wp2
      go_ret2
      exact ⟨⟨none, 0, by rw [HQ.out]; rfl⟩, Below.refl _ _⟩

set_option maxHeartbeats 800000 in
theorem pcheck_any (s u : Int) (A : Option Addr) (c : Nat) (z : List Bool) (w : World) (hz : Bls w A z) : Calls Try.prog 36 #[.agg #[.int .i64 s, .int .i64 u, .slice A z.length c]] w fun e w' => e = .returned (.int .i64 (stE s u z.length)) ∧ Below w.heap.size w w' := by
  have hzl := hz.1
  by_cases hE : whE s u = 0
  · have v := wh_iff.mp hE
    have n200 := pcn_max v
    have H0 := Lib.hid hE
    obtain ⟨N, hN⟩ : ∃ N, N = pcN s u := ⟨_, rfl⟩
    have HN := Lib.hid hN
    rw [← hN] at n200
    by_cases hl : z.length = N
    · have HQ : Hid (stE s u z.length = 0) := Lib.hid (st_iff.mpr ⟨v, hl.trans hN⟩)
      have e1 : (z.length != N) = false := by simp [hl]
      clear hE hN hl v
      obtain ⟨W, hW⟩ : ∃ W, W = w.alloc (.cells #[.int .i64 s, .int .i64 u, .slice A z.length c] 44) := ⟨_, rfl⟩
      have K0 : Blk W w.heap.size 44 #[.int .i64 s, .int .i64 u, .slice A z.length c] := by rw [hW]; exact Blk.new _ _ _
      have hb : Below w.heap.size w W := by rw [hW]; exact alloc_below _ _
      have hzW : Bls W A z := hz.below hb
      obtain ⟨c0, c1, c2⟩ := three_read K0
      have lt0 := K0.lt
      have HW := Lib.hid hW
      clear hW
      go_enter Try.func36, Try.ntmps36
      go_wp2_with fail
      rw [← HW.out]
      refine (psizes_any s u _ H0.out).mono ?_
      rw [← HN.out]
      rintro e w1 ⟨B, d, rfl, o, b1⟩
      clear c0 c1 c2 lt0
      replace K0 := K0.below b1
      replace hzW := hzW.below b1
      replace hb := below_trans hb b1
      obtain ⟨c0, c1, c2⟩ := three_read K0
      have lt0 := K0.lt
      clear b1
      go_wp2
      go_ret
      exact ⟨by rw [HQ.out]; rfl, hb⟩
    · have HQ : Hid (stE s u z.length = 4) := Lib.hid (by unfold stE; rw [hE, if_neg (by simp), if_neg (by rw [← hN]; exact hl)])
      have e1 : (z.length != N) = true := by simp [hl]
      clear hE hN hl v
      obtain ⟨W, hW⟩ : ∃ W, W = w.alloc (.cells #[.int .i64 s, .int .i64 u, .slice A z.length c] 44) := ⟨_, rfl⟩
      have K0 : Blk W w.heap.size 44 #[.int .i64 s, .int .i64 u, .slice A z.length c] := by rw [hW]; exact Blk.new _ _ _
      have hb : Below w.heap.size w W := by rw [hW]; exact alloc_below _ _
      have hzW : Bls W A z := hz.below hb
      obtain ⟨c0, c1, c2⟩ := three_read K0
      have lt0 := K0.lt
      have HW := Lib.hid hW
      clear hW
      go_enter Try.func36, Try.ntmps36
      go_wp2_with fail
      rw [← HW.out]
      refine (psizes_any s u _ H0.out).mono ?_
      rw [← HN.out]
      rintro e w1 ⟨B, d, rfl, o, b1⟩
      clear c0 c1 c2 lt0
      replace K0 := K0.below b1
      replace hzW := hzW.below b1
      replace hb := below_trans hb b1
      obtain ⟨c0, c1, c2⟩ := three_read K0
      have lt0 := K0.lt
      clear b1
      go_wp2
      go_ret
      exact ⟨by rw [HQ.out]; rfl, hb⟩
  · have HQ : Hid (stE s u z.length = whE s u) := Lib.hid (by unfold stE; rw [if_pos hE])
    have e1 : (whE s u != 0) = true := by simp [hE]
    have H0 := Lib.hid hE
    clear hE
    obtain ⟨W, hW⟩ : ∃ W, W = w.alloc (.cells #[.int .i64 s, .int .i64 u, .slice A z.length c] 44) := ⟨_, rfl⟩
    have K0 : Blk W w.heap.size 44 #[.int .i64 s, .int .i64 u, .slice A z.length c] := by rw [hW]; exact Blk.new _ _ _
    have hb : Below w.heap.size w W := by rw [hW]; exact alloc_below _ _
    have hzW : Bls W A z := hz.below hb
    obtain ⟨c0, c1, c2⟩ := three_read K0
    have lt0 := K0.lt
    have HW := Lib.hid hW
    clear hW
    go_enter Try.func36, Try.ntmps36
    go_wp2_with fail
    rw [← HW.out]
    refine (psizes_no s u _ H0.out).mono ?_
    rintro e w1 ⟨⟨B, d, rfl⟩, b1⟩
    clear c0 c1 c2 lt0
    replace K0 := K0.below b1
    replace hzW := hzW.below b1
    replace hb := below_trans hb b1
    obtain ⟨c0, c1, c2⟩ := three_read K0
    have lt0 := K0.lt
    clear b1
    go_wp2
    go_ret
    exact ⟨by rw [HQ.out]; rfl, hb⟩

end Go.Proofs.Ytjlkcjaofglpmaa
