
/-
  Walks: package shape: Bucket, Line, Stair, each by values.Curve over its own function value.
-/
import Derived.Test.YtmefekgbljhclaaShapeP
namespace Go.Proofs.Ytmefekgbljhclaa
set_option linter.all false
open Go.RowKit Go.Shelf

/-- Is a number outside? -/
def outB (x lo hi : Int) : Bool := decide (x < lo) || decide (hi < x)
theorem outB_yes {x lo hi : Int} (h : x < lo ∨ hi < x) : outB x lo hi = true := by
  unfold outB; rcases h with h | h <;> simp [h]
theorem outB_no {x lo hi : Int} (h : lo ≤ x) (h' : x ≤ hi) : outB x lo hi = false := by
  unfold outB; simp; omega

set_option maxHeartbeats 400000 in
theorem outside_any (x lo hi : Int) (w : World) : Calls Try.prog 38 #[.int .i64 x, .int .i64 lo, .int .i64 hi] w fun e w' => e = .returned (.bool (outB x lo hi)) ∧ w = w' := by
  by_cases h : x < lo
  · have H : Hid (outB x lo hi = true) := Lib.hid (outB_yes (.inl h))
    go_enter Try.func38, Try.ntmps38
    go_wp2
    go_ret
    exact ⟨ret_bool H.out.symm, rfl⟩
  · have H : Hid (outB x lo hi = decide (hi < x)) := Lib.hid (by unfold outB; simp [h])
    go_enter Try.func38, Try.ntmps38
    go_wp2
    go_ret
    exact ⟨ret_bool H.out.symm, rfl⟩

set_option maxHeartbeats 400000 in
theorem li1_any (t g : Nat) (r n : Int) (w : World) (ht : t ≤ 60) (r0 : 0 ≤ r) (r1 : r ≤ 10000) (n0 : 0 ≤ n) (n1 : n ≤ 60)
    (b1 : Blk w g 3 #[.int .i64 r]) (b2 : Blk w (g + 1) 3 #[.int .i64 n]) :
    Calls Try.prog 43 #[.int .i64 t, .pointer (some ⟨g + 1, 0, none⟩), .pointer (some ⟨g, 0, none⟩)] w fun e w' => e = .returned (.int .i64 (liV r n t)) ∧ w = w' := by
  have c1 := b1.cell 0
  have c2 := b2.cell 0
  simp at c1 c2
  by_cases h : (t : Int) ≤ n
  · have H : Hid (liV r n t = 0) := Lib.hid (by unfold liV; rw [if_pos h])
    have e0 : (t : Int) - n ≤ 0 := by omega
    have e2 : IntKind.i64.wrap ((0 : Int) * r) = 0 := by rw [Int.zero_mul]; rfl
    go_enter Try.func43, Try.ntmps43
    go_wp2
    all_goals
      go_ret
      refine ⟨ret_int ?_, rfl⟩
      rw [H.out]
      try rfl
  · have H : Hid (liV r n t = ((t : Int) - n) * r) := Lib.hid (by unfold liV; rw [if_neg h])
    obtain ⟨P, hP⟩ : ∃ P, P = ((t : Int) - n) * r := ⟨_, rfl⟩
    have p0 : 0 ≤ P := by rw [hP]; exact Int.mul_nonneg (by omega) r0
    have p1 : P ≤ 600000 := by
      rw [hP]
      have h1 := mul_l r1 (show (0 : Int) ≤ (t : Int) - n by omega)
      omega
    have e0 : (0 : Int) < (t : Int) - n := by omega
    have e2 : IntKind.i64.wrap (((t : Int) - n) * r) = P := by rw [hP]; exact IntWalk.i64_in _ ⟨by omega, by omega⟩
    have HP := Lib.hid hP
    clear hP
    go_enter Try.func43, Try.ntmps43
    go_wp2
    go_ret
    exact ⟨ret_int (by rw [H.out, HP.out]), rfl⟩

theorem outB_false {x lo hi : Int} (h : outB x lo hi = false) : lo ≤ x ∧ x ≤ hi := by
  unfold outB at h; simp at h; omega
/-- The error of a standard curve. -/
def shE (h r n lo hi : Int) : Int := if (outB h 0 60 || outB r 0 10000 || outB n lo hi) = true then 1 else 0
theorem shE_no {h r n lo hi : Int} (o : (outB h 0 60 || outB r 0 10000 || outB n lo hi) = true) : shE h r n lo hi = 1 := if_pos o
theorem shE_yes {h r n lo hi : Int} (o1 : outB h 0 60 = false) (o2 : outB r 0 10000 = false) (o3 : outB n lo hi = false) : shE h r n lo hi = 0 := by
  unfold shE; rw [o1, o2, o3]; rfl

/-- What the function values of shape need of memory: the two boxes. -/
def SInv (r n : Int) (wp : World) (_t : Nat) (w : World) : Prop := Blk w wp.heap.size 3 #[.int .i64 r] ∧ Blk w (wp.heap.size + 1) 3 #[.int .i64 n]
theorem sboxes (r n : Int) (w W : World) (hW : W = (w.alloc (.cells #[.int .i64 r] 3)).alloc (.cells #[.int .i64 n] 3)) :
    SInv r n w 0 W ∧ W.heap.size = w.heap.size + 2 ∧ Below w.heap.size w W := by
  refine ⟨⟨?_, ?_⟩, by rw [hW]; simp, by rw [hW]; exact ((Below.refl _ _).alloc (Nat.le_refl _) _).alloc (by simp) _⟩
  · rw [hW]; exact (Blk.new w _ _).alloc _
  · rw [hW]; simpa using Blk.new (w.alloc (.cells #[.int .i64 r] 3)) 3 #[.int .i64 n]

theorem li_clo (h : Nat) (r n : Int) (w : World) (hh : h ≤ 60) (r0 : 0 ≤ r) (r1 : r ≤ 10000) (n0 : 0 ≤ n) (n1 : n ≤ 60) :
    Clo 43 #[.pointer (some ⟨w.heap.size + 1, 0, none⟩), .pointer (some ⟨w.heap.size, 0, none⟩)] w.heap.size (w.heap.size + 2) (h + 1) (liV r n) (SInv r n w) := by
  refine ⟨enters_of Try.func43 (by kernel_rfl) rfl, ?_, ?_⟩
  · rintro t w' ht ⟨b1, b2⟩ hs
    refine (li1_any t w.heap.size r n w' (by omega) r0 r1 n0 n1 b1 b2).mono ?_
    rintro e w'' ⟨rfl, rfl⟩
    exact ⟨rfl, ⟨b1, b2⟩, Below.refl _ _, fun _ _ _ => rfl⟩
  · rintro t w1 w2 ⟨b1, b2⟩ he
    exact ⟨b1.same (he _ (by omega)), b2.same (he _ (by omega))⟩
theorem build_at (k : FuncId) (cs : Array Value) (B0 n : Nat) (F : Nat → Int) (Inv : Nat → World → Prop) (w : World) (N : Int) (hN : N = (n : Int)) (hn : n ≤ 61) (hB : B0 ≤ w.heap.size)
    (hc : Clo k cs B0 w.heap.size n F Inv) (h0 : Inv 0 w) :
    Calls Try.prog 42 #[.int .i64 N, .func (.func k) #[] cs] w (Built B0 (tab n F) w) := by
  subst hN; exact build_any k cs B0 n F Inv w hn hB hc h0

set_option maxHeartbeats 800000 in
theorem line_any (h r n : Int) (w : World) :
    Calls Try.prog 34 #[.int .i64 h, .int .i64 r, .int .i64 n] w (Ans (resL (shE h r n 0 60) (tab (h.toNat + 1) (liV r n))) (resE (shE h r n 0 60) (tab (h.toNat + 1) (liV r n))) w) := by
  obtain ⟨W, hW⟩ : ∃ W, W = (w.alloc (.cells #[.int .i64 r] 3)).alloc (.cells #[.int .i64 n] 3) := ⟨_, rfl⟩
  obtain ⟨hb, hz, hbel⟩ := sboxes r n w W hW
  have c1 := hb.1.cell 0
  have c2 := hb.2.cell 0
  simp at c1 c2
  have HW := Lib.hid hW
  have HZ := Lib.hid hz
  clear hW hz
  cases o1 : outB h 0 60
  · cases o2 : outB r 0 10000
    · cases o3 : outB n 0 60
      · obtain ⟨h0, h60⟩ := outB_false o1
        obtain ⟨r0, r1⟩ := outB_false o2
        obtain ⟨n0, n1⟩ := outB_false o3
        obtain ⟨k, rfl⟩ := Int.eq_ofNat_of_zero_le h0
        obtain ⟨HE, HL⟩ : Hid (resE (shE k r n 0 60) (tab ((k : Int).toNat + 1) (liV r n)) = fitE (tab (k + 1) (liV r n))) ∧ Hid (resL (shE k r n 0 60) (tab ((k : Int).toNat + 1) (liV r n)) = fitL (tab (k + 1) (liV r n))) := by
          rw [shE_yes o1 o2 o3, Int.toNat_natCast]; exact ⟨Lib.hid (by simp [resE]), Lib.hid (by simp [resL])⟩
        have HC := Lib.hid (li_clo k r n w (by omega) r0 r1 n0 n1)
        have O1 := Lib.hid o1
        have O2 := Lib.hid o2
        have O3 := Lib.hid o3
        clear o1 o2 o3
        go_enter Try.func34, Try.ntmps34
        go_wp2_with fail
        rw [← HW.out]
        refine (outside_any k 0 60 W).mono ?_
        rintro e w' ⟨rfl, rfl⟩
        rw [O1.out]
        go_wp2_with fail
        refine (outside_any r 0 10000 _).mono ?_
        rintro e w' ⟨rfl, rfl⟩
        rw [O2.out]
        go_wp2_with fail
        refine (outside_any n 0 60 _).mono ?_
        rintro e w' ⟨rfl, rfl⟩
        rw [O3.out]
        go_wp2_with fail
        refine (build_at _ _ w.heap.size (k + 1) (liV r n) (SInv r n w) W _ (by omega) (by omega) hbel.size (by rw [HZ.out]; exact HC.out) hb).mono ?_
        rintro e w1 ⟨A1, c1, rfl, o1, b1⟩
        go_wp2
        go_ret2
        refine ⟨A1, c1, by rw [HE.out, HL.out]; rfl, ?_, hbel.trans (b1.mono (Nat.le_refl _))⟩
        rw [HL.out]
        exact own_lower o1 (by have := HZ.out; omega)
      · obtain ⟨HE, HL⟩ : Hid (resE (shE h r n 0 60) (tab (h.toNat + 1) (liV r n)) = 1) ∧ Hid (resL (shE h r n 0 60) (tab (h.toNat + 1) (liV r n)) = []) := by
          rw [shE_no (by simp [o3])]; exact ⟨Lib.hid (res_err (by decide)).1, Lib.hid (res_err (by decide)).2⟩
        have O1 := Lib.hid o1
        have O2 := Lib.hid o2
        have O3 := Lib.hid o3
        clear o1 o2 o3
        go_enter Try.func34, Try.ntmps34
        go_wp2_with fail
        rw [← HW.out]
        refine (outside_any h 0 60 W).mono ?_
        rintro e w' ⟨rfl, rfl⟩
        rw [O1.out]
        go_wp2_with fail
        refine (outside_any r 0 10000 _).mono ?_
        rintro e w' ⟨rfl, rfl⟩
        rw [O2.out]
        go_wp2_with fail
        refine (outside_any n 0 60 _).mono ?_
        rintro e w' ⟨rfl, rfl⟩
        rw [O3.out]
        go_wp2
        go_ret2
        exact ⟨none, 0, by rw [HE.out, HL.out]; rfl, by rw [HL.out]; exact World.ownsRow_nil _ _ _ _, hbel⟩
    · obtain ⟨HE, HL⟩ : Hid (resE (shE h r n 0 60) (tab (h.toNat + 1) (liV r n)) = 1) ∧ Hid (resL (shE h r n 0 60) (tab (h.toNat + 1) (liV r n)) = []) := by
        rw [shE_no (by simp [o2])]; exact ⟨Lib.hid (res_err (by decide)).1, Lib.hid (res_err (by decide)).2⟩
      have O1 := Lib.hid o1
      have O2 := Lib.hid o2
      clear o1 o2
      go_enter Try.func34, Try.ntmps34
      go_wp2_with fail
      rw [← HW.out]
      refine (outside_any h 0 60 W).mono ?_
      rintro e w' ⟨rfl, rfl⟩
      rw [O1.out]
      go_wp2_with fail
      refine (outside_any r 0 10000 _).mono ?_
      rintro e w' ⟨rfl, rfl⟩
      rw [O2.out]
      go_wp2
      go_ret2
      exact ⟨none, 0, by rw [HE.out, HL.out]; rfl, by rw [HL.out]; exact World.ownsRow_nil _ _ _ _, hbel⟩
  · obtain ⟨HE, HL⟩ : Hid (resE (shE h r n 0 60) (tab (h.toNat + 1) (liV r n)) = 1) ∧ Hid (resL (shE h r n 0 60) (tab (h.toNat + 1) (liV r n)) = []) := by
      rw [shE_no (by simp [o1])]; exact ⟨Lib.hid (res_err (by decide)).1, Lib.hid (res_err (by decide)).2⟩
    have O1 := Lib.hid o1
    clear o1
    go_enter Try.func34, Try.ntmps34
    go_wp2_with fail
    rw [← HW.out]
    refine (outside_any h 0 60 W).mono ?_
    rintro e w' ⟨rfl, rfl⟩
    rw [O1.out]
    go_wp2
    go_ret2
    exact ⟨none, 0, by rw [HE.out, HL.out]; rfl, by rw [HL.out]; exact World.ownsRow_nil _ _ _ _, hbel⟩
theorem line_yes (k : Nat) (h r n : Int) (x : List Int) (w : World) (hk : h = (k : Int)) (k60 : k ≤ 60) (r0 : 0 ≤ r) (r1 : r ≤ 10000) (n0 : 0 ≤ n) (n1 : n ≤ 60) (hx : x = tab (k + 1) (liV r n)) (hb : bigB x = false) :
    Calls Try.prog 34 #[.int .i64 h, .int .i64 r, .int .i64 n] w (Ans x 0 w) := by
  subst hk
  have q := line_any k r n w
  rw [shE_yes (outB_no (by omega) (by omega)) (outB_no r0 r1) (outB_no n0 n1), Int.toNat_natCast, ← hx, (res_ok hb).1, (res_ok hb).2] at q
  exact q
end Go.Proofs.Ytmefekgbljhclaa
