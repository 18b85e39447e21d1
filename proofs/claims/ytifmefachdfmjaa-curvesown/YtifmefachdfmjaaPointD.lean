
/-
  Walks: point.Late, point.Up.
-/
import Derived.Test.YtifmefachdfmjaaPointC
namespace Go.Proofs.Ytifmefachdfmjaa
set_option linter.all false
open Go.RowKit Go.Shelf

/-- The values of Late. -/
def lateV (l : List Int) (d : Int) (t : Nat) : Int := if (t : Int) < d then 0 else gt l (t - d.toNat)
def lateE (l : List Int) (d : Int) : Int := if chk l ≠ 0 then chk l else if d < 0 then 1 else 0
def upE (l : List Int) (n : Int) : Int := if chk l ≠ 0 then chk l else if n < 0 ∨ 1000000 < n then 1 else 0

set_option maxHeartbeats 400000 in
theorem late1_any (A : Option Addr) (l : List Int) (c t g : Nat) (d : Int) (w : World) (h : Ints w A l) (ht : t < l.length) (hl : l.length ≤ 61) (hd : 0 ≤ d)
    (b1 : Blk w g 22 #[.slice A l.length c]) (b2 : Blk w (g + 1) 3 #[.int .i64 d]) :
    Calls Try.prog 62 #[.int .i64 t, .pointer (some ⟨g + 1, 0, none⟩), .pointer (some ⟨g, 0, none⟩)] w fun e w' => e = .returned (.int .i64 (lateV l d t)) ∧ w = w' := by
  have c1 := b1.cell 0
  have c2 := b2.cell 0
  simp at c1 c2
  by_cases htd : (t : Int) < d
  · have H : Hid (lateV l d t = 0) := Lib.hid (by simp [lateV, htd])
    go_enter Try.func62, Try.ntmps62
    go_wp2
    go_ret
    exact ⟨ret_int H.out.symm, rfl⟩
  · obtain ⟨n, rfl⟩ := Int.eq_ofNat_of_zero_le hd
    have hn : n ≤ t := by omega
    obtain ⟨bb, off, x, rfl, hcell, HX⟩ := h.at_ (k := t - n) (by omega)
    have H : Hid (lateV l n t = x) := Lib.hid (by simp only [lateV, if_neg htd, Int.toNat_natCast]; exact gt_of_get HX.out)
    go_enter Try.func62, Try.ntmps62
    go_wp2
    go_ret
    exact ⟨ret_int H.out.symm, rfl⟩

set_option maxHeartbeats 400000 in
theorem up1_any (A : Option Addr) (l : List Int) (c t g : Nat) (n : Int) (w : World) (h : Ints w A l) (ht : t < l.length) (hl : Cv l) (h0 : 0 ≤ n) (h1 : n ≤ 1000000)
    (b1 : Blk w g 22 #[.slice A l.length c]) (b2 : Blk w (g + 1) 3 #[.int .i64 n]) :
    Calls Try.prog 68 #[.int .i64 t, .pointer (some ⟨g, 0, none⟩), .pointer (some ⟨g + 1, 0, none⟩)] w fun e w' => e = .returned (.int .i64 (gt l t + n)) ∧ ∃ k, w' = w.drewN k := by
  have c1 := b1.cell 0
  have c2 := b2.cell 0
  simp at c1 c2
  obtain ⟨bb, off, x, rfl, hcell, HX⟩ := h.at_ ht
  have hx := gt_of_get HX.out
  have x0 : 0 ≤ x := by rw [← hx]; exact hl.lo t ht
  have x1 : x ≤ 1000000 := by rw [← hx]; exact hl.hi t ht
  have H := Lib.hid hx
  clear hx
  have i1 : (t : Int) < (l.length : Int) := by omega
  have e1 : IntKind.i64.wrap (x + n) = x + n := IntWalk.i64_in _ ⟨by omega, by omega⟩
  go_enter Try.func68, Try.ntmps68
  go_wp2
  go_quiet (fail)
  go_wp2
  go_ret
  exact ⟨ret_int (by rw [H.out]), _, rfl⟩

/-- What the function values of Late and Up need of memory: the old blocks and the two boxes. -/
def BInv (A : Option Addr) (n c : Nat) (x : Int) (wp : World) (_t : Nat) (w : World) : Prop :=
  (∀ b, b < wp.heap.size → w.heap[b]? = wp.heap[b]?) ∧ Blk w wp.heap.size 22 #[.slice A n c] ∧ Blk w (wp.heap.size + 1) 3 #[.int .i64 x]

theorem late_clo (A : Option Addr) (l : List Int) (c : Nat) (d : Int) (w : World) (h : Ints w A l) (hl : l.length ≤ 61) (hd : 0 ≤ d) :
    Clo 62 #[.pointer (some ⟨w.heap.size + 1, 0, none⟩), .pointer (some ⟨w.heap.size, 0, none⟩)] w.heap.size (w.heap.size + 2) l.length (lateV l d) (BInv A l.length c d w) := by
  refine ⟨enters_of Try.func62 (by kernel_rfl) rfl, ?_, ?_⟩
  · rintro t w' ht ⟨hold, b1, b2⟩ hs
    refine (late1_any A l c t w.heap.size d w' (h.heap hold) ht hl hd b1 b2).mono ?_
    rintro e w'' ⟨rfl, rfl⟩
    exact ⟨rfl, ⟨hold, b1, b2⟩, Below.refl _ _, fun _ _ _ => rfl⟩
  · rintro t w1 w2 ⟨hold, b1, b2⟩ he
    exact ⟨fun b hb => (he b (by omega)).trans (hold b hb), b1.same (he _ (by omega)), b2.same (he _ (by omega))⟩

theorem up_clo (A : Option Addr) (l : List Int) (c : Nat) (n : Int) (w : World) (h : Ints w A l) (hl : Cv l) (h0 : 0 ≤ n) (h1 : n ≤ 1000000) :
    Clo 68 #[.pointer (some ⟨w.heap.size, 0, none⟩), .pointer (some ⟨w.heap.size + 1, 0, none⟩)] w.heap.size (w.heap.size + 2) l.length (fun t => gt l t + n) (BInv A l.length c n w) := by
  refine ⟨enters_of Try.func68 (by kernel_rfl) rfl, ?_, ?_⟩
  · rintro t w' ht ⟨hold, b1, b2⟩ hs
    refine (up1_any A l c t w.heap.size n w' (h.heap hold) ht hl h0 h1 b1 b2).mono ?_
    rintro e w'' ⟨rfl, k, rfl⟩
    exact ⟨rfl, ⟨hold, b1, b2⟩, ⟨rfl, rfl, rfl, Nat.le_refl _, fun _ _ => rfl⟩, fun _ _ _ => rfl⟩
  · rintro t w1 w2 ⟨hold, b1, b2⟩ he
    exact ⟨fun b hb => (he b (by omega)).trans (hold b hb), b1.same (he _ (by omega)), b2.same (he _ (by omega))⟩

/-- The two boxes of Late and Up. -/
theorem boxes (A : Option Addr) (n c : Nat) (x : Int) (w W : World) (hW : W = (w.alloc (.cells #[.slice A n c] 22)).alloc (.cells #[.int .i64 x] 3)) :
    BInv A n c x w 0 W ∧ W.heap.size = w.heap.size + 2 ∧ Below w.heap.size w W := by
  refine ⟨⟨fun b hb => ?_, ?_, ?_⟩, by rw [hW]; simp, by rw [hW]; exact ((Below.refl _ _).alloc (Nat.le_refl _) _).alloc (by simp) _⟩
  · rw [hW, Below.heap_alloc _ _ b (by simp; omega), Below.heap_alloc _ _ b hb]
  · rw [hW]; exact (Blk.new w _ _).alloc _
  · rw [hW]; simpa using Blk.new (w.alloc (.cells #[.slice A n c] 22)) 3 #[.int .i64 x]


set_option maxHeartbeats 800000 in
theorem late_any (A : Option Addr) (l : List Int) (c : Nat) (d : Int) (w : World) (h : Ints w A l) :
    Calls Try.prog 28 #[.slice A l.length c, .int .i64 d] w (Ans (resL (lateE l d) (tab l.length (lateV l d))) (resE (lateE l d) (tab l.length (lateV l d))) w) := by
  obtain ⟨W, hW⟩ : ∃ W, W = (w.alloc (.cells #[.slice A l.length c] 22)).alloc (.cells #[.int .i64 d] 3) := ⟨_, rfl⟩
  obtain ⟨hb, hz, hbel⟩ := boxes A l.length c d w W hW
  have hW0 := h.below hbel
  have c1 := hb.2.1.cell 0
  have c2 := hb.2.2.cell 0
  simp at c1 c2
  have HW := Lib.hid hW
  have HZ := Lib.hid hz
  clear hW hz
  by_cases h1 : chk l = 0
  · have e1 : (chk l != 0) = false := by simp [h1]
    by_cases h2 : d < 0
    · obtain ⟨HE, HL⟩ : Hid (resE (lateE l d) (tab l.length (lateV l d)) = 1) ∧ Hid (resL (lateE l d) (tab l.length (lateV l d)) = []) := by
        have : lateE l d = 1 := by simp [lateE, h1, h2]
        rw [this]; exact ⟨Lib.hid (res_err (by decide)).1, Lib.hid (res_err (by decide)).2⟩
      clear h1
      go_enter Try.func28, Try.ntmps28
      go_wp2_with fail
      rw [← HW.out]
      refine (check_any A l c W hW0).mono ?_
      rintro e w' ⟨rfl, rfl⟩
      go_wp2
      go_ret2
      exact ⟨none, 0, by rw [HE.out, HL.out]; rfl, by rw [HL.out]; exact World.ownsRow_nil _ _ _ _, hbel⟩
    · obtain ⟨HE, HL⟩ : Hid (resE (lateE l d) (tab l.length (lateV l d)) = fitE (tab l.length (lateV l d))) ∧ Hid (resL (lateE l d) (tab l.length (lateV l d)) = fitL (tab l.length (lateV l d))) := by
        have : lateE l d = 0 := by simp [lateE, h1, h2]
        rw [this]; exact ⟨Lib.hid (by simp [resE]), Lib.hid (by simp [resL])⟩
      have hv := cv_of h1
      have hc := late_clo A l c d w h hv.le (by omega)
      have HC := Lib.hid hc
      clear h1 hc
      go_enter Try.func28, Try.ntmps28
      go_wp2_with fail
      rw [← HW.out]
      refine (check_any A l c W hW0).mono ?_
      rintro e w' ⟨rfl, rfl⟩
      go_wp2_with fail
      refine (build_any _ _ w.heap.size l.length (lateV l d) (BInv A l.length c d w) W hv.le hbel.size (by rw [HZ.out]; exact HC.out) hb).mono ?_
      rintro e w1 ⟨A1, c1, rfl, o1, b1⟩
      go_wp2
      go_ret2
      refine ⟨A1, c1, by rw [HE.out, HL.out]; rfl, ?_, hbel.trans (b1.mono (Nat.le_refl _))⟩
      rw [HL.out]
      exact own_lower o1 (by have := HZ.out; omega)
  · have e1 : (chk l != 0) = true := by simp [h1]
    obtain ⟨HE, HL⟩ : Hid (resE (lateE l d) (tab l.length (lateV l d)) = chk l) ∧ Hid (resL (lateE l d) (tab l.length (lateV l d)) = []) := by
      have : lateE l d = chk l := by simp [lateE, h1]
      rw [this]; exact ⟨Lib.hid (res_err h1).1, Lib.hid (res_err h1).2⟩
    clear h1
    go_enter Try.func28, Try.ntmps28
    go_wp2_with fail
    rw [← HW.out]
    refine (check_any A l c W hW0).mono ?_
    rintro e w' ⟨rfl, rfl⟩
    go_wp2
    go_ret2
    exact ⟨none, 0, by rw [HE.out, HL.out]; rfl, by rw [HL.out]; exact World.ownsRow_nil _ _ _ _, hbel⟩

set_option maxHeartbeats 800000 in
theorem up_any (A : Option Addr) (l : List Int) (c : Nat) (n : Int) (w : World) (h : Ints w A l) :
    Calls Try.prog 36 #[.slice A l.length c, .int .i64 n] w (Ans (resL (upE l n) (tab l.length fun t => gt l t + n)) (resE (upE l n) (tab l.length fun t => gt l t + n)) w) := by
  obtain ⟨W, hW⟩ : ∃ W, W = (w.alloc (.cells #[.slice A l.length c] 22)).alloc (.cells #[.int .i64 n] 3) := ⟨_, rfl⟩
  obtain ⟨hb, hz, hbel⟩ := boxes A l.length c n w W hW
  have hW0 := h.below hbel
  have c1 := hb.2.1.cell 0
  have c2 := hb.2.2.cell 0
  simp at c1 c2
  have HW := Lib.hid hW
  have HZ := Lib.hid hz
  clear hW hz
  obtain ⟨L, hL⟩ : ∃ L, L = tab l.length fun t => gt l t + n := ⟨_, rfl⟩
  rw [← hL]
  by_cases h1 : chk l = 0
  · have e1 : (chk l != 0) = false := by simp [h1]
    by_cases h2 : n < 0
    · obtain ⟨HE, HL⟩ : Hid (resE (upE l n) L = 1) ∧ Hid (resL (upE l n) L = []) := by
        have : upE l n = 1 := by simp [upE, h1, h2]
        rw [this]; exact ⟨Lib.hid (res_err (by decide)).1, Lib.hid (res_err (by decide)).2⟩
      have e2 : decide (n < 0) = true := decide_eq_true h2
      clear h1 hL
      go_enter Try.func36, Try.ntmps36
      go_wp2_with fail
      rw [← HW.out]
      refine (check_any A l c W hW0).mono ?_
      rintro e w' ⟨rfl, rfl⟩
      go_wp2
      go_ret2
      exact ⟨none, 0, by rw [HE.out, HL.out]; rfl, by rw [HL.out]; exact World.ownsRow_nil _ _ _ _, hbel⟩
    by_cases h3 : 1000000 < n
    · obtain ⟨HE, HL⟩ : Hid (resE (upE l n) L = 1) ∧ Hid (resL (upE l n) L = []) := by
        have : upE l n = 1 := by simp [upE, h1, h3]
        rw [this]; exact ⟨Lib.hid (res_err (by decide)).1, Lib.hid (res_err (by decide)).2⟩
      have e2 : decide (n < 0) = false := decide_eq_false h2
      have e3 : decide (1000000 < n) = true := decide_eq_true h3
      clear h1 hL
      go_enter Try.func36, Try.ntmps36
      go_wp2_with fail
      rw [← HW.out]
      refine (check_any A l c W hW0).mono ?_
      rintro e w' ⟨rfl, rfl⟩
      go_wp2
      go_ret2
      exact ⟨none, 0, by rw [HE.out, HL.out]; rfl, by rw [HL.out]; exact World.ownsRow_nil _ _ _ _, hbel⟩
    · obtain ⟨HE, HL⟩ : Hid (resE (upE l n) L = fitE L) ∧ Hid (resL (upE l n) L = fitL L) := by
        have : upE l n = 0 := by simp [upE, h1]; omega
        rw [this]; exact ⟨Lib.hid (by simp [resE]), Lib.hid (by simp [resL])⟩
      have hv := cv_of h1
      have hc := up_clo A l c n w h hv (by omega) (by omega)
      have HC := Lib.hid hc
      have e2 : decide (n < 0) = false := decide_eq_false h2
      have e3 : decide (1000000 < n) = false := decide_eq_false h3
      have HLL := Lib.hid hL
      clear h1 hc hL
      go_enter Try.func36, Try.ntmps36
      go_wp2_with fail
      rw [← HW.out]
      refine (check_any A l c W hW0).mono ?_
      rintro e w' ⟨rfl, rfl⟩
      go_wp2_with fail
      refine (build_any _ _ w.heap.size l.length (fun t => gt l t + n) (BInv A l.length c n w) W hv.le hbel.size (by rw [HZ.out]; exact HC.out) hb).mono ?_
      rw [← HLL.out]
      rintro e w1 ⟨A1, c1, rfl, o1, b1⟩
      go_wp2
      go_ret2
      refine ⟨A1, c1, by rw [HE.out, HL.out]; rfl, ?_, hbel.trans (b1.mono (Nat.le_refl _))⟩
      rw [HL.out]
      exact own_lower o1 (by have := HZ.out; omega)
  · have e1 : (chk l != 0) = true := by simp [h1]
    obtain ⟨HE, HL⟩ : Hid (resE (upE l n) L = chk l) ∧ Hid (resL (upE l n) L = []) := by
      have : upE l n = chk l := by simp [upE, h1]
      rw [this]; exact ⟨Lib.hid (res_err h1).1, Lib.hid (res_err h1).2⟩
    clear h1 hL
    go_enter Try.func36, Try.ntmps36
    go_wp2_with fail
    rw [← HW.out]
    refine (check_any A l c W hW0).mono ?_
    rintro e w' ⟨rfl, rfl⟩
    go_wp2
    go_ret2
    exact ⟨none, 0, by rw [HE.out, HL.out]; rfl, by rw [HL.out]; exact World.ownsRow_nil _ _ _ _, hbel⟩

end Go.Proofs.Ytifmefachdfmjaa
