
/-
  Walks: deconv.most, deconv.Of; the document's own deconvolution: pair by pair.
-/
import Derived.Test.YtnjeelmlabefjaaConvC
import Derived.Test.YtnjeelmlabefjaaPointB
namespace Go.Proofs.Ytnjeelmlabefjaa
set_option linter.all false
open Go.RowKit Go.Shelf

/-- By how much l is above m, at the most. -/
def mostV (l m : List Int) (n : Nat) : Int := mx (fun u => gt l u - gt m u) n

set_option maxHeartbeats 800000 in
theorem most_any (A B : Option Addr) (l m : List Int) (nl c d : Nat) (w : World) (h : Ints w A l) (h' : Ints w B m) (h61 : l.length ≤ 61) (hlm : l.length ≤ m.length) (bl : Bd l) (bm : Bd m) (hn : nl = l.length) :
    Calls Try.prog 60 #[.slice A nl c, .slice B m.length d] w fun e w' => e = .returned (.int .i64 (mostV l m l.length)) ∧ ∃ n, w' = w.drewN n := by
  subst hn
  go_enter Try.func60, Try.ntmps60
  go_wp2
  go_loopw [5, 9] (fun b i wi => ∃ s n : Nat, s ≤ l.length ∧ i = .int .i64 s ∧ b = .int .i64 (mostV l m s) ∧ wi = w.drewN n) (fun _ i _ => l.length - (intOf i).toNat)
  case atStart => exact ⟨0, 0, Nat.zero_le _, rfl, rfl, rfl⟩
  case round =>
    obtain ⟨s, n, hs, rfl, rfl, rfl⟩ := hrel
    obtain ⟨M, hM⟩ : ∃ M, M = mostV l m s := ⟨_, rfl⟩
    rw [← hM]
    by_cases hst : s < l.length
    · obtain ⟨b1, o1, x, rfl, hc1, HX⟩ := h.at_ (k := s) hst
      obtain ⟨b2, o2, y, rfl, hc2, HY⟩ := h'.at_ (k := s) (by omega)
      have hx := gt_of_get HX.out
      have hy := gt_of_get HY.out
      have x0 : 0 ≤ x := by rw [← hx]; exact bl.lo s (by omega)
      have x1 : x ≤ 100000000 := by rw [← hx]; exact bl.hi s (by omega)
      have y0 : 0 ≤ y := by rw [← hy]; exact bm.lo s (by omega)
      have y1 : y ≤ 100000000 := by rw [← hy]; exact bm.hi s (by omega)
      have HN : Hid (mostV l m (s + 1) = max M (x - y)) := Lib.hid (by unfold mostV at hM ⊢; simp only [mx]; rw [← hM, hx, hy])
      have HM := Lib.hid hM
      clear hx hy hM
      have i1 : (s : Int) < (l.length : Int) := by omega
      have i2 : (s : Int) < (m.length : Int) := by omega
      have e1 : IntKind.i64.wrap (x - y) = x - y := IntWalk.i64_in _ ⟨by omega, by omega⟩
      by_cases hxy : M < x - y
      · go_wp2
        go_quiet (fail)
        go_wp2
        go_roundw
        case rel => exact ⟨s + 1, _, by omega, by go_num, by rw [HN.out]; congr 1; omega, rfl⟩
        case measure => simp [intOf]; omega
      · have hxy' : x - y ≤ M := by omega
        go_wp2
        go_quiet (fail)
        go_wp2
        go_roundw
        case rel => exact ⟨s + 1, _, by omega, by go_num, by rw [HN.out]; congr 1; omega, rfl⟩
        case measure => simp [intOf]; omega
    · obtain rfl : s = l.length := by omega
      have HW := Lib.hid hM
      clear hM
      go_wp2
      go_ret
      exact ⟨ret_int HW.out, _, rfl⟩

theorem most_dc (l m : List Int) (t : Nat) : mostV (l.drop t) m (l.drop t).length = dcV l m t := by
  unfold mostV dcV
  rw [List.length_drop]
  congr 1
  funext u
  rw [gt_drop]

set_option maxHeartbeats 1600000 in
theorem deconv_any (A B : Option Addr) (l m : List Int) (c d : Nat) (w : World) (h : Ints w A l) (h' : Ints w B m) (hcap : l.length ≤ c) :
    Calls Try.prog 55 #[.slice A l.length c, .slice B m.length d] w (Ans (resL (chk2 l m) (dcL l m)) (resE (chk2 l m) (dcL l m)) w) := by
  by_cases h2 : chk2 l m = 0
  · obtain ⟨v0, v1, e1⟩ := chk2_iff.1 h2
    have cv := v0.deconv v1 e1
    have b0 := v0.nd.bd (by decide)
    have b1 := v1.nd.bd (by decide)
    have g61 := v0.le
    have glm := Nat.le_of_eq e1
    have HD : Hid ((decide (chk2 l m = 0) && leB l m) = leB l m) := Lib.hid (by simp [h2])
    have t1 : (chk2 l m != 0) = false := by simp [h2]
    have hE : Hid (resE (chk2 l m) (dcL l m) = 0) := Lib.hid (by rw [h2]; exact (res_ok (bigB_no.2 cv.hi)).1)
    have hL : Hid (resL (chk2 l m) (dcL l m) = dcL l m) := Lib.hid (by rw [h2]; exact (res_ok (bigB_no.2 cv.hi)).2)
    clear h2 e1
    obtain ⟨F, hF⟩ : ∃ F, F = dcV l m := ⟨_, rfl⟩
    have HLF : Hid (dcL l m = tab l.length F) := Lib.hid (by rw [hF]; rfl)
    have HF := Lib.hid hF
    clear hF
    have hmk := fun W => run_make_row' (P := Try.prog) 22 3 (.int .i64 0) 8 Try.underlying22 int_info rfl .i64 .i64 l.length (by omega) (by omega) W
    have hp := v0.pos
    obtain ⟨bb, off, rfl, _⟩ := h.2 hp
    go_enter Try.func55, Try.ntmps55
    go_wp2_with fail
    refine (le_any _ B l m c d _ h h').mono ?_
    rintro e w4 ⟨rfl, n4, rfl⟩
    rw [HD.out]
    go_wp2
    go_loopw [24] (fun i wr => ∃ k : Nat, k ≤ l.length ∧ i = .int .i64 k ∧ Blk wr w.heap.size 3 (rowAt l.length k F).toArray ∧ Below w.heap.size w wr) (fun i _ => l.length - (intOf i).toNat)
    case atStart =>
      refine ⟨0, Nat.zero_le _, rfl, ?_, ?_⟩
      · rw [rowAt_zero]; exact Blk.new (w.drewN n4) _ _
      · exact (below_of_drewN (n := n4) rfl).alloc (Nat.le_refl _) _
    case round =>
      obtain ⟨t, ht, rfl, hblk, hbel⟩ := hrel
      by_cases hlt : t < l.length
      · have hcell1 : wr.cell? ⟨w.heap.size, t, none⟩ = some (.int .i64 0) := by rw [hblk.cell t]; simpa using rowAt_get F hlt
        have hfz1 := hblk.frozen t
        have r0 := (h.below hbel).drop t
        have r1 := h'.below hbel
        have hne : ¬ c = t := by omega
        have hle : (t : Int) ≤ (l.length : Int) := by omega
        have HM := Lib.hid (most_dc l m t)
        go_wp2_with fail
        refine (most_any _ B (l.drop t) m _ _ d wr r0 r1 (by simp; omega) (by simp; omega) (b0.drop t) b1 (by simp)).mono ?_
        rintro e w1 ⟨rfl, n, rfl⟩
        rw [HM.out, ← HF.out]
        go_wp2
        go_roundw
        case rel =>
          refine ⟨t + 1, by omega, by go_num, ?_, ?_⟩
          · rw [← rowAt_succ F hlt]; exact Blk.set_ (w := wr.drewN n) hblk t _
          · exact Below.setCell (w := wr.drewN n) ⟨hbel.os, hbel.tape, hbel.output, hbel.size, hbel.block⟩ (Nat.le_refl _) _
        case measure => simp [intOf]; omega
      · obtain rfl : t = l.length := by omega
        go_wp2
        go_ret2
        rw [rowAt_full] at hblk
        refine ⟨some ⟨w.heap.size, 0, none⟩, l.length, by rw [hE.out, hL.out, HLF.out, length_tab]; rfl, ?_, hbel⟩
        rw [hL.out, HLF.out, length_tab]
        have := own_of_blk (n := l.length) hblk (Nat.le_refl _) (length_tab _ _).symm (by omega)
        rwa [length_tab] at this
  · have t1 : (chk2 l m != 0) = true := by simp [h2]
    have hE : Hid (resE (chk2 l m) (dcL l m) = chk2 l m) := Lib.hid (by simp [resE, h2])
    have hL : Hid (resL (chk2 l m) (dcL l m) = []) := Lib.hid (by simp [resL, h2])
    have HD : Hid ((decide (chk2 l m = 0) && leB l m) = false) := Lib.hid (by simp [h2])
    clear h2
    go_enter Try.func55, Try.ntmps55
    go_wp2_with fail
    refine (le_any A B l m c d _ h h').mono ?_
    rintro e w4 ⟨rfl, n4, rfl⟩
    rw [HD.out]
    go_wp2
    go_ret2
    exact ⟨none, 0, by rw [hE.out, hL.out]; rfl, by rw [hL.out]; exact World.ownsRow_nil _ _ _ _, below_of_drewN rfl⟩

/-- What the document's deconvolution has at the pair (a, b). -/
structure DInv (n : Nat) (f g : Nat → Int) (a b : Nat) (L : List Int) : Prop where
  len : L.length = n
  lo : ∀ t, t < n → 0 ≤ gt L t
  low : ∀ i j t, i < n → i = t + j → Dn a b i j → f i - g j ≤ gt L t
  at_ : ∀ t, t < n → gt L t = 0 ∨ ∃ i j, i < n ∧ i = t + j ∧ gt L t = f i - g j

theorem DInv.init (n : Nat) (f g : Nat → Int) : DInv n f g 0 0 (List.replicate n 0) :=
  ⟨by simp, fun t ht => by rw [gt_replicate ht]; exact Int.le_refl _, fun i j t _ _ h => by rcases h with h | ⟨_, h⟩ <;> omega, fun t ht => .inl (gt_replicate ht)⟩
theorem DInv.put {n : Nat} {f g : Nat → Int} {a b : Nat} {L : List Int} (h : DInv n f g a b L) (ha : a < n) (hab : b ≤ a) (hlt : gt L (a - b) < f a - g b) : DInv n f g a (b + 1) (L.set (a - b) (f a - g b)) := by
  have hl := h.len
  refine ⟨by simpa using hl, fun t ht => ?_, fun i j t hi ht hd => ?_, fun t ht => ?_⟩
  · rw [gt_set (by omega)]
    have := h.lo t ht
    by_cases e : t = a - b
    · rw [if_pos e]; subst e; omega
    · rw [if_neg e]; exact this
  · rw [gt_set (by omega)]
    by_cases e : t = a - b
    · rw [if_pos e]
      by_cases ei : i = a
      · obtain rfl : j = b := by omega
        subst ei; exact Int.le_refl _
      · have := h.low i j t hi ht (by rcases hd with hd | ⟨hd, _⟩; exact .inl hd; omega)
        rw [e] at this; omega
    · rw [if_neg e]
      refine h.low i j t hi ht ?_
      rcases hd with hd | ⟨hd, hj⟩
      · exact .inl hd
      · exact .inr ⟨hd, by omega⟩
  · rw [gt_set (by omega)]
    by_cases e : t = a - b
    · rw [if_pos e]; exact .inr ⟨a, b, ha, by omega, rfl⟩
    · rw [if_neg e]; exact h.at_ t ht
theorem DInv.keep {n : Nat} {f g : Nat → Int} {a b : Nat} {L : List Int} (h : DInv n f g a b L) (hk : a < b ∨ f a - g b ≤ gt L (a - b)) : DInv n f g a (b + 1) L := by
  refine ⟨h.len, h.lo, fun i j t hi ht hd => ?_, h.at_⟩
  by_cases e : i = a ∧ j = b
  · obtain ⟨rfl, rfl⟩ := e
    rcases hk with hk | hk
    · omega
    · rwa [show i - j = t by omega] at hk
  · refine h.low i j t hi ht ?_
    rcases hd with hd | ⟨hd, hj⟩
    · exact .inl hd
    · exact .inr ⟨hd, by omega⟩
theorem DInv.row {n : Nat} {f g : Nat → Int} {a : Nat} {L : List Int} (h : DInv n f g a n L) : DInv n f g (a + 1) 0 L := by
  refine ⟨h.len, h.lo, fun i j t hi ht hd => ?_, h.at_⟩
  refine h.low i j t hi ht ?_
  rcases hd with hd | ⟨_, hd⟩
  · by_cases e : i = a
    · exact .inr ⟨e, by omega⟩
    · exact .inl (by omega)
  · omega
theorem DInv.all {l m L : List Int} (h : DInv l.length (gt l) (gt m) l.length 0 L) : L = dcL l m := by
  refine eq_tab h.len (fun t ht => (dc_eq (h.lo t ht) (fun i j hi e => ?_) ?_).symm)
  · exact h.low i j t hi e (.inl hi)
  · rcases h.at_ t ht with h1 | ⟨i, j, h1, h2, h3⟩
    · exact .inl h1
    · exact .inr ⟨i, j, h1, h2, by omega⟩

end Go.Proofs.Ytnjeelmlabefjaa
