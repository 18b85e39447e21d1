
/-
  Walks: parts.best, parts.Two, parts.Any, parts.Limit, over whatever function value keeps to its contract.
-/
import Derived.Test.YtlaandbaaepamaaConvP
import Derived.Test.YtlaandbaaepamaaCloP
import Derived.Test.YtlaandbaaepamaaRefA
import Derived.Test.YtlaandbaaepamaaPointA
import Derived.StillTailTactics
namespace Go.Proofs.Ytlaandbaaepamaa
set_option linter.all false
open Go.RowKit Go.Shelf

/-- Values from 0 to 10^8. -/
structure Bd (l : List Int) : Prop where
  lo : ∀ i, i < l.length → 0 ≤ gt l i
  hi : ∀ i, i < l.length → gt l i ≤ 100000000
theorem Nd.bd {l : List Int} {B : Int} (h : Nd B l) (hB : B ≤ 100000000) : Bd l := ⟨h.lo, fun i hi => Int.le_trans (h.hi i hi) hB⟩

theorem Ints.drop {w : World} {b off : Nat} {l : List Int} (h : Ints w (some ⟨b, off, none⟩) l) (t : Nat) : Ints w (some ⟨b, off + t, none⟩) (l.drop t) := by
  refine ⟨by have := h.1; simp; omega, fun hl => ?_⟩
  simp at hl
  obtain ⟨b', off', e, hc⟩ := h.2 (by omega)
  obtain ⟨rfl, rfl⟩ : b' = b ∧ off' = off := by injection e with e; injection e with e1 e2; exact ⟨e1.symm, e2.symm⟩
  refine ⟨b', off' + t, rfl, fun j hj => ?_⟩
  simp at hj
  have := hc (t + j) (by omega)
  rw [Nat.add_assoc, this]
  simp [List.getD]
theorem gt_drop (l : List Int) (t u : Nat) : gt (l.drop t) u = gt l (t + u) := by simp [gt, List.getD]
theorem Bd.drop {l : List Int} (h : Bd l) (t : Nat) : Bd (l.drop t) :=
  ⟨fun i hi => by simp at hi; rw [gt_drop]; exact h.lo _ (by omega), fun i hi => by simp at hi; rw [gt_drop]; exact h.hi _ (by omega)⟩

theorem Ints.of_blk {w : World} {g : Nat} {L : List Int} (h : Blk w g 3 (L.map (Value.int .i64)).toArray) (hl : L.length ≤ 1000) : Ints w (some ⟨g, 0, none⟩) L :=
  ⟨by omega, fun _ => ⟨g, 0, rfl, fun j hj => by rw [h.cell]; simp [List.getD, List.getElem?_eq_getElem hj]⟩⟩
/-- A function value 'func(a, b int) int' that answers b of the two, and leaves the world alone. -/
structure Bet (k : FuncId) (b : Int → Int → Int) : Prop where
  ent : ∀ args w, (callFunc k args).run Try.prog w = .ok (.enter k args) w
  call : ∀ (x y : Int) (w : World), Calls Try.prog k #[.int .i64 x, .int .i64 y] w fun e w' => e = .returned (.int .i64 (b x y)) ∧ w = w'

set_option maxHeartbeats 400000 in
theorem lesser_bet : Bet 48 min := by
  refine ⟨enters_of Try.func48 (by kernel_rfl) rfl, fun x y w => ?_⟩
  obtain ⟨z, hz⟩ : ∃ z, z = min x y := ⟨_, rfl⟩
  rw [← hz]
  have HZ : Hid (z = min x y) := Lib.hid hz
  clear hz
  rcases Int.lt_trichotomy x y with hxy | rfl | hxy
  · go_enter Try.func48, Try.ntmps48
    go_wp2
    go_ret
    exact ⟨ret_int (by rw [HZ.out]; omega), rfl⟩
  · go_enter Try.func48, Try.ntmps48
    go_wp2
    go_ret
    exact ⟨ret_int (by rw [HZ.out]; omega), rfl⟩
  · go_enter Try.func48, Try.ntmps48
    go_wp2
    go_ret
    exact ⟨ret_int (by rw [HZ.out]; omega), rfl⟩
set_option maxRecDepth 100000 in
set_option maxHeartbeats 800000 in
theorem best_any (k : FuncId) (b : Int → Int → Int) (hk : Bet k b) (A B : Option Addr) (l m : List Int) (nl nm c d t : Nat) (w : World) (h : Ints w A l) (h' : Ints w B m) (ht : t < l.length) (htm : t < m.length) (h61 : t < 61) (bl : Bd l) (bm : Bd m) (hl : nl = l.length) (hm : nm = m.length) :
    Calls Try.prog 50 #[.slice A nl c, .slice B nm d, .int .i64 t, .func (.func k) #[] #[]] w fun e w' => e = .returned (.int .i64 (twV b (gt l) (gt m) t)) ∧ ∃ n, w' = w.drewN n := by
  subst hl hm
  obtain ⟨D, hD⟩ : ∃ D, D = fun s => gt l s + gt m (t - s) := ⟨_, rfl⟩
  have HV : Hid (twV b (gt l) (gt m) t = fo b D t) := Lib.hid (by rw [hD]; rfl)
  obtain ⟨b1, o1, x, rfl, hc1, HX⟩ := h.at_ (k := 0) (by omega)
  obtain ⟨b2, o2, y, rfl, hc2, HY⟩ := h'.at_ (k := t) htm
  simp only [Nat.add_zero] at hc1
  have hx := gt_of_get HX.out
  have hy := gt_of_get HY.out
  have x0 : 0 ≤ x := by rw [← hx]; exact bl.lo 0 (by omega)
  have x1 : x ≤ 100000000 := by rw [← hx]; exact bl.hi 0 (by omega)
  have y0 : 0 ≤ y := by rw [← hy]; exact bm.lo t htm
  have y1 : y ≤ 100000000 := by rw [← hy]; exact bm.hi t htm
  have H0 : Hid (x + y = fo b D 0) := Lib.hid (by rw [hD]; simp only [fo, Nat.sub_zero]; rw [hx, hy])
  have HD := Lib.hid hD
  clear hx hy hD
  have i0 : (0 : Int) < (l.length : Int) := by omega
  have i2 : (t : Int) < (m.length : Int) := by omega
  have e1 : IntKind.i64.wrap (x + y) = x + y := IntWalk.i64_in _ ⟨by omega, by omega⟩
  have hent := hk.ent
  go_enter Try.func50, Try.ntmps50
  go_wp2
  go_quiet (fail)
  clear e1 hc2 i2
  go_wp2
  go_loopw [9, 10] (fun v i wi => ∃ s n : Nat, 1 ≤ s ∧ s ≤ t + 1 ∧ i = .int .i64 s ∧ v = .int .i64 (fo b D (s - 1)) ∧ wi = w.drewN n) (fun _ i _ => t + 1 - (intOf i).toNat)
  case atStart => exact ⟨1, _, Nat.le_refl _, by omega, rfl, by rw [H0.out], rfl⟩
  case round =>
    obtain ⟨s, n, hs1, hs, rfl, rfl, rfl⟩ := hrel
    obtain ⟨M, hM⟩ : ∃ M, M = fo b D (s - 1) := ⟨_, rfl⟩
    rw [← hM]
    by_cases hst : s ≤ t
    · obtain ⟨W, hW⟩ : ∃ W, W = w.drewN n := ⟨_, rfl⟩
      have r0 := h.drewN n
      have r1 := h'.drewN n
      rw [← hW] at r0 r1 ⊢
      have HWD := Lib.hid hW
      clear hW hc1
      obtain ⟨b1', o1', x, e, hc1, HX⟩ := r0.at_ (k := s) (by omega)
      obtain ⟨rfl, rfl⟩ : b1' = b1 ∧ o1' = o1 := by injection e with e; injection e with e1 e2; exact ⟨e1.symm, e2.symm⟩
      clear e
      obtain ⟨b2', o2', y, e, hc2, HY⟩ := r1.at_ (k := t - s) (by omega)
      obtain ⟨rfl, rfl⟩ : b2' = b2 ∧ o2' = o2 := by injection e with e; injection e with e1 e2; exact ⟨e1.symm, e2.symm⟩
      clear e
      have hx := gt_of_get HX.out
      have hy := gt_of_get HY.out
      have x0 : 0 ≤ x := by rw [← hx]; exact bl.lo s (by omega)
      have x1 : x ≤ 100000000 := by rw [← hx]; exact bl.hi s (by omega)
      have y0 : 0 ≤ y := by rw [← hy]; exact bm.lo _ (by omega)
      have y1 : y ≤ 100000000 := by rw [← hy]; exact bm.hi _ (by omega)
      have HN : Hid (fo b D (s + 1 - 1) = b M (x + y)) := Lib.hid (by
        obtain ⟨j, rfl⟩ : ∃ j, s = j + 1 := ⟨s - 1, by omega⟩
        rw [hM]; simp only [Nat.add_sub_cancel, fo]; rw [HD.out]; simp only; rw [hx, hy])
      have HM := Lib.hid hM
      clear hx hy hM
      have i1 : (s : Int) < (l.length : Int) := by omega
      have i2 : ((t - s : Nat) : Int) < (m.length : Int) := by omega
      have e0 : IntKind.i64.wrap ((t : Int) - (s : Int)) = ((t - s : Nat) : Int) := by rw [IntWalk.i64_in _ ⟨by omega, by omega⟩]; omega
      have e1 : IntKind.i64.wrap (x + y) = x + y := IntWalk.i64_in _ ⟨by omega, by omega⟩
      go_wp2
      go_still_tail 13, (by kernel_rfl)
      change wpList _ _ _ _ _ W.drew
      go_wp2_with fail
      refine (hk.call _ _ _).mono ?_
      rintro e w' ⟨rfl, rfl⟩
      go_wp2
      go_roundw
      case rel => exact ⟨s + 1, n + 1, by omega, by omega, by go_num, by rw [HN.out], by rw [HWD.out]; rfl⟩
      case measure => simp [intOf]; omega
    · obtain rfl : s = t + 1 := by omega
      have HW : Hid (twV b (gt l) (gt m) t = M) := Lib.hid (by rw [HV.out, hM]; rfl)
      clear hM
      go_wp2
      go_ret
      exact ⟨ret_int HW.out.symm, _, rfl⟩

set_option maxHeartbeats 800000 in
theorem two_any (k : FuncId) (b : Int → Int → Int) (hk : Bet k b) (A B : Option Addr) (l m : List Int) (c d : Nat) (w : World) (h : Ints w A l) (h' : Ints w B m) (h61 : l.length ≤ 61) (hlm : l.length ≤ m.length) (bl : Bd l) (bm : Bd m) :
    Calls Try.prog 47 #[.slice A l.length c, .slice B m.length d, .func (.func k) #[] #[]] w (AnsL (twL b l m) w) := by
  obtain ⟨F, hF⟩ : ∃ F, F = twV b (gt l) (gt m) := ⟨_, rfl⟩
  have HL : Hid (twL b l m = tab l.length F) := Lib.hid (by rw [hF]; rfl)
  have HF := Lib.hid hF
  clear hF
  have hmk := fun W => run_make_row' (P := Try.prog) 29 3 (.int .i64 0) 8 Try.underlying29 int_info rfl .i64 .i64 l.length (by omega) (by omega) W
  go_enter Try.func47, Try.ntmps47
  go_wp2
  go_loopw [14] (fun i wr => ∃ k : Nat, k ≤ l.length ∧ i = .int .i64 k ∧ Blk wr w.heap.size 3 (rowAt l.length k F).toArray ∧ Below w.heap.size w wr) (fun i _ => l.length - (intOf i).toNat)
  case atStart =>
    refine ⟨0, Nat.zero_le _, rfl, ?_, ?_⟩
    · rw [rowAt_zero]; exact Blk.new _ _ _
    · exact (Below.refl _ _).alloc (Nat.le_refl _) _
  case round =>
    obtain ⟨t, ht, rfl, hblk, hbel⟩ := hrel
    by_cases hlt : t < l.length
    · have hcell1 : wr.cell? ⟨w.heap.size, t, none⟩ = some (.int .i64 0) := by rw [hblk.cell t]; simpa using rowAt_get F hlt
      have hfz1 := hblk.frozen t
      have r0 := h.below hbel
      have r1 := h'.below hbel
      go_wp2_with fail
      refine (best_any k b hk A B l m _ _ c d t wr r0 r1 hlt (by omega) (by omega) bl bm rfl rfl).mono ?_
      rintro e w1 ⟨rfl, n, rfl⟩
      rw [← HF.out]
      go_wp2
      go_roundw
      case rel =>
        refine ⟨t + 1, by omega, by go_num, ?_, ?_⟩
        · rw [← rowAt_succ F hlt]; exact Blk.set_ (w := wr.drewN n) hblk t _
        · exact Below.setCell (w := wr.drewN n) ⟨hbel.os, hbel.tape, hbel.output, hbel.size, hbel.block⟩ (Nat.le_refl _) _
      case measure => simp [intOf]; omega
    · obtain rfl : t = l.length := by omega
      go_wp2
      go_ret
      refine AnsL.of ?_ hbel
      rw [HL.out, length_tab]
      rw [rowAt_full] at hblk
      exact ⟨by simp [length_tab], .inr ⟨w.heap.size, l.length, _, rfl, Nat.le_refl _, hblk, Nat.le_refl _, by unfold maxLen; omega, by simp [length_tab], by simp [length_tab, List.take_of_length_le]⟩⟩

/-- The row behind k rounds, as numbers. -/
def rowI (n k : Nat) (F : Nat → Int) : List Int := tab k F ++ List.replicate (n - k) 0
theorem rowI_map (n k : Nat) (F : Nat → Int) : rowAt n k F = (rowI n k F).map (Value.int .i64) := by simp [rowAt, rowI]
theorem rowI_length {n k : Nat} (F : Nat → Int) (h : k ≤ n) : (rowI n k F).length = n := by simp [rowI, length_tab]; omega
theorem rowI_gt {n k i : Nat} (F : Nat → Int) (h : i < k) : gt (rowI n k F) i = F i := by
  unfold rowI; rw [gt_left (by rwa [length_tab]), gt_tab F h]
theorem rowI_zero {n k i : Nat} (F : Nat → Int) (h : k ≤ i) : gt (rowI n k F) i = 0 := by
  unfold rowI gt List.getD
  rw [List.getElem?_append_right (by rwa [length_tab]), List.getElem?_replicate]
  split <;> rfl
theorem rowI_one {n : Nat} {F : Nat → Int} (h : 0 < n) (h0 : F 0 = 0) : (rowAt n 1 F).toArray = madeCells #[Value.int .i64 0] n := by
  rw [← rowAt_zero n F, ← rowAt_succ F h, h0]
  obtain ⟨j, rfl⟩ : ∃ j, n = j + 1 := ⟨n - 1, by omega⟩
  apply Array.ext'
  simp [rowAt, tab_zero, List.replicate_succ]

theorem last_cell {w : World} {A : Option Addr} {l : List Int} (h : Ints w A l) (hp : 0 < l.length) : ∃ b off x, A = some ⟨b, off, none⟩ ∧ w.cell? ⟨b, off + (l.length - 1), none⟩ = some (.int .i64 x) ∧ Hid (gt l (l.length - 1) = x) := by
  obtain ⟨b, off, x, e, hc, HX⟩ := h.at_ (k := l.length - 1) (by omega)
  exact ⟨b, off, x, e, hc, Lib.hid (gt_of_get HX.out)⟩

set_option maxHeartbeats 400000 in
theorem limit_ok (A : Option Addr) (l : List Int) (nl c : Nat) (w : World) (h : Ints w A l) (hp : 0 < l.length) (hb : gt l (l.length - 1) ≤ 1000000) (hn : nl = l.length) :
    Calls Try.prog 46 #[.slice A nl c] w fun e w' => e = .returned (.tuple #[.slice A nl c, .int .i64 0]) ∧ w = w' := by
  subst hn
  have hl := h.1
  obtain ⟨b1, o1, x, rfl, hc1, HX⟩ := last_cell h hp
  have x1 : x ≤ 1000000 := by rw [← HX.out]; exact hb
  obtain ⟨k, hk⟩ : ∃ k, k = l.length - 1 := ⟨_, rfl⟩
  rw [← hk] at hc1
  have e0 : (l.length : Int) - 1 = (k : Int) := by omega
  have i1 : (k : Int) < (l.length : Int) := by omega
  clear hk hb
  go_enter Try.func46, Try.ntmps46
  go_wp2
  go_ret2
  exact ⟨rfl, rfl⟩

set_option maxHeartbeats 400000 in
theorem limit_big (A : Option Addr) (l : List Int) (nl c : Nat) (w : World) (h : Ints w A l) (hp : 0 < l.length) (hb : 1000000 < gt l (l.length - 1)) (hn : nl = l.length) :
    Calls Try.prog 46 #[.slice A nl c] w fun e w' => e = .returned (.tuple #[.slice none 0 0, .int .i64 2]) ∧ w = w' := by
  subst hn
  have hl := h.1
  obtain ⟨b1, o1, x, rfl, hc1, HX⟩ := last_cell h hp
  have x1 : 1000000 < x := by rw [← HX.out]; exact hb
  obtain ⟨k, hk⟩ : ∃ k, k = l.length - 1 := ⟨_, rfl⟩
  rw [← hk] at hc1
  have e0 : (l.length : Int) - 1 = (k : Int) := by omega
  have i1 : (k : Int) < (l.length : Int) := by omega
  clear hk hb
  go_enter Try.func46, Try.ntmps46
  go_wp2
  go_ret2
  exact ⟨rfl, rfl⟩

end Go.Proofs.Ytlaandbaaepamaa
