
/-
  Walks of package share: Check, upTo, Done; what it owes, shown.
-/
import Derived.Test.YtlaandbaaepamaaShrC
namespace Go.Proofs.Ytlaandbaaepamaa
set_option linter.all false
open Go.RowKit Go.Shelf Go.Lib

theorem rowAt_skip {n k : Nat} (F : Nat → Int) (h : k < n) (h0 : F k = 0) : rowAt n (k + 1) F = rowAt n k F := by
  have e : n - k = (n - (k + 1)) + 1 := by omega
  simp only [rowAt]
  rw [e, List.replicate_succ, tab_succ, List.map_append, h0]
  simp

/-- What is wrong with a backlog: said as far as k. -/
def OkTo (l : List Int) (k : Nat) : Prop := ∀ i, i < k → 0 ≤ gt l i ∧ gt l i ≤ 1000
theorem OkTo.next {l : List Int} {k : Nat} (h : OkTo l k) (h' : 0 ≤ gt l k ∧ gt l k ≤ 1000) : OkTo l (k + 1) := fun i hi => by
  by_cases e : i = k
  · rw [e]; exact h'
  · exact h i (by omega)
theorem she_bad {l : List Int} {r : Int} {k : Nat} (h8 : ¬ 8 < l.length) (hk : k < l.length) (h : ¬ (0 ≤ gt l k ∧ gt l k ≤ 1000)) : shE l r = 1 := by
  unfold shE
  rw [if_neg h8, if_pos]
  left
  cases c : lgsB l with
  | false => rfl
  | true => exact absurd (lgs_iff.1 c k hk) h
theorem she_end {l : List Int} {r : Int} (h8 : ¬ 8 < l.length) (h : OkTo l l.length) : shE l r = if r < 1 ∨ 10000 < r then 1 else 0 := by
  have e := lgs_iff.2 h
  unfold shE
  rw [if_neg h8, e]
  by_cases c : r < 1 ∨ 10000 < r
  · rw [if_pos (.inr c), if_pos c]
  · rw [if_neg c, if_neg]
    rintro (h | h)
    · exact absurd h (by decide)
    · exact c h
set_option maxHeartbeats 800000 in
theorem shCheck_any (A : Option Addr) (l : List Int) (c : Nat) (r : Int) (w : World) (h : Ints w A l) :
    Calls Try.prog 37 #[.slice A l.length c, .int .i64 r] w fun e w' => e = .returned (.int .i64 (shE l r)) ∧ w = w' := by
  by_cases h8 : 8 < l.length
  · have i0 : 8 < (l.length : Int) := by omega
    have HE : Hid (shE l r = 2) := Lib.hid (by rw [shE, if_pos h8])
    clear h8
    go_enter Try.func37, Try.ntmps37
    go_wp2
    go_ret
    exact ⟨ret_int HE.out.symm, rfl⟩
  · have i0 : ¬ 8 < (l.length : Int) := by omega
    have HB : Hid (∀ k, k < l.length → ¬ (0 ≤ gt l k ∧ gt l k ≤ 1000) → shE l r = 1) := Lib.hid (fun k hk => she_bad h8 hk)
    have HN : Hid (OkTo l l.length → shE l r = if r < 1 ∨ 10000 < r then 1 else 0) := Lib.hid (she_end h8)
    clear h8
    go_enter Try.func37, Try.ntmps37
    go_wp2
    go_loop [12] (fun i => ∃ k : Nat, k ≤ l.length ∧ i = .int .i64 k ∧ Hid (OkTo l k)) (fun i => l.length - (intOf i).toNat)
    case atStart => exact ⟨0, Nat.zero_le _, rfl, Lib.hid (fun i hi => by omega)⟩
    case round =>
      obtain ⟨k, hk, rfl, HK⟩ := hrel
      by_cases hlt : k < l.length
      · obtain ⟨b1, o1, x, rfl, hc1, HX⟩ := h.at_ hlt
        have hx := gt_of_get HX.out
        have i1 : (k : Int) < (l.length : Int) := by omega
        by_cases q : x < 0 ∨ 1000 < x
        · have HE : Hid (shE l r = 1) := Lib.hid (HB.out k hlt (by rw [hx]; omega))
          have q1 := lim_yes q
          clear q hx
          go_wp2_with fail
          refine (lim_any x 0 1000 true _ q1).mono ?_
          rintro e w' ⟨rfl, rfl⟩
          go_wp2
          go_ret
          exact ⟨ret_int HE.out.symm, rfl⟩
        · have HD := Lib.hid (HK.out.next (by rw [hx]; omega))
          have q1 : Hid (decide (x < 0 ∨ 1000 < x) = false) := Lib.hid (decide_eq_false q)
          clear q hx
          go_wp2_with fail
          refine (lim_any x 0 1000 false _ q1).mono ?_
          rintro e w' ⟨rfl, rfl⟩
          go_wp2
          go_round
          case rel => exact ⟨k + 1, by omega, by go_num, HD⟩
          case measure => simp [intOf]; omega
      · obtain rfl : k = l.length := by omega
        have i1 : ¬ (l.length : Int) < (l.length : Int) := by omega
        by_cases q : r < 1 ∨ 10000 < r
        · have HE : Hid (shE l r = 1) := Lib.hid (by rw [HN.out HK.out, if_pos q])
          have q1 := lim_yes q
          clear q
          go_wp2_with fail
          refine (lim_any r 1 10000 true _ q1).mono ?_
          rintro e w' ⟨rfl, rfl⟩
          go_wp2
          go_ret
          exact ⟨ret_int HE.out.symm, rfl⟩
        · have HE : Hid (shE l r = 0) := Lib.hid (by rw [HN.out HK.out, if_neg q])
          have q1 : Hid (decide (r < 1 ∨ 10000 < r) = false) := Lib.hid (decide_eq_false q)
          clear q
          go_wp2_with fail
          refine (lim_any r 1 10000 false _ q1).mono ?_
          rintro e w' ⟨rfl, rfl⟩
          go_wp2
          go_ret
          exact ⟨ret_int HE.out.symm, rfl⟩

/-- How many bytes went of the first k, up to and with i's last. -/
def upS (l : List Int) (i k : Nat) : Int := sg (wentV l (gt l i - 1) (i + 1)) k
theorem up_all {l : List Int} {i : Nat} (hi : i < l.length) : upS l i l.length = lastV l i + 1 := by
  have := pos_next (l := l) (r := gt l i - 1) hi
  rw [if_pos (by omega)] at this
  exact this
theorem up_bd {l : List Int} (v : Lags l) {i : Nat} (p : 0 < gt l i) {k : Nat} (hk : k ≤ l.length) : 0 ≤ upS l i k ∧ upS l i k ≤ 8000 := by
  have h1 : ∀ j, j < k → 0 ≤ wentV l (gt l i - 1) (i + 1) j ∧ wentV l (gt l i - 1) (i + 1) j ≤ 1000 := fun j hj => by
    have := v.lo j (by omega)
    have := v.hi j (by omega)
    unfold wentV; split <;> omega
  have h2 := sg_nonneg k (fun j hj => (h1 j hj).1)
  have h3 := sg_le (g := fun _ => 1000) k (fun j hj => (h1 j hj).2)
  rw [sg_const] at h3
  have := v.le
  unfold upS
  omega
theorem up_next (l : List Int) (i k : Nat) : upS l i (k + 1) = upS l i k + min (gt l k) (if i < k then gt l i - 1 else gt l i) := by
  unfold upS
  simp only [sg]
  unfold wentV
  by_cases c : i < k
  · rw [if_pos c, if_neg (show ¬ k < i + 1 by omega)]
  · rw [if_neg c, if_pos (show k < i + 1 by omega)]
    omega
set_option maxHeartbeats 1600000 in
theorem upTo_any (A : Option Addr) (l : List Int) (n c i : Nat) (V : Int) (w : World) (h : Ints w A l) (v : Lags l) (hi : i < l.length) (p : 0 < gt l i) (hV : Hid (lastV l i + 1 = V)) (hn : n = l.length) :
    Calls Try.prog 38 #[.slice A n c, .int .i64 i] w fun e w' => e = .returned (.int .i64 V) ∧ w = w' := by
  subst hn
  have hle := v.le
  have HV : Hid (upS l i l.length = V) := Lib.hid ((up_all hi).trans hV.out)
  have BD : Hid (∀ k, k ≤ l.length → 0 ≤ upS l i k ∧ upS l i k ≤ 8000) := Lib.hid (fun k => up_bd v p)
  have HT : Hid (∀ k, upS l i (k + 1) = upS l i k + min (gt l k) (if i < k then gt l i - 1 else gt l i)) := Lib.hid (fun k => up_next l i k)
  obtain ⟨b0, o0, G, rfl, hcG, HG⟩ := h.at_ hi
  have hG := gt_of_get HG.out
  have g0 : 0 < G := by rw [← hG]; exact p
  have g1 : G ≤ 1000 := by rw [← hG]; exact v.hi i hi
  rw [hG] at HT
  have i2 : (i : Int) < (l.length : Int) := by omega
  clear p hV HG
  obtain ⟨S, hS⟩ : ∃ S, S = upS l i := ⟨_, rfl⟩
  rw [← hS] at HV BD HT
  have H0 : Hid (S 0 = 0) := Lib.hid (by rw [hS]; rfl)
  clear hS hG
  have m2 : IntKind.i64.wrap (G - 1) = G - 1 := IntWalk.i64_in _ ⟨by omega, by omega⟩
  go_enter Try.func38, Try.ntmps38
  go_wp2
  go_loop [5, 11] (fun s j => ∃ k : Nat, k ≤ l.length ∧ s = .int .i64 (S k) ∧ j = .int .i64 k) (fun _ j => l.length - (intOf j).toNat)
  case atStart => exact ⟨0, Nat.zero_le _, by rw [H0.out], rfl⟩
  case round =>
    obtain ⟨k, hk, rfl, rfl⟩ := hrel
    by_cases hlt : k < l.length
    · obtain ⟨b1, o1, x, hA, hc1, HX⟩ := h.at_ hlt
      injection hA with hA
      injection hA with hb ho _
      subst hb ho
      have hx := gt_of_get HX.out
      have x0 : 0 ≤ x := by rw [← hx]; exact v.lo k hlt
      have x1 : x ≤ 1000 := by rw [← hx]; exact v.hi k hlt
      have i1 : (k : Int) < (l.length : Int) := by omega
      have hs := BD.out k hk
      have hn := HT.out k
      rw [hx] at hn
      obtain ⟨T, hT⟩ : ∃ T, T = S k := ⟨_, rfl⟩
      rw [← hT] at hs hn ⊢
      have s0 := hs.1
      have s1 := hs.2
      clear hs hx hT
      by_cases d : i < k
      · rw [if_pos d] at hn
        have d1 : (i : Int) < (k : Int) := by omega
        have HN : Hid (∀ y, y = min x (G - 1) → S (k + 1) = T + y) := Lib.hid (fun y hy => by rw [hn, hy])
        clear hn
        rcases Int.lt_trichotomy x (G - 1) with q | q | q
        · have m1 : IntKind.i64.wrap (T + x) = T + x := IntWalk.i64_in _ ⟨by omega, by omega⟩
          have HP := Lib.hid (HN.out x (by omega))
          go_wp2
          go_round
          case rel => exact ⟨k + 1, by omega, by rw [HP.out], by go_num⟩
          case measure => simp [intOf]; omega
        · subst q
          have m1 : IntKind.i64.wrap (T + (G - 1)) = T + (G - 1) := IntWalk.i64_in _ ⟨by omega, by omega⟩
          have HP := Lib.hid (HN.out (G - 1) (by omega))
          go_wp2
          go_round
          case rel => exact ⟨k + 1, by omega, by rw [HP.out], by go_num⟩
          case measure => simp [intOf]; omega
        · have m1 : IntKind.i64.wrap (T + (G - 1)) = T + (G - 1) := IntWalk.i64_in _ ⟨by omega, by omega⟩
          have HP := Lib.hid (HN.out (G - 1) (by omega))
          go_wp2
          go_round
          case rel => exact ⟨k + 1, by omega, by rw [HP.out], by go_num⟩
          case measure => simp [intOf]; omega
      · rw [if_neg d] at hn
        have d1 : ¬ (i : Int) < (k : Int) := by omega
        have HN : Hid (∀ y, y = min x G → S (k + 1) = T + y) := Lib.hid (fun y hy => by rw [hn, hy])
        clear hn
        rcases Int.lt_trichotomy x G with q | q | q
        · have m1 : IntKind.i64.wrap (T + x) = T + x := IntWalk.i64_in _ ⟨by omega, by omega⟩
          have HP := Lib.hid (HN.out x (by omega))
          go_wp2
          go_round
          case rel => exact ⟨k + 1, by omega, by rw [HP.out], by go_num⟩
          case measure => simp [intOf]; omega
        · subst q
          have m1 : IntKind.i64.wrap (T + x) = T + x := IntWalk.i64_in _ ⟨by omega, by omega⟩
          have HP := Lib.hid (HN.out x (by omega))
          go_wp2
          go_round
          case rel => exact ⟨k + 1, by omega, by rw [HP.out], by go_num⟩
          case measure => simp [intOf]; omega
        · have m1 : IntKind.i64.wrap (T + G) = T + G := IntWalk.i64_in _ ⟨by omega, by omega⟩
          have HP := Lib.hid (HN.out G (by omega))
          go_wp2
          go_round
          case rel => exact ⟨k + 1, by omega, by rw [HP.out], by go_num⟩
          case measure => simp [intOf]; omega
    · obtain rfl : k = l.length := by omega
      have i1 : ¬ (l.length : Int) < (l.length : Int) := by omega
      go_wp2
      go_ret
      exact ⟨ret_int HV.out, rfl⟩

theorem up_div {a r : Int} (r0 : 1 ≤ r) : (a + 1 + r - 1) / r = a / r + 1 := by
  rw [show a + 1 + r - 1 = a + 1 * r by omega, Int.add_mul_ediv_right _ _ (show r ≠ 0 by omega)]
set_option maxHeartbeats 1600000 in
theorem sdone_any (A : Option Addr) (l : List Int) (c : Nat) (r : Int) (w : World) (h : Ints w A l) :
    Calls Try.prog 25 #[.slice A l.length c, .int .i64 r] w (Ans (shY l r) (shE l r) w) := by
  by_cases hE : shE l r = 0
  · have ok := sh_iff.1 hE
    have v := ok.lags
    have r0 := ok.r0
    have r1 := ok.r1
    have hle := v.le
    obtain ⟨F, hF⟩ : ∃ F, F = shV l r := ⟨_, rfl⟩
    have HL : Hid (shY l r = tab l.length F) := Lib.hid (by rw [shY_yes hE, hF]; rfl)
    have HE := Lib.hid hE
    have e1 : (shE l r != 0) = false := by simp [hE]
    have HZ : Hid (∀ k, gt l k = 0 → F k = 0) := Lib.hid (fun k hk => by rw [hF, shV, if_pos hk])
    have HP : Hid (∀ k, 0 < gt l k → F k = lastV l k / r + 1) := Lib.hid (fun k hk => by rw [hF, shV, if_neg (by omega)])
    have HU : Hid (∀ k, k < l.length → 0 < gt l k → 0 ≤ lastV l k ∧ lastV l k ≤ 8000) := Lib.hid (fun k hk p => by
      have h1 := last_lo v hk p
      have h2 := last_hi v hk p
      have h3 := (sum_hi v).2
      omega)
    have HD := Lib.hid (fun k (hk : k < l.length) => by have := sh_bd v r0 hk; rw [← hF] at this; exact this)
    have z : (r == 0) = false := by rw [beq_eq_false_iff_ne]; omega
    clear hE hF ok
    have hmk := fun W => run_make_row' (P := Try.prog) 29 3 (.int .i64 0) 8 Try.underlying29 int_info rfl .i64 .i64 l.length (by omega) (by omega) W
    obtain ⟨b, hbk⟩ : ∃ b, b = w.heap.size := ⟨_, rfl⟩
    have G := Lib.hid hbk
    have gle : w.heap.size ≤ b := by omega
    clear hbk
    go_enter Try.func25, Try.ntmps25
    go_wp2_with fail
    refine (shCheck_any A l c r _ h).mono ?_
    rintro e w' ⟨rfl, rfl⟩
    go_wp2
    rw [← G.out]
    go_loopw [21] (fun i wr => ∃ k : Nat, k ≤ l.length ∧ i = .int .i64 k ∧ Blk wr b 3 (rowAt l.length k F).toArray ∧ Below w.heap.size w wr) (fun i _ => l.length - (intOf i).toNat)
    case atStart =>
      refine ⟨0, Nat.zero_le _, rfl, ?_, (Below.refl _ w).alloc (Nat.le_refl _) _⟩
      rw [rowAt_zero, G.out]; exact Blk.new _ _ _
    case round =>
      obtain ⟨k, hk, rfl, B0, hbel⟩ := hrel
      by_cases hlt : k < l.length
      · have h' := h.below hbel
        obtain ⟨b1, o1, x, rfl, hc1, HX⟩ := h'.at_ hlt
        have hx := gt_of_get HX.out
        have x0 : 0 ≤ x := by rw [← hx]; exact v.lo k hlt
        have i1 : (k : Int) < (l.length : Int) := by omega
        by_cases q : 0 < x
        · have hp : 0 < gt l k := by omega
          obtain ⟨V, hV⟩ : ∃ V, V = lastV l k := ⟨_, rfl⟩
          have hu := HU.out k hlt hp
          have hf := HP.out k hp
          rw [← hV] at hu hf
          have u0 := hu.1
          have u1 := hu.2
          have m1 : IntKind.i64.wrap (V + 1 + r) = V + 1 + r := IntWalk.i64_in _ ⟨by omega, by omega⟩
          have m2 : IntKind.i64.wrap (V + 1 + r - 1) = V + 1 + r - 1 := IntWalk.i64_in _ ⟨by omega, by omega⟩
          have m3 : Int.tdiv (V + 1 + r - 1) r = F k := by rw [hf, ← up_div r0]; exact Int.tdiv_eq_ediv_of_nonneg (by omega)
          obtain ⟨Y, hY⟩ : ∃ Y, Y = F k := ⟨_, rfl⟩
          rw [← hY] at m3
          have y0 : 0 ≤ Y ∧ Y ≤ 8000 := by rw [hY]; exact HD.out k hlt
          have m4 : IntKind.i64.wrap Y = Y := IntWalk.i64_in _ ⟨by omega, by omega⟩
          have q1 : Hid (lastV l k + 1 = V + 1) := Lib.hid (by rw [hV])
          have ck : wr.cell? ⟨b, k, none⟩ = some (.int .i64 0) := by rw [B0.cell k]; simpa using rowAt_get F hlt
          have fk := B0.frozen k
          have gl := B0.lt
          have R0 : Hid (Blk (wr.setCell ⟨b, k, none⟩ (.int .i64 Y)) b 3 (rowAt l.length (k + 1) F).toArray) := Lib.hid (by
            have q := B0.set_ k (.int .i64 Y)
            rw [hY, rowAt_succ F hlt] at q
            rw [hY]; exact q)
          have HB2 : Hid (Below w.heap.size w (wr.setCell ⟨b, k, none⟩ (.int .i64 Y))) := Lib.hid (hbel.setCell (p := ⟨b, k, none⟩) gle _)
          clear hx hV hu hf y0 hY B0 hbel
          go_wp2_with fail
          refine (upTo_any _ l _ _ k (V + 1) _ h' v hlt hp q1 rfl).mono ?_
          rintro e w' ⟨rfl, rfl⟩
          go_wp2
          go_roundw
          case rel => exact ⟨k + 1, by omega, by go_num, R0.out, HB2.out⟩
          case measure => simp [intOf]; omega
        · have R0 : Hid (Blk wr b 3 (rowAt l.length (k + 1) F).toArray) := Lib.hid (by
            rw [rowAt_skip F hlt (HZ.out k (by omega))]; exact B0)
          clear hx B0
          go_wp2
          go_roundw
          case rel => exact ⟨k + 1, by omega, by go_num, R0.out, hbel⟩
          case measure => simp [intOf]; omega
      · obtain rfl : k = l.length := by omega
        have i1 : ¬ (l.length : Int) < (l.length : Int) := by omega
        go_wp2
        go_ret2
        rw [rowAt_full] at B0
        refine ⟨some ⟨b, 0, none⟩, l.length, by rw [HE.out, HL.out, length_tab]; rfl, ?_, hbel⟩
        rw [HL.out, length_tab]
        have := own_of_blk (n := l.length) B0 gle (length_tab _ _).symm (by omega)
        rwa [length_tab] at this
  · have HL : Hid (shY l r = []) := Lib.hid (shY_no hE)
    have e1 : (shE l r != 0) = true := by simp [hE]
    clear hE
    go_enter Try.func25, Try.ntmps25
    go_wp2_with fail
    refine (shCheck_any A l c r _ h).mono ?_
    rintro e w' ⟨rfl, rfl⟩
    go_wp2
    go_ret2
    exact Ans.of_none HL.out rfl rfl

theorem shrC : ShrC := ⟨fun A l c r w h => (shCheck_any A l c r w h).mono (by rintro e w' ⟨rfl, rfl⟩; exact ⟨rfl, Below.refl _ _⟩), sdone_any⟩

end Go.Proofs.Ytlaandbaaepamaa
