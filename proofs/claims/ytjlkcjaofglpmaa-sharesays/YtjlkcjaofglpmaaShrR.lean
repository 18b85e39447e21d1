
/-
  Walks: the document's own sharing (headref.Shared), byte by byte.
-/
import Derived.Test.YtjlkcjaofglpmaaShrA
import Derived.Test.YtjlkcjaofglpmaaLineK
import Derived.Test.YtjlkcjaofglpmaaLfbA
namespace Go.Proofs.Ytjlkcjaofglpmaa
set_option linter.all false
open Go.RowKit Go.Shelf Go.Lib

/-- What i still lags by; what is written of it; has one still lagged? -/
def lfV (l : List Int) (r : Int) (i k : Nat) : Int := gt l k - wentV l r i k
def ouV (l : List Int) (rate r : Int) (i k : Nat) : Int := if gt l k ≤ (if k < i then r + 1 else r) then shV l rate k else 0
def smB (l : List Int) (r : Int) : Nat → Bool
  | 0 => false
  | i + 1 => smB l r i || decide (r < gt l i)
theorem sm_false {l : List Int} {r : Int} : ∀ n, smB l r n = false → ∀ k, k < n → gt l k ≤ r
  | n + 1, h, k, hk => by
    simp only [smB, Bool.or_eq_false_iff, decide_eq_false_iff_not] at h
    by_cases e : k = n
    · subst e; omega
    · exact sm_false n h.1 k (by omega)
theorem sm_true {l : List Int} {r : Int} : ∀ n, smB l r n = true → ∃ k, k < n ∧ r < gt l k
  | 0, h => by simp [smB] at h
  | n + 1, h => by
    simp only [smB, Bool.or_eq_true, decide_eq_true_iff] at h
    rcases h with h | h
    · obtain ⟨k, hk, q⟩ := sm_true n h
      exact ⟨k, by omega, q⟩
    · exact ⟨n, by omega, h⟩
theorem lf_zero {l : List Int} (v : Lags l) {k : Nat} (hk : k < l.length) : lfV l 0 0 k = gt l k := by
  have := v.lo k hk
  unfold lfV wentV; rw [if_neg (by omega)]; omega
theorem lf_turn {l : List Int} {r : Int} {k : Nat} (hk : k < l.length) : lfV l (r + 1) 0 k = lfV l r l.length k := by
  unfold lfV wentV; rw [if_pos hk, if_neg (by omega)]
theorem lf_at {l : List Int} {r : Int} {i : Nat} : lfV l r i i = max 0 (gt l i - r) := by
  unfold lfV wentV; rw [if_neg (by omega)]; omega
theorem lf_next {l : List Int} {r : Int} {i : Nat} (h : r < gt l i) : lfV l r (i + 1) i = gt l i - r - 1 := by
  unfold lfV wentV; rw [if_pos (by omega)]; omega
theorem lf_other {l : List Int} {r : Int} {i k : Nat} (h : k ≠ i) : lfV l r (i + 1) k = lfV l r i k := by
  unfold lfV wentV
  by_cases c : k < i
  · rw [if_pos c, if_pos (by omega)]
  · rw [if_neg c, if_neg (by omega)]
theorem lf_idle {l : List Int} {r : Int} {i : Nat} (h : gt l i ≤ r) (k : Nat) : lfV l r (i + 1) k = lfV l r i k := by
  by_cases e : k = i
  · subst e; unfold lfV wentV; rw [if_pos (by omega), if_neg (by omega)]; omega
  · exact lf_other e
theorem ou_zero {l : List Int} (v : Lags l) {rate : Int} {k : Nat} (hk : k < l.length) : ouV l rate 0 0 k = 0 := by
  have := v.lo k hk
  unfold ouV; rw [if_neg (show ¬ k < 0 by omega)]
  by_cases c : gt l k ≤ 0
  · rw [if_pos c, shV, if_pos (by omega)]
  · rw [if_neg c]
theorem ou_turn {l : List Int} {rate r : Int} {k : Nat} (hk : k < l.length) : ouV l rate (r + 1) 0 k = ouV l rate r l.length k := by
  unfold ouV; rw [if_neg (show ¬ k < 0 by omega), if_pos hk]
theorem ou_other {l : List Int} {rate r : Int} {i k : Nat} (h : k ≠ i) : ouV l rate r (i + 1) k = ouV l rate r i k := by
  unfold ouV
  by_cases c : k < i
  · rw [if_pos c, if_pos (show k < i + 1 by omega)]
  · rw [if_neg c, if_neg (show ¬ k < i + 1 by omega)]
theorem ou_stay {l : List Int} {rate r : Int} {i : Nat} (h : gt l i ≠ r + 1) (k : Nat) : ouV l rate r (i + 1) k = ouV l rate r i k := by
  by_cases e : k = i
  · subst e
    unfold ouV
    rw [if_pos (show k < k + 1 by omega), if_neg (show ¬ k < k by omega)]
    by_cases c : gt l k ≤ r
    · rw [if_pos c, if_pos (by omega)]
    · rw [if_neg c, if_neg (by omega)]
  · exact ou_other e
theorem ou_hit {l : List Int} {rate r : Int} {i : Nat} (r0 : 0 ≤ r) (h : gt l i = r + 1) : ouV l rate r (i + 1) i = posV l r i / rate + 1 := by
  unfold ouV
  rw [if_pos (show i < i + 1 by omega), if_pos (by omega), shV, if_neg (by omega), lastV, h, show r + 1 - 1 = r by omega]
theorem ou_all {l : List Int} {rate r : Int} (h : ∀ k, k < l.length → gt l k ≤ r) {k : Nat} (hk : k < l.length) : ouV l rate r l.length k = shV l rate k := by
  unfold ouV; rw [if_pos hk, if_pos (by have := h k hk; omega)]

theorem pos_grow {l : List Int} {r : Int} : ∀ i, i ≤ l.length → posV l r 0 + (if smB l r i = true then 1 else 0) ≤ posV l r i
  | 0, _ => by simp [smB]
  | i + 1, h => by
    have ih := pos_grow (l := l) (r := r) i (by omega)
    rw [pos_next (by omega)]
    by_cases c : r < gt l i
    · rw [if_pos c]; split at ih <;> split <;> omega
    · rw [if_neg c, smB, decide_eq_false c, Bool.or_false]; omega
set_option maxRecDepth 100000 in
set_option maxHeartbeats 3200000 in
theorem refShared_any (A : Option Addr) (l : List Int) (n c : Nat) (rate : Int) (w : World) (h : Ints w A l) (v : Lags l) (r0 : 1 ≤ rate) (r1 : rate ≤ 10000) (hn : n = l.length) :
    Calls Try.prog 17 #[.slice A n c, .int .i64 rate] w (AnsL (shL l rate) w) := by
  subst hn
  have hle := v.le
  have hmk := fun W => run_make_row' (P := Try.prog) 22 3 (.int .i64 0) 8 Try.underlying22 int_info rfl .i64 .i64 l.length (by omega) (by omega) W
  have e0 : (rate == 0) = false := by rw [beq_eq_false_iff_ne]; omega
  have HPB : Hid (∀ r : Int, 0 ≤ r → ∀ i, 0 ≤ posV l r i ∧ posV l r i ≤ 8000) := Lib.hid (fun r hr i => by have := pos_bd v hr i; have := (sum_hi v).2; omega)
  have V := Lib.hid v
  clear v
  go_enter Try.func17, Try.ntmps17
  go_wp2_with fail
  refine (clone_all A l c _ h (by omega)).mono ?_
  rintro e w1 ⟨B, d, rfl, ob, b1⟩
  obtain ⟨g, hgg⟩ : ∃ g, 0 < l.length → (B = some ⟨g, 0, none⟩ ∧ LfB w1 g l.length d (gt l) ∧ w.heap.size ≤ g ∧ g < w1.heap.size) := by
    by_cases h0 : 0 < l.length
    · obtain ⟨g, cap, hv', hg, hgl⟩ := ob.form h0
      obtain ⟨rfl, rfl⟩ : B = some ⟨g, 0, none⟩ ∧ d = cap := by injection hv' with a b c; exact ⟨a, c⟩
      exact ⟨g, fun _ => ⟨rfl, (LfB.of_own ob).1, hg, hgl⟩⟩
    · exact ⟨0, fun k => absurd k h0⟩
  obtain ⟨g', hg'⟩ : ∃ g', g' = w1.heap.size := ⟨_, rfl⟩
  obtain ⟨W, hW⟩ : ∃ W, W = w1.alloc (.cells (madeCells #[Value.int .i64 0] l.length) 3) := ⟨_, rfl⟩
  have W0 : LfB W g' l.length l.length (ouV l rate 0 0) := LfB.made (by rw [hW, hg']; exact Blk.new _ _ _) (fun k hk => ou_zero V.out hk)
  have bW : Below w.heap.size w W := by rw [hW]; exact below_trans b1 ((Below.refl _ w1).alloc (Nat.le_refl _) _)
  have gle : w.heap.size ≤ g' := by rw [hg']; exact b1.size
  have HG : Hid (0 < l.length → (B = some ⟨g, 0, none⟩ ∧ w.heap.size ≤ g ∧ ¬ g = g')) := Lib.hid (fun k => ⟨(hgg k).1, (hgg k).2.2.1, by have := (hgg k).2.2.2; omega⟩)
  have L0 : 0 < l.length → LfB W g l.length d (lfV l 0 0) := fun k => by rw [hW]; exact ((hgg k).2.1.alloc _).same (fun j hj => lf_zero V.out hj)
  have hmk1 := hmk w1
  rw [← hW, ← hg'] at hmk1
  clear hW hg' hmk hgg ob b1
  go_wp2
  go_loopw [7] (fun n wr => ∃ r : Nat, n = .int .i64 (posV l r 0) ∧ (0 < l.length → LfB wr g l.length d (lfV l r 0)) ∧ LfB wr g' l.length l.length (ouV l rate r 0) ∧ Below w.heap.size w wr) (fun n _ => (8001 - intOf n).toNat)
  case atStart => exact ⟨0, by rw [show ((0 : Nat) : Int) = 0 from rfl, pos_zero V.out], L0, W0, bW⟩
  case round =>
    obtain ⟨r, rfl, hL, hO, hbel⟩ := hrel
    obtain ⟨wq, hwq⟩ : ∃ wq, wq = wr := ⟨_, rfl⟩
    subst hwq
    go_wp2
    go_loopw [7, 8, 17] (fun n s j wi => ∃ i : Nat, i ≤ l.length ∧ n = .int .i64 (posV l r i) ∧ s = .bool (smB l r i) ∧ j = .int .i64 i ∧ (0 < l.length → LfB wi g l.length d (lfV l r i)) ∧ LfB wi g' l.length l.length (ouV l rate r i) ∧ Below w.heap.size w wi) (fun _ _ j _ => l.length - (intOf j).toNat)
    case atStart => exact ⟨0, Nat.zero_le _, rfl, rfl, rfl, hL, hO, hbel⟩
    case round =>
      clear hL hO hbel
      obtain ⟨i, hi, rfl, rfl, rfl, hL, hO, hbel⟩ := hrel
      by_cases hlt : i < l.length
      · have L1 := hL (by omega)
        obtain ⟨rfl, hg, ne⟩ := HG.out (by omega)
        clear hL
        obtain ⟨P, hP⟩ : ∃ P, P = posV l r i := ⟨_, rfl⟩
        have pb := HPB.out r (by omega) i
        rw [← hP] at pb
        obtain ⟨p0, p1⟩ := pb
        obtain ⟨y, hy⟩ : ∃ y, y = lfV l r i i := ⟨_, rfl⟩
        have cy := L1.cell hlt
        have fy := L1.frozen i
        rw [← hy] at cy
        have hy' := hy
        rw [lf_at] at hy'
        have x1 := V.out.hi i hlt
        have i1 : (i : Int) < (l.length : Int) := by omega
        have hpn := pos_next (l := l) (r := r) hlt
        rw [← hP] at hpn
        rw [← hP]
        by_cases q : (r : Int) < gt l i
        · rw [if_pos q] at hpn
          have s1 : IntKind.i64.wrap (y - 1) = y - 1 := IntWalk.i64_in _ ⟨by omega, by omega⟩
          have s2 : IntKind.i64.wrap (P + 1) = P + 1 := IntWalk.i64_in _ ⟨by omega, by omega⟩
          have z1 : (y == 0) = false := by rw [beq_eq_false_iff_ne]; omega
          have L2 : LfB (wr.setCell ⟨g, i, none⟩ (.int .i64 (y - 1))) g l.length d (lfV l r (i + 1)) := L1.store hlt (by rw [lf_next q]; omega) (fun j _ e => lf_other e)
          have c2 := L2.cell hlt
          rw [lf_next q, show gt l i - r - 1 = y - 1 by omega] at c2
          have b2 := hbel.setCell (p := ⟨g, i, none⟩) hg (.int .i64 (y - 1))
          have HPN := Lib.hid hpn
          have HSM : Hid (smB l r (i + 1) = true) := Lib.hid (by rw [smB, decide_eq_true q, Bool.or_true])
          by_cases k : gt l i = r + 1
          · have ne' : ¬ g' = g := fun e => ne e.symm
            have O1 : LfB (wr.setCell ⟨g, i, none⟩ (.int .i64 (y - 1))) g' l.length l.length (ouV l rate r i) := hO.past ne' _
            have co := O1.cell hlt
            have fo := O1.frozen i
            obtain ⟨Q, hQ⟩ : ∃ Q, Q = P / rate := ⟨_, rfl⟩
            have Q0 : 0 ≤ Q := by rw [hQ]; exact Int.ediv_nonneg p0 (by omega)
            have Q1 : Q ≤ P := by rw [hQ]; exact Int.ediv_le_self (b := rate) p0
            have s3 : Int.tdiv P rate = Q := by rw [hQ, Int.tdiv_eq_ediv_of_nonneg p0]
            have s4 : IntKind.i64.wrap Q = Q := IntWalk.i64_in _ ⟨by omega, by omega⟩
            have s5 : IntKind.i64.wrap (Q + 1) = Q + 1 := IntWalk.i64_in _ ⟨by omega, by omega⟩
            have O2 : LfB ((wr.setCell ⟨g, i, none⟩ (.int .i64 (y - 1))).setCell ⟨g', i, none⟩ (.int .i64 (Q + 1))) g' l.length l.length (ouV l rate r (i + 1)) := O1.store hlt (by rw [ou_hit (by omega) k, ← hP, ← hQ]) (fun j _ e => ou_other e)
            have L3 := L2.past (a := ⟨g', i, none⟩) ne (.int .i64 (Q + 1))
            have b3 := b2.setCell (p := ⟨g', i, none⟩) gle (.int .i64 (Q + 1))
            have HO2 := Lib.hid O2
            have HL3 := Lib.hid L3
            have HB3 := Lib.hid b3
            have z2 : (y - 1 == 0) = true := by rw [beq_iff_eq]; omega
            have cw := hO.cell hlt
            have fw := hO.frozen i
            clear O2 L3 b3 O1 L2 b2 L1 hO hbel hpn hy' hy hP hQ k q
            go_wp2
            go_roundw
            case rel => exact ⟨i + 1, by omega, (by rw [HPN.out]), (by rw [HSM.out]), by go_num, (fun _ => HL3.out), HO2.out, HB3.out⟩
            case measure => simp [intOf]; omega
          · have z2 : (y - 1 == 0) = false := by rw [beq_eq_false_iff_ne]; omega
            have z3 : ¬ y - 1 = 0 := by omega
            have HL3 := Lib.hid L2
            have HO2 : Hid (LfB (wr.setCell ⟨g, i, none⟩ (.int .i64 (y - 1))) g' l.length l.length (ouV l rate r (i + 1))) := Lib.hid ((hO.past (fun e => ne e.symm) _).same (fun j _ => ou_stay k j))
            have HB3 := Lib.hid b2
            clear L2 b2 L1 hO hbel hpn hy' hy hP k q
            go_wp2
            go_roundw
            case rel => exact ⟨i + 1, by omega, (by rw [HPN.out]), (by rw [HSM.out]), by go_num, (fun _ => HL3.out), HO2.out, HB3.out⟩
            case measure => simp [intOf]; omega
        · rw [if_neg q] at hpn
          obtain rfl : y = 0 := by omega
          have HPN : Hid (posV l r (i + 1) = P) := Lib.hid (by rw [hpn]; omega)
          have HSM : Hid (smB l r (i + 1) = smB l r i) := Lib.hid (by rw [smB, decide_eq_false q, Bool.or_false])
          have HL3 : Hid (LfB wr g l.length d (lfV l r (i + 1))) := Lib.hid (L1.same (fun j _ => lf_idle (by omega) j))
          have HO2 : Hid (LfB wr g' l.length l.length (ouV l rate r (i + 1))) := Lib.hid (hO.same (fun j _ => ou_stay (by omega) j))
          clear L1 hO hpn hy' hy hP q
          go_wp2
          go_roundw
          case rel => exact ⟨i + 1, by omega, (by rw [HPN.out]), (by rw [HSM.out]), by go_num, (fun _ => HL3.out), HO2.out, hbel⟩
          case measure => simp [intOf]; omega
      · obtain rfl : i = l.length := by omega
        cases hs : smB l r l.length with
        | true =>
          have HT := Lib.hid (pos_turn (l := l) (r := (r : Int)))
          have hm := pos_grow (l := l) (r := (r : Int)) l.length (Nat.le_refl _)
          rw [if_pos hs] at hm
          have hb1 := HPB.out r (by omega) 0
          have hb2 := HPB.out r (by omega) l.length
          clear hs
          go_wp2
          go_roundw
          case rel => exact ⟨r + 1, by rw [HT.out]; rfl, fun k => (hL k).same (fun j hj => by rw [show ((r + 1 : Nat) : Int) = (r : Int) + 1 by omega]; exact lf_turn hj), hO.same (fun j hj => by rw [show ((r + 1 : Nat) : Int) = (r : Int) + 1 by omega]; exact ou_turn hj), hbel⟩
          case measure => simp [intOf]; omega
        | false =>
          have O1 := hO.same (G := shV l rate) (fun j hj => (ou_all (sm_false _ hs) hj).symm)
          have o := O1.own gle (by omega)
          have HSL : Hid (shL l rate = tab l.length (shV l rate)) := Lib.hid rfl
          clear hs O1
          go_wp2
          go_ret
          rw [HSL.out]
          exact AnsL.of (by rw [length_tab] at o ⊢; exact o) hbel

end Go.Proofs.Ytjlkcjaofglpmaa
