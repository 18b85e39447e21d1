
/-
  Walks: bucket.Packets, the document's Queue.
-/
import Derived.Test.YtamkadffencpgaaBucketP
namespace Go.Proofs.Ytamkadffencpgaa
set_option linter.all false
open Go.RowKit Go.Shelf

set_option maxHeartbeats 800000 in
theorem checkPacket_any (q : Pk) (v : Int) (w : World) : Calls Try.prog 61 #[.agg #[.int .i64 q.at_, .int .i64 q.size, .int .i64 q.flow], .int .i64 v] w fun e w' => e = .returned (.int .i64 (pkE q v)) ∧ Below w.heap.size w w' := by
  obtain ⟨a, s, f⟩ := q
  show Calls Try.prog 61 #[.agg #[.int .i64 a, .int .i64 s, .int .i64 f], .int .i64 v] w _
  by_cases hf : f < 0 ∨ 7 < f
  · have HE : Hid (pkE ⟨a, s, f⟩ v = 1) := Lib.hid (if_pos (.inl hf))
    have q1 := lim_yes hf
    clear hf
    go_enter Try.func61, Try.ntmps61
    go_wp2_with fail
    refine (lim_any f 0 7 true _ q1).mono ?_
    rintro e w' ⟨rfl, rfl⟩
    go_wp2
    go_ret
    exact ⟨ret_int HE.out.symm, alloc_below _ _⟩
  by_cases hs : s < 1 ∨ 1000 < s
  · have HE : Hid (pkE ⟨a, s, f⟩ v = 1) := Lib.hid (if_pos (.inr (.inl hs)))
    have q1 : Hid (decide (f < 0 ∨ 7 < f) = false) := Lib.hid (decide_eq_false hf)
    have q2 := lim_yes hs
    clear hf hs
    go_enter Try.func61, Try.ntmps61
    go_wp2_with fail
    refine (lim_any f 0 7 false _ q1).mono ?_
    rintro e w' ⟨rfl, rfl⟩
    go_wp2_with fail
    refine (lim_any s 1 1000 true _ q2).mono ?_
    rintro e w' ⟨rfl, rfl⟩
    go_wp2
    go_ret
    exact ⟨ret_int HE.out.symm, alloc_below _ _⟩
  by_cases ha : a < 0 ∨ 200 < a
  · have HE : Hid (pkE ⟨a, s, f⟩ v = 1) := Lib.hid (if_pos (.inr (.inr ha)))
    have q1 : Hid (decide (f < 0 ∨ 7 < f) = false) := Lib.hid (decide_eq_false hf)
    have q2 : Hid (decide (s < 1 ∨ 1000 < s) = false) := Lib.hid (decide_eq_false hs)
    have q3 := lim_yes ha
    clear hf hs ha
    go_enter Try.func61, Try.ntmps61
    go_wp2_with fail
    refine (lim_any f 0 7 false _ q1).mono ?_
    rintro e w' ⟨rfl, rfl⟩
    go_wp2_with fail
    refine (lim_any s 1 1000 false _ q2).mono ?_
    rintro e w' ⟨rfl, rfl⟩
    go_wp2_with fail
    refine (lim_any a 0 200 true _ q3).mono ?_
    rintro e w' ⟨rfl, rfl⟩
    go_wp2
    go_ret
    exact ⟨ret_int HE.out.symm, alloc_below _ _⟩
  have q1 : Hid (decide (f < 0 ∨ 7 < f) = false) := Lib.hid (decide_eq_false hf)
  have q2 : Hid (decide (s < 1 ∨ 1000 < s) = false) := Lib.hid (decide_eq_false hs)
  have q3 : Hid (decide (a < 0 ∨ 200 < a) = false) := Lib.hid (decide_eq_false ha)
  have H1 : Hid (pkE ⟨a, s, f⟩ v = if a < v then 3 else 0) := Lib.hid (if_neg (fun h => by rcases h with h | h | h; exact hf h; exact hs h; exact ha h))
  clear hf hs ha
  by_cases hv : a < v
  · have HE : Hid (pkE ⟨a, s, f⟩ v = 3) := Lib.hid (by rw [H1.out, if_pos hv])
    go_enter Try.func61, Try.ntmps61
    go_wp2_with fail
    refine (lim_any f 0 7 false _ q1).mono ?_
    rintro e w' ⟨rfl, rfl⟩
    go_wp2_with fail
    refine (lim_any s 1 1000 false _ q2).mono ?_
    rintro e w' ⟨rfl, rfl⟩
    go_wp2_with fail
    refine (lim_any a 0 200 false _ q3).mono ?_
    rintro e w' ⟨rfl, rfl⟩
    go_wp2
    go_ret
    exact ⟨ret_int HE.out.symm, alloc_below _ _⟩
  · have HE : Hid (pkE ⟨a, s, f⟩ v = 0) := Lib.hid (by rw [H1.out, if_neg hv])
    go_enter Try.func61, Try.ntmps61
    go_wp2_with fail
    refine (lim_any f 0 7 false _ q1).mono ?_
    rintro e w' ⟨rfl, rfl⟩
    go_wp2_with fail
    refine (lim_any s 1 1000 false _ q2).mono ?_
    rintro e w' ⟨rfl, rfl⟩
    go_wp2_with fail
    refine (lim_any a 0 200 false _ q3).mono ?_
    rintro e w' ⟨rfl, rfl⟩
    go_wp2
    go_ret
    exact ⟨ret_int HE.out.symm, alloc_below _ _⟩

set_option maxHeartbeats 1600000 in
theorem packets_any (A : Option Addr) (l : List Pk) (c : Nat) (w : World) (h : Pks w A l) :
    Calls Try.prog 40 #[.slice A l.length c] w fun e w' => e = .returned (.int .i64 (pksE l)) ∧ Below w.heap.size w w' := by
  by_cases h60 : 60 < l.length
  · have HE : Hid (pksE l = 2) := Lib.hid (if_pos h60)
    have hz : (60 : Int) < (l.length : Int) := by omega
    go_enter Try.func40, Try.ntmps40
    go_wp2
    go_ret
    exact ⟨ret_int HE.out.symm, Below.refl _ _⟩
  have HE : Hid (pksE l = pksGo 0 l) := Lib.hid (if_neg h60)
  have hz : ¬ (60 : Int) < (l.length : Int) := by omega
  go_enter Try.func40, Try.ntmps40
  go_wp2
  go_loopw [3, 12] (fun v i wr => ∃ (k : Nat) (x : Int), k ≤ l.length ∧ i = .int .i64 k ∧ v = .int .i64 x ∧ Hid (pksE l = pksGo x (l.drop k)) ∧ Below w.heap.size w wr) (fun _ i _ => l.length - (intOf i).toNat)
  case atStart => exact ⟨0, 0, Nat.zero_le _, rfl, rfl, Lib.hid (by rw [HE.out]; rfl), Below.refl _ _⟩
  case round =>
    clear HE
    obtain ⟨k, x, hk, rfl, rfl, HE, hbel⟩ := hrel
    by_cases hlt : k < l.length
    · obtain ⟨bb, off, p, rfl, hbl, c0, c1, c2, HP⟩ := (h.below hbel).get hlt
      have i1 : (k : Int) < (l.length : Int) := by omega
      go_wp2_with fail
      refine (checkPacket_any p x _).mono ?_
      rintro e w1 ⟨rfl, b1⟩
      have Bp := (Blk.new wr 32 #[.int .i64 p.at_, .int .i64 p.size, .int .i64 p.flow]).below b1
      have hb1 := below_trans hbel (below_of1 b1)
      obtain ⟨p0, p1, p2⟩ := three_read Bp
      clear b1 c0 c1 c2
      by_cases hq : pkE p x = 0
      · have HN : Hid (pksE l = pksGo p.at_ (l.drop (k + 1))) := Lib.hid (by rw [HE.out, pkdrop HP.out, pksGo, if_pos hq])
        have HQ := Lib.hid hq
        rw [HQ.out]
        clear hq
        go_wp2
        go_roundw
        case rel => exact ⟨k + 1, _, by omega, by go_num, rfl, HN, hb1⟩
        case measure => simp [intOf]; omega
      · have HN : Hid (pkE p x = pksE l) := Lib.hid (by rw [HE.out, pkdrop HP.out, pksGo, if_neg hq])
        have e1 : (pkE p x != 0) = true := by simp [hq]
        clear hq
        go_wp2
        go_ret
        exact ⟨ret_int HN.out, hb1⟩
    · have HN : Hid (pksE l = 0) := Lib.hid (by rw [HE.out, List.drop_of_length_le (by omega)]; rfl)
      go_wp2
      go_ret
      exact ⟨ret_int HN.out.symm, hbel⟩

theorem pkE_bad {q : Pk} {b : Int} (h : (q.flow < 0 ∨ 7 < q.flow) ∨ (q.size < 1 ∨ 1000 < q.size) ∨ (q.at_ < 0 ∨ 200 < q.at_)) : pkE q b = 1 := if_pos h
set_option maxHeartbeats 1600000 in
theorem refQueue_any (A : Option Addr) (l : List Pk) (c : Nat) (w : World) (h : Pks w A l) :
    Calls Try.prog 38 #[.slice A l.length c] w fun e w' => e = .returned (.int .i64 (pksE l)) ∧ Below w.heap.size w w' := by
  by_cases h60 : 60 < l.length
  · have HE : Hid (pksE l = 2) := Lib.hid (if_pos h60)
    have hz : (60 : Int) < (l.length : Int) := by omega
    go_enter Try.func38, Try.ntmps38
    go_wp2
    go_ret
    exact ⟨ret_int HE.out.symm, Below.refl _ _⟩
  have HE : Hid (pksE l = pksGo 0 l) := Lib.hid (if_neg h60)
  have hz : ¬ (60 : Int) < (l.length : Int) := by omega
  go_enter Try.func38, Try.ntmps38
  go_wp2
  go_loopw [3, 11] (fun v i wr => ∃ (k : Nat) (x : Int), k ≤ l.length ∧ i = .int .i64 k ∧ v = .int .i64 x ∧ Hid (pksE l = pksGo x (l.drop k)) ∧ Hid (k = 0 → x = 0) ∧ Below w.heap.size w wr) (fun _ i _ => l.length - (intOf i).toNat)
  case atStart => exact ⟨0, 0, Nat.zero_le _, rfl, rfl, Lib.hid (by rw [HE.out]; rfl), Lib.hid (fun _ => rfl), Below.refl _ _⟩
  case round =>
    clear HE
    obtain ⟨k, x, hk, rfl, rfl, HE, H0, hbel⟩ := hrel
    by_cases hlt : k < l.length
    · obtain ⟨bb, off, ⟨a, s, f⟩, rfl, hbl, c0, c1, c2, HP⟩ := (h.below hbel).get hlt
      simp only at c0 c1 c2
      have i1 : (k : Int) < (l.length : Int) := by omega
      by_cases ha : a < 0 ∨ 200 < a
      · have HN : Hid (pksE l = 1) := Lib.hid (by rw [HE.out, pkdrop HP.out, pksGo, if_neg (by rw [pkE_bad (.inr (.inr ha))]; decide), pkE_bad (.inr (.inr ha))])
        have q3 := lim_yes ha
        clear ha
        go_wp2_with fail
        refine (wit_any a 0 200 false _ q3).mono ?_
        rintro e w' ⟨rfl, rfl⟩
        go_wp2
        go_ret
        exact ⟨ret_int HN.out.symm, hbel.alloc hbel.size _⟩
      have q3 : Hid (decide (a < 0 ∨ 200 < a) = false) := Lib.hid (decide_eq_false ha)
      by_cases hs : s < 1 ∨ 1000 < s
      · have HN : Hid (pksE l = 1) := Lib.hid (by rw [HE.out, pkdrop HP.out, pksGo, if_neg (by rw [pkE_bad (.inr (.inl hs))]; decide), pkE_bad (.inr (.inl hs))])
        have q2 := lim_yes hs
        clear hs ha
        go_wp2_with fail
        refine (wit_any a 0 200 true _ q3).mono ?_
        rintro e w' ⟨rfl, rfl⟩
        go_wp2_with fail
        refine (wit_any s 1 1000 false _ q2).mono ?_
        rintro e w' ⟨rfl, rfl⟩
        go_wp2
        go_ret
        exact ⟨ret_int HN.out.symm, hbel.alloc hbel.size _⟩
      have q2 : Hid (decide (s < 1 ∨ 1000 < s) = false) := Lib.hid (decide_eq_false hs)
      by_cases hf : f < 0 ∨ 7 < f
      · have HN : Hid (pksE l = 1) := Lib.hid (by rw [HE.out, pkdrop HP.out, pksGo, if_neg (by rw [pkE_bad (.inl hf)]; decide), pkE_bad (.inl hf)])
        have q1 := lim_yes hf
        clear hs ha hf
        go_wp2_with fail
        refine (wit_any a 0 200 true _ q3).mono ?_
        rintro e w' ⟨rfl, rfl⟩
        go_wp2_with fail
        refine (wit_any s 1 1000 true _ q2).mono ?_
        rintro e w' ⟨rfl, rfl⟩
        go_wp2_with fail
        refine (wit_any f 0 7 false _ q1).mono ?_
        rintro e w' ⟨rfl, rfl⟩
        go_wp2
        go_ret
        exact ⟨ret_int HN.out.symm, hbel.alloc hbel.size _⟩
      have q1 : Hid (decide (f < 0 ∨ 7 < f) = false) := Lib.hid (decide_eq_false hf)
      have H1 : Hid (pkE ⟨a, s, f⟩ x = if a < x then 3 else 0) := Lib.hid (if_neg (fun h => by rcases h with h | h | h; exact hf h; exact hs h; exact ha h))
      have a0 : 0 ≤ a := by omega
      clear hs ha hf
      by_cases hv : a < x
      · have HN : Hid (pksE l = 3) := Lib.hid (by rw [HE.out, pkdrop HP.out, pksGo, if_neg (by rw [H1.out, if_pos hv]; decide), H1.out, if_pos hv])
        have k0 : 0 < k := by
          rcases Nat.eq_zero_or_pos k with c | c
          · have := H0.out c; omega
          · exact c
        have k1 : (0 : Int) < (k : Int) := by omega
        go_wp2_with fail
        refine (wit_any a 0 200 true _ q3).mono ?_
        rintro e w' ⟨rfl, rfl⟩
        go_wp2_with fail
        refine (wit_any s 1 1000 true _ q2).mono ?_
        rintro e w' ⟨rfl, rfl⟩
        go_wp2_with fail
        refine (wit_any f 0 7 true _ q1).mono ?_
        rintro e w' ⟨rfl, rfl⟩
        go_wp2
        go_ret
        exact ⟨ret_int HN.out.symm, hbel.alloc hbel.size _⟩
      · have HN : Hid (pksE l = pksGo a (l.drop (k + 1))) := Lib.hid (by rw [HE.out, pkdrop HP.out, pksGo, if_pos (by rw [H1.out, if_neg hv])])
        have hv' : decide (a < x) = false := decide_eq_false hv
        by_cases k0 : (0 : Int) < (k : Int)
        all_goals
          go_wp2_with fail
          refine (wit_any a 0 200 true _ q3).mono ?_
          rintro e w' ⟨rfl, rfl⟩
          go_wp2_with fail
          refine (wit_any s 1 1000 true _ q2).mono ?_
          rintro e w' ⟨rfl, rfl⟩
          go_wp2_with fail
          refine (wit_any f 0 7 true _ q1).mono ?_
          rintro e w' ⟨rfl, rfl⟩
          go_wp2
          go_roundw
          case rel => exact ⟨k + 1, _, by omega, by go_num, rfl, HN, Lib.hid (fun h => by omega), hbel.alloc hbel.size _⟩
          case measure => simp [intOf]; omega
    · have HN : Hid (pksE l = 0) := Lib.hid (by rw [HE.out, List.drop_of_length_le (by omega)]; rfl)
      go_wp2
      go_ret
      exact ⟨ret_int HN.out.symm, hbel⟩

end Go.Proofs.Ytamkadffencpgaa
