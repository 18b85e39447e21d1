
/-
  What Take, Live, Cut, Order, Put hand back, whatever they were handed: a list in new memory. Copies of such lists, compared, spoilt.
-/
import Derived.Test.YtnpdcllfdoobeaaOwnT
import Derived.Test.YtnpdcllfdoobeaaPutA
import Derived.Test.YtnpdcllfdoobeaaLeaT
import Derived.Test.YtnpdcllfdoobeaaLeaU
import Derived.Test.YtnpdcllfdoobeaaRankJ
namespace Go.Proofs.Ytnpdcllfdoobeaa
set_option linter.all false
open Go.RowKit Go.Shelf Go.Lib

/-- A list in new memory, by its cells, and an error. -/
def AnsS {α : Type} (t : TypeId) (size : Nat) (mk : List α → List Value) (w : World) (e : Ending) (w' : World) : Prop :=
  ∃ A c E L, e = .returned (.tuple #[.slice A L.length c, .int .i64 E]) ∧ w'.ownsRow w.heap.size t size (.slice A L.length c) L.length (mk L) ∧ L.length ≤ 1000 ∧ Below w.heap.size w w'
def bcsS (l : List Bool) : List Value := l.map Value.bool
theorem AnsZ.ansS {L : List Lz} {E : Int} {w : World} {e : Ending} {w' : World} (h : AnsZ L E w e w') (hl : L.length ≤ 1000) : AnsS 35 3 lcs w e w' := by
  obtain ⟨A, c, rfl, o, b⟩ := h
  exact ⟨A, c, E, L, rfl, o, hl, b⟩
theorem nilS {α : Type} {t : TypeId} {size : Nat} {mk : List α → List Value} (hm : mk [] = []) {w w' : World} {E : Int} (b : Below w.heap.size w w') : AnsS t size mk w (.returned (.tuple #[.slice none 0 0, .int .i64 E])) w' :=
  ⟨none, 0, E, [], rfl, by rw [hm]; exact World.ownsRow_nil _ _ _ _, by simp, b⟩
theorem lcs_nil : lcs [] = [] := rfl
theorem qcs_nil : qcs [] = [] := rfl
theorem take_own (A : Option Addr) (l : List Lz) (x : Lz) (n c : Nat) (w : World) (h : Les w A l) (hn : n = l.length) :
    Calls Try.prog 18 #[.slice A n c, .agg #[.int .i64 x.who, .int .i64 x.till, .int .i64 x.pin]] w (AnsS 35 3 lcs w) := by
  by_cases hE : tkE x l = 0
  · refine (take_yes A l x n c w h hn (Lib.hid hE)).mono fun e w' q => q.ansS ?_
    obtain ⟨v, hx⟩ := tk_iff.mp hE
    have := (v.take hx).len
    omega
  · refine (take_no A l x n c w h hn (Lib.hid hE)).mono fun e w' q => ?_
    obtain ⟨rfl, b⟩ := q
    exact nilS lcs_nil b
theorem live_own (A : Option Addr) (l : List Lz) (n c : Nat) (now : Int) (w : World) (h : Les w A l) (hn : n = l.length) :
    Calls Try.prog 28 #[.slice A n c, .int .i64 now] w (AnsS 35 3 lcs w) := by
  by_cases hE : lzE l = 0
  · refine (live_yes A l n c now w h hn (Lib.hid hE)).mono fun e w' q => q.ansS ?_
    have := ((lzE_iff.mp hE).live now).len
    omega
  · refine (live_no A l n c now w h hn hE).mono fun e w' q => ?_
    obtain ⟨rfl, b⟩ := q
    exact nilS lcs_nil b
theorem cut_own (A : Option Addr) (l : List Lz) (n c : Nat) (now to : Int) (w : World) (h : Les w A l) (hn : n = l.length) :
    Calls Try.prog 30 #[.slice A n c, .int .i64 now, .int .i64 to] w (AnsS 35 3 lcs w) := by
  by_cases hE : cuE now to l = 0
  · refine (cut_yes A l n c now to w h hn (Lib.hid hE)).mono fun e w' q => q.ansS ?_
    have := ((cu_iff.mp hE).1.live now).len
    omega
  · refine (cut_no A l n c now to w h hn (Lib.hid hE)).mono fun e w' q => ?_
    obtain ⟨rfl, b⟩ := q
    exact nilS lcs_nil b
theorem order_own (A : Option Addr) (l : List Tk) (n c : Nat) (w : World) (h : Tas w A l) (hn : n = l.length) :
    Calls Try.prog 41 #[.slice A n c] w (AnsS 68 3 qcs w) := by
  subst hn
  by_cases hE : tasE l = 0
  · refine (order_yes A l c w h hE).mono fun e w' q => ?_
    obtain ⟨v, rfl, f, B, k, hf, rfl, o, b⟩ := q
    have := (tas_iff.1 hE).le
    exact ⟨B, k, 0, srtT l f, by rw [length_srt], by rw [length_srt]; exact o, by rw [length_srt]; omega, b⟩
  · refine (order_no A l c w h hE).mono fun e w' q => ?_
    obtain ⟨rfl, b⟩ := q
    exact nilS qcs_nil b
/-- What Put hands back: a thing whose marks lie in new memory. -/
def PutS (w : World) (e : Ending) (w' : World) : Prop :=
  ∃ (s u : Int) (B : Option Addr) (d : Nat) (z : List Bool) (E : Int), e = .returned (.tuple #[.agg #[.int .i64 s, .int .i64 u, .slice B z.length d], .int .i64 E]) ∧ w'.ownsRow w.heap.size 4 1 (.slice B z.length d) z.length (bcsS z) ∧ z.length ≤ 1000 ∧ Below w.heap.size w w'
theorem put_own (s u : Int) (A : Option Addr) (n c : Nat) (z : List Bool) (i : Int) (w : World) (hz : Bls w A z) (hn : n = z.length) (hzc : z.length ≤ c) :
    Calls Try.prog 42 #[.agg #[.int .i64 s, .int .i64 u, .slice A n c], .int .i64 i] w (PutS w) := by
  subst hn
  by_cases h0 : stE s u z.length = 0
  · by_cases hi : 0 ≤ i ∧ i < z.length
    · obtain ⟨I, rfl⟩ := Int.eq_ofNat_of_zero_le hi.1
      refine (pput_any s u A c z I w hz hzc h0 (by omega)).mono fun e w' q => ?_
      obtain ⟨B, d, rfl, o, b⟩ := q
      obtain ⟨v, hN⟩ := st_iff.mp h0
      have := pcn_max v
      exact ⟨s, u, B, d, z.set I true, 0, by rw [List.length_set], by rw [List.length_set]; exact o, by rw [List.length_set]; omega, b⟩
    · refine (pput_arg s u A c z i w hz h0 hi).mono fun e w' q => ?_
      obtain ⟨rfl, b⟩ := q
      exact ⟨0, 0, none, 0, [], 1, rfl, World.ownsRow_nil _ _ _ _, by simp, b⟩
  · refine (pput_no s u A c z i w hz h0).mono fun e w' q => ?_
    obtain ⟨rfl, b⟩ := q
    exact ⟨0, 0, none, 0, [], _, rfl, World.ownsRow_nil _ _ _ _, by simp, b⟩

set_option maxHeartbeats 800000 in
theorem rclone_le (A : Option Addr) (n c base : Nat) (xs : List Value) (w : World) (h : w.ownsRow base 35 3 (.slice A n c) n xs) (hn : n ≤ 1000) (h1 : ∀ u ∈ xs, u.oneCell' = true) :
    Calls Try.prog 23 #[.slice A n c] w fun e w' => ∃ A' c', e = .returned (.slice A' n c') ∧ w'.ownsRow w.heap.size 35 3 (.slice A' n c') n xs ∧ Below w.heap.size w w' := by
  obtain ⟨i0, hi0, hz0, hz1, hz2⟩ := info_parts le_info
  have q : ∀ (w : World) (a : Option Addr) (n c n' c' : Nat), (binOp .eql 33 (.slice a n c) (.slice none n' c')).run Try.prog w = .ok (.bool a.isNone) w := fun w a n c n' c' => Lib.run_eql_slice_nil w _ _ a n c n' c' Try.underlying33
  have hl := h.1
  rcases h.2 with ⟨hv, h0⟩ | ⟨g, cap, cur, hv, hg, hh, hr⟩
  · injection hv with e1 e2 e3
    subst e1 e3
    subst h0
    obtain rfl : xs = [] := List.eq_nil_of_length_eq_zero (by simpa using hl)
    clear h hl
    go_enter Try.func23, Try.ntmps23
    go_wp2
    go_ret
    exact ⟨none, 0, rfl, World.ownsRow_nil _ _ _ _, Below.refl _ _⟩
  · injection hv with e1 e2 e3
    subst e1 e3
    have hlt : g < w.heap.size := (h.lt g rfl).2
    have HC := Lib.hid (fun j u hu => h.cells (g := g) rfl j u hu)
    have HL := Lib.hid hl
    clear h hl hr hh
    go_enter Try.func23, Try.ntmps23
    go_wp2_with (at_builtin; refine wpList_append_own _ rfl _ _ 33 rfl w.heap.size 35 i0 (.agg #[.int .i64 0, .int .i64 0, .int .i64 0]) 3 24 Try.underlying33 hi0 hz0 hz1 hz2 rfl (by decide) _ _ _ rfl (World.ownsRow_made w #[] 0 (Nat.le_refl _) (Nat.zero_le _) rfl) ⟨g, 0, none⟩ n c xs rfl ?qc1 ?qc2 ?qc3 ?qc4 ?qc5 ?qc6 ?_)
    case qc1 => simpa using HL.out
    case qc2 =>
      intro j u hj
      have := HC.out j u hj
      rw [Addr.add_lit, Nat.zero_add] at this
      exact this
    case qc3 => exact h1
    case qc4 => unfold maxLen; omega
    case qc5 => omega
    intro v' w1 hown hgrow hnil
    have hown' : w1.ownsRow w.heap.size 35 3 v' n xs := by simpa using hown
    obtain ⟨A', c', rfl⟩ := row_formL hown'
    have hb : Below w.heap.size w w1 := ((Below.refl _ w).alloc (Nat.le_refl _) _).grown hgrow (by simp) (by intro k hk; simp [Value.ownBlock] at hk; omega)
    clear hown hgrow hnil
    go_wp2
    go_ret
    exact ⟨A', c', rfl, hown', hb⟩
set_option maxHeartbeats 800000 in
theorem rclone_ta (A : Option Addr) (n c base : Nat) (xs : List Value) (w : World) (h : w.ownsRow base 68 3 (.slice A n c) n xs) (hn : n ≤ 1000) (h1 : ∀ u ∈ xs, u.oneCell' = true) :
    Calls Try.prog 48 #[.slice A n c] w fun e w' => ∃ A' c', e = .returned (.slice A' n c') ∧ w'.ownsRow w.heap.size 68 3 (.slice A' n c') n xs ∧ Below w.heap.size w w' := by
  obtain ⟨i0, hi0, hz0, hz1, hz2⟩ := info_parts ta_infoS
  have q : ∀ (w : World) (a : Option Addr) (n c n' c' : Nat), (binOp .eql 62 (.slice a n c) (.slice none n' c')).run Try.prog w = .ok (.bool a.isNone) w := fun w a n c n' c' => Lib.run_eql_slice_nil w _ _ a n c n' c' Try.underlying62
  have hl := h.1
  rcases h.2 with ⟨hv, h0⟩ | ⟨g, cap, cur, hv, hg, hh, hr⟩
  · injection hv with e1 e2 e3
    subst e1 e3
    subst h0
    obtain rfl : xs = [] := List.eq_nil_of_length_eq_zero (by simpa using hl)
    clear h hl
    go_enter Try.func48, Try.ntmps48
    go_wp2
    go_ret
    exact ⟨none, 0, rfl, World.ownsRow_nil _ _ _ _, Below.refl _ _⟩
  · injection hv with e1 e2 e3
    subst e1 e3
    have hlt : g < w.heap.size := (h.lt g rfl).2
    have HC := Lib.hid (fun j u hu => h.cells (g := g) rfl j u hu)
    have HL := Lib.hid hl
    clear h hl hr hh
    go_enter Try.func48, Try.ntmps48
    go_wp2_with (at_builtin; refine wpList_append_own _ rfl _ _ 62 rfl w.heap.size 68 i0 (.agg #[.int .i64 0, .int .i64 0, .int .i64 0]) 3 24 Try.underlying62 hi0 hz0 hz1 hz2 rfl (by decide) _ _ _ rfl (World.ownsRow_made w #[] 0 (Nat.le_refl _) (Nat.zero_le _) rfl) ⟨g, 0, none⟩ n c xs rfl ?qc1 ?qc2 ?qc3 ?qc4 ?qc5 ?qc6 ?_)
    case qc1 => simpa using HL.out
    case qc2 =>
      intro j u hj
      have := HC.out j u hj
      rw [Addr.add_lit, Nat.zero_add] at this
      exact this
    case qc3 => exact h1
    case qc4 => unfold maxLen; omega
    case qc5 => omega
    intro v' w1 hown hgrow hnil
    have hown' : w1.ownsRow w.heap.size 68 3 v' n xs := by simpa using hown
    obtain ⟨A', c', rfl⟩ := row_formL hown'
    have hb : Below w.heap.size w w1 := ((Below.refl _ w).alloc (Nat.le_refl _) _).grown hgrow (by simp) (by intro k hk; simp [Value.ownBlock] at hk; omega)
    clear hown hgrow hnil
    go_wp2
    go_ret
    exact ⟨A', c', rfl, hown', hb⟩
set_option maxHeartbeats 800000 in
theorem rclone_bo (A : Option Addr) (n c base : Nat) (xs : List Value) (w : World) (h : w.ownsRow base 4 1 (.slice A n c) n xs) (hn : n ≤ 1000) (h1 : ∀ u ∈ xs, u.oneCell' = true) :
    Calls Try.prog 33 #[.slice A n c] w fun e w' => ∃ A' c', e = .returned (.slice A' n c') ∧ w'.ownsRow w.heap.size 4 1 (.slice A' n c') n xs ∧ Below w.heap.size w w' := by
  obtain ⟨i0, hi0, hz0, hz1, hz2⟩ := info_parts bool_info
  have q : ∀ (w : World) (a : Option Addr) (n c n' c' : Nat), (binOp .eql 22 (.slice a n c) (.slice none n' c')).run Try.prog w = .ok (.bool a.isNone) w := fun w a n c n' c' => Lib.run_eql_slice_nil w _ _ a n c n' c' Try.underlying22
  have hl := h.1
  rcases h.2 with ⟨hv, h0⟩ | ⟨g, cap, cur, hv, hg, hh, hr⟩
  · injection hv with e1 e2 e3
    subst e1 e3
    subst h0
    obtain rfl : xs = [] := List.eq_nil_of_length_eq_zero (by simpa using hl)
    clear h hl
    go_enter Try.func33, Try.ntmps33
    go_wp2
    go_ret
    exact ⟨none, 0, rfl, World.ownsRow_nil _ _ _ _, Below.refl _ _⟩
  · injection hv with e1 e2 e3
    subst e1 e3
    have hlt : g < w.heap.size := (h.lt g rfl).2
    have HC := Lib.hid (fun j u hu => h.cells (g := g) rfl j u hu)
    have HL := Lib.hid hl
    clear h hl hr hh
    go_enter Try.func33, Try.ntmps33
    go_wp2_with (at_builtin; refine wpList_append_own _ rfl _ _ 22 rfl w.heap.size 4 i0 (.bool false) 1 1 Try.underlying22 hi0 hz0 hz1 hz2 rfl (by decide) _ _ _ rfl (World.ownsRow_made w #[] 0 (Nat.le_refl _) (Nat.zero_le _) rfl) ⟨g, 0, none⟩ n c xs rfl ?qc1 ?qc2 ?qc3 ?qc4 ?qc5 ?qc6 ?_)
    case qc1 => simpa using HL.out
    case qc2 =>
      intro j u hj
      have := HC.out j u hj
      rw [Addr.add_lit, Nat.zero_add] at this
      exact this
    case qc3 => exact h1
    case qc4 => unfold maxLen; omega
    case qc5 => omega
    intro v' w1 hown hgrow hnil
    have hown' : w1.ownsRow w.heap.size 4 1 v' n xs := by simpa using hown
    obtain ⟨A', c', rfl⟩ := row_formL hown'
    have hb : Below w.heap.size w w1 := ((Below.refl _ w).alloc (Nat.le_refl _) _).grown hgrow (by simp) (by intro k hk; simp [Value.ownBlock] at hk; omega)
    clear hown hgrow hnil
    go_wp2
    go_ret
    exact ⟨A', c', rfl, hown', hb⟩

set_option maxHeartbeats 800000 in
theorem taSame (A B : Option Addr) (l : List Tk) (n m c d : Nat) (w : World) (h : Tas w A l) (h' : Tas w B l) (hn : n = l.length) (hm : m = l.length) :
    Calls Try.prog 44 #[.slice A n c, .slice B m d] w fun e w' => e = .returned (.bool true) ∧ ∃ n, w' = w.drewN n := by
  subst hn hm
  have hl := h.le
  go_enter Try.func44, Try.ntmps44
  go_wp2
  go_loopw [13] (fun i wr => ∃ k nd : Nat, k ≤ l.length ∧ i = .int .i64 k ∧ wr = w.drewN nd) (fun i _ => l.length - (intOf i).toNat)
  case atStart => exact ⟨0, 0, Nat.zero_le _, rfl, rfl⟩
  case round =>
    obtain ⟨k, nd, hk, rfl, rfl⟩ := hrel
    by_cases hlt : k < l.length
    · obtain ⟨b1, o1, s, hA, _, c0, c1, c2, HS⟩ := h.get hlt
      obtain ⟨b2, o2, s', hB, _, d0, d1, d2, HS'⟩ := h'.get hlt
      subst hA hB
      obtain rfl : s' = s := Option.some.inj (HS'.out.symm.trans HS.out)
      have i1 : (k : Int) < (l.length : Int) := by omega
      go_wp2
      go_quiet (fail)
      go_wp2
      go_roundw
      case rel => exact ⟨k + 1, nd + nq, by omega, by go_num, by simp [World.drewN, Nat.add_assoc]⟩
      case measure => simp [intOf]; omega
    · go_wp2
      go_ret
      exact ⟨rfl, nd, rfl⟩

set_option maxHeartbeats 800000 in
theorem spoill_nil (w : World) :
    Calls Try.prog 49 #[.slice none 0 0, .agg #[.int .i64 0, .int .i64 0, .int .i64 0]] w fun e w' => e = .returned (.tuple #[]) ∧ Below w.heap.size w w' := by
  go_enter Try.func49, Try.ntmps49
  go_wp2
  go_loopw [11] (fun i wr => i = .int .i64 0 ∧ Below w.heap.size w wr) (fun i _ => 0)
  case atStart => exact ⟨rfl, (Below.refl _ _).alloc (Nat.le_refl _) _⟩
  case round =>
    obtain ⟨rfl, hb⟩ := hrel
    go_wp2
    exact ⟨rfl, .tuple #[], by simp [results, Try.results49, go_sem], rfl, hb⟩
/-- A row of one's own is spoilt, or nothing is. -/
theorem spoill_row (A : Option Addr) (n c base : Nat) (xs : List Value) (w : World) (h : w.ownsRow base 35 3 (.slice A n c) n xs) :
    Calls Try.prog 49 #[.slice A n c, .agg #[.int .i64 0, .int .i64 0, .int .i64 0]] w fun e w' => e = .returned (.tuple #[]) ∧ w.grownBy w' (Value.slice A n c).ownBlock := by
  rcases h.2 with ⟨hv, h0⟩ | ⟨g, cap, cur, hv, hg, hh, hn, hm, hs, _⟩
  · injection hv with e1 e2 e3
    subst e1 e3 h0
    exact (spoill_nil w).mono fun e w' q => ⟨q.1, q.2.os, q.2.tape, q.2.output, q.2.size, fun k hk _ => q.2.block k hk⟩
  · injection hv with e1 e2 e3
    subst e1 e3
    have hc3 : c ≤ 9223372036854775807 := by unfold maxLen at hm; omega
    exact (spoill_any g n c ⟨0, 0, 0⟩ cur w hh hs hn hc3).mono fun e w' q => q

end Go.Proofs.Ytnpdcllfdoobeaa
