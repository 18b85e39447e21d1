
/-
  Walks of package lease: Pin, Cut.
-/
import Derived.Test.YtnpdcllfdoobeaaLeaW
namespace Go.Proofs.Ytnpdcllfdoobeaa
set_option linter.all false
open Go.RowKit Go.Shelf Go.Lib

/-- The least that a live lease pins, and no error. -/
def PinZ (now : Int) (l : List Lz) (e : Ending) : Prop := ∃ n : Int, IsPin now l n ∧ 0 ≤ n ∧ n ≤ 1000000 ∧ e = .returned (.tuple #[.int .i64 n, .int .i64 0])
theorem fld2 (t : Lz) (w : World) : (Instr.field 35 (.agg #[.int .i64 t.who, .int .i64 t.till, .int .i64 t.pin]) 2).run Try.prog w = .ok (.int .i64 t.pin) w := by kernel_rfl
set_option maxHeartbeats 800000 in
theorem pin_no (A : Option Addr) (l : List Lz) (n c : Nat) (now : Int) (w : World) (h : Les w A l) (hn : n = l.length) (hE : ¬ lzE l = 0) :
    Calls Try.prog 29 #[.slice A n c, .int .i64 now] w fun e w' => e = .returned (.tuple #[.int .i64 0, .int .i64 (lzE l)]) ∧ Below w.heap.size w w' := by
  have e1 : (lzE l != 0) = true := by simp [hE]
  have hlv := live_no A l n c now w h hn hE
  clear hE hn
  go_enter Try.func29, Try.ntmps29
  go_wp2_with fail
  refine hlv.mono ?_
  rintro e w1 ⟨rfl, b1⟩
  clear hlv
  go_wp2
  go_ret2
  exact ⟨rfl, b1⟩
set_option maxHeartbeats 800000 in
theorem pin_none (A : Option Addr) (l : List Lz) (n c : Nat) (now : Int) (w : World) (h : Les w A l) (hn : n = l.length) (hE : Hid (lzE l = 0)) (hL : Hid (liveL now l = [])) :
    Calls Try.prog 29 #[.slice A n c, .int .i64 now] w fun e w' => e = .returned (.tuple #[.int .i64 0, .int .i64 5]) ∧ Below w.heap.size w w' := by
  have hlv := live_yes A l n c now w h hn hE
  clear hn
  go_enter Try.func29, Try.ntmps29
  go_wp2_with fail
  refine hlv.mono ?_
  rintro e w1 ⟨A', c', rfl, o1, b1⟩
  rw [hL.out]
  clear hlv o1
  go_wp2
  go_ret2
  exact ⟨rfl, b1⟩
set_option maxRecDepth 100000 in
set_option maxHeartbeats 800000 in
theorem pin_yes (A : Option Addr) (l : List Lz) (n c : Nat) (now : Int) (w : World) (h : Les w A l) (hn : n = l.length) (hE : Hid (lzE l = 0)) (hL : Hid (¬ liveL now l = [])) :
    Calls Try.prog 29 #[.slice A n c, .int .i64 now] w fun e w' => PinZ now l e ∧ Below w.heap.size w w' := by
  have hlv := live_yes A l n c now w h hn hE
  have v := lzE_iff.mp hE.out
  have V := (v.live now).len
  have hp : 0 < (liveL now l).length := by
    rcases Nat.eq_zero_or_pos (liveL now l).length with q | q
    · exact absurd (List.eq_nil_of_length_eq_zero q) hL.out
    · exact q
  obtain ⟨L, hLL⟩ : ∃ L, L = liveL now l := ⟨_, rfl⟩
  rw [← hLL] at hlv V hp
  have HL := Lib.hid hLL
  obtain ⟨m, hm⟩ : ∃ m, m = L.length := ⟨_, rfl⟩
  have HM := Lib.hid hm
  have m0 : ¬ (m : Int) = 0 := by omega
  have m1 : ((m : Int) == 0) = false := by rw [beq_eq_false_iff_ne]; omega
  have m2 : 0 < m := by omega
  have KP : Hid (∀ t : Lz, t ∈ L → (∀ u ∈ L, t.pin ≤ u.pin) → IsPin now l t.pin ∧ 0 ≤ t.pin ∧ t.pin ≤ 1000000) := Lib.hid (fun t ht hu => by
    rw [hLL] at ht hu
    have q := mem_live.mp ht
    have g := lzBad_iff.mp (v.good t q.1)
    exact ⟨⟨⟨t, q.1, q.2, rfl⟩, fun a ha hat => hu a (mem_live.mpr ⟨ha, hat⟩)⟩, by omega, by omega⟩)
  clear hn hLL hm
  go_enter Try.func29, Try.ntmps29
  go_wp2_with fail
  refine hlv.mono ?_
  rintro e w1 ⟨A', c', rfl, o1, b1⟩
  have h1 := Les.of_row o1
  rw [← HM.out]
  clear hlv o1
  go_wp2_with fail
  refine (lminFunc_any A' m c' L _ h1 HM.out hp (by omega)).mono ?_
  rintro e w2 ⟨⟨t, ht, hu, rfl⟩, b2⟩
  have HP := Lib.hid (KP.out t ht hu)
  have hb := below_trans b1 b2
  clear ht hu
  have fl := fld2 t
  go_wp2
  go_ret2
  exact ⟨⟨t.pin, HP.out.1, HP.out.2.1, HP.out.2.2, rfl⟩, hb⟩

theorem prz_cut (bb : Nat) (to : Int) : Prz 63 bb (fun w => Blk w bb 3 #[.int .i64 to]) (fun x => decide (x.pin < to)) where
  ent := enters_of Try.func63 (by kernel_rfl) rfl
  keep := fun h b => h.below b
  ans := fun x w h => by
    obtain ⟨x1, x2, x3⟩ := x
    have c0 : w.cell? ⟨bb, 0, none⟩ = some (.int .i64 to) := by simpa using h.cell 0
    have hlt := h.lt
    obtain ⟨s, hs⟩ : ∃ s, decide (x3 < to) = s := ⟨_, rfl⟩
    simp only
    rw [hs]
    have ne : ¬ bb = w.heap.size := by omega
    by_cases c : x3 < to
    · have HS : Hid (s = true) := Lib.hid (by rw [← hs, decide_eq_true c])
      clear hs
      go_enter Try.func63, Try.ntmps63
      go_wp2
      go_ret
      exact ⟨ret_bool HS.out.symm, (Below.refl _ w).alloc (Nat.le_refl _) _⟩
    · have HS : Hid (s = false) := Lib.hid (by rw [← hs, decide_eq_false c])
      clear hs
      go_enter Try.func63, Try.ntmps63
      go_wp2
      go_ret
      exact ⟨ret_bool HS.out.symm, (Below.refl _ w).alloc (Nat.le_refl _) _⟩

/-- Cut's error. -/
def cuE (now to : Int) (l : List Lz) : Int := if ¬ lzE l = 0 then lzE l else if to < 0 ∨ 1000000 < to then 1 else if (liveL now l).any (fun x => decide (x.pin < to)) = true then 7 else 0
theorem any_cut {now to : Int} {l : List Lz} : (liveL now l).any (fun x => decide (x.pin < to)) = false ↔ CutOk now to l := by
  rw [List.any_eq_false]
  constructor
  · intro h a ha ht
    have := h a (mem_live.mpr ⟨ha, ht⟩)
    simpa using this
  · intro h a ha
    have q := mem_live.mp ha
    have := h a q.1 q.2
    simpa using this
theorem cu_iff {now to : Int} {l : List Lz} : cuE now to l = 0 ↔ LzOk l ∧ 0 ≤ to ∧ to ≤ 1000000 ∧ CutOk now to l := by
  unfold cuE
  by_cases c : lzE l = 0
  · rw [if_neg (by simpa using c)]
    have v := lzE_iff.mp c
    by_cases d : to < 0 ∨ 1000000 < to
    · rw [if_pos d]
      exact ⟨fun h => absurd h (by decide), fun h => by omega⟩
    · rw [if_neg d]
      by_cases e : (liveL now l).any (fun x => decide (x.pin < to)) = true
      · rw [if_pos e]
        refine ⟨fun h => absurd h (by decide), fun h => ?_⟩
        rw [any_cut.mpr h.2.2.2] at e
        exact absurd e (by simp)
      · rw [if_neg e]
        exact ⟨fun _ => ⟨v, by omega, by omega, any_cut.mp (by simpa using e)⟩, fun _ => rfl⟩
  · rw [if_pos c]
    exact ⟨fun h => absurd h c, fun h => absurd (lzE_iff.mpr h.1) c⟩
theorem cu_there {now to : Int} {l : List Lz} (v : LzOk l) (t0 : 0 ≤ to) (t1 : to ≤ 1000000) (h : ¬ CutOk now to l) : cuE now to l = 7 := by
  have e : (liveL now l).any (fun x => decide (x.pin < to)) = true := by
    cases c : (liveL now l).any (fun x => decide (x.pin < to)) with
    | true => rfl
    | false => exact absurd (any_cut.mp c) h
  rw [cuE, if_neg (by simpa using lzE_iff.mpr v), if_neg (by omega), if_pos e]

set_option maxRecDepth 100000 in
set_option maxHeartbeats 1600000 in
theorem cut_yes (A : Option Addr) (l : List Lz) (n c : Nat) (now to : Int) (w : World) (h : Les w A l) (hn : n = l.length) (hC : Hid (cuE now to l = 0)) :
    Calls Try.prog 30 #[.slice A n c, .int .i64 now, .int .i64 to] w (AnsZ (liveL now l) 0 w) := by
  obtain ⟨v, t0, t1, cut⟩ := cu_iff.mp hC.out
  have hE := Lib.hid (lzE_iff.mpr v)
  have HA := Lib.hid (any_cut.mpr cut)
  have q1 := noL (x := to) (lo := 0) (hi := 1000000) (by omega)
  obtain ⟨B0, hB0⟩ : ∃ B0, B0 = w.heap.size := ⟨_, rfl⟩
  have HB0 := Lib.hid hB0
  obtain ⟨W, hW⟩ : ∃ W, W = w.alloc (.cells #[.int .i64 to] 3) := ⟨_, rfl⟩
  have bW : Below w.heap.size w W := by rw [hW]; exact (Below.refl _ _).alloc (Nat.le_refl _) _
  have BW : Blk W B0 3 #[.int .i64 to] := by rw [hW, hB0]; exact Blk.new _ _ _
  have HW := Lib.hid hW
  have hW' := h.below bW
  have hlv := live_yes A l n c now W hW' hn hE
  clear hn cut hB0 hW
  go_enter Try.func30, Try.ntmps30
  go_wp2_with fail
  rw [← HW.out]
  refine hlv.mono ?_
  rintro e w1 ⟨A', c', rfl, o1, b1⟩
  have h1 := Les.of_row o1
  have B1 := BW.below b1
  have hb := below_trans bW b1
  have c0 : w1.cell? ⟨B0, 0, none⟩ = some (.int .i64 to) := by simpa using B1.cell 0
  clear hlv
  rw [← HB0.out]
  go_wp2_with fail
  refine (lim_any to 0 1000000 false _ q1).mono ?_
  rintro e w2 ⟨rfl, rfl⟩
  go_wp2_with fail
  refine (lcontainsFunc_any _ B0 _ _ (prz_cut B0 to) A' (liveL now l) _ c' false _ h1 rfl B1 HA).mono ?_
  rintro e w2 ⟨rfl, b2⟩
  have o2 := own_belL o1 b2
  have hb2 := below_trans hb b2
  have o3 := own_lower o2 bW.size
  clear o1 o2 h1
  go_wp2
  go_ret2
  exact ⟨A', c', rfl, o3, hb2⟩
set_option maxRecDepth 100000 in
set_option maxHeartbeats 1600000 in
theorem cut_no (A : Option Addr) (l : List Lz) (n c : Nat) (now to : Int) (w : World) (h : Les w A l) (hn : n = l.length) (hC : Hid (¬ cuE now to l = 0)) :
    Calls Try.prog 30 #[.slice A n c, .int .i64 now, .int .i64 to] w fun e w' => e = .returned (.tuple #[.slice none 0 0, .int .i64 (cuE now to l)]) ∧ Below w.heap.size w w' := by
  obtain ⟨B0, hB0⟩ : ∃ B0, B0 = w.heap.size := ⟨_, rfl⟩
  have HB0 := Lib.hid hB0
  obtain ⟨W, hW⟩ : ∃ W, W = w.alloc (.cells #[.int .i64 to] 3) := ⟨_, rfl⟩
  have bW : Below w.heap.size w W := by rw [hW]; exact (Below.refl _ _).alloc (Nat.le_refl _) _
  have BW : Blk W B0 3 #[.int .i64 to] := by rw [hW, hB0]; exact Blk.new _ _ _
  have HW := Lib.hid hW
  have hW' := h.below bW
  clear hB0 hW
  by_cases hE : lzE l = 0
  · have HE := Lib.hid hE
    have hlv := live_yes A l n c now W hW' hn HE
    by_cases d : to < 0 ∨ 1000000 < to
    · have HQ : Hid (cuE now to l = 1) := Lib.hid (by rw [cuE, if_neg (by simpa using hE), if_pos d])
      have q1 := yesL d
      clear hn hC hE d
      go_enter Try.func30, Try.ntmps30
      go_wp2_with fail
      rw [← HW.out]
      refine hlv.mono ?_
      rintro e w1 ⟨A', c', rfl, o1, b1⟩
      have B1 := BW.below b1
      have hb := below_trans bW b1
      have c0 : w1.cell? ⟨B0, 0, none⟩ = some (.int .i64 to) := by simpa using B1.cell 0
      clear hlv o1
      rw [← HB0.out]
      go_wp2_with fail
      refine (lim_any to 0 1000000 true _ q1).mono ?_
      rintro e w2 ⟨rfl, rfl⟩
      go_wp2
      go_ret2
      exact ⟨by rw [HQ.out]; rfl, hb⟩
    · have q1 := noL d
      have HA : Hid ((liveL now l).any (fun x => decide (x.pin < to)) = true) := Lib.hid (by
        cases e : (liveL now l).any (fun x => decide (x.pin < to)) with
        | true => rfl
        | false => exact absurd (by rw [cuE, if_neg (by simpa using hE), if_neg d, if_neg (by rw [e]; decide)]) hC.out)
      have HQ : Hid (cuE now to l = 7) := Lib.hid (by rw [cuE, if_neg (by simpa using hE), if_neg d, if_pos HA.out])
      clear hn hC hE d
      go_enter Try.func30, Try.ntmps30
      go_wp2_with fail
      rw [← HW.out]
      refine hlv.mono ?_
      rintro e w1 ⟨A', c', rfl, o1, b1⟩
      have h1 := Les.of_row o1
      have B1 := BW.below b1
      have hb := below_trans bW b1
      have c0 : w1.cell? ⟨B0, 0, none⟩ = some (.int .i64 to) := by simpa using B1.cell 0
      clear hlv o1
      rw [← HB0.out]
      go_wp2_with fail
      refine (lim_any to 0 1000000 false _ q1).mono ?_
      rintro e w2 ⟨rfl, rfl⟩
      go_wp2_with fail
      refine (lcontainsFunc_any _ B0 _ _ (prz_cut B0 to) A' (liveL now l) _ c' true _ h1 rfl B1 HA).mono ?_
      rintro e w2 ⟨rfl, b2⟩
      have hb2 := below_trans hb b2
      go_wp2
      go_ret2
      exact ⟨by rw [HQ.out]; rfl, hb2⟩
  · have HQ : Hid (cuE now to l = lzE l) := Lib.hid (by rw [cuE, if_pos hE])
    have e1 : (lzE l != 0) = true := by simp [hE]
    have hlv := live_no A l n c now W hW' hn hE
    clear hn hC hE
    go_enter Try.func30, Try.ntmps30
    go_wp2_with fail
    rw [← HW.out]
    refine hlv.mono ?_
    rintro e w1 ⟨rfl, b1⟩
    have hb := below_trans bW b1
    clear hlv
    go_wp2
    go_ret2
    exact ⟨by rw [HQ.out]; rfl, hb⟩

end Go.Proofs.Ytnpdcllfdoobeaa
