
/-
  The walk of the law PointMoves.
-/
import Derived.Test.YthjdabmlilnepaaPointD
import Derived.Test.YthjdabmlilnepaaRefB
import Derived.Maps.AppendAt
namespace Go.Proofs.Ythjdabmlilnepaa
set_option linter.all false
open Go.RowKit Go.Shelf

/-- Two rows of the call's own do not lie in one block. -/
def Sep (v u : Value) : Prop := ∀ g, v.ownBlock = some g → u.ownBlock = some g → False

theorem Sep.keep {v u : Value} (h : Sep v u) : u.ownBlock = none ∨ u.ownBlock ≠ v.ownBlock := by
  cases e : u.ownBlock with
  | none => exact .inl rfl
  | some g => exact .inr (fun e' => h g e'.symm e)
theorem Sep.symm {v u : Value} (h : Sep v u) : Sep u v := fun g a b => h g b a

theorem Sep.app {w : World} {base : Nat} {e : TypeId} {size n : Nat} {v v' u : Value} {xs : List Value} (h : Sep v u) (hu : w.ownsRow base e size u n xs) (hv : v'.ownBlock = v.ownBlock ∨ v'.ownBlock = some (w.heap.size + 1)) : Sep v' u := by
  intro g h1 h2
  rcases hv with hv | hv
  · exact h g (hv.symm.trans h1) h2
  · have := (hu.lt g h2).2
    rw [hv] at h1
    injection h1 with h1
    omega

theorem own_shape {w : World} {base : Nat} {e : TypeId} {v : Value} {L : List Int} (h : w.ownsRow base e 1 v L.length (L.map (Value.int .i64))) : ∃ A c, v = .slice A L.length c ∧ Ints w A L := by
  rcases h.2 with ⟨rfl, h0⟩ | ⟨g, cap, cur, rfl, h1⟩
  · have : L = [] := List.eq_nil_of_length_eq_zero h0
    subst this
    exact ⟨none, 0, rfl, Ints.nil_ _ _⟩
  · exact ⟨some ⟨g, 0, none⟩, cap, rfl, Ints.of_own h⟩



set_option maxHeartbeats 800000 in
theorem moves_none (a0 : Option Addr) (c0 : Nat) (l0 : List Int) (d n : Int) (w : World) (h0 : Ints w a0 l0) (g : chk l0 ≠ 0) :
    Calls Try.prog 5 #[.slice a0 l0.length c0, .int .i64 d, .int .i64 n] w fun e w' => e = .returned (.bool true) ∧ Below w.heap.size w w' := by
  have hb : Below w.heap.size w w := Below.refl _ _
  have hl := h0.1
  obtain ⟨M1, L1⟩ : ∃ L, Hid (L = tab l0.length (lateV l0 d)) := ⟨_, Lib.hid rfl⟩
  obtain ⟨M2, L2⟩ : ∃ L, Hid (L = tab l0.length fun t => gt l0 t + n) := ⟨_, Lib.hid rfl⟩
  have e1 : (chk l0 == 0) = false := by simp [g]
  have E1 : Hid (lateE l0 d = chk l0) := Lib.hid (by simp [lateE, g])
  have E2 : Hid (upE l0 n = chk l0) := Lib.hid (by simp [upE, g])
  have G := Lib.hid g
  clear g
  go_enter Try.func5, Try.ntmps5
  go_wp2_with fail
  refine (late_any a0 l0 c0 d _ h0).mono ?_
  rintro e w1 ⟨Ax, cx, rfl, ox, bw1⟩
  replace h0 := h0.below bw1
  replace hb := below_trans hb bw1
  have hx := Ints.of_own ox
  clear bw1 ox
  rw [← L1.out, E1.out]
  rw [← L1.out, E1.out] at hx
  go_wp2_with fail
  refine (up_any a0 l0 c0 n _ h0).mono ?_
  rintro e w2 ⟨Ay, cy, rfl, oy, bw2⟩
  replace h0 := h0.below bw2
  replace hx := hx.below bw2
  replace hb := below_trans hb bw2
  have hy := Ints.of_own oy
  clear bw2 oy
  rw [← L2.out, E2.out]
  rw [← L2.out, E2.out] at hy
  go_wp2_with fail
  refine (refCurve_any a0 l0 c0 _ h0).mono ?_
  rintro e w' ⟨rfl, rfl⟩
  skip
  go_wp2_with fail
  refine (refCurve_any a0 l0 c0 _ h0).mono ?_
  rintro e w' ⟨rfl, rfl⟩
  skip
  go_wp2
  go_loop [13, 14, 51] (fun p q i => ∃ k : Nat, k ≤ l0.length ∧ i = .int .i64 k ∧ p = .slice none 0 0 ∧ q = .slice none 0 0) (fun _ _ i => l0.length - (intOf i).toNat)
  case atStart => exact ⟨0, Nat.zero_le _, rfl, rfl, rfl⟩
  case round =>
    obtain ⟨k, hk, rfl, rfl, rfl⟩ := hrel
    by_cases hlt : k < l0.length
    · go_wp2
      go_round
      case rel => exact ⟨k + 1, by omega, by go_num, rfl, rfl⟩
      case measure => simp [intOf]; omega
    · go_wp2_with fail
      refine (told_at Ax none M1 [] _ _ _ _ _ _ _ hx (Ints.nil_ _ _) (fun e => absurd e G.out) rfl rfl rfl).mono ?_
      rintro e w4 ⟨rfl, nw4, hww4⟩
      have bw4 := below_of_drewN hww4
      clear hww4
      replace hy := hy.below bw4
      replace hb := below_trans hb bw4
      clear bw4
      go_wp2_with fail
      refine (told_at Ay none M2 [] _ _ _ _ _ _ _ hy (Ints.nil_ _ _) (fun e => absurd e G.out) rfl rfl rfl).mono ?_
      rintro e w5 ⟨rfl, nw5, hww5⟩
      have bw5 := below_of_drewN hww5
      clear hww5
      replace hb := below_trans hb bw5
      clear bw5
      go_wp2
      go_ret
      exact ⟨rfl, hb⟩

/-- Both numbers are refused. -/
theorem moves_bad (a0 : Option Addr) (c0 : Nat) (l0 : List Int) (d n : Int) (w : World) (h0 : Ints w a0 l0) (g : chk l0 = 0) (h2 : d < 0) (h3 : n < 0 ∨ 1000000 < n) :
    Calls Try.prog 5 #[.slice a0 l0.length c0, .int .i64 d, .int .i64 n] w fun e w' => e = .returned (.bool true) ∧ Below w.heap.size w w' := by
  have hb : Below w.heap.size w w := Below.refl _ _
  have hl := h0.1
  obtain ⟨M1, L1⟩ : ∃ L, Hid (L = tab l0.length (lateV l0 d)) := ⟨_, Lib.hid rfl⟩
  obtain ⟨M2, L2⟩ : ∃ L, Hid (L = tab l0.length fun t => gt l0 t + n) := ⟨_, Lib.hid rfl⟩
  have E1 : Hid (lateE l0 d = 1) := Lib.hid (by simp [lateE, g, h2])
  have E2 : Hid (upE l0 n = 1) := Lib.hid (by simp [upE, g, h3])
  have G := Lib.hid g
  have f2 : decide (d < 0) = true := decide_eq_true h2
  clear g
  rcases h3 with h3 | h3
  · have f3 : decide (n < 0) = true := decide_eq_true h3
    go_enter Try.func5, Try.ntmps5
    go_wp2_with fail
    refine (late_any a0 l0 c0 d _ h0).mono ?_
    rintro e w1 ⟨Ax, cx, rfl, ox, bw1⟩
    replace h0 := h0.below bw1
    replace hb := below_trans hb bw1
    have hx := Ints.of_own ox
    clear bw1 ox
    rw [← L1.out, E1.out]
    rw [← L1.out, E1.out] at hx
    go_wp2_with fail
    refine (up_any a0 l0 c0 n _ h0).mono ?_
    rintro e w2 ⟨Ay, cy, rfl, oy, bw2⟩
    replace h0 := h0.below bw2
    replace hx := hx.below bw2
    replace hb := below_trans hb bw2
    have hy := Ints.of_own oy
    clear bw2 oy
    rw [← L2.out, E2.out]
    rw [← L2.out, E2.out] at hy
    go_wp2_with fail
    refine (refCurve_any a0 l0 c0 _ h0).mono ?_
    rintro e w' ⟨rfl, rfl⟩
    rw [G.out]
    go_wp2_with fail
    refine (refCurve_any a0 l0 c0 _ h0).mono ?_
    rintro e w' ⟨rfl, rfl⟩
    rw [G.out]
    go_wp2
    go_loop [13, 14, 51] (fun p q i => ∃ k : Nat, k ≤ l0.length ∧ i = .int .i64 k ∧ p = .slice none 0 0 ∧ q = .slice none 0 0) (fun _ _ i => l0.length - (intOf i).toNat)
    case atStart => exact ⟨0, Nat.zero_le _, rfl, rfl, rfl⟩
    case round =>
      obtain ⟨k, hk, rfl, rfl, rfl⟩ := hrel
      by_cases hlt : k < l0.length
      · go_wp2
        go_round
        case rel => exact ⟨k + 1, by omega, by go_num, rfl, rfl⟩
        case measure => simp [intOf]; omega
      · go_wp2_with fail
        refine (told_at Ax none M1 [] _ _ _ _ _ _ _ hx (Ints.nil_ _ _) (fun e => absurd e (by decide)) rfl rfl rfl).mono ?_
        rintro e w4 ⟨rfl, nw4, hww4⟩
        have bw4 := below_of_drewN hww4
        clear hww4
        replace hy := hy.below bw4
        replace hb := below_trans hb bw4
        clear bw4
        go_wp2_with fail
        refine (told_at Ay none M2 [] _ _ _ _ _ _ _ hy (Ints.nil_ _ _) (fun e => absurd e (by decide)) rfl rfl rfl).mono ?_
        rintro e w5 ⟨rfl, nw5, hww5⟩
        have bw5 := below_of_drewN hww5
        clear hww5
        replace hb := below_trans hb bw5
        clear bw5
        go_wp2
        go_ret
        exact ⟨rfl, hb⟩
  · have f3 : decide (n < 0) = false := decide_eq_false (by omega)
    have f4 : decide (1000000 < n) = true := decide_eq_true h3
    go_enter Try.func5, Try.ntmps5
    go_wp2_with fail
    refine (late_any a0 l0 c0 d _ h0).mono ?_
    rintro e w1 ⟨Ax, cx, rfl, ox, bw1⟩
    replace h0 := h0.below bw1
    replace hb := below_trans hb bw1
    have hx := Ints.of_own ox
    clear bw1 ox
    rw [← L1.out, E1.out]
    rw [← L1.out, E1.out] at hx
    go_wp2_with fail
    refine (up_any a0 l0 c0 n _ h0).mono ?_
    rintro e w2 ⟨Ay, cy, rfl, oy, bw2⟩
    replace h0 := h0.below bw2
    replace hx := hx.below bw2
    replace hb := below_trans hb bw2
    have hy := Ints.of_own oy
    clear bw2 oy
    rw [← L2.out, E2.out]
    rw [← L2.out, E2.out] at hy
    go_wp2_with fail
    refine (refCurve_any a0 l0 c0 _ h0).mono ?_
    rintro e w' ⟨rfl, rfl⟩
    rw [G.out]
    go_wp2_with fail
    refine (refCurve_any a0 l0 c0 _ h0).mono ?_
    rintro e w' ⟨rfl, rfl⟩
    rw [G.out]
    go_wp2
    go_loop [13, 14, 51] (fun p q i => ∃ k : Nat, k ≤ l0.length ∧ i = .int .i64 k ∧ p = .slice none 0 0 ∧ q = .slice none 0 0) (fun _ _ i => l0.length - (intOf i).toNat)
    case atStart => exact ⟨0, Nat.zero_le _, rfl, rfl, rfl⟩
    case round =>
      obtain ⟨k, hk, rfl, rfl, rfl⟩ := hrel
      by_cases hlt : k < l0.length
      · go_wp2
        go_round
        case rel => exact ⟨k + 1, by omega, by go_num, rfl, rfl⟩
        case measure => simp [intOf]; omega
      · go_wp2_with fail
        refine (told_at Ax none M1 [] _ _ _ _ _ _ _ hx (Ints.nil_ _ _) (fun e => absurd e (by decide)) rfl rfl rfl).mono ?_
        rintro e w4 ⟨rfl, nw4, hww4⟩
        have bw4 := below_of_drewN hww4
        clear hww4
        replace hy := hy.below bw4
        replace hb := below_trans hb bw4
        clear bw4
        go_wp2_with fail
        refine (told_at Ay none M2 [] _ _ _ _ _ _ _ hy (Ints.nil_ _ _) (fun e => absurd e (by decide)) rfl rfl rfl).mono ?_
        rintro e w5 ⟨rfl, nw5, hww5⟩
        have bw5 := below_of_drewN hww5
        clear hww5
        replace hb := below_trans hb bw5
        clear bw5
        go_wp2
        go_ret
        exact ⟨rfl, hb⟩

set_option maxHeartbeats 1600000 in
/-- The delay is fine, the number is refused. -/
theorem moves_late (a0 : Option Addr) (c0 : Nat) (l0 : List Int) (d n : Int) (w : World) (h0 : Ints w a0 l0) (g : chk l0 = 0) (h2 : ¬ d < 0) (h3 : n < 0 ∨ 1000000 < n) :
    Calls Try.prog 5 #[.slice a0 l0.length c0, .int .i64 d, .int .i64 n] w fun e w' => e = .returned (.bool true) ∧ Below w.heap.size w w' := by
  have hb : Below w.heap.size w w := Below.refl _ _
  have hl := h0.1
  obtain ⟨i0, hi0, hz0, hz1, hz2⟩ := info_parts int_info
  obtain ⟨M1, L1⟩ : ∃ L, Hid (L = tab l0.length (lateV l0 d)) := ⟨_, Lib.hid rfl⟩
  obtain ⟨M2, L2⟩ : ∃ L, Hid (L = tab l0.length fun t => gt l0 t + n) := ⟨_, Lib.hid rfl⟩
  have E1 : Hid (lateE l0 d = 0) := Lib.hid (by simp [lateE, g, h2])
  have E2 : Hid (upE l0 n = 1) := Lib.hid (by simp [upE, g, h3])
  have G := Lib.hid g
  have v0 := cv_of g
  have hle := v0.le
  have f2 : decide (d < 0) = false := decide_eq_false h2
  clear g
  rcases h3 with h3 | h3
  · have f3 : decide (n < 0) = true := decide_eq_true h3
    go_enter Try.func5, Try.ntmps5
    go_wp2_with fail
    refine (late_any a0 l0 c0 d _ h0).mono ?_
    rintro e w1 ⟨Ax, cx, rfl, ox, bw1⟩
    replace h0 := h0.below bw1
    replace hb := below_trans hb bw1
    have hx := Ints.of_own ox
    clear bw1 ox
    rw [← L1.out, E1.out]
    rw [← L1.out, E1.out] at hx
    go_wp2_with fail
    refine (up_any a0 l0 c0 n _ h0).mono ?_
    rintro e w2 ⟨Ay, cy, rfl, oy, bw2⟩
    replace h0 := h0.below bw2
    replace hx := hx.below bw2
    replace hb := below_trans hb bw2
    have hy := Ints.of_own oy
    clear bw2 oy
    rw [← L2.out, E2.out]
    rw [← L2.out, E2.out] at hy
    go_wp2_with fail
    refine (refCurve_any a0 l0 c0 _ h0).mono ?_
    rintro e w' ⟨rfl, rfl⟩
    rw [G.out]
    go_wp2_with fail
    refine (refCurve_any a0 l0 c0 _ h0).mono ?_
    rintro e w' ⟨rfl, rfl⟩
    rw [G.out]
    go_wp2
    go_loopw [13, 14, 51] (fun p q i wr => ∃ k : Nat, k ≤ l0.length ∧ i = .int .i64 k ∧ q = .slice none 0 0 ∧ wr.ownsRow w2.heap.size 3 1 p k ((tab k (lateV l0 d)).map (Value.int .i64)) ∧ Below w2.heap.size w2 wr) (fun _ _ i _ => l0.length - (intOf i).toNat)
    case atStart => exact ⟨0, Nat.zero_le _, rfl, rfl, by rw [tab_zero]; exact World.ownsRow_nil _ _ _ _, Below.refl _ _⟩
    case round =>
      obtain ⟨k, hk, rfl, rfl, hown, hbw⟩ := hrel
      have hsz := hbw.size
      by_cases hlt : k < l0.length
      · by_cases hdk : d ≤ (k : Int)
        · obtain ⟨m, rfl⟩ := Int.eq_ofNat_of_zero_le (show 0 ≤ d by omega)
          obtain ⟨b1, o1, x, rfl, hc1, HX⟩ := (h0.below hbw).at_ (k := k - m) (by omega)
          have HV : Hid (lateV l0 m k = x) := Lib.hid (by simp only [lateV, if_neg (show ¬ (k : Int) < m by omega), Int.toNat_natCast]; exact gt_of_get HX.out)
          go_wp2_with (at_builtin; refine wpList_append_own_at _ rfl (.tmp 65) (.tmp 67) 22 rfl w2.heap.size 3 i0 (.int .i64 0) 1 8 Try.underlying22 hi0 hz0 hz1 hz2 rfl (by decide) _ _ _ rfl (World.ownsRow.alloc hown _) ⟨wr.heap.size, 0, none⟩ 1 1 [.int .i64 x] rfl rfl (cell_one_new _ _ _) (one_cell _) (by unfold maxLen; omega) (by omega) (by simp; omega) ?_)
          intro z wz oz gz _ atz
          have bz : Below w2.heap.size w2 wz := ((hbw.alloc hbw.size _).grown gz (by simp; omega) (fun k hk => (hown.lt k hk).1))
          have oz' : wz.ownsRow w2.heap.size 3 1 z (k + 1) ((tab (k + 1) (lateV l0 m)).map (Value.int .i64)) := by rw [tab_succ, List.map_append, HV.out]; exact oz
          clear oz gz atz hown hbw
          go_wp2
          go_roundw
          case rel => exact ⟨k + 1, by omega, by go_num, rfl, oz', bz⟩
          case measure => simp [intOf]; omega
        · have HV : Hid (lateV l0 d k = 0) := Lib.hid (by simp [lateV]; omega)
          go_wp2_with (at_builtin; refine wpList_append_own_at _ rfl (.tmp 65) (.tmp 67) 22 rfl w2.heap.size 3 i0 (.int .i64 0) 1 8 Try.underlying22 hi0 hz0 hz1 hz2 rfl (by decide) _ _ _ rfl (World.ownsRow.alloc hown _) ⟨wr.heap.size, 0, none⟩ 1 1 [.int .i64 0] rfl rfl (cell_one_new _ _ _) (one_cell _) (by unfold maxLen; omega) (by omega) (by simp; omega) ?_)
          intro z wz oz gz _ atz
          have bz : Below w2.heap.size w2 wz := ((hbw.alloc hbw.size _).grown gz (by simp; omega) (fun k hk => (hown.lt k hk).1))
          have oz' : wz.ownsRow w2.heap.size 3 1 z (k + 1) ((tab (k + 1) (lateV l0 d)).map (Value.int .i64)) := by rw [tab_succ, List.map_append, HV.out]; exact oz
          clear oz gz atz hown hbw
          go_wp2
          go_roundw
          case rel => exact ⟨k + 1, by omega, by go_num, rfl, oz', bz⟩
          case measure => simp [intOf]; omega
      · obtain rfl : k = l0.length := by omega
        replace hx := hx.below hbw
        replace hy := hy.below hbw
        replace hb := below_trans hb hbw
        obtain ⟨A1, d1, hA1, q1⟩ := own_shape (L := tab l0.length (lateV l0 d)) (by rw [length_tab]; exact hown)
        rw [hA1]
        clear hown hbw hA1
        go_wp2_with fail
        refine (told_at Ax A1 M1 (tab l0.length (lateV l0 d)) _ _ _ _ _ _ _ hx q1 (fun _ => L1.out.symm) rfl rfl rfl).mono ?_
        rintro e w4 ⟨rfl, nw4, hww4⟩
        have bw4 := below_of_drewN hww4
        clear hww4
        replace hy := hy.below bw4
        replace hb := below_trans hb bw4
        clear bw4
        go_wp2_with fail
        refine (told_at Ay none M2 [] _ _ _ _ _ _ _ hy (Ints.nil_ _ _) (fun e => absurd e (by decide)) rfl rfl rfl).mono ?_
        rintro e w5 ⟨rfl, nw5, hww5⟩
        have bw5 := below_of_drewN hww5
        clear hww5
        replace hb := below_trans hb bw5
        clear bw5
        go_wp2
        go_ret
        exact ⟨rfl, hb⟩
  · have f3 : decide (n < 0) = false := decide_eq_false (by omega)
    have f4 : decide (1000000 < n) = true := decide_eq_true h3
    go_enter Try.func5, Try.ntmps5
    go_wp2_with fail
    refine (late_any a0 l0 c0 d _ h0).mono ?_
    rintro e w1 ⟨Ax, cx, rfl, ox, bw1⟩
    replace h0 := h0.below bw1
    replace hb := below_trans hb bw1
    have hx := Ints.of_own ox
    clear bw1 ox
    rw [← L1.out, E1.out]
    rw [← L1.out, E1.out] at hx
    go_wp2_with fail
    refine (up_any a0 l0 c0 n _ h0).mono ?_
    rintro e w2 ⟨Ay, cy, rfl, oy, bw2⟩
    replace h0 := h0.below bw2
    replace hx := hx.below bw2
    replace hb := below_trans hb bw2
    have hy := Ints.of_own oy
    clear bw2 oy
    rw [← L2.out, E2.out]
    rw [← L2.out, E2.out] at hy
    go_wp2_with fail
    refine (refCurve_any a0 l0 c0 _ h0).mono ?_
    rintro e w' ⟨rfl, rfl⟩
    rw [G.out]
    go_wp2_with fail
    refine (refCurve_any a0 l0 c0 _ h0).mono ?_
    rintro e w' ⟨rfl, rfl⟩
    rw [G.out]
    go_wp2
    go_loopw [13, 14, 51] (fun p q i wr => ∃ k : Nat, k ≤ l0.length ∧ i = .int .i64 k ∧ q = .slice none 0 0 ∧ wr.ownsRow w2.heap.size 3 1 p k ((tab k (lateV l0 d)).map (Value.int .i64)) ∧ Below w2.heap.size w2 wr) (fun _ _ i _ => l0.length - (intOf i).toNat)
    case atStart => exact ⟨0, Nat.zero_le _, rfl, rfl, by rw [tab_zero]; exact World.ownsRow_nil _ _ _ _, Below.refl _ _⟩
    case round =>
      obtain ⟨k, hk, rfl, rfl, hown, hbw⟩ := hrel
      have hsz := hbw.size
      by_cases hlt : k < l0.length
      · by_cases hdk : d ≤ (k : Int)
        · obtain ⟨m, rfl⟩ := Int.eq_ofNat_of_zero_le (show 0 ≤ d by omega)
          obtain ⟨b1, o1, x, rfl, hc1, HX⟩ := (h0.below hbw).at_ (k := k - m) (by omega)
          have HV : Hid (lateV l0 m k = x) := Lib.hid (by simp only [lateV, if_neg (show ¬ (k : Int) < m by omega), Int.toNat_natCast]; exact gt_of_get HX.out)
          go_wp2_with (at_builtin; refine wpList_append_own_at _ rfl (.tmp 65) (.tmp 67) 22 rfl w2.heap.size 3 i0 (.int .i64 0) 1 8 Try.underlying22 hi0 hz0 hz1 hz2 rfl (by decide) _ _ _ rfl (World.ownsRow.alloc hown _) ⟨wr.heap.size, 0, none⟩ 1 1 [.int .i64 x] rfl rfl (cell_one_new _ _ _) (one_cell _) (by unfold maxLen; omega) (by omega) (by simp; omega) ?_)
          intro z wz oz gz _ atz
          have bz : Below w2.heap.size w2 wz := ((hbw.alloc hbw.size _).grown gz (by simp; omega) (fun k hk => (hown.lt k hk).1))
          have oz' : wz.ownsRow w2.heap.size 3 1 z (k + 1) ((tab (k + 1) (lateV l0 m)).map (Value.int .i64)) := by rw [tab_succ, List.map_append, HV.out]; exact oz
          clear oz gz atz hown hbw
          go_wp2
          go_roundw
          case rel => exact ⟨k + 1, by omega, by go_num, rfl, oz', bz⟩
          case measure => simp [intOf]; omega
        · have HV : Hid (lateV l0 d k = 0) := Lib.hid (by simp [lateV]; omega)
          go_wp2_with (at_builtin; refine wpList_append_own_at _ rfl (.tmp 65) (.tmp 67) 22 rfl w2.heap.size 3 i0 (.int .i64 0) 1 8 Try.underlying22 hi0 hz0 hz1 hz2 rfl (by decide) _ _ _ rfl (World.ownsRow.alloc hown _) ⟨wr.heap.size, 0, none⟩ 1 1 [.int .i64 0] rfl rfl (cell_one_new _ _ _) (one_cell _) (by unfold maxLen; omega) (by omega) (by simp; omega) ?_)
          intro z wz oz gz _ atz
          have bz : Below w2.heap.size w2 wz := ((hbw.alloc hbw.size _).grown gz (by simp; omega) (fun k hk => (hown.lt k hk).1))
          have oz' : wz.ownsRow w2.heap.size 3 1 z (k + 1) ((tab (k + 1) (lateV l0 d)).map (Value.int .i64)) := by rw [tab_succ, List.map_append, HV.out]; exact oz
          clear oz gz atz hown hbw
          go_wp2
          go_roundw
          case rel => exact ⟨k + 1, by omega, by go_num, rfl, oz', bz⟩
          case measure => simp [intOf]; omega
      · obtain rfl : k = l0.length := by omega
        replace hx := hx.below hbw
        replace hy := hy.below hbw
        replace hb := below_trans hb hbw
        obtain ⟨A1, d1, hA1, q1⟩ := own_shape (L := tab l0.length (lateV l0 d)) (by rw [length_tab]; exact hown)
        rw [hA1]
        clear hown hbw hA1
        go_wp2_with fail
        refine (told_at Ax A1 M1 (tab l0.length (lateV l0 d)) _ _ _ _ _ _ _ hx q1 (fun _ => L1.out.symm) rfl rfl rfl).mono ?_
        rintro e w4 ⟨rfl, nw4, hww4⟩
        have bw4 := below_of_drewN hww4
        clear hww4
        replace hy := hy.below bw4
        replace hb := below_trans hb bw4
        clear bw4
        go_wp2_with fail
        refine (told_at Ay none M2 [] _ _ _ _ _ _ _ hy (Ints.nil_ _ _) (fun e => absurd e (by decide)) rfl rfl rfl).mono ?_
        rintro e w5 ⟨rfl, nw5, hww5⟩
        have bw5 := below_of_drewN hww5
        clear hww5
        replace hb := below_trans hb bw5
        clear bw5
        go_wp2
        go_ret
        exact ⟨rfl, hb⟩

set_option maxHeartbeats 1600000 in
/-- The number is fine, the delay is refused. -/
theorem moves_up (a0 : Option Addr) (c0 : Nat) (l0 : List Int) (d n : Int) (w : World) (h0 : Ints w a0 l0) (g : chk l0 = 0) (h2 : d < 0) (h3 : ¬ n < 0) (h4 : ¬ 1000000 < n) :
    Calls Try.prog 5 #[.slice a0 l0.length c0, .int .i64 d, .int .i64 n] w fun e w' => e = .returned (.bool true) ∧ Below w.heap.size w w' := by
  have hb : Below w.heap.size w w := Below.refl _ _
  have hl := h0.1
  obtain ⟨i0, hi0, hz0, hz1, hz2⟩ := info_parts int_info
  obtain ⟨M1, L1⟩ : ∃ L, Hid (L = tab l0.length (lateV l0 d)) := ⟨_, Lib.hid rfl⟩
  obtain ⟨M2, L2⟩ : ∃ L, Hid (L = tab l0.length fun t => gt l0 t + n) := ⟨_, Lib.hid rfl⟩
  have E1 : Hid (lateE l0 d = 1) := Lib.hid (by simp [lateE, g, h2])
  have E2 : Hid (upE l0 n = 0) := Lib.hid (by simp [upE, g]; omega)
  have G := Lib.hid g
  have v0 := cv_of g
  have hle := v0.le
  have f3 : decide (n < 0) = false := decide_eq_false h3
  have f4 : decide (1000000 < n) = false := decide_eq_false h4
  clear g
  have f2 : decide (d < 0) = true := decide_eq_true h2
  go_enter Try.func5, Try.ntmps5
  go_wp2_with fail
  refine (late_any a0 l0 c0 d _ h0).mono ?_
  rintro e w1 ⟨Ax, cx, rfl, ox, bw1⟩
  replace h0 := h0.below bw1
  replace hb := below_trans hb bw1
  have hx := Ints.of_own ox
  clear bw1 ox
  rw [← L1.out, E1.out]
  rw [← L1.out, E1.out] at hx
  go_wp2_with fail
  refine (up_any a0 l0 c0 n _ h0).mono ?_
  rintro e w2 ⟨Ay, cy, rfl, oy, bw2⟩
  replace h0 := h0.below bw2
  replace hx := hx.below bw2
  replace hb := below_trans hb bw2
  have hy := Ints.of_own oy
  clear bw2 oy
  rw [← L2.out, E2.out]
  rw [← L2.out, E2.out] at hy
  go_wp2_with fail
  refine (refCurve_any a0 l0 c0 _ h0).mono ?_
  rintro e w' ⟨rfl, rfl⟩
  rw [G.out]
  go_wp2_with fail
  refine (refCurve_any a0 l0 c0 _ h0).mono ?_
  rintro e w' ⟨rfl, rfl⟩
  rw [G.out]
  go_wp2
  go_loopw [13, 14, 51] (fun p q i wr => ∃ k : Nat, k ≤ l0.length ∧ i = .int .i64 k ∧ p = .slice none 0 0 ∧ wr.ownsRow w2.heap.size 3 1 q k ((tab k fun t => gt l0 t + n).map (Value.int .i64)) ∧ Below w2.heap.size w2 wr) (fun _ _ i _ => l0.length - (intOf i).toNat)
  case atStart => exact ⟨0, Nat.zero_le _, rfl, rfl, by rw [tab_zero]; exact World.ownsRow_nil _ _ _ _, Below.refl _ _⟩
  case round =>
    obtain ⟨k, hk, rfl, rfl, hown, hbw⟩ := hrel
    have hsz := hbw.size
    by_cases hlt : k < l0.length
    · obtain ⟨b2, o2, y, rfl, hc2, HY⟩ := (h0.below hbw).at_ hlt
      have hy' := gt_of_get HY.out
      have y0 : 0 ≤ y := by rw [← hy']; exact v0.lo k hlt
      have y1 : y ≤ 1000000 := by rw [← hy']; exact v0.hi k hlt
      have HU : Hid (gt l0 k + n = y + n) := Lib.hid (by rw [hy'])
      clear hy'
      go_wp2_with (at_builtin; refine wpList_append_own_at _ rfl (.tmp 71) (.tmp 78) 22 rfl w2.heap.size 3 i0 (.int .i64 0) 1 8 Try.underlying22 hi0 hz0 hz1 hz2 rfl (by decide) _ _ _ rfl (World.ownsRow.alloc hown _) ⟨wr.heap.size, 0, none⟩ 1 1 [.int .i64 (y + n)] rfl rfl (cell_one_new _ _ _) (one_cell _) (by unfold maxLen; omega) (by omega) (by simp; omega) ?_)
      intro z wz oz gz _ atz
      have bz : Below w2.heap.size w2 wz := ((hbw.alloc hbw.size _).grown gz (by simp; omega) (fun k hk => (hown.lt k hk).1))
      have oz' : wz.ownsRow w2.heap.size 3 1 z (k + 1) ((tab (k + 1) fun t => gt l0 t + n).map (Value.int .i64)) := by rw [tab_succ, List.map_append, HU.out]; exact oz
      clear oz gz atz hown hbw
      go_wp2
      go_roundw
      case rel => exact ⟨k + 1, by omega, by go_num, rfl, oz', bz⟩
      case measure => simp [intOf]; omega
    · obtain rfl : k = l0.length := by omega
      replace hx := hx.below hbw
      replace hy := hy.below hbw
      replace hb := below_trans hb hbw
      obtain ⟨A1, d1, hA1, q1⟩ := own_shape (L := tab l0.length fun t => gt l0 t + n) (by rw [length_tab]; exact hown)
      rw [hA1]
      clear hown hbw hA1
      go_wp2_with fail
      refine (told_at Ax none M1 [] _ _ _ _ _ _ _ hx (Ints.nil_ _ _) (fun e => absurd e (by decide)) rfl rfl rfl).mono ?_
      rintro e w4 ⟨rfl, nw4, hww4⟩
      have bw4 := below_of_drewN hww4
      clear hww4
      replace hy := hy.below bw4
      replace q1 := q1.below bw4
      replace hb := below_trans hb bw4
      clear bw4
      go_wp2_with fail
      refine (told_at Ay A1 M2 (tab l0.length fun t => gt l0 t + n) _ _ _ _ _ _ _ hy q1 (fun _ => L2.out.symm) rfl rfl rfl).mono ?_
      rintro e w5 ⟨rfl, nw5, hww5⟩
      have bw5 := below_of_drewN hww5
      clear hww5
      replace hb := below_trans hb bw5
      clear bw5
      go_wp2
      go_ret
      exact ⟨rfl, hb⟩

set_option maxHeartbeats 1600000 in
/-- Both are fine. -/
theorem moves_both (a0 : Option Addr) (c0 : Nat) (l0 : List Int) (d n : Int) (w : World) (h0 : Ints w a0 l0) (g : chk l0 = 0) (h2 : ¬ d < 0) (h3 : ¬ n < 0) (h4 : ¬ 1000000 < n) :
    Calls Try.prog 5 #[.slice a0 l0.length c0, .int .i64 d, .int .i64 n] w fun e w' => e = .returned (.bool true) ∧ Below w.heap.size w w' := by
  have hb : Below w.heap.size w w := Below.refl _ _
  have hl := h0.1
  obtain ⟨i0, hi0, hz0, hz1, hz2⟩ := info_parts int_info
  obtain ⟨M1, L1⟩ : ∃ L, Hid (L = tab l0.length (lateV l0 d)) := ⟨_, Lib.hid rfl⟩
  obtain ⟨M2, L2⟩ : ∃ L, Hid (L = tab l0.length fun t => gt l0 t + n) := ⟨_, Lib.hid rfl⟩
  have E1 : Hid (lateE l0 d = 0) := Lib.hid (by simp [lateE, g, h2])
  have E2 : Hid (upE l0 n = 0) := Lib.hid (by simp [upE, g]; omega)
  have G := Lib.hid g
  have v0 := cv_of g
  have hle := v0.le
  have f3 : decide (n < 0) = false := decide_eq_false h3
  have f4 : decide (1000000 < n) = false := decide_eq_false h4
  clear g
  have f2 : decide (d < 0) = false := decide_eq_false h2
  go_enter Try.func5, Try.ntmps5
  go_wp2_with fail
  refine (late_any a0 l0 c0 d _ h0).mono ?_
  rintro e w1 ⟨Ax, cx, rfl, ox, bw1⟩
  replace h0 := h0.below bw1
  replace hb := below_trans hb bw1
  have hx := Ints.of_own ox
  clear bw1 ox
  rw [← L1.out, E1.out]
  rw [← L1.out, E1.out] at hx
  go_wp2_with fail
  refine (up_any a0 l0 c0 n _ h0).mono ?_
  rintro e w2 ⟨Ay, cy, rfl, oy, bw2⟩
  replace h0 := h0.below bw2
  replace hx := hx.below bw2
  replace hb := below_trans hb bw2
  have hy := Ints.of_own oy
  clear bw2 oy
  rw [← L2.out, E2.out]
  rw [← L2.out, E2.out] at hy
  go_wp2_with fail
  refine (refCurve_any a0 l0 c0 _ h0).mono ?_
  rintro e w' ⟨rfl, rfl⟩
  rw [G.out]
  go_wp2_with fail
  refine (refCurve_any a0 l0 c0 _ h0).mono ?_
  rintro e w' ⟨rfl, rfl⟩
  rw [G.out]
  go_wp2
  go_loopw [13, 14, 51] (fun p q i wr => ∃ k : Nat, k ≤ l0.length ∧ i = .int .i64 k ∧ wr.ownsRow w2.heap.size 3 1 p k ((tab k (lateV l0 d)).map (Value.int .i64)) ∧ wr.ownsRow w2.heap.size 3 1 q k ((tab k fun t => gt l0 t + n).map (Value.int .i64)) ∧ Sep p q ∧ Below w2.heap.size w2 wr) (fun _ _ i _ => l0.length - (intOf i).toNat)
  case atStart => exact ⟨0, Nat.zero_le _, rfl, by rw [tab_zero]; exact World.ownsRow_nil _ _ _ _, by rw [tab_zero]; exact World.ownsRow_nil _ _ _ _, fun g h => by simp [Value.ownBlock] at h, Below.refl _ _⟩
  case round =>
    obtain ⟨k, hk, rfl, hp, hq, hsep, hbw⟩ := hrel
    have hsz := hbw.size
    by_cases hlt : k < l0.length
    · obtain ⟨b2, o2, y, ha, hc0, HY⟩ := h0.at_ hlt
      have hc2 := (hbw.cell (p := ⟨b2, o2 + k, none⟩) (cell_lt hc0)).trans hc0
      have lb2 := cell_lt hc0
      have hy' := gt_of_get HY.out
      have y0 : 0 ≤ y := by rw [← hy']; exact v0.lo k hlt
      have y1 : y ≤ 1000000 := by rw [← hy']; exact v0.hi k hlt
      have HU : Hid (gt l0 k + n = y + n) := Lib.hid (by rw [hy'])
      clear hy'
      by_cases hdk : d ≤ (k : Int)
      · obtain ⟨m, rfl⟩ := Int.eq_ofNat_of_zero_le (show 0 ≤ d by omega)
        obtain ⟨b1, o1, x, ha', hc1, HX⟩ := (h0.below hbw).at_ (k := k - m) (by omega)
        subst ha
        obtain ⟨rfl, rfl⟩ : b2 = b1 ∧ o2 = o1 := by injection ha' with e; injection e with e1 e2; exact ⟨e1, e2⟩
        have HV : Hid (lateV l0 m k = x) := Lib.hid (by simp only [lateV, if_neg (show ¬ (k : Int) < m by omega), Int.toNat_natCast]; exact gt_of_get HX.out)
        clear ha'
        go_wp2_with (at_builtin; refine wpList_append_own_at _ rfl (.tmp 65) (.tmp 67) 22 rfl w2.heap.size 3 i0 (.int .i64 0) 1 8 Try.underlying22 hi0 hz0 hz1 hz2 rfl (by decide) _ _ _ rfl (World.ownsRow.alloc hp _) ⟨wr.heap.size, 0, none⟩ 1 1 [.int .i64 x] rfl rfl (cell_one_new _ _ _) (one_cell _) (by unfold maxLen; omega) (by omega) (by simp; omega) ?_)
        intro z wz oz gz _ atz
        have bz : Below w2.heap.size w2 wz := ((hbw.alloc hbw.size _).grown gz (by simp; omega) (fun k hk => (hp.lt k hk).1))
        have oz' : wz.ownsRow w2.heap.size 3 1 z (k + 1) ((tab (k + 1) (lateV l0 m)).map (Value.int .i64)) := by rw [tab_succ, List.map_append, HV.out]; exact oz
        have hq' := (World.ownsRow.alloc hq _).kept gz hsep.keep
        have hsep' := hsep.app hq atz
        have cz := (bz.cell (p := ⟨b2, o2 + k, none⟩) lb2).trans hc0
        have szz := bz.size
        clear oz gz atz hp hq hbw hsep
        go_wp2_with (at_builtin; refine wpList_append_own_at _ rfl (.tmp 71) (.tmp 78) 22 rfl w2.heap.size 3 i0 (.int .i64 0) 1 8 Try.underlying22 hi0 hz0 hz1 hz2 rfl (by decide) _ _ _ rfl (World.ownsRow.alloc hq' _) ⟨wz.heap.size, 0, none⟩ 1 1 [.int .i64 (y + n)] rfl rfl (cell_one_new _ _ _) (one_cell _) (by unfold maxLen; omega) (by omega) (by simp; omega) ?_)
        intro v wv ov gv _ atv
        have bv : Below w2.heap.size w2 wv := ((bz.alloc bz.size _).grown gv (by simp; omega) (fun k hk => (hq'.lt k hk).1))
        have ov' : wv.ownsRow w2.heap.size 3 1 v (k + 1) ((tab (k + 1) fun t => gt l0 t + n).map (Value.int .i64)) := by rw [tab_succ, List.map_append, HU.out]; exact ov
        have oz'' := (World.ownsRow.alloc oz' _).kept gv hsep'.symm.keep
        have hsep'' := (hsep'.symm.app oz' atv).symm
        clear ov gv atv oz' hq' bz hsep'
        go_wp2
        go_roundw
        case rel => exact ⟨k + 1, by omega, by go_num, oz'', ov', hsep'', bv⟩
        case measure => simp [intOf]; omega
      · have HV : Hid (lateV l0 d k = 0) := Lib.hid (by simp [lateV]; omega)
        subst ha
        go_wp2_with (at_builtin; refine wpList_append_own_at _ rfl (.tmp 65) (.tmp 67) 22 rfl w2.heap.size 3 i0 (.int .i64 0) 1 8 Try.underlying22 hi0 hz0 hz1 hz2 rfl (by decide) _ _ _ rfl (World.ownsRow.alloc hp _) ⟨wr.heap.size, 0, none⟩ 1 1 [.int .i64 0] rfl rfl (cell_one_new _ _ _) (one_cell _) (by unfold maxLen; omega) (by omega) (by simp; omega) ?_)
        intro z wz oz gz _ atz
        have bz : Below w2.heap.size w2 wz := ((hbw.alloc hbw.size _).grown gz (by simp; omega) (fun k hk => (hp.lt k hk).1))
        have oz' : wz.ownsRow w2.heap.size 3 1 z (k + 1) ((tab (k + 1) (lateV l0 d)).map (Value.int .i64)) := by rw [tab_succ, List.map_append, HV.out]; exact oz
        have hq' := (World.ownsRow.alloc hq _).kept gz hsep.keep
        have hsep' := hsep.app hq atz
        have cz := (bz.cell (p := ⟨b2, o2 + k, none⟩) lb2).trans hc0
        have szz := bz.size
        clear oz gz atz hp hq hbw hsep
        go_wp2_with (at_builtin; refine wpList_append_own_at _ rfl (.tmp 71) (.tmp 78) 22 rfl w2.heap.size 3 i0 (.int .i64 0) 1 8 Try.underlying22 hi0 hz0 hz1 hz2 rfl (by decide) _ _ _ rfl (World.ownsRow.alloc hq' _) ⟨wz.heap.size, 0, none⟩ 1 1 [.int .i64 (y + n)] rfl rfl (cell_one_new _ _ _) (one_cell _) (by unfold maxLen; omega) (by omega) (by simp; omega) ?_)
        intro v wv ov gv _ atv
        have bv : Below w2.heap.size w2 wv := ((bz.alloc bz.size _).grown gv (by simp; omega) (fun k hk => (hq'.lt k hk).1))
        have ov' : wv.ownsRow w2.heap.size 3 1 v (k + 1) ((tab (k + 1) fun t => gt l0 t + n).map (Value.int .i64)) := by rw [tab_succ, List.map_append, HU.out]; exact ov
        have oz'' := (World.ownsRow.alloc oz' _).kept gv hsep'.symm.keep
        have hsep'' := (hsep'.symm.app oz' atv).symm
        clear ov gv atv oz' hq' bz hsep'
        go_wp2
        go_roundw
        case rel => exact ⟨k + 1, by omega, by go_num, oz'', ov', hsep'', bv⟩
        case measure => simp [intOf]; omega
    · obtain rfl : k = l0.length := by omega
      replace hx := hx.below hbw
      replace hy := hy.below hbw
      replace hb := below_trans hb hbw
      obtain ⟨A1, d1, hA1, q1⟩ := own_shape (L := tab l0.length (lateV l0 d)) (by rw [length_tab]; exact hp)
      obtain ⟨A2, d2, hA2, q2⟩ := own_shape (L := tab l0.length fun t => gt l0 t + n) (by rw [length_tab]; exact hq)
      rw [hA1, hA2]
      clear hp hq hbw hA1 hA2 hsep
      go_wp2_with fail
      refine (told_at Ax A1 M1 (tab l0.length (lateV l0 d)) _ _ _ _ _ _ _ hx q1 (fun _ => L1.out.symm) rfl rfl rfl).mono ?_
      rintro e w4 ⟨rfl, nw4, hww4⟩
      have bw4 := below_of_drewN hww4
      clear hww4
      replace hy := hy.below bw4
      replace q2 := q2.below bw4
      replace hb := below_trans hb bw4
      clear bw4
      go_wp2_with fail
      refine (told_at Ay A2 M2 (tab l0.length fun t => gt l0 t + n) _ _ _ _ _ _ _ hy q2 (fun _ => L2.out.symm) rfl rfl rfl).mono ?_
      rintro e w5 ⟨rfl, nw5, hww5⟩
      have bw5 := below_of_drewN hww5
      clear hww5
      replace hb := below_trans hb bw5
      clear bw5
      go_wp2
      go_ret
      exact ⟨rfl, hb⟩

theorem walk_PointMoves (a0 : Option Addr) (c0 : Nat) (l0 : List Int) (d n : Int) (w : World)
    (h0 : Ints w a0 l0) (_k0 : l0.length ≤ c0) (_kd : (Lit.int .i64 d).wf = true) (_kn : (Lit.int .i64 n).wf = true) :
    Calls Try.prog 5 #[.slice a0 l0.length c0, .int .i64 d, .int .i64 n] w fun e w' => e = .returned (.bool true) ∧ Below w.heap.size w w' := by
  by_cases g : chk l0 = 0
  · by_cases h2 : d < 0
    · by_cases h3 : n < 0
      · exact moves_bad a0 c0 l0 d n w h0 g h2 (.inl h3)
      · by_cases h4 : 1000000 < n
        · exact moves_bad a0 c0 l0 d n w h0 g h2 (.inr h4)
        · exact moves_up a0 c0 l0 d n w h0 g h2 h3 h4
    · by_cases h3 : n < 0
      · exact moves_late a0 c0 l0 d n w h0 g h2 (.inl h3)
      · by_cases h4 : 1000000 < n
        · exact moves_late a0 c0 l0 d n w h0 g h2 (.inr h4)
        · exact moves_both a0 c0 l0 d n w h0 g h2 h3 h4
  · exact moves_none a0 c0 l0 d n w h0 g

end Go.Proofs.Ythjdabmlilnepaa
