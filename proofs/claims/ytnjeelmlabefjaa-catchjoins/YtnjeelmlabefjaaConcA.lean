
/-
  Walks: slices.Grow of nil and slices.Concat of two slices of integers, whatever their lengths within the reach.
-/
import Derived.Test.YtnjeelmlabefjaaRefA
import Derived.Test.YtnjeelmlabefjaaPointB
import Derived.OwnWalk
import Derived.Lib.AppendZerosOnto
import Derived.Lib.SliceRun
namespace Go.Proofs.Ytnjeelmlabefjaa
set_option linter.all false
open Go.RowKit Go.Shelf Go.Lib

set_option maxRecDepth 100000 in
set_option maxHeartbeats 800000 in
theorem grow_nil (n : Nat) (w : World) (h0 : 0 < n) (hb : n * 8 ≤ 281474976710656) :
    Calls Try.prog 49 #[.slice none 0 0, .int .i64 n] w fun e w' => ∃ cap, n ≤ cap ∧ e = .returned (.slice (some ⟨w.heap.size, 0, none⟩) 0 cap) ∧ w'.ownsRow w.heap.size 3 1 (.slice (some ⟨w.heap.size, 0, none⟩) 0 cap) 0 [] ∧ Below w.heap.size w w' := by
  obtain ⟨i0, hi0, hz0, hz1, hz2⟩ := info_parts int_info
  have hap := fun ty => run_append_grow_zeros (P := Try.prog) w 22 3 ty 3 i0 (.int .i64 0) .i64 .i64 Try.underlying22 Try.underlying3 hi0 hz0 none 0 0 [] (by rw [hz1]; exact run_firstCells_none w.drew 1 0 0 0) n h0 (by omega) (by omega) (by omega) (by rw [hz2]; exact hb) (by
    rw [hz2, show Builtin.nextslicecap (0 + n) 0 = n by unfold Builtin.nextslicecap; rw [if_pos (by omega)]; omega]; exact hb)
  simp only [Nat.zero_add] at hap
  have c1 : n ≤ grownCap w n 0 3 := grownCap_ge w _ _ _
  have c2 : grownCap w n 0 3 ≤ maxLen := grownCap_le_maxLen w n 0 3 (by unfold maxLen; omega)
  obtain ⟨cap, hcap⟩ : ∃ cap, cap = grownCap w n 0 3 := ⟨_, rfl⟩
  rw [← hcap] at hap c1 c2
  have i1 : (0 : Int) < (n : Int) := by omega
  have i2 : ¬ (n : Int) < 0 := by omega
  have s1 : IntKind.i64.wrap (n : Int) = n := IntWalk.i64_in _ ⟨by omega, by omega⟩
  clear hcap
  go_enter Try.func49, Try.ntmps49
  go_wp2_with (at_builtin; refine Lib.wpList_append_run _ rfl _ _ _ _ rfl _ _ rfl rfl _ _ (hap _) ?_)
  all_goals
    go_ret
    refine ⟨cap, c1, rfl, ⟨by simp, .inr ⟨w.heap.size, cap, _, rfl, Nat.le_refl _, heap_alloc_new w.drew _, Nat.zero_le _, c2, ?_, by simp⟩⟩, ?_⟩
    · simp [Builtin.zeroCells, Value.cells]; omega
    · exact ((Below.refl w.heap.size w).alloc (Nat.le_refl _) _).drew
set_option maxHeartbeats 400000 in
theorem grow_zero (w : World) : Calls Try.prog 49 #[.slice none 0 0, .int .i64 0] w fun e w' => e = .returned (.slice none 0 0) ∧ w = w' := by
  go_enter Try.func49, Try.ntmps49
  go_wp2
  go_ret
  exact ⟨rfl, rfl⟩

/-- The slice of the two slices, as Concat takes it. -/
structure Two (w : World) (g : Nat) (v u : Value) : Prop where
  c0 : w.cell? ⟨g, 0, none⟩ = some v
  c1 : w.cell? ⟨g, 1, none⟩ = some u
theorem Two.below {w w' : World} {g : Nat} {v u : Value} (h : Two w g v u) (hb : Below w.heap.size w w') : Two w' g v u :=
  ⟨(hb.cell (p := ⟨g, 0, none⟩) (cell_lt h.c0)).trans h.c0, (hb.cell (p := ⟨g, 1, none⟩) (cell_lt h.c1)).trans h.c1⟩
theorem app_empty (w : World) (A : Option Addr) (c : Nat) (ty : TypeId) : (Builtin.append_ #[22, 22] ty #[.slice none 0 0, .slice A 0 c]).run Try.prog w = .ok (.slice none 0 0) w := by
  obtain ⟨i0, hi0, hz0, hz1, hz2⟩ := info_parts int_info
  cases A with
  | none => simp [Builtin.append_, run_underlying Try.underlying22, sizeOf, typeInfo, hi0, Builtin.lenOf, Builtin.firstCells]
  | some a => simp [Builtin.append_, run_underlying Try.underlying22, sizeOf, typeInfo, hi0, Builtin.lenOf, Builtin.firstCells, loadCells, loadCellsFrom]

/-- The first k of two lists, one behind the other. -/
def coL (l m : List Int) : Nat → List Int
  | 0 => []
  | 1 => l
  | _ => l ++ m
theorem co_le (l m : List Int) : ∀ k, (coL l m k).length ≤ l.length + m.length
  | 0 => by simp [coL]
  | 1 => by simp [coL]
  | _ + 2 => by simp [coL]
theorem Two.pick {w : World} {g c d : Nat} {A B : Option Addr} {l m : List Int} (t : Two w g (.slice A l.length c) (.slice B m.length d)) (h : Ints w A l) (h' : Ints w B m) (hA : A = none → c = 0) (hB : B = none → d = 0) {k : Nat} (hk : k < 2) :
    ∃ X x cx, w.cell? ⟨g, k, none⟩ = some (.slice X x.length cx) ∧ Ints w X x ∧ (X = none → cx = 0) ∧ coL l m (k + 1) = coL l m k ++ x := by
  rcases (show k = 0 ∨ k = 1 by omega) with rfl | rfl
  · exact ⟨A, l, c, t.c0, h, hA, rfl⟩
  · exact ⟨B, m, d, t.c1, h', hB, rfl⟩

set_option maxHeartbeats 1600000 in
theorem concat_any (g c d : Nat) (A B : Option Addr) (l m : List Int) (w : World) (t : Two w g (.slice A l.length c) (.slice B m.length d)) (h : Ints w A l) (h' : Ints w B m)
    (hA : A = none → c = 0) (hB : B = none → d = 0) (hs : (l.length + m.length) * 8 ≤ 281474976710656) :
    Calls Try.prog 33 #[.slice (some ⟨g, 0, none⟩) 2 2] w (AnsL (l ++ m) w) := by
  obtain ⟨i0, hi0, hz0, hz1, hz2⟩ := info_parts int_info
  have HA := Lib.hid hA
  have HB := Lib.hid hB
  clear hA hB
  go_enter Try.func33, Try.ntmps33
  go_wp2
  go_loop [3, 11] (fun s i => ∃ k q : Nat, k ≤ 2 ∧ i = .int .i64 k ∧ s = .int .i64 q ∧ Hid ((coL l m k).length = q)) (fun _ i => 2 - (intOf i).toNat)
  case atStart => exact ⟨0, 0, by omega, rfl, rfl, Lib.hid rfl⟩
  case round =>
    obtain ⟨k, q, hk, rfl, rfl, HQ⟩ := hrel
    by_cases hlt : k < 2
    · obtain ⟨X, x, cx, hc, hX, hn, he⟩ := t.pick h h' HA.out HB.out hlt
      have HN : Hid ((coL l m (k + 1)).length = q + x.length) := Lib.hid (by rw [he, List.length_append, HQ.out])
      have b1 : q + x.length ≤ l.length + m.length := by rw [← HN.out]; exact co_le l m _
      have i1 : (k : Int) < 2 := by omega
      clear he hn
      go_wp2
      go_round
      case rel => exact ⟨k + 1, q + x.length, by omega, by go_num, by go_num, HN⟩
      case measure => simp [intOf]; omega
    · obtain rfl : k = 2 := by omega
      obtain rfl : l.length + m.length = q := by rw [← HQ.out]; simp [coL]
      clear HQ
      rcases Nat.eq_zero_or_pos (l.length + m.length) with h0 | hp
      · obtain rfl : l = [] := List.eq_nil_of_length_eq_zero (by omega)
        obtain rfl : m = [] := List.eq_nil_of_length_eq_zero (by omega)
        have t0 := t.c0
        have t1 := t.c1
        simp only [List.length_nil] at t0 t1 ⊢
        have ha := app_empty w A c
        have hb := app_empty w B d
        go_wp2_with fail
        refine (grow_zero _).mono ?_
        rintro e w' ⟨rfl, rfl⟩
        go_wp2
        go_loop [6, 27] (fun v i => ∃ k : Nat, k ≤ 2 ∧ i = .int .i64 k ∧ v = .slice none 0 0) (fun _ i => 2 - (intOf i).toNat)
        case atStart => exact ⟨0, by omega, rfl, rfl⟩
        case round =>
          obtain ⟨k, hk, rfl, rfl⟩ := hrel
          by_cases hlt : k < 2
          · obtain ⟨X, cx, hc⟩ : ∃ X cx, w.cell? ⟨g, k, none⟩ = some (.slice X 0 cx) := by
              rcases (show k = 0 ∨ k = 1 by omega) with rfl | rfl
              · exact ⟨A, c, t0⟩
              · exact ⟨B, d, t1⟩
            have i1 : (k : Int) < 2 := by omega
            go_wp2_with (at_builtin; refine Lib.wpList_append_run _ rfl _ _ _ _ rfl _ _ rfl rfl _ _ (app_empty w X cx _) ?_)
            go_round
            case rel => exact ⟨k + 1, by omega, by go_num, rfl⟩
            case measure => simp [intOf]; omega
          · obtain rfl : k = 2 := by omega
            go_wp2
            go_ret
            exact ⟨none, 0, rfl, World.ownsRow_nil _ _ _ _, Below.refl _ _⟩
      · go_wp2_with fail
        refine (grow_nil (l.length + m.length) _ hp hs).mono ?_
        rintro e w1 ⟨cap, hcap, rfl, own1, b1⟩
        obtain ⟨gn, hgn⟩ : ∃ gn, gn = w.heap.size := ⟨_, rfl⟩
        have G := Lib.hid hgn
        have gle : w.heap.size ≤ gn := by omega
        rw [← hgn] at own1 ⊢
        rw [hgn] at own1
        clear hgn
        go_wp2
        go_loopw [6, 27] (fun v i wr => ∃ k q : Nat, k ≤ 2 ∧ i = .int .i64 k ∧ v = .slice (some ⟨gn, 0, none⟩) q cap ∧ wr.ownsRow w.heap.size 3 1 (.slice (some ⟨gn, 0, none⟩) q cap) q ((coL l m k).map (Value.int .i64)) ∧ Below w.heap.size w wr) (fun _ i _ => 2 - (intOf i).toNat)
        case atStart => exact ⟨0, 0, by omega, rfl, rfl, by rw [G.out]; exact own1, b1⟩
        case round =>
          clear own1 b1
          obtain ⟨k, q, hk, rfl, rfl, own, hbel⟩ := hrel
          have hq : (coL l m k).length = q := by simpa using own.1
          by_cases hlt : k < 2
          · have t' := t.below hbel
            obtain ⟨X, x, cx, hc, hX, hn, he⟩ := t'.pick (h.below hbel) (h'.below hbel) HA.out HB.out hlt
            have HN : Hid ((coL l m (k + 1)).map (Value.int .i64) = (coL l m k).map (Value.int .i64) ++ x.map (Value.int .i64)) := Lib.hid (by rw [he, List.map_append])
            have b1 : q + x.length ≤ l.length + m.length := by rw [← hq, ← List.length_append, ← he]; exact co_le l m _
            have i1 : (k : Int) < 2 := by omega
            have HE := Lib.hid hn
            have HX := Lib.hid hX
            clear he hq hn
            go_wp2_with (at_builtin; refine wpList_append_fits_any _ rfl _ _ 22 rfl w.heap.size 3 i0 1 Try.underlying22 hi0 hz1 gn q cap ((coL l m k).map (Value.int .i64)) rfl own X x.length cx (x.map (Value.int .i64)) rfl ?r1 ?r2 ?r3 ?r4 ?r5 ?_)
            case r1 => simp
            case r2 =>
              intro hno
              refine ⟨?_, HE.out hno⟩
              rcases Nat.eq_zero_or_pos x.length with z | z
              · exact z
              · obtain ⟨b, off, e, _⟩ := HX.out.2 z; rw [hno] at e; cases e
            case r3 =>
              intro ad hno j u hu
              have hj : j < x.length := by have := (List.getElem?_eq_some_iff.1 hu).1; simpa using this
              obtain ⟨b, off, e, hcc⟩ := HX.out.2 (by omega)
              rw [hno] at e
              obtain rfl := Option.some.inj e
              rw [Addr.add_lit, hcc j hj]
              simpa [List.getD, List.getElem?_eq_getElem hj] using hu
            case r4 => intro u hu; obtain ⟨y, _, rfl⟩ := List.mem_map.1 hu; rfl
            case r5 => omega
            intro w2 o2 g2
            have hb2 : Below w.heap.size w w2 := hbel.grown g2 hbel.size (by intro k hk; cases hk; exact gle)
            rw [← HN.out] at o2
            clear own hbel
            go_wp2
            go_roundw
            case rel => exact ⟨k + 1, q + x.length, by omega, by go_num, rfl, o2, hb2⟩
            case measure => simp [intOf]; omega
          · obtain rfl : k = 2 := by omega
            obtain rfl : (l ++ m).length = q := by rw [← hq]; simp [coL]
            go_wp2
            go_ret
            exact ⟨some ⟨gn, 0, none⟩, cap, rfl, own, hbel⟩

end Go.Proofs.Ytnjeelmlabefjaa
