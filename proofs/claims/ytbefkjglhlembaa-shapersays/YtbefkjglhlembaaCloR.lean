
/-
  The document's own closures: by the last piece; its max-plus convolution: pair by pair; its subadditivity.
-/
import Derived.Test.YtbefkjglhlembaaCloA
import Derived.Laws.AppendOwn
namespace Go.Proofs.Ytbefkjglhlembaa
set_option linter.all false
open Go.RowKit Go.Shelf

theorem new_one' (w : World) (u : Value) (t : TypeId) : ∀ (j : Nat) (v : Value), [u][j]? = some v → (w.alloc (.cells #[u] t)).cell? ((⟨w.heap.size, 0, none⟩ : Addr).add j) = some v := by
  intro j v hj
  match j, hj with
  | 0, hj =>
    simp at hj
    subst hj
    rw [Addr.add_lit]
    exact (Blk.new w t #[u]).cell 0
theorem one_cell' (x : Int) : ∀ u ∈ [Value.int .i64 x], u.oneCell' = true := by
  intro u hu
  simp at hu
  subst hu
  rfl

set_option maxHeartbeats 1600000 in
theorem refClosure_any (A : Option Addr) (l : List Int) (c : Nat) (w : World) (h : Ints w A l) (v : Cv l) :
    Calls Try.prog 16 #[.slice A l.length c] w (AnsL (clL l) w) := by
  obtain ⟨i0, hi0, hz0, hz1, hz2⟩ := info_parts int_info
  have hle := v.le
  have hpos := v.pos
  obtain ⟨F, hF⟩ : ∃ F, F = anV min (gt l) := ⟨_, rfl⟩
  have HL : Hid (clL l = tab l.length F) := Lib.hid (by rw [hF]; rfl)
  have BF : Hid (∀ i, i < l.length → 0 ≤ F i ∧ F i ≤ 100000000) := Lib.hid (by rw [hF]; exact clos_bf v)
  have HS : Hid (∀ u, F (u + 1) = fo min (fun s => gt l (s + 1) + F (u - s)) u) := Lib.hid (fun u => by rw [hF]; exact an_succ _ _ _)
  have H0 : Hid (F 0 = 0) := Lib.hid (by rw [hF]; rfl)
  clear hF
  go_enter Try.func16, Try.ntmps16
  go_wp2
  go_loopw [3, 4] (fun v i wr => ∃ k : Nat, 1 ≤ k ∧ k ≤ l.length ∧ i = .int .i64 k ∧ wr.ownsRow w.heap.size 3 1 v k ((tab k F).map (Value.int .i64)) ∧ Below w.heap.size w wr) (fun _ i _ => l.length - (intOf i).toNat)
  case atStart =>
    refine ⟨1, Nat.le_refl _, by omega, rfl, ?_, (Below.refl _ _).alloc (Nat.le_refl _) _⟩
    rw [show (tab 1 F).map (Value.int .i64) = (#[Value.int .i64 0] : Array Value).toList by rw [tab_succ, tab_zero, H0.out]; rfl]
    exact World.ownsRow_lit w #[.int .i64 0] 1 (Nat.le_refl _) (by decide) rfl
  case round =>
    obtain ⟨t, ht1, ht, rfl, hown, hbel⟩ := hrel
    by_cases hlt : t < l.length
    · have r0 := h.below hbel
      obtain ⟨g, cap, rfl, hg, hgl⟩ := hown.form ht1
      have r1 : Ints wr (some ⟨g, 0, none⟩) (tab t F) := Ints.of_own (c := cap) (by rw [length_tab]; exact hown)
      obtain ⟨D, hD⟩ : ∃ D : Nat → Int, D = fun s => F (t - 1 - s) + gt l (s + 1) := ⟨_, rfl⟩
      have HD := Lib.hid hD
      have HV : Hid (foS min 1099511627776 D t = F t) := Lib.hid (by
        obtain ⟨u, rfl⟩ : ∃ u, t = u + 1 := ⟨t - 1, by omega⟩
        have d0 : D 0 = F u + gt l 1 := by rw [hD]; rfl
        have := BF.out u (by omega); have := v.lo 1 (by omega); have := v.hi 1 (by omega)
        rw [foS_succ (by rw [d0]; omega), HS.out, hD]
        exact fo_congr (fun i hi => by rw [show u + 1 - 1 - i = u - i by omega]; omega))
      clear hD
      obtain ⟨wo, hwo⟩ : ∃ wo : World, wo = wr := ⟨_, rfl⟩
      subst hwo
      go_wp2
      go_loopw [5, 6] (fun b i wi => ∃ s n : Nat, 1 ≤ s ∧ s ≤ t + 1 ∧ i = .int .i64 s ∧ b = .int .i64 (foS min 1099511627776 D (s - 1)) ∧ wi = wo.drewN n) (fun _ i _ => t + 1 - (intOf i).toNat)
      case atStart => exact ⟨1, 0, Nat.le_refl _, by omega, rfl, rfl, rfl⟩
      case round =>
        obtain ⟨s, n, hs1, hs, rfl, rfl, rfl⟩ := hrel
        obtain ⟨M, hM⟩ : ∃ M, M = foS min 1099511627776 D (s - 1) := ⟨_, rfl⟩
        rw [← hM]
        by_cases hst : s ≤ t
        · obtain ⟨b1, o1, y, rfl, hc1, HX⟩ := r0.at_ (k := s) (by omega)
          obtain ⟨b2, o2, x, e, hc2, HY⟩ := r1.at_ (k := t - s) (by rw [length_tab]; omega)
          obtain ⟨rfl, rfl⟩ : b2 = g ∧ o2 = 0 := by injection e with e; injection e with e1 e2; exact ⟨e1.symm, e2.symm⟩
          clear e
          have hy := gt_of_get HX.out
          have hx := gt_of_get HY.out
          rw [gt_tab F (by omega)] at hx
          have y0 : 0 ≤ y := by rw [← hy]; exact v.lo s (by omega)
          have y1 : y ≤ 1000000 := by rw [← hy]; exact v.hi s (by omega)
          have x0 : 0 ≤ x := by rw [← hx]; exact (BF.out _ (by omega)).1
          have x1 : x ≤ 100000000 := by rw [← hx]; exact (BF.out _ (by omega)).2
          have HN : Hid (foS min 1099511627776 D (s + 1 - 1) = min M (x + y)) := Lib.hid (by
            obtain ⟨j, rfl⟩ : ∃ j, s = j + 1 := ⟨s - 1, by omega⟩
            rw [hM]; simp only [Nat.add_sub_cancel, foS]; rw [HD.out]; simp only; rw [hy, show t - 1 - j = t - (j + 1) by omega, hx])
          have HM := Lib.hid hM
          clear hx hy hM
          simp only [Nat.zero_add] at hc2
          have i1 : (s : Int) < (l.length : Int) := by omega
          have i2 : ((t - s : Nat) : Int) < (t : Int) := by omega
          have e0 : IntKind.i64.wrap ((t : Int) - (s : Int)) = ((t - s : Nat) : Int) := by rw [IntWalk.i64_in _ ⟨by omega, by omega⟩]; omega
          have e1 : IntKind.i64.wrap (x + y) = x + y := IntWalk.i64_in _ ⟨by omega, by omega⟩
          by_cases hxy : M < x + y
          · go_wp2
            go_quiet (fail)
            go_wp2
            go_roundw
            case rel => exact ⟨s + 1, _, by omega, by omega, by go_num, by rw [HN.out]; congr 1; omega, rfl⟩
            case measure => simp [intOf]; omega
          · have hxy' : x + y ≤ M := by omega
            go_wp2
            go_quiet (fail)
            go_wp2
            go_roundw
            case rel => exact ⟨s + 1, _, by omega, by omega, by go_num, by rw [HN.out]; congr 1; omega, rfl⟩
            case measure => simp [intOf]; omega
        · obtain rfl : s = t + 1 := by omega
          have HV' : Hid (F t = M) := Lib.hid (by rw [hM, ← HV.out]; rfl)
          clear hM r0 r1
          have hown2 : (wo.drewN n).ownsRow w.heap.size 3 1 (.slice (some ⟨g, 0, none⟩) t cap) t ((tab t F).map (Value.int .i64)) := hown
          have hbel2 : Below w.heap.size w (wo.drewN n) := ⟨hbel.os, hbel.tape, hbel.output, hbel.size, hbel.block⟩
          have hgl2 : g < (wo.drewN n).heap.size := hgl
          clear hown hbel hgl
          generalize wo.drewN n = w2 at *
          have hsz := hbel2.size
          go_wp2_with (at_builtin; refine wpList_append_own _ rfl _ _ 22 rfl w.heap.size 3 i0 (.int .i64 0) 1 8 Try.underlying22 hi0 hz0 hz1 hz2 rfl (by decide) _ _ _ rfl (World.ownsRow.alloc hown2 _) ⟨w2.heap.size, 0, none⟩ 1 1 [.int .i64 M] rfl rfl ?c1 ?c2 ?c3 ?c4 ?c5 ?_)
          case c1 => exact new_one' _ _ _
          case c2 => exact one_cell' _
          case c3 => unfold maxLen; omega
          case c4 => omega
          case c5 => simp; omega
          intro v' w1 hown' hgrow _
          have hbel' : Below w.heap.size w w1 := ((hbel2.alloc hbel2.size _).grown hgrow (by simp; omega) (fun k hk => (hown2.lt k hk).1))
          have hown'' : w1.ownsRow w.heap.size 3 1 v' (t + 1) ((tab (t + 1) F).map (Value.int .i64)) := by rw [tab_succ, List.map_append, HV'.out]; exact hown'
          clear hown' hgrow hown2 hbel2
          go_wp2
          go_roundw
          case rel => exact ⟨t + 1, by omega, by omega, by go_num, hown'', hbel'⟩
          case measure => simp [intOf]; omega
    · obtain rfl : t = l.length := by omega
      go_wp2
      go_ret
      refine AnsL.of ?_ hbel
      rw [HL.out, length_tab]
      exact hown

end Go.Proofs.Ytbefkjglhlembaa
