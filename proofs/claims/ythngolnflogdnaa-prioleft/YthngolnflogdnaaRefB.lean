
/-
  Walks: the document's own Less.
-/
import Derived.Test.YthngolnflogdnaaPointC
import Derived.Test.YthngolnflogdnaaRefA
namespace Go.Proofs.Ythngolnflogdnaa
set_option linter.all false
open Go.RowKit Go.Shelf

theorem new_one (w : World) (u : Value) (t : TypeId) : ∀ (j : Nat) (v : Value), [u][j]? = some v → (w.alloc (.cells #[u] t)).cell? ((⟨w.heap.size, 0, none⟩ : Addr).add j) = some v := by
  intro j v hj
  match j, hj with
  | 0, hj =>
    simp at hj
    subst hj
    simp [Addr.add]
theorem one_cell (x : Int) : ∀ u ∈ [Value.int .i64 x], u.oneCell' = true := by
  intro u hu; simp at hu; subst hu; rfl

theorem mx_nonneg (D : Nat → Int) (n : Nat) : 0 ≤ mx D n := by
  induction n with
  | zero => exact Int.le_refl _
  | succ n ih => simp only [mx]; omega

theorem mx_le (D : Nat → Int) (B : Int) (hB : 0 ≤ B) (n : Nat) (h : ∀ i, i < n → D i ≤ B) : mx D n ≤ B := by
  induction n with
  | zero => exact hB
  | succ n ih => simp only [mx]; have := ih (fun i hi => h i (by omega)); have := h n (by omega); omega

set_option maxHeartbeats 1600000 in
theorem refLess_any (A A' : Option Addr) (l m : List Int) (c d : Nat) (w : World) (h : Ints w A l) (h' : Ints w A' m) (vl : Cv l) (vm : Cv m) (hlm : l.length ≤ m.length) :
    Calls Try.prog 20 #[.slice A l.length c, .slice A' m.length d] w (AnsL (tab l.length (lessV l m)) w) := by
  obtain ⟨i0, hi0, hz0, hz1, hz2⟩ := info_parts int_info
  have hle := vl.le
  go_enter Try.func20, Try.ntmps20
  go_wp2
  go_loopw [5, 11] (fun v i wr => ∃ k : Nat, k ≤ l.length ∧ i = .int .i64 k ∧ wr.ownsRow w.heap.size 3 1 v k ((tab k (lessV l m)).map (Value.int .i64)) ∧ Below w.heap.size w wr) (fun _ i _ => l.length - (intOf i).toNat)
  case atStart => exact ⟨0, Nat.zero_le _, rfl, by rw [tab_zero]; exact World.ownsRow_nil _ _ _ _, Below.refl _ _⟩
  case round =>
    obtain ⟨t, ht, rfl, hown, hbel⟩ := hrel
    by_cases hlt : t < l.length
    · have r0 := h.below hbel
      have r1 := h'.below hbel
      obtain ⟨wo, hwo⟩ : ∃ wo : World, wo = wr := ⟨_, rfl⟩
      subst hwo
      go_wp2
      go_loopw [7, 8] (fun b i wi => ∃ s n : Nat, s ≤ t + 1 ∧ i = .int .i64 s ∧ b = .int .i64 (mx (fun s => gt l s - gt m s) s) ∧ wi = wo.drewN n) (fun _ i _ => t + 1 - (intOf i).toNat)
      case atStart => exact ⟨0, 0, Nat.zero_le _, rfl, rfl, rfl⟩
      case round =>
        obtain ⟨s, n, hs, rfl, rfl, rfl⟩ := hrel
        obtain ⟨M, hM⟩ : ∃ M, M = mx (fun s => gt l s - gt m s) s := ⟨_, rfl⟩
        rw [← hM]
        by_cases hst : s ≤ t
        · obtain ⟨b1, o1, x, rfl, hc1, HX⟩ := r0.at_ (k := s) (by omega)
          obtain ⟨b2, o2, y, rfl, hc2, HY⟩ := r1.at_ (k := s) (by omega)
          have hx := gt_of_get HX.out
          have hy := gt_of_get HY.out
          have x0 : 0 ≤ x := by rw [← hx]; exact vl.lo s (by omega)
          have x1 : x ≤ 1000000 := by rw [← hx]; exact vl.hi s (by omega)
          have y0 : 0 ≤ y := by rw [← hy]; exact vm.lo s (by omega)
          have y1 : y ≤ 1000000 := by rw [← hy]; exact vm.hi s (by omega)
          have HN : Hid (mx (fun s => gt l s - gt m s) (s + 1) = max M (x - y)) := Lib.hid (by simp only [mx]; rw [← hM, hx, hy])
          have HM := Lib.hid hM
          clear hx hy hM
          have i1 : (s : Int) < (l.length : Int) := by omega
          have i2 : (s : Int) < (m.length : Int) := by omega
          have e1 : IntKind.i64.wrap (x - y) = x - y := IntWalk.i64_in _ ⟨by omega, by omega⟩
          by_cases hxy : M < x - y
          · go_wp2
            go_quiet (fail)
            go_wp2
            go_roundw
            case rel => exact ⟨s + 1, _, by omega, by go_num, by rw [HN.out]; congr 1; omega, rfl⟩
            case measure => simp [intOf]; omega
          · have hxy' : x - y ≤ M := by omega
            go_wp2
            go_quiet (fail)
            go_wp2
            go_roundw
            case rel => exact ⟨s + 1, _, by omega, by go_num, by rw [HN.out]; congr 1; omega, rfl⟩
            case measure => simp [intOf]; omega
        · obtain rfl : s = t + 1 := by omega
          have HV : Hid (lessV l m t = M) := Lib.hid hM.symm
          clear hM
          have hown2 : (wo.drewN n).ownsRow w.heap.size 3 1 u5 t ((tab t (lessV l m)).map (Value.int .i64)) := hown
          have hbel2 : Below w.heap.size w (wo.drewN n) := ⟨hbel.os, hbel.tape, hbel.output, hbel.size, hbel.block⟩
          clear hown hbel
          generalize wo.drewN n = w2 at *
          have hsz := hbel2.size
          go_wp2_with (at_builtin; refine wpList_append_own _ rfl _ _ 22 rfl w.heap.size 3 i0 (.int .i64 0) 1 8 Try.underlying22 hi0 hz0 hz1 hz2 rfl (by decide) _ _ _ rfl (World.ownsRow.alloc hown2 _) ⟨w2.heap.size, 0, none⟩ 1 1 [.int .i64 M] rfl rfl ?c1 ?c2 ?c3 ?c4 ?c5 ?_)
          case c1 => exact new_one _ _ _
          case c2 => exact one_cell _
          case c3 => unfold maxLen; omega
          case c4 => omega
          case c5 => simp; omega
          intro v' w1 hown' hgrow _
          have hbel' : Below w.heap.size w w1 := ((hbel2.alloc hbel2.size _).grown hgrow (by simp; omega) (fun k hk => (hown2.lt k hk).1))
          have hown'' : w1.ownsRow w.heap.size 3 1 v' (t + 1) ((tab (t + 1) (lessV l m)).map (Value.int .i64)) := by rw [tab_succ, List.map_append, HV.out]; exact hown'
          clear hown' hgrow hown2 hbel2
          go_wp2
          go_roundw
          case rel => exact ⟨t + 1, by omega, by go_num, hown'', hbel'⟩
          case measure => simp [intOf]; omega
    · obtain rfl : t = l.length := by omega
      go_wp2
      go_ret
      exact AnsL.of (by rw [length_tab]; exact hown) hbel

end Go.Proofs.Ythngolnflogdnaa
