
/-
  Walks: the document's own queue, from what lies behind.
-/
import Derived.Test.YtmejapenidociaaFifoA
namespace Go.Proofs.Ytmejapenidociaa
set_option linter.all false
open Go.RowKit Go.Shelf

set_option maxRecDepth 100000 in
set_option maxHeartbeats 1600000 in
theorem refServed_any (A : Option Addr) (l : List Pk) (c : Nat) (w : World) (h : Pks w A l) (q : Qu l) :
    Calls Try.prog 12 #[.slice A l.length c] w (AnsL (dnL l) w) := by
  obtain ⟨i0, hi0, hz0, hz1, hz2⟩ := info_parts int_info
  have hle := q.le
  obtain ⟨F, hF⟩ : ∃ F : Nat → Int, F = fun i => dnV l (i + 1) := ⟨_, rfl⟩
  have HL : Hid (dnL l = tab l.length F) := Lib.hid (by rw [hF]; rfl)
  have HF := Lib.hid hF
  clear hF
  go_enter Try.func12, Try.ntmps12
  go_wp2
  go_loopw [3, 10] (fun u i wr => ∃ k : Nat, k ≤ l.length ∧ i = .int .i64 k ∧ wr.ownsRow w.heap.size 3 1 u k ((tab k F).map (Value.int .i64)) ∧ Below w.heap.size w wr) (fun _ i _ => l.length - (intOf i).toNat)
  case atStart => exact ⟨0, Nat.zero_le _, rfl, by rw [tab_zero]; exact World.ownsRow_nil _ _ _ _, Below.refl _ _⟩
  case round =>
    obtain ⟨i, hi, rfl, hown, hbel⟩ := hrel
    by_cases hlt : i < l.length
    · have hp := h.below hbel
      have i1 : (i : Int) < (l.length : Int) := by omega
      go_wp2
      go_loop [5, 6, 7] (fun b s k => ∃ m : Nat, m ≤ i + 1 ∧ k = .int .i64 ((i : Int) - (m : Int)) ∧ s = .int .i64 (suD l i m) ∧ b = .int .i64 (beD l i m)) (fun _ _ k => (intOf k + 1).toNat)
      case atStart => exact ⟨0, by omega, by simp, rfl, rfl⟩
      case round =>
        obtain ⟨m, hm, rfl, rfl, rfl⟩ := hrel
        obtain ⟨s, hs⟩ : ∃ s, s = suD l i m := ⟨_, rfl⟩
        obtain ⟨b, hb⟩ : ∃ b, b = beD l i m := ⟨_, rfl⟩
        have s0 : 0 ≤ s ∧ s ≤ 61000 := by rw [hs]; have := su_bd q hlt m; omega
        have b0 : 0 ≤ b ∧ b ≤ 70000 := by rw [hb]; have h1 := be_le m hm q hlt; have h2 := (dn_bd q (i + 1) (by omega)).2; omega
        obtain ⟨sa, sb⟩ := s0
        obtain ⟨ba, bb'⟩ := b0
        rw [← hs, ← hb]
        by_cases hmi : m ≤ i
        · obtain ⟨j, hj⟩ : ∃ j, j = i - m := ⟨_, rfl⟩
          have ej : (i : Int) - (m : Int) = (j : Int) := by omega
          have jl : j < l.length := by omega
          obtain ⟨bb, off, p, rfl, hbl, c0, c1, c2, HP⟩ := hp.get jl
          have hK := pk_of HP.out
          have ok := q.ok j jl
          rw [hK] at ok
          have a0 := ok.a0
          have a1 := ok.a1
          have z0 := ok.s0
          have z1 := ok.s1
          have HS : Hid (suD l i (m + 1) = s + p.size) := Lib.hid (by rw [suD, ← hs, szV, ← hj, hK])
          have HB : Hid (beD l i (m + 1) = max b (p.at_ + (s + p.size))) := Lib.hid (by rw [beD, ← hb, HS.out, ← hj, hK])
          have i2 : (j : Int) < (l.length : Int) := by omega
          have i3 : (0 : Int) ≤ (j : Int) := by omega
          have EJ := Lib.hid ej
          rw [ej]
          clear hs hb hj ej hK ok
          rcases Int.lt_trichotomy b (p.at_ + (s + p.size)) with cc | cc | cc
          all_goals
            go_wp2
            go_round
            case rel => exact ⟨m + 1, by omega, by congr 1; have := EJ.out; omega, by rw [HS.out], by rw [HB.out]; congr 1; omega⟩
            case measure => simp [intOf]
        · obtain rfl : m = i + 1 := by omega
          have ej : (i : Int) - ((i + 1 : Nat) : Int) = -1 := by omega
          rw [ej]
          have HM : Hid (F i = b) := Lib.hid (by rw [hb, HF.out, be_all q hlt])
          have hsz := hbel.size
          clear hs hb ej
          go_wp2_with (at_builtin; refine wpList_append_own _ rfl _ _ 23 rfl w.heap.size 3 i0 (.int .i64 0) 1 8 Try.underlying23 hi0 hz0 hz1 hz2 rfl (by decide) _ _ _ rfl (World.ownsRow.alloc hown _) ⟨wr.heap.size, 0, none⟩ 1 1 [.int .i64 b] rfl rfl ?c1 ?c2 ?c3 ?c4 ?c5 ?_)
          all_goals (try exact new_one2 _ _ _)
          case c2 => first | rfl | exact one_cell2 _
          case c3 => unfold maxLen; omega
          case c4 => omega
          case c5 => first | omega | (simp; omega)
          intro v' w2 hown' hgrow _
          have hbel' : Below w.heap.size w w2 := ((hbel.alloc hbel.size _).grown hgrow (by simp; omega) (fun k hk => (hown.lt k hk).1))
          have hown'' : w2.ownsRow w.heap.size 3 1 v' (i + 1) ((tab (i + 1) F).map (Value.int .i64)) := by rw [tab_succ, List.map_append, HM.out]; exact hown'
          clear hown' hgrow hown hbel
          go_wp2
          go_roundw
          case rel => exact ⟨i + 1, by omega, by go_num, hown'', hbel'⟩
          case measure => simp [intOf]; omega
    · obtain rfl : i = l.length := by omega
      go_wp2
      go_ret
      rw [HL.out]
      exact AnsL.of (by rw [length_tab]; exact hown) hbel

end Go.Proofs.Ytmejapenidociaa
