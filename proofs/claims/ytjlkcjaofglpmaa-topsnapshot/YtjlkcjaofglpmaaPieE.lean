
/-
  Library's Clone and Index over booleans; what of a thing is there.
-/
import Derived.Test.YtjlkcjaofglpmaaPieD
namespace Go.Proofs.Ytjlkcjaofglpmaa
set_option linter.all false
open Go.RowKit Go.Shelf Go.Lib

set_option maxHeartbeats 800000 in
theorem clone_bls (A : Option Addr) (n : Nat) (z : List Bool) (c : Nat) (w : World) (h : Bls w A z) (hn : n = z.length) (hp : 0 < z.length) (h200 : z.length ≤ 200) :
    Calls Try.prog 37 #[.slice A n c] w fun e w' => ∃ A' c', e = .returned (.slice A' z.length c') ∧ w'.ownsRow w.heap.size 4 1 (.slice A' z.length c') z.length (z.map Value.bool) ∧ Below w.heap.size w w' := by
  obtain ⟨i0, hi0, hz0, hz1, hz2⟩ := info_parts bool_info
  have q : ∀ (w : World) (a : Option Addr) (n c n' c' : Nat), (binOp .eql 32 (.slice a n c) (.slice none n' c')).run Try.prog w = .ok (.bool a.isNone) w := fun w a n c n' c' => Lib.run_eql_slice_nil w _ _ a n c n' c' Try.underlying32
  obtain ⟨b, off, rfl, hc⟩ := h.2 hp
  have HC := Lib.hid hc
  have lb : b < w.heap.size := cell_lt (hc 0 hp)
  subst hn
  clear h hc
  go_enter Try.func37, Try.ntmps37
  go_wp2_with (at_builtin; refine wpList_append_own _ rfl _ _ 32 rfl w.heap.size 4 i0 (.bool false) 1 1 Try.underlying32 hi0 hz0 hz1 hz2 rfl (by decide) _ _ _ rfl (World.ownsRow_made w #[] 0 (Nat.le_refl _) (Nat.zero_le _) rfl) ⟨b, off, none⟩ z.length c (z.map Value.bool) rfl ?qc1 ?qc2 ?qc3 ?qc4 ?qc5 ?qc6 ?_)
  case qc1 => simp
  case qc2 =>
    intro j u hj
    rw [List.getElem?_map] at hj
    obtain ⟨x, hx, rfl⟩ := Option.map_eq_some_iff.1 hj
    obtain ⟨hl, hx'⟩ := List.getElem?_eq_some_iff.1 hx
    rw [Addr.add_lit]
    have := HC.out j hl
    rw [show z.getD j false = x by simp [List.getD, hx]] at this
    exact (alloc_below _ _ |>.cell (p := ⟨b, off + j, none⟩) lb).trans this
  case qc3 => intro u hu; simp at hu; rcases hu with ⟨_, rfl⟩ | ⟨_, rfl⟩ <;> rfl
  case qc4 => unfold maxLen; omega
  case qc5 => omega
  case qc6 => simp
  intro v' w1 hown hgrow hnil
  have hown' : w1.ownsRow w.heap.size 4 1 v' z.length (z.map Value.bool) := by simpa using hown
  obtain ⟨A', c', rfl⟩ := row_formW hown'
  have hb : Below w.heap.size w w1 := ((Below.refl _ w).alloc (Nat.le_refl _) _).grown hgrow (by simp) (by intro k hk; simp [Value.ownBlock] at hk; omega)
  clear hown hgrow hnil
  go_wp2
  go_ret
  exact ⟨A', c', rfl, hown', hb⟩

set_option maxHeartbeats 400000 in
theorem bindex_at (A : Option Addr) (l : List Bool) (n c i : Nat) (w : World) (h : Bls w A l) (hn : n = l.length) (hi : i < l.length) (no : hv l i = false) (all : ∀ k, k < i → hv l k = true) :
    Calls Try.prog 38 #[.slice A n c, .bool false] w fun e w' => e = .returned (.int .i64 i) ∧ w = w' := by
  have hl := h.1
  subst hn
  have HN := Lib.hid no
  have HA := Lib.hid all
  clear no all
  go_enter Try.func38, Try.ntmps38
  go_wp2
  go_loop [8] (fun s => ∃ k : Nat, k ≤ i ∧ s = .int .i64 k) (fun s => l.length - (intOf s).toNat)
  case atStart => exact ⟨0, Nat.zero_le _, rfl⟩
  case round =>
    obtain ⟨k, hk, rfl⟩ := hrel
    obtain ⟨bb, off, x, rfl, hcell, HX⟩ := h.get (k := k) (by omega)
    have i1 : (k : Int) < (l.length : Int) := by omega
    by_cases hlt : k < i
    · obtain rfl : true = x := by have := HA.out k hlt; unfold hv at this; simp [List.getD, HX.out] at this; exact this.symm
      go_wp2
      go_round
      case rel => exact ⟨k + 1, by omega, by go_num⟩
      case measure => simp [intOf]; omega
    · obtain rfl : k = i := by omega
      obtain rfl : false = x := by have := HN.out; unfold hv at this; simp [List.getD, HX.out] at this; exact this.symm
      go_wp2
      go_ret
      exact ⟨rfl, rfl⟩

end Go.Proofs.Ytjlkcjaofglpmaa
