
/-
  Walks over peers: two lists compared, a list spoilt.
-/
import Derived.Test.YtlaandbaaepamaaWldI
import Derived.Test.YtlaandbaaepamaaWldS
namespace Go.Proofs.Ytlaandbaaepamaa
set_option linter.all false
open Go.RowKit Go.Shelf Go.Lib

theorem But.grown {w w' w2 : World} {g : Nat} (h : But w w' g) (b : Below w'.heap.size w' w2) (hg : g ≤ w'.heap.size) : But w w2 g := h.step hg b
set_option maxHeartbeats 1600000 in
theorem spoile_any (g n c : Nat) (cs : Array Value) (w : World) (h : Blk w g 34 cs) (hc : cs.size = c * 3) (hn : n ≤ c) (hm : c ≤ 9223372036854775807) :
    Calls Try.prog 27 #[.slice (some ⟨g, 0, none⟩) n c, .agg #[.int .i64 77, .int .i64 0, .bool false]] w fun e w' => e = .returned (.tuple #[]) ∧ But w w' g := by
  have hlt := h.lt
  obtain ⟨gx, hgx⟩ : ∃ gx, gx = w.heap.size := ⟨_, rfl⟩
  have ne1 : ¬ gx = g := by omega
  have ne2 : ¬ g = gx := by omega
  have GX := Lib.hid hgx
  clear hgx
  go_enter Try.func27, Try.ntmps27
  go_wp2
  rw [← GX.out]
  go_loopw [11] (fun i wr => ∃ k : Nat, k ≤ c ∧ i = .int .i64 k ∧ (∃ cs, Blk wr g 34 cs ∧ cs.size = c * 3) ∧ Blk wr gx 34 #[.int .i64 77, .int .i64 0, .bool false] ∧ But w wr g) (fun i _ => c - (intOf i).toNat)
  case atStart => exact ⟨0, Nat.zero_le _, rfl, ⟨cs, h.alloc _, hc⟩, by rw [GX.out]; exact Blk.new _ _ _, (But.refl _ _).step (Nat.le_of_lt hlt) ((Below.refl _ _).alloc (Nat.le_refl _) _)⟩
  case round =>
    clear h hc
    obtain ⟨k, hk, rfl, ⟨cs, B0, hc⟩, B2, hgr⟩ := hrel
    by_cases hkc : k < c
    · have i1 : (k : Int) < (c : Int) := by omega
      obtain ⟨t0, t1, t2⟩ := three_read B2
      obtain ⟨u0, v0⟩ : ∃ u, wr.cell? ⟨g, k * 3, none⟩ = some u := ⟨_, (B0.cell _).trans (Array.getElem?_eq_getElem (by omega))⟩
      obtain ⟨u1, v1⟩ : ∃ u, wr.cell? ⟨g, k * 3 + 1, none⟩ = some u := ⟨_, (B0.cell _).trans (Array.getElem?_eq_getElem (by omega))⟩
      obtain ⟨u2, v2⟩ : ∃ u, wr.cell? ⟨g, k * 3 + 2, none⟩ = some u := ⟨_, (B0.cell _).trans (Array.getElem?_eq_getElem (by omega))⟩
      have f0 := B0.frozen (k * 3)
      have f1 := B0.frozen (k * 3 + 1)
      have f2 := B0.frozen (k * 3 + 2)
      have s0 : ∀ a, (wr.setCell ⟨g, k * 3, none⟩ a).cell? ⟨g, k * 3, none⟩ = some a := fun a => by rw [(B0.set_ _ a).cell, Array.getElem?_setIfInBounds_self_of_lt (by omega)]
      have s1 : ∀ a b, ((wr.setCell ⟨g, k * 3, none⟩ a).setCell ⟨g, k * 3 + 1, none⟩ b).cell? ⟨g, k * 3 + 1, none⟩ = some b := fun a b => by rw [((B0.set_ _ a).set_ _ b).cell, Array.getElem?_setIfInBounds_self_of_lt (by simp; omega)]
      have M := Lib.hid (((B0.set_ (k * 3) (.int .i64 77)).set_ (k * 3 + 1) (.int .i64 0)).set_ (k * 3 + 2) (.bool false))
      have M2 := Lib.hid (((B2.past (a := ⟨g, k * 3, none⟩) ne1 (.int .i64 77)).past (a := ⟨g, k * 3 + 1, none⟩) ne1 (.int .i64 0)).past (a := ⟨g, k * 3 + 2, none⟩) ne1 (.bool false))
      have M3 := Lib.hid (((hgr.set (k * 3) (.int .i64 77)).set (k * 3 + 1) (.int .i64 0)).set (k * 3 + 2) (.bool false))
      have HM : Hid ((((cs.setIfInBounds (k * 3) (.int .i64 77)).setIfInBounds (k * 3 + 1) (.int .i64 0)).setIfInBounds (k * 3 + 2) (.bool false)).size = c * 3) := Lib.hid (by simpa using hc)
      clear hc
      go_wp2
      go_roundw
      case rel => exact ⟨k + 1, by omega, by go_num, ⟨_, M.out, HM.out⟩, M2.out, M3.out⟩
      case measure => simp [intOf]; omega
    · go_wp2
      exact ⟨rfl, .tuple #[], by simp [results, Try.results27, go_sem], rfl, hgr⟩
set_option maxHeartbeats 800000 in
theorem spoile_nil (w : World) :
    Calls Try.prog 27 #[.slice none 0 0, .agg #[.int .i64 77, .int .i64 0, .bool false]] w fun e w' => e = .returned (.tuple #[]) ∧ Below w.heap.size w w' := by
  go_enter Try.func27, Try.ntmps27
  go_wp2
  go_loopw [11] (fun i wr => i = .int .i64 0 ∧ Below w.heap.size w wr) (fun i _ => 0)
  case atStart => exact ⟨rfl, (Below.refl _ _).alloc (Nat.le_refl _) _⟩
  case round =>
    obtain ⟨rfl, hb⟩ := hrel
    go_wp2
    exact ⟨rfl, .tuple #[], by simp [results, Try.results27, go_sem], rfl, hb⟩
/-- A copy of one's own is spoilt: what was there before stays. -/
theorem spoile_row (A : Option Addr) (n c base : Nat) (xs : List Value) (w0 w : World) (hb : Below w0.heap.size w0 w) (hbase : w0.heap.size ≤ base) (h : w.ownsRow base 34 3 (.slice A n c) n xs) :
    Calls Try.prog 27 #[.slice A n c, .agg #[.int .i64 77, .int .i64 0, .bool false]] w fun e w' => e = .returned (.tuple #[]) ∧ Below w0.heap.size w0 w' := by
  rcases h.2 with ⟨hv, h0⟩ | ⟨g, cap, cur, hv, hg, hh, hn, hm, hs, _⟩
  · injection hv with e1 e2 e3
    subst e1 e3 h0
    exact (spoile_nil w).mono fun e w' q => ⟨q.1, below_trans hb q.2⟩
  · injection hv with e1 e2 e3
    subst e1 e3
    have hc3 : c ≤ 9223372036854775807 := by unfold maxLen at hm; omega
    exact (spoile_any g n c cur w hh hs hn hc3).mono fun e w' q => ⟨q.1, hb.trans (q.2.b.mono (by omega))⟩

end Go.Proofs.Ytlaandbaaepamaa
