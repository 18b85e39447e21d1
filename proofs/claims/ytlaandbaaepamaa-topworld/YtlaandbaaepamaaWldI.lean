
/-
  Toward the law TopWorld: who is done by when, all done in memory, a row beside a world.
-/
import Derived.Test.YtlaandbaaepamaaWldD
import Derived.Test.YtlaandbaaepamaaWldF
import Derived.Test.YtlaandbaaepamaaBegB
namespace Go.Proofs.Ytlaandbaaepamaa
set_option linter.all false
open Go.RowKit Go.Shelf Go.Lib

variable {Rep : World → Value → (Nat → Prop) → WSt → Prop}
/-- As much as the link gives, in k slots. -/
def GoneT (s : WSt) (d : Wd) (L r : Int) (k : Int) : Prop := ∃ m : Nat, Bys s.unit m s.d d ∧ (m : Int) = min L (k * r)
theorem GoneT.zero (s : WSt) (L r : Int) (h : 0 ≤ L) : GoneT s s.d L r 0 := ⟨0, .none _, by simp; omega⟩
theorem GoneT.ok {s : WSt} {d : Wd} {L r k : Int} (h : GoneT s d L r k) (ok : StOk s) (hL : s.d.sum = L) : WdOk s.unit d ∧ d.l.length = s.d.l.length ∧ d.sum = max 0 (L - k * r) := by
  obtain ⟨m, b, hm⟩ := h
  have a := b.keep ok.u0 ok.ok
  refine ⟨a.1, a.2.1, ?_⟩
  rw [a.2.2, hL]; omega
theorem GoneT.step {s : WSt} {d t : Wd} {L r k : Int} {m : Nat} (h : GoneT s d L r k) (ok : StOk s) (hL : s.d.sum = L) (hr : s.rate = r) (ht : Tick s.unit s.rate d t m) : GoneT s t L r (k + 1) := by
  have o := h.ok ok hL
  have i := ht.is ok.u0 o.1
  obtain ⟨m', b, hm⟩ := h
  refine ⟨m' + m, b.trans ht.bys, ?_⟩
  have e := i.1
  rw [hr, o.2.2] at e
  have r0 := ok.r0
  rw [hr] at r0
  rw [Int.add_mul, Int.one_mul]
  omega
theorem GoneT.all {s : WSt} {d : Wd} {L r k : Int} (h : GoneT s d L r k) (ok : StOk s) (hL : s.d.sum = L) (hk : L ≤ k * r) : ∀ i, i < d.l.length → (pr d.l i).done = true := by
  have o := h.ok ok hL
  exact o.1.sum.2.1 (by rw [o.2.2]; omega)
theorem GoneT.each {s : WSt} {d : Wd} {L r k : Int} (h : GoneT s d L r k) (ok : StOk s) (hL : s.d.sum = L) {N i : Nat} (hN : s.d.l.length = N) (hi : i < N) (w : (pr d.l i).done = false) : k * r < (N : Int) * ((pr s.d.l i).need + 1) := by
  rcases Int.lt_or_le (k * r) ((N : Int) * ((pr s.d.l i).need + 1)) with c | c
  · exact c
  · exfalso
    have o := h.ok ok hL
    rcases Int.le_total L (k * r) with q | q
    · have := h.all ok hL q i (by rw [o.2.1, hN]; exact hi)
      rw [w] at this; exact absurd this (by decide)
    · obtain ⟨m, b, hm⟩ := h
      have := b.each ok.u0 ok.ok (k := i) (by omega) (by
        rw [hN]
        rw [Int.mul_add, Int.mul_one] at c
        omega)
      rw [w] at this; exact absurd this (by decide)

theorem Prs.heapW {w w' : World} {A : Option Addr} {l : List Per} (hp : Prs w A l) (h : ∀ b off, A = some ⟨b, off, none⟩ → w'.heap[b]? = w.heap[b]?) : Prs w' A l := by
  refine ⟨hp.1, fun hl => ?_⟩
  obtain ⟨b, off, rfl, hc⟩ := hp.2 hl
  have e := h b off rfl
  refine ⟨b, off, rfl, fun j p hj => ?_⟩
  obtain ⟨h0, h1, h2⟩ := hc j p hj
  exact ⟨(cell_heapW e _).trans h0, (cell_heapW e _).trans h1, (cell_heapW e _).trans h2⟩
/-- A copy of the peers behind a world whose blocks are known. -/
theorem WldC.peersB (K : WldC Rep) (n : Nat) (W : World) (p : Value) (S : Nat → Prop) (s : WSt) (h : Rep W p S s) (hn : s.d.l.length = n) : Calls Try.prog 19 #[p] W fun e w' => ∃ A c, e = .returned (.slice A n c) ∧ Prs w' A s.d.l ∧ (∀ b off, A = some ⟨b, off, none⟩ → W.heap.size ≤ b ∧ b < w'.heap.size) ∧ Below W.heap.size W w' := by
  subst hn
  refine (K.peers W p S s h).mono ?_
  rintro e w' ⟨A, c, rfl, o, b⟩
  exact ⟨A, c, rfl, Prs.of_own o, fun bb off e => own_bltW o bb off e, b⟩
/-- All but the row of g is as it was. -/
structure But (w w' : World) (g : Nat) : Prop where
  b : Below g w w'
  block : ∀ b, b < w.heap.size → b ≠ g → w'.heap[b]? = w.heap[b]?
theorem But.refl (w : World) (g : Nat) : But w w g := ⟨Below.refl _ _, fun _ _ _ => rfl⟩
theorem But.step {w w' w2 : World} {g : Nat} (h : But w w' g) (hg : g ≤ w'.heap.size) (b : Below w'.heap.size w' w2) : But w w2 g :=
  ⟨h.b.trans (b.mono hg), fun k hk ne => (b.block k (Nat.lt_of_lt_of_le hk h.b.size)).trans (h.block k hk ne)⟩
theorem But.set {w w' : World} {g : Nat} (h : But w w' g) (i : Nat) (u : Value) : But w (w'.setCell ⟨g, i, none⟩ u) g :=
  ⟨h.b.setCell (p := ⟨g, i, none⟩) (Nat.le_refl _) u, fun k hk ne => (Below.heap_setCell w' ⟨g, i, none⟩ u k (fun e => ne e)).trans (h.block k hk ne)⟩

set_option maxHeartbeats 800000 in
theorem left_any (x y : Int) (w : World) : Calls Try.prog 30 #[.agg #[.int .i64 x, .int .i64 y, .bool true]] w fun e w' => e = .returned (.bool false) ∧ Below w.heap.size w w' := by
  have hb : Below w.heap.size w (w.alloc (.cells #[.int .i64 x, .int .i64 y, .bool true] 34)) := (Below.refl _ _).alloc (Nat.le_refl _) _
  go_enter Try.func30, Try.ntmps30
  go_wp2
  go_ret
  exact ⟨rfl, hb⟩
set_option maxHeartbeats 800000 in
theorem left_none (A : Option Addr) (l : List Per) (n c : Nat) (w : World) (h : Prs w A l) (hn : n = l.length) (all : Hid (∀ i, i < l.length → (pr l i).done = true)) :
    Calls Try.prog 42 #[.slice A n c, .func (.func 30) #[] #[]] w fun e w' => e = .returned (.int .i64 (-1)) ∧ Below w.heap.size w w' := by
  subst hn
  have hl := h.1
  have hent := enters_of Try.func30 (by kernel_rfl) rfl
  go_enter Try.func42, Try.ntmps42
  go_wp2
  go_loopw [8] (fun i wr => ∃ t : Nat, t ≤ l.length ∧ i = .int .i64 t ∧ Below w.heap.size w wr) (fun i _ => l.length - (intOf i).toNat)
  case atStart => exact ⟨0, Nat.zero_le _, rfl, Below.refl _ _⟩
  case round =>
    obtain ⟨t, ht, rfl, hbel⟩ := hrel
    by_cases hlt : t < l.length
    · obtain ⟨bb', off, rfl, hbl, c0, c1, c2⟩ := (h.below hbel).get hlt
      rw [all.out t hlt] at c2
      have i1 : (t : Int) < (l.length : Int) := by omega
      go_wp2_with fail
      refine (left_any _ _ _).mono ?_
      rintro e w1 ⟨rfl, b1⟩
      have hb1 := below_trans hbel b1
      clear b1
      go_wp2
      go_roundw
      case rel => exact ⟨t + 1, by omega, by go_num, hb1⟩
      case measure => simp [intOf]; omega
    · have i1 : ¬ (t : Int) < (l.length : Int) := by omega
      go_wp2
      go_ret
      exact ⟨rfl, hbel⟩
set_option maxHeartbeats 800000 in
theorem left_not (A : Option Addr) (l : List Per) (n c : Nat) (w : World) (h : Prs w A l) (hn : n = l.length) (all : Hid (∀ i, i < l.length → (pr l i).done = true)) :
    Calls Try.prog 29 #[.slice A n c, .func (.func 30) #[] #[]] w fun e w' => e = .returned (.bool false) ∧ Below w.heap.size w w' := by
  have hix := left_none A l n c w h hn all
  clear hn h
  go_enter Try.func29, Try.ntmps29
  go_wp2_with fail
  refine hix.mono ?_
  rintro e w1 ⟨rfl, b1⟩
  clear hix
  go_wp2
  go_ret
  exact ⟨rfl, b1⟩

end Go.Proofs.Ytlaandbaaepamaa
