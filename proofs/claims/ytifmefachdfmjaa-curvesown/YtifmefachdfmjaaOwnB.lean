
/-
  A list of lists that a call has been handed and keeps, each in memory of its own; the walk of CurvesOwn's own 'keep'.
-/
import Derived.Test.YtifmefachdfmjaaOwnA
import Derived.Test.YtifmefachdfmjaaAptA
import Derived.Maps.AppendAt
import Derived.Deep.AppendLies
namespace Go.Proofs.Ytifmefachdfmjaa
set_option linter.all false
open Go.RowKit Go.Shelf

theorem own_keep {w w' : World} {base n size : Nat} {e : TypeId} {v : Value} {xs : List Value} (h : w.ownsRow base e size v n xs) (hk : ∀ g, v.ownBlock = some g → w'.heap[g]? = w.heap[g]?) : w'.ownsRow base e size v n xs := by
  refine ⟨h.1, ?_⟩
  rcases h.2 with q | ⟨g, cap, cur, rfl, h1, h2, h3⟩
  · exact .inl q
  · exact .inr ⟨g, cap, cur, rfl, h1, (hk g rfl).trans h2, h3⟩
theorem own_belowO {w w' : World} {base n size : Nat} {e : TypeId} {v : Value} {xs : List Value} (h : w.ownsRow base e size v n xs) (hb : Below w.heap.size w w') : w'.ownsRow base e size v n xs :=
  own_keep h (fun g hg => hb.block g (h.lt g hg).2)

/-- The variable at gl holds the slice v of the lists ps, each in a row of its own, all of them in blocks from base on. -/
structure Hold (w : World) (base gl : Nat) (ps : List (Value × List Int)) (v : Value) : Prop where
  var : Blk w gl 46 #[v]
  lo : gl < base
  le : base ≤ w.heap.size
  row : w.ownsRow base 22 1 v ps.length (ps.map (·.1))
  each : ∀ p ∈ ps, w.ownsRow base 3 1 p.1 p.2.length (p.2.map (Value.int .i64))
  len : ∀ p ∈ ps, p.2.length ≤ 61
  off : ∀ p ∈ ps, Apt v p.1
  apart : ps.Pairwise (fun p q => Apt p.1 q.1)
theorem Hold.below {w w' : World} {base gl : Nat} {ps : List (Value × List Int)} {v : Value} (h : Hold w base gl ps v) (hb : Below w.heap.size w w') : Hold w' base gl ps v :=
  ⟨h.var.belowO hb, h.lo, Nat.le_trans h.le hb.size, own_belowO h.row hb, fun p hp => own_belowO (h.each p hp) hb, h.len, h.off, h.apart⟩
theorem Hold.new {w w1 : World} {base gl n : Nat} {e : TypeId} {ps : List (Value × List Int)} {v u : Value} {xs : List Value} (h : Hold w base gl ps v) (o : w1.ownsRow w.heap.size e 1 u n xs) : Apt v u ∧ ∀ p ∈ ps, Apt p.1 u :=
  ⟨fun g a b => by have := (h.row.lt g a).2; have := (o.lt g b).1; omega, fun p hp g a b => by have := ((h.each p hp).lt g a).2; have := (o.lt g b).1; omega⟩

theorem row_info : (Try.prog.info? 22).map (fun i => (i.zero, i.size, i.bytes)) = some (some (.slice none 0 0), 1, 24) := by kernel_rfl
theorem one_slice (A : Option Addr) (n c : Nat) : ∀ u ∈ [Value.slice A n c], u.oneCell' = true := by
  intro u hu
  simp at hu
  subst hu
  rfl

/-- What an append to the variable leaves. -/
theorem Hold.app {w w1 : World} {base gl : Nat} {ps qs : List (Value × List Int)} {v v' : Value} {o : Obj} (h : Hold w base gl ps v) (hq : ∀ q ∈ qs, w.ownsRow base 3 1 q.1 q.2.length (q.2.map (Value.int .i64))) (hl : ∀ q ∈ qs, q.2.length ≤ 61) (a1 : ∀ q ∈ qs, Apt v q.1) (a2 : ∀ p ∈ ps, ∀ q ∈ qs, Apt p.1 q.1) (a3 : qs.Pairwise (fun p q => Apt p.1 q.1))
    (hrow : w1.ownsRow base 22 1 v' (ps.length + qs.length) (ps.map (·.1) ++ qs.map (·.1))) (hg : (w.alloc o).grownBy w1 v.ownBlock) (hat : v'.ownBlock = v.ownBlock ∨ v'.ownBlock = some (w.heap.size + 1)) :
    Hold (w1.setCell ⟨gl, 0, none⟩ v') base gl (ps ++ qs) v' ∧ Below gl w (w1.setCell ⟨gl, 0, none⟩ v') := by
  have hlo := h.lo
  have hle := h.le
  have hvb : ∀ g, v.ownBlock = some g → base ≤ g := fun g q => (h.row.lt g q).1
  have hz : w.heap.size + 1 ≤ w1.heap.size := by have := hg.size; simpa using this
  have keep : ∀ g, g < w.heap.size → some g ≠ v.ownBlock → g ≠ gl → (w1.setCell ⟨gl, 0, none⟩ v').heap[g]? = w.heap[g]? := fun g q1 q2 q3 => by
    rw [Below.heap_setCell _ _ _ _ q3, hg.block g (by simp; omega) q2]
    exact Below.heap_alloc w o g q1
  have old : ∀ x : Value, ∀ M : List Int, w.ownsRow base 3 1 x M.length (M.map (Value.int .i64)) → Apt v x → (w1.setCell ⟨gl, 0, none⟩ v').ownsRow base 3 1 x M.length (M.map (Value.int .i64)) := fun x M hx ha =>
    own_keep hx (fun g q => keep g (hx.lt g q).2 (fun e => ha g e.symm q) (by have := (hx.lt g q).1; omega))
  have var1 : Blk w1 gl 46 #[v] := by
    have e : w1.heap[gl]? = w.heap[gl]? := by
      rw [hg.block gl (by simp; omega) (fun e => by have := hvb gl e.symm; omega)]
      exact Below.heap_alloc w o gl (by omega)
    exact e.trans h.var
  have far : ∀ x : Value, (∀ g, x.ownBlock = some g → g < w.heap.size) → Apt v x → Apt v' x := fun x hx ha g q1 q2 => by
    rcases hat with e | e
    · exact ha g (by rw [← e]; exact q1) q2
    · rw [e] at q1; injection q1 with q1; have := hx g q2; omega
  refine ⟨⟨by simpa using var1.set_ 0 v', hlo, by simp; omega, ?_, ?_, ?_, ?_, ?_⟩, ?_⟩
  · have := ownsRow_setCell_below hrow (a := ⟨gl, 0, none⟩) hlo v'
    simpa using this
  · intro p hp
    rcases List.mem_append.1 hp with q | q
    · exact old p.1 p.2 (h.each p q) (h.off p q)
    · exact old p.1 p.2 (hq p q) (a1 p q)
  · intro p hp
    rcases List.mem_append.1 hp with q | q
    · exact h.len p q
    · exact hl p q
  · intro p hp
    rcases List.mem_append.1 hp with q | q
    · exact far p.1 (fun g e => ((h.each p q).lt g e).2) (h.off p q)
    · exact far p.1 (fun g e => ((hq p q).lt g e).2) (a1 p q)
  · rw [List.pairwise_append]
    exact ⟨h.apart, a3, fun p hp q hq' => a2 p hp q hq'⟩
  · refine ⟨hg.os, hg.tape, hg.output, by simp; omega, fun g q => ?_⟩
    exact keep g (by omega) (fun e => by have := hvb g e.symm; omega) (by omega)

set_option maxHeartbeats 800000 in
theorem keep_any (A : Option Addr) (n c : Nat) (E : Int) (L : List Int) (base gl : Nat) (ps : List (Value × List Int)) (v : Value) (w : World) (h : Hold w base gl ps v) (hu : w.ownsRow base 3 1 (.slice A n c) L.length (L.map (Value.int .i64))) (a1 : Apt v (.slice A n c)) (a2 : ∀ p ∈ ps, Apt p.1 (.slice A n c)) (hL : L.length ≤ 61) (hk : ps.length < 1000) :
    Calls Try.prog 30 #[.slice A n c, .int .i64 E, .pointer (some ⟨gl, 0, none⟩)] w fun e w' => e = .returned (.tuple #[]) ∧ ∃ v', Hold w' base gl (ps ++ [(.slice A n c, L)]) v' ∧ Below gl w w' := by
  obtain ⟨i0, hi0, hz0, hz1, hz2⟩ := info_parts row_info
  have hle := h.le
  have hlo := h.lo
  have c0 : w.cell? ⟨gl, 0, none⟩ = some v := by simpa using h.var.cell 0
  have vl := h.var.lt
  have HH := Lib.hid h
  go_enter Try.func30, Try.ntmps30
  go_wp2_with (at_builtin; refine wpList_append_own_at _ rfl _ _ 46 rfl base 22 i0 (.slice none 0 0) 1 24 Try.underlying46 hi0 hz0 hz1 hz2 rfl (by decide) v ps.length (ps.map (·.1)) rfl (World.ownsRow.alloc HH.out.row _) ⟨w.heap.size, 0, none⟩ 1 1 [.slice A n c] rfl rfl (cell_one_new _ _ _) (one_slice _ _ _) (by unfold maxLen; omega) (by omega) (by simp; omega) ?_)
  intro v' w1 hrow hgrow _ hat
  obtain ⟨H1, H2⟩ := HH.out.app (qs := [(.slice A n c, L)]) (by intro q hq; simp at hq; subst hq; exact hu) (by intro q hq; simp at hq; subst hq; exact hL) (by intro q hq; simp at hq; subst hq; exact a1) (by intro p hp q hq; simp at hq; subst hq; exact a2 p hp) (List.pairwise_singleton _ _) hrow hgrow (by simpa using hat)
  have B1 : Blk w1 gl 46 #[v] := by
    have e : w1.heap[gl]? = w.heap[gl]? := by
      rw [hgrow.block gl (by simp; omega) (fun e => by have := (HH.out.row.lt gl e.symm).1; omega)]
      exact Below.heap_alloc w _ gl vl
    exact e.trans h.var
  have c1 : w1.cell? ⟨gl, 0, none⟩ = some v := by simpa using B1.cell 0
  have f1 := B1.frozen 0
  obtain ⟨g', cap', rfl, _, _⟩ := hrow.form (by omega)
  clear hrow hgrow hat B1 h hu a1 a2 HH
  go_wp2
  exact ⟨rfl, .tuple #[], by simp [results, Try.results30, go_sem], rfl, _, H1, H2⟩

end Go.Proofs.Ytifmefachdfmjaa
