
/-
  Clones of lists that are kept; lists that are kept beside; a list spoilt.
-/
import Derived.Test.YtifmefachdfmjaaOwnC
namespace Go.Proofs.Ytifmefachdfmjaa
set_option linter.all false
open Go.RowKit Go.Shelf

theorem form_of {w : World} {base n size : Nat} {e : TypeId} {v : Value} {xs : List Value} (h : w.ownsRow base e size v n xs) : v = .slice none 0 0 ∧ n = 0 ∨ ∃ g c, v = .slice (some ⟨g, 0, none⟩) n c := by
  rcases h.2 with q | ⟨g, cap, cur, rfl, _⟩
  · exact .inl q
  · exact .inr ⟨g, cap, rfl⟩

set_option maxHeartbeats 400000 in
theorem clone_row (u : Value) (L : List Int) (base : Nat) (w : World) (o : w.ownsRow base 3 1 u L.length (L.map (Value.int .i64))) (h61 : L.length ≤ 61) :
    Calls Try.prog 26 #[u] w (AnsL L w) := by
  obtain ⟨i0, hi0, hz0, hz1, hz2⟩ := info_parts int_info
  have q : ∀ (w : World) (a : Option Addr) (n c n' c' : Nat), (binOp .eql 22 (.slice a n c) (.slice none n' c')).run Try.prog w = .ok (.bool a.isNone) w := fun w a n c n' c' => Lib.run_eql_slice_nil w _ _ a n c n' c' Try.underlying22
  rcases form_of o with ⟨rfl, h0⟩ | ⟨g, c, rfl⟩
  · obtain rfl : L = [] := List.eq_nil_of_length_eq_zero h0
    go_enter Try.func26, Try.ntmps26
    go_wp2
    go_ret
    exact ⟨none, 0, rfl, World.ownsRow_nil _ _ _ _, Below.refl _ _⟩
  · have h := Ints.of_own o
    have HO := Lib.hid o
    have gl := (o.lt g rfl).2
    clear o
    go_enter Try.func26, Try.ntmps26
    go_wp2_with (at_builtin; refine wpList_append_own _ rfl _ _ 22 rfl w.heap.size 3 i0 (.int .i64 0) 1 8 Try.underlying22 hi0 hz0 hz1 hz2 rfl (by decide) _ _ _ rfl (World.ownsRow_made w #[] 0 (Nat.le_refl _) (Nat.zero_le _) rfl) ⟨g, 0, none⟩ L.length c (L.map (Value.int .i64)) rfl ?qc1 ?qc2 ?qc3 ?qc4 ?qc5 ?qc6 ?_)
    case qc1 => simp
    case qc2 =>
      intro j x hj
      have hc := HO.out.cells (g := g) rfl j x hj
      have e : ((⟨g, 0, none⟩ : Addr).add j) = ⟨g, 0 + j, none⟩ := by rw [Addr.add_lit]
      rw [e] at hc ⊢
      exact (Below.cell ((Below.refl w.heap.size w).alloc (Nat.le_refl _) _) (p := ⟨g, 0 + j, none⟩) gl).trans hc
    case qc3 => intro x hx; obtain ⟨y, _, rfl⟩ := List.mem_map.1 hx; rfl
    case qc4 => unfold maxLen; omega
    case qc5 => omega
    case qc6 => simp
    intro v' w1 hown hgrow hnil
    go_wp2
    go_ret
    exact AnsL.of (by simpa using hown) (((Below.refl _ w).alloc (Nat.le_refl _) _).grown hgrow (by simp) (by intro k hk; simp [Value.ownBlock] at hk; omega))

/-- The slice u holds the lists ws, each in a row of its own, all in blocks from base on. -/
structure Kept (w : World) (base : Nat) (ws : List (Value × List Int)) (u : Value) : Prop where
  le : base ≤ w.heap.size
  row : w.ownsRow base 22 1 u ws.length (ws.map (·.1))
  each : ∀ p ∈ ws, w.ownsRow base 3 1 p.1 p.2.length (p.2.map (Value.int .i64))
  off : ∀ p ∈ ws, Apt u p.1
theorem Kept.below {w w' : World} {base : Nat} {ws : List (Value × List Int)} {u : Value} (h : Kept w base ws u) (hb : Below w.heap.size w w') : Kept w' base ws u :=
  ⟨Nat.le_trans h.le hb.size, own_belowO h.row hb, fun p hp => own_belowO (h.each p hp) hb, h.off⟩
theorem Kept.nil {w : World} {base : Nat} (h : base ≤ w.heap.size) : Kept w base [] (.slice none 0 0) := ⟨h, World.ownsRow_nil _ _ _ _, fun _ hp => by simp at hp, fun _ hp => by simp at hp⟩
theorem Kept.turned {w w' : World} {base g : Nat} {ws : List (Value × List Int)} {u : Value} (h : Kept w base ws u) (ht : Turned g w w') (hg : g < base) : Kept w' base ws u :=
  ⟨by rw [ht.size]; exact h.le, own_keep h.row (fun k q => ht.block k (by have := (h.row.lt k q).1; omega)), fun p hp => own_keep (h.each p hp) (fun k q => ht.block k (by have := ((h.each p hp).lt k q).1; omega)), h.off⟩
theorem Kept.app {w w0 w1 : World} {base : Nat} {ws : List (Value × List Int)} {u u' x : Value} {L : List Int} {o : Obj} (h : Kept w base ws u) (hx : w0.ownsRow w.heap.size 3 1 x L.length (L.map (Value.int .i64))) (hb : Below w.heap.size w w0)
    (hrow : w1.ownsRow base 22 1 u' (ws.length + 1) (ws.map (·.1) ++ [x])) (hg : (w0.alloc o).grownBy w1 u.ownBlock) (hat : u'.ownBlock = u.ownBlock ∨ u'.ownBlock = some (w0.heap.size + 1)) :
    Kept w1 base (ws ++ [(x, L)]) u' ∧ Below base w w1 := by
  have hle := h.le
  have h0 := h.below hb
  have hs := hb.size
  have hz : w0.heap.size + 1 ≤ w1.heap.size := by have := hg.size; simpa using this
  have keep : ∀ g, g < w0.heap.size → some g ≠ u.ownBlock → w1.heap[g]? = w0.heap[g]? := fun g q1 q2 => by
    rw [hg.block g (by simp; omega) q2]
    exact Below.heap_alloc w0 o g q1
  have aux : Apt u x := fun g a b => by have := (h.row.lt g a).2; have := (hx.lt g b).1; omega
  have far : ∀ y : Value, (∀ g, y.ownBlock = some g → g < w0.heap.size) → Apt u y → Apt u' y := fun y hy ha g q1 q2 => by
    rcases hat with e | e
    · exact ha g (by rw [← e]; exact q1) q2
    · rw [e] at q1; injection q1 with q1; have := hy g q2; omega
  refine ⟨⟨by omega, by simpa using hrow, ?_, ?_⟩, ?_⟩
  · intro p hp
    rcases List.mem_append.1 hp with c | c
    · exact own_keep (h0.each p c) (fun g e => keep g ((h0.each p c).lt g e).2 (fun k => h.off p c g k.symm e))
    · simp at c; subst c
      exact own_lower (own_keep hx (fun g e => keep g (hx.lt g e).2 (fun k => aux g k.symm e))) hle
  · intro p hp
    rcases List.mem_append.1 hp with c | c
    · exact far p.1 (fun g e => ((h0.each p c).lt g e).2) (h.off p c)
    · simp at c; subst c; exact far x (fun g e => (hx.lt g e).2) aux
  · refine ⟨hg.os.trans hb.os, hg.tape.trans hb.tape, hg.output.trans hb.output, by omega, fun g q => ?_⟩
    rw [keep g (by omega) (fun e => by have := (h.row.lt g e.symm).1; omega)]
    exact hb.block g (by omega)

/-- A list that is kept in a row of its own, spoilt. -/
theorem spoil_row (u : Value) (L : List Int) (base : Nat) (x : Int) (w : World) (o : w.ownsRow base 3 1 u L.length (L.map (Value.int .i64))) :
    Calls Try.prog 46 #[u, .int .i64 x] w fun e w' => e = .returned (.tuple #[]) ∧ (w = w' ∨ ∃ g, u.ownBlock = some g ∧ Turned g w w') := by
  rcases o.2 with ⟨rfl, h0⟩ | ⟨g, cap, cur, rfl, h1, h2, h3, h4, h5, _⟩
  · exact (spoil_nil x w).mono (by rintro e w' ⟨rfl, rfl⟩; exact ⟨rfl, .inl rfl⟩)
  · refine (spoil_any g L.length cap x cur w h2 (by simpa using h5) h3 (by unfold maxLen at h4; omega)).mono ?_
    rintro e w' ⟨rfl, ht⟩
    exact ⟨rfl, .inr ⟨g, rfl, ht⟩⟩

structure FnL (l : List Int) (n : Int) (L M : List Int) (E : Int) : Prop where
  len : L.length ≤ 61
  len' : M.length ≤ 61
  call : ∀ (A : Option Addr) (c : Nat) (w : World), Ints w A l → l.length ≤ c → Calls Try.prog 13 #[.slice A l.length c, .int .i64 n] w (Ans3 L M E w)

theorem Hold.turned {w w' : World} {base gl g : Nat} {ps : List (Value × List Int)} {v : Value} (h : Hold w base gl ps v) (ht : Turned g w w') (hg : g < gl) : Hold w' base gl ps v :=
  ⟨(ht.block gl (by omega)).trans h.var, h.lo, by rw [ht.size]; exact h.le, own_keep h.row (fun k q => ht.block k (by have := (h.row.lt k q).1; have := h.lo; omega)), fun p hp => own_keep (h.each p hp) (fun k q => ht.block k (by have := ((h.each p hp).lt k q).1; have := h.lo; omega)), h.len, h.off, h.apart⟩
theorem new_two (w : World) (x y : Value) (t : TypeId) : ∀ j u, [x, y][j]? = some u → (w.alloc (.cells #[x, y] t)).cell? ((⟨w.heap.size, 0, none⟩ : Addr).add j) = some u := by
  intro j u hj
  rw [Addr.add_lit]
  match j, hj with
  | 0, hj => simp at hj; subst hj; simpa using (Blk.new w t #[x, y]).cell 0
  | 1, hj => simp at hj; subst hj; simpa using (Blk.new w t #[x, y]).cell 1
theorem two_slices (A : Option Addr) (n c : Nat) (B : Option Addr) (m d : Nat) : ∀ u ∈ [Value.slice A n c, Value.slice B m d], u.oneCell' = true := by
  intro u hu
  simp at hu
  rcases hu with rfl | rfl <;> rfl
theorem form_any {w : World} {base n size : Nat} {e : TypeId} {v : Value} {xs : List Value} (h : w.ownsRow base e size v n xs) : ∃ A c, v = .slice A n c := by
  rcases h.2 with ⟨rfl, h0⟩ | ⟨g, cap, cur, rfl, _⟩
  · exact ⟨none, 0, by rw [h0]⟩
  · exact ⟨_, _, rfl⟩
/-- What is left of a list of lists when the first k have been spoilt. -/
structure Rest (w : World) (base : Nat) (ps : List (Value × List Int)) (v : Value) (k : Nat) : Prop where
  row : w.ownsRow base 22 1 v ps.length (ps.map (·.1))
  each : ∀ j p, ps[j]? = some p → k ≤ j → w.ownsRow base 3 1 p.1 p.2.length (p.2.map (Value.int .i64))
theorem Hold.rest {w : World} {base gl : Nat} {ps : List (Value × List Int)} {v : Value} (h : Hold w base gl ps v) : Rest w base ps v 0 := ⟨h.row, fun _ p hp _ => h.each p (List.mem_of_getElem? hp)⟩
theorem Rest.drewN {w : World} {base k : Nat} {ps : List (Value × List Int)} {v : Value} (h : Rest w base ps v k) (n : Nat) : Rest (w.drewN n) base ps v k := ⟨h.row, h.each⟩
theorem Rest.next {w w' : World} {base k : Nat} {ps : List (Value × List Int)} {v : Value} {p : Value × List Int} (h : Rest w base ps v k) (hp : ps[k]? = some p) (off : ∀ p ∈ ps, Apt v p.1) (ap : ps.Pairwise (fun p q => Apt p.1 q.1)) (ht : w = w' ∨ ∃ g, p.1.ownBlock = some g ∧ Turned g w w') : Rest w' base ps v (k + 1) := by
  rcases ht with rfl | ⟨g, hg, ht⟩
  · exact ⟨h.row, fun j q hq hj => h.each j q hq (by omega)⟩
  · refine ⟨own_keep h.row (fun i hi => ht.block i (fun e => off p (List.mem_of_getElem? hp) i hi (by rw [e]; exact hg))), fun j q hq hj => own_keep (h.each j q hq (by omega)) (fun i hi => ht.block i (fun e => ?_))⟩
    obtain ⟨hk1, rfl⟩ := List.getElem?_eq_some_iff.1 hp
    obtain ⟨hj1, rfl⟩ := List.getElem?_eq_some_iff.1 hq
    have := List.pairwise_iff_getElem.1 ap k j hk1 hj1 (by omega)
    exact this i (by rw [e]; exact hg) hi

end Go.Proofs.Ytifmefachdfmjaa
