
/-
  Walks: values.Curve over whatever function value that keeps to a contract.
-/
import Derived.Test.YtmefekgbljhclaaCurveC
import Derived.Test.YtmefekgbljhclaaPlain
namespace Go.Proofs.Ytmefekgbljhclaa
set_option linter.all false
open Go.RowKit

/-- A block that is known whole. -/
def Blk (w : World) (g : Nat) (t : TypeId) (cs : Array Value) : Prop := w.heap[g]? = some (.cells cs t (0, 0))
theorem Blk.lt {w : World} {g : Nat} {t : TypeId} {cs : Array Value} (h : Blk w g t cs) : g < w.heap.size := by
  rcases Nat.lt_or_ge g w.heap.size with hlt | hge
  · exact hlt
  · unfold Blk at h; rw [Array.getElem?_eq_none hge] at h; cases h
theorem Blk.cell {w : World} {g : Nat} {t : TypeId} {cs : Array Value} (h : Blk w g t cs) (i : Nat) : w.cell? ⟨g, i, none⟩ = cs[i]? := cell_of_row w g i cs t (0, 0) h
theorem Blk.frozen {w : World} {g : Nat} {t : TypeId} {cs : Array Value} (h : Blk w g t cs) (i : Nat) : w.frozen? ⟨g, i, none⟩ = false := by
  unfold Blk at h
  simp [World.frozen?, h]
theorem Blk.new (w : World) (t : TypeId) (cs : Array Value) : Blk (w.alloc (.cells cs t)) w.heap.size t cs := heap_alloc_new w _
theorem Blk.set_ {w : World} {g : Nat} {t : TypeId} {cs : Array Value} (h : Blk w g t cs) (i : Nat) (u : Value) : Blk (w.setCell ⟨g, i, none⟩ u) g t (cs.setIfInBounds i u) := by
  unfold Blk at h ⊢
  simp [World.setCell, Array.getElem?_modify, h]

/-- What a function value 'func(t int) int', called at 0, 1, .. in turn, keeps to: it answers F t; of the blocks below B0 none turns, and none from B on; what it needs of memory is Inv, which hangs on blocks below B alone. -/
structure Clo (k : FuncId) (cs : Array Value) (B0 B n : Nat) (F : Nat → Int) (Inv : Nat → World → Prop) : Prop where
  ent : ∀ args w, (callFunc k args).run Try.prog w = .ok (.enter k args) w
  call : ∀ (t : Nat) (w' : World), t < n → Inv t w' → B ≤ w'.heap.size → Calls Try.prog k (#[.int .i64 t] ++ cs) w' fun e w'' =>
    e = .returned (.int .i64 (F t)) ∧ Inv (t + 1) w'' ∧ Below B0 w' w'' ∧ ∀ b, B ≤ b → b < w'.heap.size → w''.heap[b]? = w'.heap[b]?
  far : ∀ (t : Nat) (w1 w2 : World), Inv t w1 → (∀ b, b < B → w2.heap[b]? = w1.heap[b]?) → Inv t w2

/-- The row behind k rounds. -/
def rowAt (n k : Nat) (F : Nat → Int) : List Value := (tab k F).map (Value.int .i64) ++ List.replicate (n - k) (.int .i64 0)

/-- What build leaves. -/
def Built (B0 : Nat) (L : List Int) (w : World) (e : Ending) (w' : World) : Prop :=
  ∃ A c, e = .returned (.tuple #[.slice A (fitL L).length c, .int .i64 (fitE L)]) ∧ w'.ownsRow w.heap.size 3 1 (.slice A (fitL L).length c) (fitL L).length ((fitL L).map (Value.int .i64)) ∧ Below B0 w w'

theorem rowAt_zero (n : Nat) (F : Nat → Int) : (rowAt n 0 F).toArray = madeCells #[Value.int .i64 0] n := by
  have := toList_madeCells_one (Value.int .i64 0) n
  rw [← Array.toArray_toList (xs := madeCells #[Value.int .i64 0] n), this]
  simp [rowAt, tab_zero]

theorem rowAt_succ {n k : Nat} (F : Nat → Int) (h : k < n) : (rowAt n k F).toArray.setIfInBounds k (.int .i64 (F k)) = (rowAt n (k + 1) F).toArray := by
  apply Array.ext'
  simp only [Array.toList_setIfInBounds, rowAt]
  have e : n - k = (n - (k + 1)) + 1 := by omega
  rw [e, List.replicate_succ, tab_succ, List.map_append]
  rw [List.set_append_right _ _ (by simp [length_tab])]
  simp [length_tab]

theorem rowAt_length {n k : Nat} (F : Nat → Int) (h : k ≤ n) : (rowAt n k F).length = n := by simp [rowAt, length_tab]; omega
theorem rowAt_full (n : Nat) (F : Nat → Int) : rowAt n n F = (tab n F).map (Value.int .i64) := by simp [rowAt]
theorem rowAt_get {n k : Nat} (F : Nat → Int) (h : k < n) : (rowAt n k F)[k]? = some (.int .i64 0) := by
  simp only [rowAt]
  rw [List.getElem?_append_right (by simp [length_tab])]
  simp only [List.length_map, length_tab, Nat.sub_self]
  rw [List.getElem?_replicate, if_pos (by omega)]

set_option maxHeartbeats 800000 in
theorem build_any (k : FuncId) (cs : Array Value) (B0 n : Nat) (F : Nat → Int) (Inv : Nat → World → Prop) (w : World) (hn : n ≤ 61) (hB : B0 ≤ w.heap.size)
    (hc : Clo k cs B0 w.heap.size n F Inv) (h0 : Inv 0 w) :
    Calls Try.prog 42 #[.int .i64 n, .func (.func k) #[] cs] w (Built B0 (tab n F) w) := by
  have hmk := fun W => run_make_row' (P := Try.prog) 25 3 (.int .i64 0) 8 Try.underlying25 int_info rfl .i64 .i64 n (by omega) (by omega) W
  have hent := hc.ent
  go_enter Try.func42, Try.ntmps42
  go_wp2
  go_loopw [13] (fun i wr => ∃ k : Nat, k ≤ n ∧ i = .int .i64 k ∧ Blk wr w.heap.size 3 (rowAt n k F).toArray ∧ Inv k wr ∧ Below B0 w wr ∧ Hid (∀ j, j < k → F j ≤ 1000000)) (fun i _ => n - (intOf i).toNat)
  case atStart =>
    refine ⟨0, Nat.zero_le _, rfl, ?_, ?_, ?_, Lib.hid (fun j hj => absurd hj (by omega))⟩
    · rw [rowAt_zero]; exact Blk.new _ _ _
    · exact hc.far 0 w _ h0 (fun b hb => Below.heap_alloc w _ b hb)
    · exact (Below.refl _ _).alloc hB _
  case round =>
    obtain ⟨t, ht, rfl, hblk, hinv, hbel, HF⟩ := hrel
    by_cases hlt : t < n
    · have hcell := hblk.cell t
      have hfz := hblk.frozen t
      have hsz := hblk.lt
      go_wp2_with fail
      refine (hc.call t wr hlt hinv (by omega)).mono ?_
      rintro e w1 ⟨rfl, hinv1, hbel1, hfar1⟩
      have hblk1 : Blk w1 w.heap.size 3 (rowAt n t F).toArray := (hfar1 _ (Nat.le_refl _) hsz).trans hblk
      have hcell1 : w1.cell? ⟨w.heap.size, t, none⟩ = some (.int .i64 0) := by rw [hblk1.cell t]; simpa using rowAt_get F hlt
      have hfz1 := hblk1.frozen t
      have hbel2 := hbel.trans hbel1
      clear hcell hfz hblk hinv hbel hfar1 hbel1
      by_cases hbig : 1000000 < F t
      · go_wp2
        go_ret2
        have hb : bigB (tab n F) = true := bigB_iff.2 ⟨t, by rwa [length_tab], by rwa [gt_tab F hlt]⟩
        obtain ⟨e1, e2⟩ := fit_big hb
        exact ⟨none, 0, by rw [e1, e2]; rfl, by rw [e2]; exact World.ownsRow_nil _ _ _ _, hbel2⟩
      · go_wp2
        go_roundw
        case rel =>
          refine ⟨t + 1, by omega, by go_num, ?_, ?_, ?_, Lib.hid (fun j hj => ?_)⟩
          · rw [← rowAt_succ F hlt]; exact hblk1.set_ t _
          · exact hc.far _ w1 _ hinv1 (fun b hb => Below.heap_setCell w1 _ _ b (by simp; omega))
          · exact hbel2.setCell (by simpa using hB) _
          · by_cases e : j = t
            · subst e; omega
            · exact HF.out j (by omega)
        case measure => simp [intOf]; omega
    · obtain rfl : t = n := by omega
      go_wp2
      go_ret2
      have hb : bigB (tab t F) = false := bigB_no.2 (fun i hi => by rw [length_tab] at hi; rw [gt_tab F hi]; exact HF.out i hi)
      obtain ⟨e1, e2⟩ := fit_ok hb
      refine ⟨some ⟨w.heap.size, 0, none⟩, t, by rw [e1, e2, length_tab]; rfl, ?_, hbel⟩
      rw [e2, length_tab]
      rw [rowAt_full] at hblk
      exact ⟨by simp [length_tab], .inr ⟨w.heap.size, t, _, rfl, Nat.le_refl _, hblk, Nat.le_refl _, by unfold maxLen; omega, by simp [length_tab], by simp [length_tab, List.take_of_length_le]⟩⟩

end Go.Proofs.Ytmefekgbljhclaa
