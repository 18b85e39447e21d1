
/-
  The walk of slices.Delete of one number, in a block known as far as it is wanted.
-/
import Derived.Test.YtjlkcjaofglpmaaLfbA
import Derived.Test.YtjlkcjaofglpmaaBucketD
import Derived.Deep.RegionLaw
import Derived.Lib.AppendZerosOnto
import Derived.Lib.SliceRun
namespace Go.Proofs.Ytjlkcjaofglpmaa
set_option linter.all false
open Go.RowKit Go.Shelf Go.Lib

/-- Nothing turned but block g. -/
structure Oth (g : Nat) (w w' : World) : Prop where
  below : ∀ B, B ≤ g → B ≤ w.heap.size → Below B w w'
  block : ∀ b, b ≠ g → w'.heap[b]? = w.heap[b]?
  size : w'.heap.size = w.heap.size
theorem Oth.refl (g : Nat) (w : World) : Oth g w w := ⟨fun B _ _ => Below.refl B w, fun _ _ => rfl, rfl⟩
theorem Oth.set_ {g : Nat} {w w' : World} (h : Oth g w w') (o : Nat) (v : Value) : Oth g w (w'.setCell ⟨g, o, none⟩ v) := by
  refine ⟨fun B hB hs => (h.below B hB hs).setCell (p := ⟨g, o, none⟩) hB v, fun b hb => ?_, ?_⟩
  · rw [Below.heap_setCell w' ⟨g, o, none⟩ v b hb]; exact h.block b hb
  · rw [← h.size]; simp [World.setCell]
theorem Oth.sets {g : Nat} {w : World} : ∀ (vs : List Value) (o : Nat) (w' : World), Oth g w w' → Oth g w (w'.setCells g o vs)
  | [], _, _, h => h
  | v :: vs, o, w', h => Oth.sets vs (o + 1) _ (h.set_ o v)
theorem Oth.drew {g : Nat} {w w' : World} (h : Oth g w w') : Oth g w w'.drew := by
  refine ⟨fun B hB hs => ?_, h.block, h.size⟩
  have q := h.below B hB hs
  exact ⟨q.os, q.tape, q.output, q.size, q.block⟩
theorem Oth.blk {g b : Nat} {w w' : World} {t : TypeId} {cs : Array Value} (h : Oth g w w') (ne : b ≠ g) (hb : Blk w b t cs) : Blk w' b t cs := (h.block b ne).trans hb
theorem cell_heap {w w' : World} {b : Nat} (h : w'.heap[b]? = w.heap[b]?) (o : Nat) : w'.cell? ⟨b, o, none⟩ = w.cell? ⟨b, o, none⟩ := by
  simp only [World.cell?, h]
theorem Oth.bls {g : Nat} {w w' : World} {A : Option Addr} {l : List Bool} (h : Oth g w w') (ne : ∀ b off, A = some ⟨b, off, none⟩ → b ≠ g) (hb : Bls w A l) : Bls w' A l := by
  refine ⟨hb.1, fun hl => ?_⟩
  obtain ⟨b, off, e, hc⟩ := hb.2 hl
  exact ⟨b, off, e, fun j hj => by rw [cell_heap (h.block b (ne b off e))]; exact hc j hj⟩
theorem Oth.ints {g : Nat} {w w' : World} {A : Option Addr} {l : List Int} (h : Oth g w w') (ne : ∀ b off, A = some ⟨b, off, none⟩ → b ≠ g) (hb : Ints w A l) : Ints w' A l := by
  refine ⟨hb.1, fun hl => ?_⟩
  obtain ⟨b, off, e, hc⟩ := hb.2 hl
  exact ⟨b, off, e, fun j hj => by rw [cell_heap (h.block b (ne b off e))]; exact hc j hj⟩
theorem Blk.sets {g : Nat} {t : TypeId} : ∀ (vs : List Value) (o : Nat) (w : World) (cs : Array Value), Blk w g t cs → ∃ cs', Blk (w.setCells g o vs) g t cs' ∧ cs'.size = cs.size
  | [], _, _, cs, h => ⟨cs, h, rfl⟩
  | v :: vs, o, w, cs, h => by
    obtain ⟨cs', h1, h2⟩ := Blk.sets vs (o + 1) _ _ (h.set_ o v)
    exact ⟨cs', h1, by rw [h2]; simp⟩
theorem LfB.of_cells {w : World} {g n cap : Nat} {F : Nat → Int} {cs : Array Value} (h : Blk w g 3 cs) (hs : cs.size = cap) (hn : n ≤ cap) (hc : ∀ k, k < n → w.cell? ⟨g, k, none⟩ = some (.int .i64 (F k))) : LfB w g n cap F :=
  ⟨cs.toList, by rw [Array.toArray_toList]; exact h, by rw [Array.length_toList]; exact hs, hn, fun k hk => by rw [Array.getElem?_toList, ← h.cell k]; exact hc k hk⟩
theorem LfB.below {w w' : World} {g n cap : Nat} {F : Nat → Int} (h : LfB w g n cap F) (hb : Below w.heap.size w w') : LfB w' g n cap F := by
  obtain ⟨cur, h1, h⟩ := h
  exact ⟨cur, h1.below hb, h⟩
theorem LfB.lt {w : World} {g n cap : Nat} {F : Nat → Int} (h : LfB w g n cap F) : g < w.heap.size := by
  obtain ⟨cur, h1, h⟩ := h
  exact h1.lt
theorem LfB.drew {w : World} {g n cap : Nat} {F : Nat → Int} (h : LfB w g n cap F) : LfB w.drew g n cap F := h
theorem clear_oneN (w : World) (g o c : Nat) (ty : TypeId) (hc : (w.cell? ⟨g, o, none⟩).isSome = true) (hf : w.frozen? ⟨g, o, none⟩ = false) :
    (Builtin.clear_ #[22] ty #[.slice (some ⟨g, o, none⟩) 1 c]).run Try.prog w = .ok (.tuple #[]) (w.setCells g o [.int .i64 0]) := by
  obtain ⟨i0, hi0, hz0, hz1, hz2⟩ := info_parts int_info
  have hst := run_storeCells_cells (P := Try.prog) g o [.int .i64 0] 0 w (by intro j hj; simp at hj; subst hj; simpa using hc) (by intro j hj; simp at hj; subst hj; simpa using hf) (by intro v hv; simp at hv; subst hv; rfl)
  simp only [Nat.add_zero] at hst
  have hzc : (Builtin.zeroCells (Value.int .i64 0).cells 1).toList = [.int .i64 0] := by kernel_rfl
  simp [Builtin.clear_, run_underlying Try.underlying22, zeroValue, typeInfo, hi0, hz0, hzc, hst]
theorem gt_erase {l : List Int} {i k : Nat} (hi : i < l.length) (hk : k + 1 < l.length) : gt (l.eraseIdx i) k = if k < i then gt l k else gt l (k + 1) := by
  refine gt_of_get ?_
  rw [List.getElem?_eraseIdx]
  split
  · exact (List.getElem?_eq_getElem (by omega)).trans (by rw [gt_of_get (List.getElem?_eq_getElem (by omega))])
  · exact (List.getElem?_eq_getElem (by omega)).trans (by rw [gt_of_get (List.getElem?_eq_getElem (by omega))])

set_option maxRecDepth 100000 in
set_option maxHeartbeats 1600000 in
theorem delete_int (g i m cap : Nat) (l : List Int) (w : World) (hl : l.length = i + m + 1) (hbig : l.length ≤ 1000) (h : LfB w g (i + m + 1) cap (gt l)) :
    Calls Try.prog 26 #[.slice (some ⟨g, 0, none⟩) (i + m + 1) cap, .int .i64 i, .int .i64 (i + 1 : Nat)] w fun e w' =>
      e = .returned (.slice (some ⟨g, 0, none⟩) (i + m) cap) ∧ LfB w' g (i + m) cap (gt (l.eraseIdx i)) ∧ Oth g w w' := by
  obtain ⟨i0, hi0, hz0, hz1, hz2⟩ := info_parts int_info
  have e1 : ((i : Int) == ((i + 1 : Nat) : Int)) = false := by rw [beq_eq_false_iff_ne]; omega
  obtain ⟨kc, hcur⟩ : i + m + 1 ≤ cap ∧ ∃ cs : Array Value, Blk w g 3 cs ∧ cs.size = cap := by
    obtain ⟨cur, h1, h2, h3, _⟩ := h
    exact ⟨h3, cur.toArray, h1, by simpa using h2⟩
  have hd : (l.drop (i + 1)).length = m := by rw [List.length_drop]; omega
  obtain ⟨news, hnews⟩ : ∃ news, news = (l.drop (i + 1)).map (Value.int .i64) := ⟨_, rfl⟩
  have nl : news.length = m * 1 := by rw [hnews, List.length_map, hd]; omega
  have NL := Lib.hid nl
  have ONE : Hid (∀ u ∈ news, u.oneCell' = true) := Lib.hid (by rw [hnews]; intro u hu; obtain ⟨x, _, rfl⟩ := List.mem_map.1 hu; rfl)
  have nget : ∀ t, t < m → news[t]? = some (.int .i64 (gt l (i + 1 + t))) := fun t ht => by
    rw [hnews, List.getElem?_map, List.getElem?_drop, List.getElem?_eq_getElem (by omega : i + 1 + t < l.length), gt_of_get (List.getElem?_eq_getElem (by omega : i + 1 + t < l.length))]; rfl
  have SRC : Hid (∀ t u, news[t]? = some u → w.drew.cell? ⟨g, (i + 1) * 1 + t, none⟩ = some u) := Lib.hid (fun t u hu => by
    have ht : t < m := by have := (List.getElem?_eq_some_iff.1 hu).1; omega
    show w.cell? _ = _
    rw [nget t ht] at hu
    rw [Nat.mul_one, h.cell (k := i + 1 + t) (by omega)]; exact hu)
  have SP : Hid (∀ t, t < news.length → (w.drew.cell? ⟨g, 0 + i * 1 + t, none⟩).isSome = true ∧ w.drew.frozen? ⟨g, 0 + i * 1 + t, none⟩ = false) := Lib.hid (fun t ht => by
    rw [nl] at ht
    refine ⟨?_, h.frozen _⟩
    show (w.cell? _).isSome = true
    rw [Nat.zero_add, Nat.mul_one, h.cell (k := i + t) (by omega)]; rfl)
  obtain ⟨W1, hW1⟩ : ∃ W1, W1 = w.drew.setCells g i news := ⟨_, rfl⟩
  have HW1 := Lib.hid hW1
  have some1 : ∀ j, j < i + m + 1 → (w.drew.cell? ⟨g, j, none⟩).isSome = true := fun j hj => by
    show (w.cell? _).isSome = true
    rw [h.cell hj]; rfl
  have some2 : ∀ j, j < i + m + 1 → (W1.cell? ⟨g, j, none⟩).isSome = true := fun j hj => by
    rw [hW1]; exact World.isSome_setCells g news _ _ _ (some1 j hj)
  have CL : Hid (∀ c ty, (Builtin.clear_ #[22] ty #[.slice (some ⟨g, i + m, none⟩) 1 c]).run Try.prog W1 = .ok (.tuple #[]) (W1.setCells g (i + m) [.int .i64 0])) := Lib.hid (fun c ty =>
    clear_oneN W1 g (i + m) c ty (some2 _ (by omega)) (by rw [hW1, World.frozen?_setCells]; exact h.frozen _))
  have FIN : Hid (LfB (W1.setCells g (i + m) [.int .i64 0]) g (i + m) cap (gt (l.eraseIdx i)) ∧ Oth g w (W1.setCells g (i + m) [.int .i64 0])) := Lib.hid (by
    obtain ⟨cs, hb, hs⟩ := hcur
    obtain ⟨c1, k1, k2⟩ := Blk.sets news i w.drew cs hb
    rw [← hW1] at k1
    obtain ⟨c2, k3, k4⟩ := Blk.sets [.int .i64 0] (i + m) W1 c1 k1
    refine ⟨LfB.of_cells k3 (by omega) (by omega) (fun k hk => ?_), Oth.sets _ _ _ (by rw [hW1]; exact Oth.sets _ _ _ (Oth.refl g w).drew)⟩
    rw [World.cell?_setCells_out _ _ _ _ _ (fun _ _ => .inl hk), hW1, gt_erase (by omega) (by omega)]
    by_cases c : k < i
    · rw [if_pos c, World.cell?_setCells_out _ _ _ _ _ (fun _ _ => .inl c)]
      exact h.cell (by omega)
    · rw [if_neg c]
      have ht : k - i < news.length := by rw [nl]; omega
      have q := World.cell?_setCells_in g news i w.drew (fun t ht => some1 _ (by rw [nl] at ht; omega)) (k - i) ht
      rw [show i + (k - i) = k by omega] at q
      rw [q]
      have n1 := nget (k - i) (by omega)
      rw [List.getElem?_eq_getElem ht, show i + 1 + (k - i) = k + 1 by omega] at n1
      exact n1)
  have hnc : ¬ cap = i + m := by omega
  have hm2 : i + m + 1 - (i + m) = 1 := by omega
  have hm1 : i + m + 1 - (i + 1) = m := by omega
  have hic : i ≤ cap := by omega
  have hjc : i + 1 ≤ cap := by omega
  have z1 : ((i : Int) + 1).toNat = i + 1 := by omega
  have z2 : (i : Int) + 1 ≤ (i : Int) + (m : Int) + 1 := by omega
  have z3 : (0 : Int) ≤ (i : Int) + 1 := by omega
  clear hW1 hnews nl nget hd some1 some2 h hcur
  by_cases hne : cap = i + 1
  · obtain rfl : m = 0 := by omega
    obtain rfl : news = [] := List.eq_nil_of_length_eq_zero (by have := NL.out; omega)
    subst hne
    have z4 : (i : Int) ≤ (i : Int) + 1 := by omega
    have cl : ∀ c ty, (Builtin.clear_ #[22] ty #[.slice (some ⟨g, i, none⟩) 1 c]).run Try.prog W1 = .ok (.tuple #[]) (W1.setCells g i [.int .i64 0]) := CL.out
    have CL0 := Lib.hid cl
    have FIN0 : Hid (LfB (W1.setCells g i [.int .i64 0]) g i (i + 1) (gt (l.eraseIdx i)) ∧ Oth g w (W1.setCells g i [.int .i64 0])) := Lib.hid FIN.out
    clear cl
    go_enter Try.func26, Try.ntmps26
    go_wp2_with fail
    go_region_law (refine step_append_room rfl (.tmp 22) (.tmp 25) 22 rfl 3 i0 1 Try.underlying22 hi0 hz1 g 0 i (i + 1) (by simp [Act.eval, Act.put]) ⟨g, 0, none⟩ 0 0 [] (by simp [Act.eval, Act.put]) rfl (by intro t u hu; simp at hu) (by intro u hu; simp at hu) (by omega) (by intro t ht; simp at ht) ?_)
    all_goals
      go_simp
      rw [← HW1.out]
      have cl := CL0.out
      go_wp2
      go_ret
      exact ⟨rfl, FIN0.out⟩
  · go_enter Try.func26, Try.ntmps26
    go_wp2_with fail
    go_region_law (refine step_append_room rfl (.tmp 22) (.tmp 25) 22 rfl 3 i0 1 Try.underlying22 hi0 hz1 g 0 i cap (by simp [Act.eval, Act.put]) ⟨g, (i + 1) * 1, none⟩ m (cap - (i + 1)) news (by simp [Act.eval, Act.put]) NL.out (by intro t u hu; rw [Addr.add_lit]; exact SRC.out t u hu) ONE.out (by omega) SP.out ?_)
    all_goals
      go_simp
      rw [← HW1.out]
      have cl := CL.out
      go_wp2
      go_ret
      exact ⟨rfl, FIN.out⟩

end Go.Proofs.Ytjlkcjaofglpmaa
