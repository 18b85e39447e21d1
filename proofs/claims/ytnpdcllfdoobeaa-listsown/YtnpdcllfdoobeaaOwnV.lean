
/-
  ListsOwn's arguments within the reach of the form; roomy, marked, spoil over leases and tasks by their own lists.
-/
import Derived.Test.YtnpdcllfdoobeaaOwnU
import Derived.SizedLaws
namespace Go.Proofs.Ytnpdcllfdoobeaa
set_option linter.all false
open Go.RowKit Go.Shelf Go.Lib Go.ChangeShapes Go.WideShapes Go.Deep Go.Joins

section
variable {H : Type} {enc : TypeId × Value → H} {w : World}
set_option maxRecDepth 100000 in
theorem one_bools_sized {n : Nat} {u : Value} {y : DataW H × List MemPlace} (h : DataW.trod enc Try.prog w 0 (fun _ => true) true n 22 [u] = some y) (hw : ∀ k ∈ y.1.weights Try.prog 22, k ≤ reachBytes) :
    ∃ (a : Option Addr) (c : Nat) (z : List Bool), u = .slice a z.length c ∧ Bls w a z ∧ z.length ≤ c ∧ (a = none → c = 0) ∧ z.length ≤ 140737488351232 := by
  rcases open_bools Try.underlying22 Try.underlying4 (by kernel_rfl) h with ⟨hcs, _⟩ | ⟨x, l, c, B, hcs, _, hl, hm, hx, hcell⟩
  · simp at hcs
    subst hcs
    exact ⟨none, 0, [], rfl, Bls.nil_ _ _, Nat.zero_le _, (fun _ => rfl), by decide⟩
  · simp at hcs
    subst hcs
    have hb : Try.prog.bytesOf 4 = 1 := by kernel_rfl
    have k := hw ((l + (c - l)) * Try.prog.bytesOf 4) (by rw [(Prod.ext_iff.1 hx).1]; simp [boolRow, DataW.weights, Try.underlying22])
    rw [hb] at k
    simp only [reachBytes] at k
    refine ⟨some x, c, (List.range l).map B, by simp, bls_of (by unfold maxLen at hm; omega) (fun i hi => hcell i (by omega)), by simp; exact hl, (fun e => by cases e), by simp; omega⟩
set_option maxRecDepth 100000 in
theorem stg_sized {base : Nat} {v : Value} {d : DataW H} {p : List MemPlace} (hv : Value.okWide Try.prog w .any base 64 v) (h : DataW.Trod enc Try.prog w 0 (fun _ => true) true 64 v d p) (hw : ∀ k ∈ d.weights Try.prog 64, k ≤ reachBytes) :
    ∃ (x y : Int) (a : Option Addr) (c : Nat) (z : List Bool), v = .agg #[.int .i64 x, .int .i64 y, .slice a z.length c] ∧ (Lit.int .i64 x).wf = true ∧ (Lit.int .i64 y).wf = true ∧ Bls w a z ∧ z.length ≤ c ∧ (a = none → c = 0) ∧ z.length ≤ 140737488351232 := by
  obtain ⟨v0, v1, v2, y0, y1, y2, n, rfl, hd, _, h0, h1, h2⟩ := open_agg3 Try.underlying64 (by kernel_rfl) (by kernel_rfl) hv h
  obtain ⟨x, rfl, k0⟩ := one_int h0
  obtain ⟨y, rfl, k1⟩ := one_int h1
  obtain ⟨a, c, z, rfl, b, l, o, s⟩ := one_bools_sized h2 (fun k hk => hw k (by
    rw [hd]
    simp [DataW.weights, DataW.weightsEach, Try.underlying64]
    first | exact .inr (.inr hk) | exact .inr hk | exact hk))
  exact ⟨x, y, a, c, z, rfl, k0, k1, b, l, o, s⟩
end

theorem lRoom {w : World} {g : Nat} {l m : List Lz} (h : Blk w g 35 (lcs (l ++ m)).toArray) (hl : l.length ≤ 9223372036854775807) : Les w (some ⟨g, 0, none⟩) l := by
  refine Pks.mk_cells (by simpa using hl) (fun j u hu => ?_)
  have hu' : (lcs l)[j]? = some u := hu
  have e : lcs (l ++ m) = lcs l ++ lcs m := by unfold lcs; rw [List.map_append, pcs_append]
  rw [h.cell, List.getElem?_toArray, Nat.zero_add, e, List.getElem?_append_left (List.getElem?_eq_some_iff.1 hu').1]
  exact hu'
theorem roomyl_at (A : Option Addr) (l : List Lz) (n c : Nat) (x : Lz) (w : World) (h : Les w A l) (hn : n = l.length) (hA : A = none → c = 0) (hsz : 24 * (l.length + 3) ≤ 281474976710656) :
    Calls Try.prog 38 #[.slice A n c, .agg #[.int .i64 (lp x).at_, .int .i64 (lp x).size, .int .i64 (lp x).flow]] w fun e w' => ∃ g, e = .returned (.slice (some ⟨g, 0, none⟩) n (n + 3)) ∧ w.heap.size ≤ g ∧ Blk w' g 35 (lcs (l ++ [x, x, x])).toArray ∧ Below w.heap.size w w' := by
  subst hn
  have q := roomyl_any A (l.map lp) c (lp x) w h hA (by rw [List.length_map]; exact hsz)
  rw [List.length_map] at q
  refine q.mono fun e w' k => ?_
  obtain ⟨g, h1, h2, h3, h4⟩ := k
  refine ⟨g, h1, h2, ?_, h4⟩
  have e : lcs (l ++ [x, x, x]) = pcs (l.map lp ++ [lp x, lp x, lp x]) := by unfold lcs; rw [List.map_append]; rfl
  rw [e]; exact h3
theorem markedl_at (g : Nat) (l : List Lz) (n c : Nat) (x : Lz) (w : World) (h : Blk w g 35 (lcs (l ++ [x, x, x])).toArray) (hn : n = l.length) (hc : c = l.length + 3) (hl : 24 * (l.length + 3) ≤ 281474976710656) :
    Calls Try.prog 43 #[.slice (some ⟨g, 0, none⟩) n c, .agg #[.int .i64 (lp x).at_, .int .i64 (lp x).size, .int .i64 (lp x).flow]] w fun e w' => e = .returned (.bool true) ∧ Below w.heap.size w w' := by
  subst hn hc
  have e : lcs (l ++ [x, x, x]) = pcs (l.map lp ++ [lp x, lp x, lp x]) := by unfold lcs; rw [List.map_append]; rfl
  rw [e] at h
  have q := markedl_any g (l.map lp) (lp x) w h (by rw [List.length_map]; exact hl)
  rw [List.length_map] at q
  exact q
theorem spoill_at (g : Nat) (l : List Lz) (n c : Nat) (x y : Lz) (w : World) (h : Blk w g 35 (lcs (l ++ [x, x, x])).toArray) (hn : n = l.length) (hc : c = l.length + 3) (hl : 24 * (l.length + 3) ≤ 281474976710656) :
    Calls Try.prog 49 #[.slice (some ⟨g, 0, none⟩) n c, .agg #[.int .i64 (lp y).at_, .int .i64 (lp y).size, .int .i64 (lp y).flow]] w fun e w' => e = .returned (.tuple #[]) ∧ w.grownBy w' (some g) := by
  subst hn hc
  exact spoill_any g l.length (l.length + 3) (lp y) _ w h (by unfold lcs; rw [List.size_toArray, length_pcs, List.length_map, List.length_append]; rfl) (by omega) (by omega)
theorem tRoom {w : World} {g : Nat} {l m : List Tk} (h : Blk w g 68 (qcs (l ++ m)).toArray) (hl : l.length ≤ 9223372036854775807) : Tas w (some ⟨g, 0, none⟩) l := by
  refine Pks.mk_cells (by simpa using hl) (fun j u hu => ?_)
  have hu' : (qcs l)[j]? = some u := hu
  have e : qcs (l ++ m) = qcs l ++ qcs m := by unfold qcs; rw [List.map_append, pcs_append]
  rw [h.cell, List.getElem?_toArray, Nat.zero_add, e, List.getElem?_append_left (List.getElem?_eq_some_iff.1 hu').1]
  exact hu'
theorem roomyt_at (A : Option Addr) (l : List Tk) (n c : Nat) (x : Tk) (w : World) (h : Tas w A l) (hn : n = l.length) (hA : A = none → c = 0) (hsz : 24 * (l.length + 3) ≤ 281474976710656) :
    Calls Try.prog 39 #[.slice A n c, .agg #[.int .i64 (tp x).at_, .int .i64 (tp x).size, .int .i64 (tp x).flow]] w fun e w' => ∃ g, e = .returned (.slice (some ⟨g, 0, none⟩) n (n + 3)) ∧ w.heap.size ≤ g ∧ Blk w' g 68 (qcs (l ++ [x, x, x])).toArray ∧ Below w.heap.size w w' := by
  subst hn
  have q := roomyt_any A (l.map tp) c (tp x) w h hA (by rw [List.length_map]; exact hsz)
  rw [List.length_map] at q
  refine q.mono fun e w' k => ?_
  obtain ⟨g, h1, h2, h3, h4⟩ := k
  refine ⟨g, h1, h2, ?_, h4⟩
  have e : qcs (l ++ [x, x, x]) = pcs (l.map tp ++ [tp x, tp x, tp x]) := by unfold qcs; rw [List.map_append]; rfl
  rw [e]; exact h3
theorem markedt_at (g : Nat) (l : List Tk) (n c : Nat) (x : Tk) (w : World) (h : Blk w g 68 (qcs (l ++ [x, x, x])).toArray) (hn : n = l.length) (hc : c = l.length + 3) (hl : 24 * (l.length + 3) ≤ 281474976710656) :
    Calls Try.prog 45 #[.slice (some ⟨g, 0, none⟩) n c, .agg #[.int .i64 (tp x).at_, .int .i64 (tp x).size, .int .i64 (tp x).flow]] w fun e w' => e = .returned (.bool true) ∧ Below w.heap.size w w' := by
  subst hn hc
  have e : qcs (l ++ [x, x, x]) = pcs (l.map tp ++ [tp x, tp x, tp x]) := by unfold qcs; rw [List.map_append]; rfl
  rw [e] at h
  have q := markedt_any g (l.map tp) (tp x) w h (by rw [List.length_map]; exact hl)
  rw [List.length_map] at q
  exact q
theorem spoilt_at (g : Nat) (l : List Tk) (n c : Nat) (x y : Tk) (w : World) (h : Blk w g 68 (qcs (l ++ [x, x, x])).toArray) (hn : n = l.length) (hc : c = l.length + 3) (hl : 24 * (l.length + 3) ≤ 281474976710656) :
    Calls Try.prog 50 #[.slice (some ⟨g, 0, none⟩) n c, .agg #[.int .i64 (tp y).at_, .int .i64 (tp y).size, .int .i64 (tp y).flow]] w fun e w' => e = .returned (.tuple #[]) ∧ w.grownBy w' (some g) := by
  subst hn hc
  exact spoilt_any g l.length (l.length + 3) (tp y) _ w h (by unfold qcs; rw [List.size_toArray, length_pcs, List.length_map, List.length_append]; rfl) (by omega) (by omega)

theorem Bls.rowS {w : World} {base : Nat} {A : Option Addr} {c : Nat} {l : List Bool} (h : w.ownsRow base 4 1 (.slice A l.length c) l.length (bcsS l)) : Bls w A l := by
  rcases h.2 with ⟨hv, h0⟩ | ⟨g, cap, cur, hv, _, hh, hn, hm, hs, ht⟩
  · rw [List.eq_nil_of_length_eq_zero h0]
    exact Bls.nil_ _ _
  · refine ⟨by unfold maxLen at hm; omega, fun hl => ?_⟩
    have hA : A = some ⟨g, 0, none⟩ := by injection hv
    subst hA
    refine ⟨g, 0, rfl, fun j hj => ?_⟩
    have := h.cells (g := g) rfl j (.bool (l.getD j false)) (by simp [bcsS, List.getD, List.getElem?_eq_getElem hj])
    rw [Addr.add_lit] at this
    exact this
theorem own_spoil {w w' : World} {base n size : Nat} {e : TypeId} {v : Value} {xs : List Value} {r : Option Nat} (h : w.ownsRow base e size v n xs) (hg : w.grownBy w' r) (hr : ∀ g, r = some g → g < base) : w'.ownsRow base e size v n xs :=
  h.kept hg (by
    cases hv : v.ownBlock with
    | none => exact .inl rfl
    | some k => exact .inr (fun e => by have := (h.lt k hv).1; have := hr k e.symm; omega))
theorem Blk.spoilS {w w' : World} {g g' : Nat} {t : TypeId} {cs : Array Value} (h : Blk w g' t cs) (hg : w.grownBy w' (some g)) (hb : g' ≠ g) : Blk w' g' t cs := h.same (hg.block g' h.lt (fun e => by injection e with e; exact hb e))
theorem blk_neS {w : World} {g g' : Nat} {t t' : TypeId} {cs cs' : Array Value} (h : Blk w g t cs) (h' : Blk w g' t' cs') (ht : t ≠ t') : g ≠ g' := by
  intro e
  subst e
  unfold Blk at h h'
  rw [h] at h'
  injection h' with h'
  injection h' with _ h'
  exact ht h'
theorem below_spoil {B : Nat} {w0 w w' : World} {r : Option Nat} (h : Below B w0 w) (hg : w.grownBy w' r) (hr : ∀ g, r = some g → B ≤ g) (hs : B ≤ w.heap.size) : Below B w0 w' := h.grown hg hs hr

end Go.Proofs.Ytnpdcllfdoobeaa
