
/-
  Jobs in memory of their own: a clone, one taken out.
-/
import Derived.Test.YtccjegnflienhaaJobD
import Derived.OwnWalk
import Derived.Deep.RegionLaw
import Derived.Lib.AppendZerosOnto
import Derived.Lib.SliceRun
namespace Go.Proofs.Ytccjegnflienhaa
set_option linter.all false
open Go.RowKit Go.Shelf Go.Lib

/-- What a call leaves that hands back a list of packets in new memory. -/
def AnsPJ (L : List Pk) (w : World) (e : Ending) (w' : World) : Prop :=
  ∃ A c, e = .returned (.slice A L.length c) ∧ w'.ownsRow w.heap.size 50 3 (.slice A L.length c) L.length (pcs L) ∧ Below w.heap.size w w'
theorem AnsPJ.of {L : List Pk} {w : World} {v : Value} {w' : World} (h : w'.ownsRow w.heap.size 50 3 v L.length (pcs L)) (hb : Below w.heap.size w w') : AnsPJ L w (.returned v) w' := by
  rcases h.2 with ⟨rfl, h0⟩ | ⟨g, cap, cur, rfl, h1⟩
  · have : L = [] := List.eq_nil_of_length_eq_zero h0
    subst this
    exact ⟨none, 0, rfl, h, hb⟩
  · exact ⟨some ⟨g, 0, none⟩, cap, rfl, h, hb⟩
theorem jpk_info : (Try.prog.info? 50).map (fun i => (i.zero, i.size, i.bytes)) = some (some (.agg #[.int .i64 0, .int .i64 0, .int .i64 0]), 3, 24) := by kernel_rfl

set_option maxHeartbeats 400000 in
theorem clone_jp (A : Option Addr) (l : List Pk) (c : Nat) (w : World) (h : Pks w A l) (hp : 0 < l.length) (h61 : l.length ≤ 61) :
    Calls Try.prog 52 #[.slice A l.length c] w (AnsPJ l w) := by
  obtain ⟨i0, hi0, hz0, hz1, hz2⟩ := info_parts jpk_info
  obtain ⟨b, off, rfl, hc⟩ := h.2 hp
  have HC := Lib.hid h.cells
  have hlt : b < w.heap.size := cell_lt (hc 0 _ (List.getElem?_eq_getElem hp)).1
  clear hc
  have q : ∀ (w : World) (a : Option Addr) (n c n' c' : Nat), (binOp .eql 48 (.slice a n c) (.slice none n' c')).run Try.prog w = .ok (.bool a.isNone) w := fun w a n c n' c' => Lib.run_eql_slice_nil w _ _ a n c n' c' Try.underlying48
  go_enter Try.func52, Try.ntmps52
  go_wp2_with (at_builtin; refine wpList_append_own _ rfl _ _ 48 rfl w.heap.size 50 i0 (.agg #[.int .i64 0, .int .i64 0, .int .i64 0]) 3 24 Try.underlying48 hi0 hz0 hz1 hz2 rfl (by decide) _ _ _ rfl (World.ownsRow_made w #[] 0 (Nat.le_refl _) (Nat.zero_le _) rfl) ⟨b, off, none⟩ l.length c (pcs l) rfl ?qc1 ?qc2 ?qc3 ?qc4 ?qc5 ?qc6 ?_)
  case qc1 => exact length_pcs l
  case qc2 =>
    intro j u hj
    rw [Addr.add_lit]
    exact (Below.cell ((Below.refl w.heap.size w).alloc (Nat.le_refl _) _) (p := ⟨b, off + j, none⟩) hlt).trans (HC.out j u hj)
  case qc3 => exact pcs_one l
  case qc4 => unfold maxLen; omega
  case qc5 => omega
  case qc6 => simp
  intro v' w1 hown hgrow hnil
  go_wp2
  go_ret
  exact AnsPJ.of (by simpa using hown) (((Below.refl _ w).alloc (Nat.le_refl _) _).grown hgrow (by simp) (by intro k hk; simp [Value.ownBlock] at hk; omega))

theorem own_capJ {w : World} {base n c size : Nat} {e : TypeId} {A : Option Addr} {xs : List Value} (h : w.ownsRow base e size (.slice A n c) n xs) : n ≤ c := by
  rcases h.2 with ⟨_, h0⟩ | ⟨g, cap, cur, hv, _, _, hn, _⟩
  · omega
  · injection hv with _ _ e
    subst e
    exact hn
theorem below_cellsJ {B b : Nat} {a : World} (hb : B ≤ b) : ∀ (vs : List Value) (o : Nat) (w : World), Below B a w → Below B a (w.setCells b o vs)
  | [], _, _, h => h
  | v :: vs, o, w, h => below_cellsJ hb vs (o + 1) _ (h.setCell (p := ⟨b, o, none⟩) hb v)
theorem clear_jp (w : World) (g o c : Nat) (ty : TypeId) (hc : ∀ j, j < 3 → (w.cell? ⟨g, o + j, none⟩).isSome = true) (hf : ∀ j, j < 3 → w.frozen? ⟨g, o + j, none⟩ = false) :
    (Builtin.clear_ #[48] ty #[.slice (some ⟨g, o, none⟩) 1 c]).run Try.prog w = .ok (.tuple #[]) (w.setCells g o [.int .i64 0, .int .i64 0, .int .i64 0]) := by
  obtain ⟨i0, hi0, hz0, hz1, hz2⟩ := info_parts jpk_info
  have hst := run_storeCells_cells (P := Try.prog) g o [.int .i64 0, .int .i64 0, .int .i64 0] 0 w (by simpa using hc) (by simpa using hf) (by intro v hv; simp at hv; subst hv; rfl)
  simp only [Nat.add_zero] at hst
  have hzc : (Builtin.zeroCells (Value.agg #[.int .i64 0, .int .i64 0, .int .i64 0]).cells 1).toList = [.int .i64 0, .int .i64 0, .int .i64 0] := by kernel_rfl
  simp [Builtin.clear_, run_underlying Try.underlying48, zeroValue, typeInfo, hi0, hz0, hzc, hst]

end Go.Proofs.Ytccjegnflienhaa
