
/-
  Jobs in memory of their own: a clone, one taken out.
-/
import Derived.Test.YtoapgdandpcboaaJobD
import Derived.OwnWalk
import Derived.Deep.RegionLaw
import Derived.Lib.AppendZerosOnto
import Derived.Lib.SliceRun
namespace Go.Proofs.Ytoapgdandpcboaa
set_option linter.all false
open Go.RowKit Go.Shelf Go.Lib

/-- What a call leaves that hands back a list of packets in new memory. -/
def AnsPJ (L : List Pk) (w : World) (e : Ending) (w' : World) : Prop :=
  ∃ A c, e = .returned (.slice A L.length c) ∧ w'.ownsRow w.heap.size 31 3 (.slice A L.length c) L.length (pcs L) ∧ Below w.heap.size w w'
theorem AnsPJ.of {L : List Pk} {w : World} {v : Value} {w' : World} (h : w'.ownsRow w.heap.size 31 3 v L.length (pcs L)) (hb : Below w.heap.size w w') : AnsPJ L w (.returned v) w' := by
  rcases h.2 with ⟨rfl, h0⟩ | ⟨g, cap, cur, rfl, h1⟩
  · have : L = [] := List.eq_nil_of_length_eq_zero h0
    subst this
    exact ⟨none, 0, rfl, h, hb⟩
  · exact ⟨some ⟨g, 0, none⟩, cap, rfl, h, hb⟩
theorem jpk_info : (Try.prog.info? 31).map (fun i => (i.zero, i.size, i.bytes)) = some (some (.agg #[.int .i64 0, .int .i64 0, .int .i64 0]), 3, 24) := by kernel_rfl

set_option maxHeartbeats 400000 in
theorem clone_jp (A : Option Addr) (l : List Pk) (c : Nat) (w : World) (h : Pks w A l) (hp : 0 < l.length) (h61 : l.length ≤ 61) :
    Calls Try.prog 21 #[.slice A l.length c] w (AnsPJ l w) := by
  obtain ⟨i0, hi0, hz0, hz1, hz2⟩ := info_parts jpk_info
  obtain ⟨b, off, rfl, hc⟩ := h.2 hp
  have HC := Lib.hid h.cells
  have hlt : b < w.heap.size := cell_lt (hc 0 _ (List.getElem?_eq_getElem hp)).1
  clear hc
  have q : ∀ (w : World) (a : Option Addr) (n c n' c' : Nat), (binOp .eql 22 (.slice a n c) (.slice none n' c')).run Try.prog w = .ok (.bool a.isNone) w := fun w a n c n' c' => Lib.run_eql_slice_nil w _ _ a n c n' c' Try.underlying22
  go_enter Try.func21, Try.ntmps21
  go_wp2_with (at_builtin; refine wpList_append_own _ rfl _ _ 22 rfl w.heap.size 31 i0 (.agg #[.int .i64 0, .int .i64 0, .int .i64 0]) 3 24 Try.underlying22 hi0 hz0 hz1 hz2 rfl (by decide) _ _ _ rfl (World.ownsRow_made w #[] 0 (Nat.le_refl _) (Nat.zero_le _) rfl) ⟨b, off, none⟩ l.length c (pcs l) rfl ?qc1 ?qc2 ?qc3 ?qc4 ?qc5 ?qc6 ?_)
  case qc1 => exact length_pcs l
  case qc2 =>
    intro j u hj
    rw [Addr.add_lit]
    exact (Below.cell ((Below.refl w.heap.size w).alloc (Nat.le_refl _) _) (p := ⟨b, off + j, none⟩) hlt).trans (HC.out j u hj)
  case qc3 => exact pcs_one l
  case qc4 => unfold maxLen; omega
  case qc5 => omega
  case qc6 => simp
  intro v' w1 hown hgrow hnil
  go_wp2
  go_ret
  exact AnsPJ.of (by simpa using hown) (((Below.refl _ w).alloc (Nat.le_refl _) _).grown hgrow (by simp) (by intro k hk; simp [Value.ownBlock] at hk; omega))

theorem own_capJ {w : World} {base n c size : Nat} {e : TypeId} {A : Option Addr} {xs : List Value} (h : w.ownsRow base e size (.slice A n c) n xs) : n ≤ c := by
  rcases h.2 with ⟨_, h0⟩ | ⟨g, cap, cur, hv, _, _, hn, _⟩
  · omega
  · injection hv with _ _ e
    subst e
    exact hn
theorem below_cellsJ {B b : Nat} {a : World} (hb : B ≤ b) : ∀ (vs : List Value) (o : Nat) (w : World), Below B a w → Below B a (w.setCells b o vs)
  | [], _, _, h => h
  | v :: vs, o, w, h => below_cellsJ hb vs (o + 1) _ (h.setCell (p := ⟨b, o, none⟩) hb v)
theorem clear_jp (w : World) (g o c : Nat) (ty : TypeId) (hc : ∀ j, j < 3 → (w.cell? ⟨g, o + j, none⟩).isSome = true) (hf : ∀ j, j < 3 → w.frozen? ⟨g, o + j, none⟩ = false) :
    (Builtin.clear_ #[22] ty #[.slice (some ⟨g, o, none⟩) 1 c]).run Try.prog w = .ok (.tuple #[]) (w.setCells g o [.int .i64 0, .int .i64 0, .int .i64 0]) := by
  obtain ⟨i0, hi0, hz0, hz1, hz2⟩ := info_parts jpk_info
  have hst := run_storeCells_cells (P := Try.prog) g o [.int .i64 0, .int .i64 0, .int .i64 0] 0 w (by simpa using hc) (by simpa using hf) (by intro v hv; simp at hv; subst hv; rfl)
  simp only [Nat.add_zero] at hst
  have hzc : (Builtin.zeroCells (Value.agg #[.int .i64 0, .int .i64 0, .int .i64 0]).cells 1).toList = [.int .i64 0, .int .i64 0, .int .i64 0] := by kernel_rfl
  simp [Builtin.clear_, run_underlying Try.underlying22, zeroValue, typeInfo, hi0, hz0, hzc, hst]

set_option maxRecDepth 100000 in
set_option maxHeartbeats 1600000 in
theorem delete_jp (g base i m cap : Nat) (l : List Pk) (w : World) (hl : l.length = i + m + 1) (h61 : l.length ≤ 61) (own : w.ownsRow base 31 3 (.slice (some ⟨g, 0, none⟩) (i + m + 1) cap) (i + m + 1) (pcs l)) :
    Calls Try.prog 22 #[.slice (some ⟨g, 0, none⟩) (i + m + 1) cap, .int .i64 i, .int .i64 (i + 1 : Nat)] w fun e w' =>
      e = .returned (.slice (some ⟨g, 0, none⟩) (i + m) cap) ∧ Pks w' (some ⟨g, 0, none⟩) (l.eraseIdx i) ∧ Below base w w' := by
  obtain ⟨i0, hi0, hz0, hz1, hz2⟩ := info_parts jpk_info
  have e1 : ((i : Int) == ((i + 1 : Nat) : Int)) = false := by rw [beq_eq_false_iff_ne]; omega
  have kc : i + m + 1 ≤ cap := own_capJ own
  have hd : (l.drop (i + 1)).length = m := by rw [List.length_drop]; omega
  obtain ⟨news, hnews⟩ : ∃ news, news = pcs (l.drop (i + 1)) := ⟨_, rfl⟩
  have nl : news.length = m * 3 := by rw [hnews, length_pcs, hd]
  have NL := Lib.hid nl
  have ONE : Hid (∀ u ∈ news, u.oneCell' = true) := Lib.hid (by rw [hnews]; exact pcs_one _)
  have pl : pcs l = pcs (l.take (i + 1)) ++ news := by rw [hnews, ← pcs_append, List.take_append_drop]
  have SRC : Hid (∀ t u, news[t]? = some u → w.drew.cell? ⟨g, (i + 1) * 3 + t, none⟩ = some u) := Lib.hid (fun t u hu => by
    have ht : t < m * 3 := by have := (List.getElem?_eq_some_iff.1 hu).1; omega
    show w.cell? _ = _
    rw [own.cellAt _ (by omega), pl, List.getElem?_append_right (by rw [length_pcs, List.length_take]; omega), length_pcs, List.length_take, show min (i + 1) l.length = i + 1 by omega, show (i + 1) * 3 + t - (i + 1) * 3 = t by omega]
    exact hu)
  have SP : Hid (∀ t, t < news.length → (w.drew.cell? ⟨g, 0 + i * 3 + t, none⟩).isSome = true ∧ w.drew.frozen? ⟨g, 0 + i * 3 + t, none⟩ = false) := Lib.hid (fun t ht => by
    rw [nl] at ht
    refine ⟨?_, own.frozenAt _⟩
    show (w.cell? _).isSome = true
    rw [own.cellAt _ (by omega)]
    rw [List.getElem?_eq_getElem (by rw [length_pcs, hl]; omega)]
    rfl)
  obtain ⟨W1, hW1⟩ : ∃ W1, W1 = w.drew.setCells g (i * 3) news := ⟨_, rfl⟩
  have HW1 := Lib.hid hW1
  have some1 : ∀ j, j < (i + m + 1) * 3 → (w.drew.cell? ⟨g, j, none⟩).isSome = true := fun j hj => by
    show (w.cell? _).isSome = true
    rw [own.cellAt _ hj, List.getElem?_eq_getElem (by rw [length_pcs, hl]; omega)]
    rfl
  have some2 : ∀ j, j < (i + m + 1) * 3 → (W1.cell? ⟨g, j, none⟩).isSome = true := fun j hj => by
    rw [hW1]; exact World.isSome_setCells g news _ _ _ (some1 j hj)
  have CL : Hid (∀ c ty, (Builtin.clear_ #[22] ty #[.slice (some ⟨g, (i + m) * 3, none⟩) 1 c]).run Try.prog W1 = .ok (.tuple #[]) (W1.setCells g ((i + m) * 3) [.int .i64 0, .int .i64 0, .int .i64 0])) := Lib.hid (fun c ty =>
    clear_jp W1 g ((i + m) * 3) c ty (fun j hj => some2 _ (by omega)) (fun j hj => by rw [hW1, World.frozen?_setCells]; exact own.frozenAt _))
  have hgb : base ≤ g := (own.lt g rfl).1
  have FIN : Hid (Pks (W1.setCells g ((i + m) * 3) [.int .i64 0, .int .i64 0, .int .i64 0]) (some ⟨g, 0, none⟩) (l.eraseIdx i) ∧ Below base w (W1.setCells g ((i + m) * 3) [.int .i64 0, .int .i64 0, .int .i64 0])) := Lib.hid (by
    have el : (l.eraseIdx i).length = i + m := by rw [List.length_eraseIdx, if_pos (by omega)]; omega
    have ep : pcs (l.eraseIdx i) = pcs (l.take i) ++ news := by rw [hnews, ← pcs_append, ← List.eraseIdx_eq_take_drop_succ]
    have tl : (pcs (l.take i)).length = i * 3 := by rw [length_pcs, List.length_take]; omega
    refine ⟨Pks.mk_cells (by omega) (fun j u hu => ?_), below_cellsJ hgb _ _ _ (by rw [hW1]; exact below_cellsJ hgb _ _ _ (Below.refl base w).drew)⟩
    have hj : j < (i + m) * 3 := by have := (List.getElem?_eq_some_iff.1 hu).1; rwa [length_pcs, el] at this
    rw [Nat.zero_add, World.cell?_setCells_out _ _ _ _ _ (fun _ _ => .inl hj), hW1]
    rw [ep] at hu
    by_cases c : j < i * 3
    · rw [World.cell?_setCells_out _ _ _ _ _ (fun _ _ => .inl c)]
      show w.cell? _ = _
      rw [List.getElem?_append_left (by rw [tl]; exact c)] at hu
      rw [own.cellAt _ (by omega), ← List.take_append_drop i l, pcs_append, List.getElem?_append_left (by rw [tl]; exact c)]
      exact hu
    · rw [List.getElem?_append_right (by rw [tl]; omega), tl] at hu
      obtain ⟨hj', e⟩ := List.getElem?_eq_some_iff.1 hu
      have q := World.cell?_setCells_in g news (i * 3) w.drew (fun t ht => some1 _ (by rw [nl] at ht; omega)) (j - i * 3) hj'
      rw [show i * 3 + (j - i * 3) = j by omega] at q
      rw [q, e])
  have hnc : ¬ cap = i + m := by omega
  have hm2 : i + m + 1 - (i + m) = 1 := by omega
  have hm1 : i + m + 1 - (i + 1) = m := by omega
  have hic : i ≤ cap := by omega
  have hjc : i + 1 ≤ cap := by omega
  have z1 : ((i : Int) + 1).toNat = i + 1 := by omega
  have z2 : (i : Int) + 1 ≤ (i : Int) + (m : Int) + 1 := by omega
  have z3 : (0 : Int) ≤ (i : Int) + 1 := by omega
  clear hW1 hnews nl pl hd some1 some2 own hgb
  by_cases hne : cap = i + 1
  · obtain rfl : m = 0 := by omega
    obtain rfl : news = [] := List.eq_nil_of_length_eq_zero (by have := NL.out; omega)
    subst hne
    have z4 : (i : Int) ≤ (i : Int) + 1 := by omega
    have cl : ∀ c ty, (Builtin.clear_ #[22] ty #[.slice (some ⟨g, i * 3, none⟩) 1 c]).run Try.prog W1 = .ok (.tuple #[]) (W1.setCells g (i * 3) [.int .i64 0, .int .i64 0, .int .i64 0]) := CL.out
    have CL0 := Lib.hid cl
    have FIN0 : Hid (Pks (W1.setCells g (i * 3) [.int .i64 0, .int .i64 0, .int .i64 0]) (some ⟨g, 0, none⟩) (l.eraseIdx i) ∧ Below base w (W1.setCells g (i * 3) [.int .i64 0, .int .i64 0, .int .i64 0])) := Lib.hid FIN.out
    clear cl
    go_enter Try.func22, Try.ntmps22
    go_wp2_with fail
    go_region_law (refine step_append_room rfl (.tmp 22) (.tmp 25) 22 rfl 31 i0 3 Try.underlying22 hi0 hz1 g 0 i (i + 1) (by simp [Act.eval, Act.put]) ⟨g, 0, none⟩ 0 0 [] (by simp [Act.eval, Act.put]) rfl (by intro t u hu; simp at hu) (by intro u hu; simp at hu) (by omega) (by intro t ht; simp at ht) ?_)
    all_goals
      go_simp
      rw [← HW1.out]
      have cl := CL0.out
      go_wp2
      go_ret
      exact ⟨rfl, FIN0.out⟩
  · go_enter Try.func22, Try.ntmps22
    go_wp2_with fail
    go_region_law (refine step_append_room rfl (.tmp 22) (.tmp 25) 22 rfl 31 i0 3 Try.underlying22 hi0 hz1 g 0 i cap (by simp [Act.eval, Act.put]) ⟨g, (i + 1) * 3, none⟩ m (cap - (i + 1)) news (by simp [Act.eval, Act.put]) NL.out (by intro t u hu; rw [Addr.add_lit]; exact SRC.out t u hu) ONE.out (by omega) SP.out ?_)
    all_goals
      go_simp
      rw [← HW1.out]
      have cl := CL.out
      go_wp2
      go_ret
      exact ⟨rfl, FIN.out⟩

end Go.Proofs.Ytoapgdandpcboaa
