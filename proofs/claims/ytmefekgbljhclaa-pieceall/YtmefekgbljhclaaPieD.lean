
/-
  The law PieceSays over what package piece owes.
-/
import Derived.Test.YtmefekgbljhclaaPieC
namespace Go.Proofs.Ytmefekgbljhclaa
set_option linter.all false
open Go.RowKit Go.Shelf Go.Lib

theorem Bls.of_ownP {w : World} {base : Nat} {e : TypeId} {A : Option Addr} {c : Nat} {l : List Bool} (h : w.ownsRow base e 1 (.slice A l.length c) l.length (l.map Value.bool)) : Bls w A l := by
  rcases h.2 with ⟨hv, h0⟩ | ⟨g, cap, cur, hv, _, hh, hn, hm, hs, ht⟩
  · rw [List.eq_nil_of_length_eq_zero h0]
    exact Bls.nil_ _ _
  · refine ⟨by unfold maxLen at hm; omega, fun hl => ?_⟩
    have hA : A = some ⟨g, 0, none⟩ := by injection hv
    subst hA
    refine ⟨g, 0, rfl, fun j hj => ?_⟩
    have hc := h.cells (g := g) rfl j (.bool (l.getD j false)) (by simp [List.getD, List.getElem?_eq_getElem hj])
    by_cases h0 : j = 0
    · subst h0; simpa [Addr.add] using hc
    · simpa [Addr.add, h0] using hc
def nots (n : Nat) : List Bool := List.replicate n false
theorem length_nots (n : Nat) : (nots n).length = n := by simp [nots]
theorem nots_made (n : Nat) : madeCells #[Value.bool false] n = ((nots n).map Value.bool).toArray := by
  apply Array.ext_getElem?
  intro i
  by_cases c : i < n
  · simp [madeCells, c, Nat.mod_one, nots]
  · simp [madeCells, c, nots]
theorem made_nots (n : Nat) (hn : n ≤ 200) (W : World) : (Instr.makeSlice 22 (.int .i64 n) (.int .i64 n)).run Try.prog W = .ok (.slice (some ⟨W.heap.size, 0, none⟩) n n) (W.alloc (.cells ((nots n).map Value.bool).toArray 4)) := by
  obtain ⟨i, hi, hz⟩ := Option.map_eq_some_iff.1 bool_info
  simp only [Prod.mk.injEq] at hz
  obtain ⟨hz, hs, hb⟩ := hz
  have hr := run_make (P := Try.prog) W 22 4 i _ Try.underlying22 hi hz .i64 .i64 n n (by omega) (by omega) (by rw [hb]; omega) (by omega)
  simp only [Int.toNat_natCast, hs, Nat.mul_one] at hr
  rw [← nots_made]
  exact hr
set_option maxRecDepth 100000 in
set_option maxHeartbeats 6400000 in
theorem v_PieceSays (E : PieceC) (n1 n2 x y : Int) (A : Option Addr) (c : Nat) (z : List Bool) (w : World) (_h1 : (Lit.int .i64 n1).wf = true) (_h2 : (Lit.int .i64 n2).wf = true) (_h3 : (Lit.int .i64 x).wf = true) (_h4 : (Lit.int .i64 y).wf = true) (hz : Bls w A z) :
    Calls Try.prog 3 #[.int .i64 n1, .int .i64 n2, .agg #[.int .i64 x, .int .i64 y, .slice A z.length c]] w fun e w' => e = .returned (.bool true) ∧ Below w.heap.size w w' := by
  have hzl := hz.1
  obtain ⟨R, hR⟩ : ∃ R, R = stE x y z.length := ⟨_, rfl⟩
  have HR := Lib.hid hR
  have HR' := Lib.hid hR.symm
  clear hR
  go_enter Try.func3, Try.ntmps3
  by_cases hE : whE n1 n2 = 0
  · have v := wh_iff.mp hE
    obtain ⟨N, hN⟩ : ∃ N, pcN n1 n2 = N := ⟨_, rfl⟩
    have Nb := pcn_max v
    rw [hN] at Nb
    have HN := Lib.hid hN
    have HE := Lib.hid hE
    go_wp2_with fail
    refine (E.sizes n1 n2 _ hE).mono ?_
    rintro e w1 ⟨B, d, rfl, o1, b1⟩
    rw [hN] at o1
    rw [hN]
    have ix : Ints w1 B (tab N (pcV n1 n2)) := Ints.of_own (by rw [length_tab]; exact o1)
    have hb : Below w.heap.size w w1 := below_of1 b1
    have K0 : Blk w1 w.heap.size 24 #[.int .i64 x, .int .i64 y, .slice A z.length c] := (Blk.new _ _ _).below b1
    have hz1 := (hz.alloc (.cells #[.int .i64 x, .int .i64 y, .slice A z.length c] 24)).below b1
    clear b1 o1 hz
    go_wp2_with fail
    refine (E.new n1 n2 _ hE).mono ?_
    rintro e w2 ⟨D, f, rfl, o2, b2⟩
    rw [hN] at o2
    rw [hN]
    clear hN hE
    have iD : Bls w2 D (nots N) := Bls.of_ownP (by rw [length_nots]; exact o2)
    replace ix := ix.below b2
    replace hb := below_trans hb b2
    replace K0 := K0.below b2
    replace hz1 := hz1.below b2
    clear o2 b2
    obtain ⟨W, hW⟩ : ∃ W, W = w2.alloc (.cells #[.int .i64 n1, .int .i64 n2, .slice D N f] 24) := ⟨_, rfl⟩
    obtain ⟨G, hG⟩ : ∃ G, G = w2.heap.size := ⟨_, rfl⟩
    have K1 : Blk W G 24 #[.int .i64 n1, .int .i64 n2, .slice D N f] := by rw [hW, hG]; exact Blk.new _ _ _
    replace ix : Ints W B (tab N (pcV n1 n2)) := by rw [hW]; exact ix.alloc _
    replace iD : Bls W D (nots N) := by rw [hW]; exact iD.alloc _
    replace K0 : Blk W w.heap.size 24 #[.int .i64 x, .int .i64 y, .slice A z.length c] := by rw [hW]; exact K0.alloc _
    replace hz1 : Bls W A z := by rw [hW]; exact hz1.alloc _
    replace hb : Below w.heap.size w W := by rw [hW]; exact hb.alloc hb.size _
    have HW := Lib.hid hW
    have HG := Lib.hid hG
    clear hW hG
    go_wp2
    rw [← HW.out, ← HG.out]
    go_upto_region 3 with fail
    go_cut [29] (fun u wx => u = .bool false ∧ Below W.heap.size W wx)
    case first =>
      obtain ⟨c0, c1, c2⟩ := three_read K0
      clear K1 ix iD hb HN
      have hz2 : Bls W.drew A z := hz1.below (below_of_drewN (n := 1) rfl)
      go_region_held3 (fun w' => w'.cell? ⟨w.heap.size, 0, none⟩ = some (.int .i64 x) ∧ w'.cell? ⟨w.heap.size, 1, none⟩ = some (.int .i64 y) ∧ w'.cell? ⟨w.heap.size, 2, none⟩ = some (.slice A z.length c))
        (first | go_keep | (go_split_ands; refine ⟨?_, ?_, ?_⟩ <;> first | exact (b9.cell (cell_lt (by assumption))).trans (by assumption) | exact (b10.cell (cell_lt (by assumption))).trans (by assumption)))
        (first
          | ((with_reducible refine (refStage_any x y A c z.length R _ hzl HR').mono ?_); rintro e w10 ⟨rfl, b10⟩)
          | ((with_reducible refine (E.check x y A c z _ hz2).mono ?_); rintro e w9 ⟨rfl, b9⟩; rw [← HR.out]))
      go_wp2
      go_meet
      exact ⟨rfl, below_trans (below_trans (below_of_drewN (n := 1) rfl) b9) b10⟩
    case rest =>
      rename_i wx
      obtain ⟨rfl, bx⟩ := hcut
      replace ix := ix.below bx
      replace iD := iD.below bx
      replace K1 := K1.below bx
      replace hb := below_trans hb bx
      clear bx K0 hz1 HR HR' HW
      go_wp2_with fail
      refine (refWhole_any n1 n2 0 _ HE).mono ?_
      rintro e w' ⟨rfl, rfl⟩
      go_wp2_with fail
      refine (refPieces_any n1 n2 N _ v HN).mono ?_
      rintro e w4 ⟨P, q, rfl, o4, b4⟩
      have iP : Ints w4 P (tab N (pcV n1 n2)) := Ints.of_own (by rw [length_tab]; exact o4)
      replace ix := ix.below b4
      replace iD := iD.below b4
      replace K1 := K1.below b4
      replace hb := below_trans hb b4
      clear b4 o4 HG HN HE v
      obtain ⟨L, hL⟩ : ∃ L, L = tab N (pcV n1 n2) := ⟨_, rfl⟩
      have LL : L.length = N := by rw [hL, length_tab]
      rw [← hL] at ix iP
      have HL := Lib.hid LL
      clear hL LL
      obtain ⟨c0, c1, c2⟩ := three_read K1
      have lt1 := K1.lt
      have hmk := fun W => made_nots N Nb W
      have jx : Ints w4.drew B L := ix.below (below_of_drewN (n := 1) rfl)
      have jP : Ints w4.drew P L := iP.below (below_of_drewN (n := 1) rfl)
      go_wp2
      go_region_held3 (fun w' => w'.cell? ⟨G, 0, none⟩ = some (.int .i64 n1) ∧ w'.cell? ⟨G, 1, none⟩ = some (.int .i64 n2) ∧ w'.cell? ⟨G, 2, none⟩ = some (.slice D N f))
        (first | go_keep | (go_split_ands; refine ⟨?_, ?_, ?_⟩ <;> first | exact (b9.cell (cell_lt (by assumption))).trans (by assumption) | exact (b10.cell (cell_lt (by assumption))).trans (by assumption)))
        (first
          | ((with_reducible refine (equal_at B P L L _ _ _ _ _ jx jP HL.out.symm HL.out.symm).mono ?_); rintro e w9 ⟨rfl, m9, hw9⟩; rw [eqB_true rfl]; have b9 := below_of_drewN hw9)
          | ((with_reducible refine (refSame_yes n1 n2 D (some ⟨w4.heap.size, 0, none⟩) N N f N (nots N) ((w4.drewN (1 + m9)).alloc (.cells ((nots N).map Value.bool).toArray 4)) ((iD.below (below_of_drewN rfl)).alloc _) (Bls.lit (w4.drewN (1 + m9)) (nots N) _ _ rfl (by rw [length_nots]; omega)) (length_nots N).symm (length_nots N).symm).mono ?_); rintro e w10 ⟨rfl, b10⟩))
      go_wp2
      go_ret
      exact ⟨rfl, below_trans (below_trans hb (below_of_drewN (n := 1 + m9) rfl)) (below_of1 b10)⟩
  · obtain ⟨X, hX⟩ : ∃ X, X = whE n1 n2 := ⟨_, rfl⟩
    have HX := Lib.hid hX
    have HX' := Lib.hid hX.symm
    have n0 : (X != 0) = true := by rw [hX]; simp [hE]
    have n0' : ¬ X = 0 := by rw [hX]; exact hE
    go_wp2_with fail
    refine (E.sizes_no n1 n2 _ hE).mono ?_
    rintro e w1 ⟨⟨B, d, rfl⟩, b1⟩
    rw [← HX.out]
    have hb : Below w.heap.size w w1 := below_of1 b1
    have K0 : Blk w1 w.heap.size 24 #[.int .i64 x, .int .i64 y, .slice A z.length c] := (Blk.new _ _ _).below b1
    have hz1 := (hz.alloc (.cells #[.int .i64 x, .int .i64 y, .slice A z.length c] 24)).below b1
    clear b1 hz
    go_wp2_with fail
    refine (E.new_no n1 n2 _ hE).mono ?_
    rintro e w2 ⟨⟨D, f, rfl⟩, b2⟩
    rw [← HX.out]
    replace hb := below_trans hb b2
    replace K0 := K0.below b2
    replace hz1 := hz1.below b2
    clear b2 hE hX
    obtain ⟨W, hW⟩ : ∃ W, W = w2.alloc (.cells #[.int .i64 0, .int .i64 0, .slice D 0 f] 24) := ⟨_, rfl⟩
    obtain ⟨G, hG⟩ : ∃ G, G = w2.heap.size := ⟨_, rfl⟩
    have K1 : Blk W G 24 #[.int .i64 0, .int .i64 0, .slice D 0 f] := by rw [hW, hG]; exact Blk.new _ _ _
    replace K0 : Blk W w.heap.size 24 #[.int .i64 x, .int .i64 y, .slice A z.length c] := by rw [hW]; exact K0.alloc _
    replace hz1 : Bls W A z := by rw [hW]; exact hz1.alloc _
    replace hb : Below w.heap.size w W := by rw [hW]; exact hb.alloc hb.size _
    have HW := Lib.hid hW
    have HG := Lib.hid hG
    have HN := HX
    have ix := HX
    have iD := HX
    clear hW hG
    go_wp2
    rw [← HW.out, ← HG.out]
    go_upto_region 3 with fail
    go_cut [29] (fun u wx => u = .bool false ∧ Below W.heap.size W wx)
    case first =>
      obtain ⟨c0, c1, c2⟩ := three_read K0
      clear K1 ix iD hb HN
      have hz2 : Bls W.drew A z := hz1.below (below_of_drewN (n := 1) rfl)
      go_region_held3 (fun w' => w'.cell? ⟨w.heap.size, 0, none⟩ = some (.int .i64 x) ∧ w'.cell? ⟨w.heap.size, 1, none⟩ = some (.int .i64 y) ∧ w'.cell? ⟨w.heap.size, 2, none⟩ = some (.slice A z.length c))
        (first | go_keep | (go_split_ands; refine ⟨?_, ?_, ?_⟩ <;> first | exact (b9.cell (cell_lt (by assumption))).trans (by assumption) | exact (b10.cell (cell_lt (by assumption))).trans (by assumption)))
        (first
          | ((with_reducible refine (refStage_any x y A c z.length R _ hzl HR').mono ?_); rintro e w10 ⟨rfl, b10⟩)
          | ((with_reducible refine (E.check x y A c z _ hz2).mono ?_); rintro e w9 ⟨rfl, b9⟩; rw [← HR.out]))
      go_wp2
      go_meet
      exact ⟨rfl, below_trans (below_trans (below_of_drewN (n := 1) rfl) b9) b10⟩
    case rest =>
      rename_i wx
      obtain ⟨rfl, bx⟩ := hcut
      replace K1 := K1.below bx
      replace hb := below_trans hb bx
      clear bx K0 hz1 HR HR' HW HG HN ix iD
      go_wp2_with fail
      refine (refWhole_any n1 n2 X _ HX').mono ?_
      rintro e w' ⟨rfl, rfl⟩
      clear HX HX'
      obtain ⟨c0, c1, c2⟩ := three_read K1
      have lt1 := K1.lt
      go_wp2_with fail
      refine (refSame_yes 0 0 D none 0 0 f 0 [] _ (Bls.nil_ _ _) (Bls.nil_ _ _) rfl rfl).mono ?_
      rintro e w10 ⟨rfl, b10⟩
      replace hb := below_trans hb b10
      clear b10
      go_wp2
      go_ret
      exact ⟨rfl, hb⟩

end Go.Proofs.Ytmefekgbljhclaa
