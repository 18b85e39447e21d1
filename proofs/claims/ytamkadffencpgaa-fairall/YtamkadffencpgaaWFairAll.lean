
/-
  The walk of the law FairAll.
-/
import Derived.Test.YtamkadffencpgaaFairL
import Derived.Test.YtamkadffencpgaaConvB
namespace Go.Proofs.Ytamkadffencpgaa
set_option linter.all false
open Go.RowKit Go.Shelf Go.Lib

abbrev allP : List Pk := [⟨0, 4, 0⟩, ⟨0, 4, 0⟩, ⟨0, 1, 1⟩]
theorem all_min : MinAt allP ones [0, 2, 1] := by unfold MinAt; decide
theorem all_z : ∀ i, i < allP.length → (pk allP i).at_ ≤ 0 := by decide

/-- Marks in a block. -/
def bms (n : Nat) (S : Nat → Bool) : Array Value := ((List.range n).map (fun j => Value.bool (S j))).toArray
theorem bms_get {n j : Nat} (S : Nat → Bool) (h : j < n) : (bms n S)[j]? = some (.bool (S j)) := by simp [bms, h]
theorem bms_set {n j : Nat} (S : Nat → Bool) (b : Bool) : (bms n S).setIfInBounds j (.bool b) = bms n (fup S j b) := by
  apply Array.ext_getElem?
  intro i
  rw [Array.getElem?_setIfInBounds]
  by_cases c : i < n
  · by_cases e : j = i
    · subst e
      rw [if_pos rfl, if_pos (by simpa [bms] using c), bms_get _ c, fup_at]
    · rw [if_neg e, bms_get _ c, bms_get _ c, fup_ne _ _ (fun h => e h.symm)]
  · have h1 : (bms n S)[i]? = none := by simp [bms, c]
    have h2 : (bms n (fup S j b))[i]? = none := by simp [bms, c]
    rw [h1, h2]
    by_cases e : j = i
    · subst e
      rw [if_pos rfl, if_neg (by simpa [bms] using c)]
    · rw [if_neg e]
theorem bms_made (n : Nat) : madeCells #[Value.bool false] n = bms n (fun _ => false) := by
  apply Array.ext_getElem?
  intro i
  by_cases c : i < n
  · rw [bms_get _ c]; simp [madeCells, c, Nat.mod_one]
  · simp [madeCells, bms, c]
theorem made_bools (n : Nat) (hn : n ≤ 60) (W : World) : (Instr.makeSlice 34 (.int .i64 n) (.int .i64 n)).run Try.prog W = .ok (.slice (some ⟨W.heap.size, 0, none⟩) n n) (W.alloc (.cells (bms n (fun _ => false)) 4)) := by
  obtain ⟨i, hi, hz⟩ := Option.map_eq_some_iff.1 bool_info
  simp only [Prod.mk.injEq] at hz
  obtain ⟨hz, hs, hb⟩ := hz
  have hr := run_make (P := Try.prog) W 34 4 i _ Try.underlying34 hi hz .i64 .i64 n n (by omega) (by omega) (by rw [hb]; omega) (by omega)
  simp only [Int.toNat_natCast, hs, Nat.mul_one] at hr
  rw [← bms_made]
  exact hr

set_option maxRecDepth 100000 in
set_option maxHeartbeats 6400000 in
theorem walk_FairAll (a0 : Option Addr) (c0 : Nat) (l0 : List Int) (a1 : Option Addr) (c1 : Nat) (l1 : List Pk) (w : World)
    (h0 : Ints w a0 l0) (_k0 : l0.length ≤ c0) (h1 : Pks w a1 l1) (_k1 : l1.length ≤ c1) :
    Calls Try.prog 4 #[.slice a0 l0.length c0, .slice a1 l1.length c1] w fun e w' => e = .returned (.bool true) ∧ Below w.heap.size w w' := by
  have hb : Below w.heap.size w w := Below.refl _ _
  clear _k0 _k1
  by_cases hE : fwE l0 l1 = 0
  · obtain ⟨hv, hpe⟩ := fwE_ok hE
    have q := qu_of hpe
    have HE := Lib.hid hE
    have hle := q.le
    have hmk := fun W => made_bools l1.length hle W
    clear hE hpe
    go_enter Try.func4, Try.ntmps4
    go_wp2_with fail
    refine (weights_any _).mono ?_
    rintro e w1 ⟨A1, rfl, i1, b1⟩
    have p1 : Pks w1 (some ⟨w.heap.size, 0, none⟩) allP := (Pks.lit w allP _ _ rfl (by decide)).below b1
    replace b1 := below_of1 b1
    replace h0 := h0.below b1
    replace h1 := h1.below b1
    replace hb := below_trans hb b1
    clear b1
    go_wp2_with fail
    refine (frun_lit A1 _ allP [0, 2, 1] _ 3 _ _ _ i1 p1 (by decide) all_z all_min (by decide) rfl (by decide) rfl rfl).mono ?_
    rintro e w2 ⟨C2, k2, rfl, x2, b2⟩
    replace h0 := h0.below b2
    replace h1 := h1.below b2
    replace hb := below_trans hb b2
    clear b2 p1 i1
    go_wp2_with fail
    refine (equal_at C2 _ (nts [0, 2, 1]) [0, 2, 1] _ _ _ _ _ (by exact Ints.alloc x2 _) (by exact Ints.lit _ [0, 2, 1] _ _ rfl (by decide)) rfl rfl).mono ?_
    rintro e w3 ⟨rfl, n3, hw3⟩
    have b3 := below_of1 (below_of_drewN hw3)
    rw [eqB_true (l := nts [0, 2, 1]) (m := [0, 2, 1]) rfl]
    replace h0 := h0.below b3
    replace h1 := h1.below b3
    replace hb := below_trans hb b3
    clear b3 hw3 x2
    go_wp2_with fail
    refine (frun_fair a0 a1 l0 l1 _ _ c0 c1 _ h0 h1 HE rfl rfl).mono ?_
    rintro e w4 ⟨x, C, k, hx, rfl, ox, b4⟩
    have xl := hx.1
    have HX := Lib.hid hx
    have XL := Lib.hid xl
    have x60 : x.length ≤ 60 := by omega
    have hX : Ints w4 C (nts x) := by
      have := ox
      rw [← length_nts x] at this
      exact Ints.of_own this
    replace h0 := h0.below b4
    replace h1 := h1.below b4
    replace hb := below_trans hb b4
    clear ox hx xl b4
    go_wp2_with fail
    obtain ⟨g, hg⟩ : ∃ g, g = w4.heap.size := ⟨_, rfl⟩
    have KB := Blk.new w4 4 (bms l1.length (fun _ => false))
    rw [← hg] at KB
    have HG := Lib.hid hg
    have gw : w.heap.size ≤ g := by have := hb.size; omega
    clear hg
    refine (repeat_one _ (-1) 8 _ _ (by exact Ints.litB _ [-1] _ _ _ rfl (by decide)) (by omega) (by omega)).mono ?_
    rintro e w5 ⟨g', rfl, hg', KL, b5⟩
    replace KB := (KB.alloc (.cells #[.int .i64 (-1)] 3)).below b5
    have b5' := below_of2 b5
    have KL' : Blk w5 g' 3 (eit (fun _ => -1)) := KL
    have gg : ¬ g = g' := by have := HG.out; simp at hg'; omega
    have gw4 : w4.heap.size ≤ g := by rw [HG.out]; exact Nat.le_refl _
    have gw4' : w4.heap.size ≤ g' := by simp at hg'; omega
    rw [← HG.out]
    clear HG b5 KL hg' hmk
    go_wp2
    go_loopw [57] (fun t wr => ∃ (p : Nat) (S : Nat → Bool) (L : Nat → Int), p ≤ x.length ∧ t = .int .i64 p ∧ Blk wr g 4 (bms l1.length S) ∧ Blk wr g' 3 (eit L) ∧ Hid (∀ j, S j = true → ∃ r, r < p ∧ nth x r = j) ∧ Hid (∀ f, L f = -1 ∨ ∃ r, r < p ∧ L f = (nth x r : Nat) ∧ fl l1 (nth x r) = f) ∧ Below w4.heap.size w4 wr) (fun t _ => x.length - (intOf t).toNat)
    case atStart => exact ⟨0, fun _ => false, fun _ => -1, Nat.zero_le _, rfl, KB, KL', Lib.hid (fun j h => by simp at h), Lib.hid (fun f => .inl rfl), b5'⟩
    case round =>
      clear KB KL' b5'
      obtain ⟨p, S, L, hp, rfl, KB, KL, HS, HL, hbel⟩ := hrel
      by_cases hlt : p < x.length
      · obtain ⟨b1, o1, y, hC, hc1, HY⟩ := (hX.below hbel).at_ (k := p) (by rw [length_nts]; exact hlt)
        subst hC
        obtain ⟨_, hy⟩ := nts_at HY.out
        obtain ⟨i, hi⟩ : ∃ i, i = nth x p := ⟨_, rfl⟩
        rw [← hi] at hy
        subst hy
        have hmem := nth_mem hlt
        have il : i < l1.length := by rw [hi]; exact HX.out.lt q hv hmem
        obtain ⟨bb, off, pk0, hB, hbl, p0, p1, p2, HP⟩ := (h1.below hbel).get il
        subst hB
        obtain ⟨f, hf⟩ : ∃ f, f = fl l1 i := ⟨_, rfl⟩
        have f8 : f < 8 := by rw [hf]; exact fl_lt q il
        rw [pk_flow q il (pk_of HP.out), ← hf] at p2
        have nd := HX.out.nodup q hv
        have hSi : S i = false := by
          cases c : S i
          · rfl
          · obtain ⟨r, hr, e⟩ := HS.out i c
            exact absurd (e.trans hi) (nth_ne nd hr hlt)
        have hLf : ¬ (i : Int) < L f := by
          rcases HL.out f with c | ⟨r, hr, e, e'⟩
          · omega
          · have := HX.out.ord q hv hr hlt (by rw [e', ← hi, hf])
            omega
        have cS : wr.cell? ⟨g, i, none⟩ = some (.bool false) := by rw [KB.cell, bms_get _ il, hSi]
        obtain ⟨Lf, hLF⟩ : ∃ Lf, Lf = L f := ⟨_, rfl⟩
        have cL : wr.cell? ⟨g', f, none⟩ = some (.int .i64 Lf) := by rw [eit_cell KL f8, hLF]
        rw [← hLF] at hLf
        have fS := KB.frozen i
        have fL := KL.frozen f
        have lS := KB.lt
        have lL := KL.lt
        have j1 : (p : Int) < (x.length : Int) := by omega
        have j2 : ¬ (i : Int) < 0 := by omega
        have j3 : ¬ (l1.length : Int) ≤ (i : Int) := by omega
        have j4 : (f : Int) < 8 := by omega
        have j5 : (i : Int) < (l1.length : Int) := by omega
        have d1 : decide ((i : Int) < Lf) = false := decide_eq_false hLf
        have gg' : ¬ g' = g := fun e => gg e.symm
        have HKB : Hid (Blk ((wr.setCell ⟨g, i, none⟩ (.bool true)).setCell ⟨g', f, none⟩ (.int .i64 i)) g 4 (bms l1.length (fup S i true))) := Lib.hid (by
          have := KB.set_ i (.bool true)
          rw [bms_set] at this
          exact this.past (a := ⟨g', f, none⟩) gg _)
        have HKL : Hid (Blk ((wr.setCell ⟨g, i, none⟩ (.bool true)).setCell ⟨g', f, none⟩ (.int .i64 i)) g' 3 (eit (fup L f i))) := Lib.hid (eit_put (KL.past (a := ⟨g, i, none⟩) gg' _) f8 i)
        have HBB : Hid (Below w4.heap.size w4 ((wr.setCell ⟨g, i, none⟩ (.bool true)).setCell ⟨g', f, none⟩ (.int .i64 i))) := Lib.hid ((hbel.setCell (p := ⟨g, i, none⟩) gw4 _).setCell (p := ⟨g', f, none⟩) gw4' _)
        have HSN : Hid (∀ j, fup S i true j = true → ∃ r, r < p + 1 ∧ nth x r = j) := Lib.hid (fun j hj => by
          by_cases c : j = i
          · exact ⟨p, by omega, by rw [c, hi]⟩
          · rw [fup_ne _ _ c] at hj
            obtain ⟨r, hr, e⟩ := HS.out j hj
            exact ⟨r, by omega, e⟩)
        have HLN : Hid (∀ f', fup L f i f' = -1 ∨ ∃ r, r < p + 1 ∧ fup L f i f' = (nth x r : Nat) ∧ fl l1 (nth x r) = f') := Lib.hid (fun f' => by
          by_cases c : f' = f
          · right
            exact ⟨p, by omega, by rw [c, fup_at, hi], by rw [← hi, c, hf]⟩
          · rw [fup_ne _ _ c]
            rcases HL.out f' with e | ⟨r, hr, e⟩
            · exact .inl e
            · exact .inr ⟨r, by omega, e⟩)
        have HPL : Hid (p + 1 ≤ x.length) := Lib.hid hlt
        clear KB KL hbel hi hf nd hSi hLF hmem HS HL p0 p1 HY
        go_wp2
        go_roundw
        case rel => exact ⟨p + 1, fup S i true, fup L f i, HPL.out, by go_num, HKB.out, HKL.out, HSN, HLN, HBB.out⟩
        case measure => simp [intOf]; omega
      · have j1 : ¬ (p : Int) < (x.length : Int) := by omega
        have j2 : ((x.length : Int) == (l1.length : Int)) = true := by rw [XL.out]; simp
        clear KB KL
        go_wp2
        go_ret
        exact ⟨rfl, below_trans hb hbel⟩
  · have e1 : (fwE l0 l1 != 0) = true := by simp [hE]
    go_enter Try.func4, Try.ntmps4
    go_wp2_with fail
    refine (weights_any _).mono ?_
    rintro e w1 ⟨A1, rfl, i1, b1⟩
    have p1 : Pks w1 (some ⟨w.heap.size, 0, none⟩) allP := (Pks.lit w allP _ _ rfl (by decide)).below b1
    replace b1 := below_of1 b1
    replace h0 := h0.below b1
    replace h1 := h1.below b1
    replace hb := below_trans hb b1
    clear b1
    go_wp2_with fail
    refine (frun_lit A1 _ allP [0, 2, 1] _ 3 _ _ _ i1 p1 (by decide) all_z all_min (by decide) rfl (by decide) rfl rfl).mono ?_
    rintro e w2 ⟨C2, k2, rfl, x2, b2⟩
    replace h0 := h0.below b2
    replace h1 := h1.below b2
    replace hb := below_trans hb b2
    clear b2 p1 i1
    go_wp2_with fail
    refine (equal_at C2 _ (nts [0, 2, 1]) [0, 2, 1] _ _ _ _ _ (by exact Ints.alloc x2 _) (by exact Ints.lit _ [0, 2, 1] _ _ rfl (by decide)) rfl rfl).mono ?_
    rintro e w3 ⟨rfl, n3, hw3⟩
    have b3 := below_of1 (below_of_drewN hw3)
    rw [eqB_true (l := nts [0, 2, 1]) (m := [0, 2, 1]) rfl]
    replace h0 := h0.below b3
    replace h1 := h1.below b3
    replace hb := below_trans hb b3
    clear b3 hw3 x2
    go_wp2_with fail
    refine (frun_fair_no a0 a1 l0 l1 _ _ c0 c1 _ h0 h1 hE rfl rfl).mono ?_
    rintro e w4 ⟨rfl, b4⟩
    replace h0 := h0.below b4
    replace h1 := h1.below b4
    replace hb := below_trans hb b4
    clear b4
    go_wp2_with fail
    refine (fcheck_any a0 a1 l0 l1 c0 c1 _ h0 h1).mono ?_
    rintro e w5 ⟨rfl, b5⟩
    replace h0 := h0.below b5
    replace h1 := h1.below b5
    replace hb := below_trans hb b5
    clear b5
    go_wp2
    go_ret
    exact ⟨rfl, hb⟩

end Go.Proofs.Ytamkadffencpgaa
