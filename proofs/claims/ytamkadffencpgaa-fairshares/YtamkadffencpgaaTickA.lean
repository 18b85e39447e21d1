
/-
  Walks over tickets: the first of them (slices.MinFunc), one taken out (slices.DeleteFunc).
-/
import Derived.Test.YtamkadffencpgaaFairM
namespace Go.Proofs.Ytamkadffencpgaa
set_option linter.all false
open Go.RowKit Go.Shelf Go.Lib

abbrev fByStart : FuncId := 57
theorem below_pair {B : Nat} {w w' : World} {g : Nat} (h : Below B w w') (hg : B ≤ g) (a b : Value) : Below B w ((w'.setCell ⟨g, 0, none⟩ a).setCell ⟨g, 1, none⟩ b) :=
  (h.setCell (p := ⟨g, 0, none⟩) hg a).setCell (p := ⟨g, 1, none⟩) hg b

set_option maxRecDepth 100000 in
set_option maxHeartbeats 1600000 in
theorem minFunc_tk (base g n cap : Nat) (l : List Tk) (w : World) (h : w.ownsRow base 96 2 (.slice (some ⟨g, 0, none⟩) n cap) n (tcs l)) (h0 : 0 < n) (h60 : n ≤ 60) :
    Calls Try.prog 56 #[.slice (some ⟨g, 0, none⟩) n cap, .func (.func fByStart) #[] #[]] w fun e w' =>
      ∃ (k : Nat) (t : Tk), l[k]? = some t ∧ (∀ (j : Nat) (u : Tk), l[j]? = some u → ¬ TkLt u t) ∧ e = .returned (.agg #[.int .i64 (t.1 : Nat), .int .i64 t.2]) ∧ Below w.heap.size w w' := by
  have hent := enters_of Try.func57 (by kernel_rfl) rfl
  have hgl : g < w.heap.size := (h.lt g rfl).2
  obtain ⟨t0, c0, c1, HT0⟩ := row_get h h0
  simp only [Nat.zero_mul] at c0 c1
  have ll : l.length = n := by have := h.1; rw [length_tcs] at this; omega
  have LL := Lib.hid ll
  clear ll
  have z0 : ¬ (n : Int) < 1 := by omega
  have z1 : (0 : Int) < (n : Int) := by omega
  have ne1 : ¬ w.heap.size = g := by omega
  have ne2 : ¬ w.heap.size + 1 = g := by omega
  go_enter Try.func56, Try.ntmps56
  go_wp2
  go_loopw [6] (fun i wr => ∃ (k m : Nat) (t : Tk), 1 ≤ k ∧ k ≤ n ∧ i = .int .i64 k ∧ Hid (l[m]? = some t) ∧ Hid (∀ (j : Nat) (u : Tk), j < k → l[j]? = some u → ¬ TkLt u t) ∧ Blk wr w.heap.size 96 #[.int .i64 0, .int .i64 0] ∧ Blk wr (w.heap.size + 1) 96 #[.int .i64 (t.1 : Nat), .int .i64 t.2] ∧ Below w.heap.size w wr) (fun i _ => n - (intOf i).toNat)
  case atStart =>
    refine ⟨1, 0, t0, Nat.le_refl _, by omega, rfl, HT0, Lib.hid (fun j u hj hu => ?_), (Blk.new _ _ _).alloc _, ?_, ((Below.refl _ _).alloc (Nat.le_refl _) _).alloc (by simp) _⟩
    · obtain rfl : j = 0 := by omega
      have := HT0.out
      rw [hu] at this
      obtain rfl : u = t0 := by injection this
      unfold TkLt; omega
    · have := Blk.new (w.alloc (.cells #[.int .i64 0, .int .i64 0] 96)) 96 #[.int .i64 (t0.1 : Nat), .int .i64 t0.2]
      simpa using this
  case round =>
    clear c0 c1 HT0
    obtain ⟨k, m, t, hk0, hk, rfl, HM, HA, K0, K1, hbel⟩ := hrel
    by_cases hlt : k < n
    · have hw : wr.ownsRow base 96 2 (.slice (some ⟨g, 0, none⟩) n cap) n (tcs l) := (Tn.of_below (S := fun _ => False) hbel).own h (fun _ _ c => c)
      obtain ⟨u, d0, d1, HU⟩ := row_get hw hlt
      obtain ⟨e0, e1⟩ := pair_read K1
      have i1 : (k : Int) < (n : Int) := by omega
      clear hw
      go_wp2
      go_still_tail 6, (by kernel_rfl)
      change wpList _ _ _ _ _ wr.drew
      go_wp2_with fail
      refine (byStart_any u t _).mono ?_
      rintro e w1 ⟨rfl, b1⟩
      have b1' : Below wr.heap.size wr w1 := ⟨b1.os, b1.tape, b1.output, b1.size, b1.block⟩
      have K0' := K0.below b1'
      have K1' := K1.below b1'
      have hb1 := below_trans hbel b1'
      have d0' : w1.cell? ⟨g, k * 2, none⟩ = some (.int .i64 (u.1 : Nat)) := (b1'.cell (p := ⟨g, k * 2, none⟩) (by have := hbel.size; show g < _; omega)).trans d0
      have d1' : w1.cell? ⟨g, k * 2 + 1, none⟩ = some (.int .i64 u.2) := (b1'.cell (p := ⟨g, k * 2 + 1, none⟩) (by have := hbel.size; show g < _; omega)).trans d1
      clear b1 b1' K0 K1 d0 d1 e0 e1
      have HV := Lib.hid (tickV_neg u t)
      obtain ⟨v, hv⟩ : ∃ v, v = tickV u t := ⟨_, rfl⟩
      rw [← hv] at HV ⊢
      clear hv
      by_cases hneg : v < 0
      · obtain ⟨e0, e1⟩ := pair_read K1'
        have st := pair_stage K1'
        have f0 := K1'.frozen 0
        have f1 := K1'.frozen 1
        have HK1 := Lib.hid (pair_set K1' (.int .i64 (u.1 : Nat)) (.int .i64 u.2))
        have HK0 := Lib.hid ((K0'.past (a := ⟨w.heap.size + 1, 0, none⟩) (by simp) (.int .i64 (u.1 : Nat))).past (a := ⟨w.heap.size + 1, 1, none⟩) (by simp) (.int .i64 u.2))
        have HB := Lib.hid (below_pair (g := w.heap.size + 1) hb1 (by omega) (.int .i64 (u.1 : Nat)) (.int .i64 u.2))
        have lt1 := K1'.lt
        clear K0' K1' hb1 hbel
        go_wp2
        go_roundw
        case rel =>
          refine ⟨k + 1, k, u, by omega, by omega, by go_num, HU, Lib.hid (fun j x hj hx => ?_), HK0.out, HK1.out, HB.out⟩
          have lt : TkLt u t := HV.out.mp hneg
          by_cases c : j = k
          · subst c
            have := HU.out
            rw [hx] at this
            obtain rfl : x = u := by injection this
            unfold TkLt; omega
          · have := HA.out j x (by omega) hx
            unfold TkLt at *; omega
        case measure => simp [intOf]; omega
      · have HN : Hid (¬ TkLt u t) := Lib.hid (fun c => hneg (HV.out.mpr c))
        go_wp2
        go_roundw
        case rel =>
          refine ⟨k + 1, m, t, by omega, by omega, by go_num, HM, Lib.hid (fun j x hj hx => ?_), K0', K1', hb1⟩
          by_cases c : j = k
          · subst c
            have := HU.out
            rw [hx] at this
            obtain rfl : x = u := by injection this
            exact HN.out
          · exact HA.out j x (by omega) hx
        case measure => simp [intOf]; omega
    · obtain ⟨e0, e1⟩ := pair_read K1
      have st := pair_stage K0
      obtain ⟨f0, f1⟩ := pair_read K0
      have g0 := K0.frozen 0
      have g1 := K0.frozen 1
      have hK := pair_set K0 (.int .i64 (t.1 : Nat)) (.int .i64 t.2)
      have hb2 := below_pair (g := w.heap.size) hbel (Nat.le_refl _) (.int .i64 (t.1 : Nat)) (.int .i64 t.2)
      have HK := Lib.hid hK
      have HB := Lib.hid hb2
      have lt0 := K0.lt
      have lt1 := K1.lt
      clear hK hb2
      go_wp2
      have hk' := HK.out
      have hb2 := HB.out
      clear HK HB
      generalize ((wr.setCell ⟨w.heap.size, 0, none⟩ (.int .i64 (t.1 : Nat))).setCell ⟨w.heap.size, 1, none⟩ (.int .i64 t.2)) = W' at *
      obtain ⟨x0, x1⟩ := pair_read hk'
      exact bodyPost_ret (v := .agg #[.int .i64 (t.1 : Nat), .int .i64 t.2]) (by simp [results, Try.results56, go_sem, x0, x1]) rfl ⟨m, t, HM.out, fun j u hu => HA.out j u (by have := (List.getElem?_eq_some_iff.1 hu).1; have := LL.out; omega) hu, rfl, hb2⟩

end Go.Proofs.Ytamkadffencpgaa
