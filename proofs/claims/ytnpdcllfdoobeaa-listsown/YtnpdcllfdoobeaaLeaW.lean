
/-
  Walks of package lease: Pin, Cut; the least by pin (slices.MinFunc).
-/
import Derived.Test.YtnpdcllfdoobeaaLeaV
namespace Go.Proofs.Ytnpdcllfdoobeaa
set_option linter.all false
open Go.RowKit Go.Shelf Go.Lib

theorem frozenL {W : World} {g : Nat} {t : TypeId} {cs : Array Value} (h : Blk W g t cs) : W.frozen? ⟨g, 0, none⟩ = false ∧ W.frozen? ⟨g, 1, none⟩ = false ∧ W.frozen? ⟨g, 2, none⟩ = false :=
  ⟨h.frozen 0, h.frozen 1, h.frozen 2⟩
theorem stageL {W : World} {g : Nat} {t : TypeId} {x y z : Value} (h : Blk W g t #[x, y, z]) :
    (∀ a, (W.setCell ⟨g, 0, none⟩ a).cell? ⟨g, 0, none⟩ = some a) ∧ (∀ a b, ((W.setCell ⟨g, 0, none⟩ a).setCell ⟨g, 1, none⟩ b).cell? ⟨g, 1, none⟩ = some b) ∧
    (∀ a b c, (((W.setCell ⟨g, 0, none⟩ a).setCell ⟨g, 1, none⟩ b).setCell ⟨g, 2, none⟩ c).cell? ⟨g, 2, none⟩ = some c) := by
  refine ⟨fun a => ?_, fun a b => ?_, fun a b c => ?_⟩
  · have := (h.set_ 0 a).cell 0; simpa using this
  · have := ((h.set_ 0 a).set_ 1 b).cell 1; simpa using this
  · have := (((h.set_ 0 a).set_ 1 b).set_ 2 c).cell 2; simpa using this
/-- A lease with the least pin. -/
def MinZ (l : List Lz) (e : Ending) : Prop := ∃ t : Lz, t ∈ l ∧ (∀ u ∈ l, t.pin ≤ u.pin) ∧ e = .returned (.agg #[.int .i64 t.who, .int .i64 t.till, .int .i64 t.pin])

set_option maxRecDepth 100000 in
set_option maxHeartbeats 1600000 in
theorem lminFunc_any (A : Option Addr) (n cap : Nat) (l : List Lz) (w : World) (h : Les w A l) (hn : n = l.length) (h0 : 0 < l.length) (h60 : l.length ≤ 60) :
    Calls Try.prog 61 #[.slice A n cap, .func (.func 62) #[] #[]] w fun e w' => MinZ l e ∧ Below w.heap.size w w' := by
  subst hn
  have hent := enters_of Try.func62 (by kernel_rfl) rfl
  obtain ⟨b, off, t0, rfl, hb, c0, c1, c2, HT0⟩ := h.get h0
  rw [Nat.zero_mul, Nat.add_zero] at c0 c1 c2
  have z0 : ¬ (l.length : Int) < 1 := by omega
  have z1 : (0 : Int) < (l.length : Int) := by omega
  have ne1 : ¬ w.heap.size = b := by omega
  have ne2 : ¬ w.heap.size + 1 = b := by omega
  go_enter Try.func61, Try.ntmps61
  go_wp2
  go_loopw [6] (fun i wr => ∃ (k : Nat) (t : Lz), 1 ≤ k ∧ k ≤ l.length ∧ i = .int .i64 k ∧ Hid (t ∈ l) ∧ Hid (∀ (j : Nat) (u : Lz), j < k → l[j]? = some u → t.pin ≤ u.pin) ∧ Blk wr w.heap.size 35 #[.int .i64 0, .int .i64 0, .int .i64 0] ∧ Blk wr (w.heap.size + 1) 35 #[.int .i64 t.who, .int .i64 t.till, .int .i64 t.pin] ∧ Below w.heap.size w wr) (fun i _ => l.length - (intOf i).toNat)
  case atStart =>
    refine ⟨1, t0, Nat.le_refl _, by omega, rfl, Lib.hid (List.mem_of_getElem? HT0.out), Lib.hid (fun j u hj hu => ?_), (Blk.new _ _ _).alloc _, ?_, ((Below.refl _ _).alloc (Nat.le_refl _) _).alloc (by simp) _⟩
    · obtain rfl : j = 0 := by omega
      have := HT0.out
      rw [hu] at this
      obtain rfl : u = t0 := by injection this
      exact Int.le_refl _
    · have := Blk.new (w.alloc (.cells #[.int .i64 0, .int .i64 0, .int .i64 0] 35)) 35 #[.int .i64 t0.who, .int .i64 t0.till, .int .i64 t0.pin]
      simpa using this
  case round =>
    clear c0 c1 c2 HT0 hb
    obtain ⟨k, t, hk0, hk, rfl, HM, HA, K0, K1, hbel⟩ := hrel
    by_cases hlt : k < l.length
    · obtain ⟨b', off', u, e', hb, d0, d1, d2, HU⟩ := (h.below hbel).get hlt
      obtain ⟨rfl, rfl⟩ : b' = b ∧ off' = off := by injection e' with e'; injection e' with e1 e2; exact ⟨e1.symm, e2.symm⟩
      obtain ⟨e0, e1, e2⟩ := three_read K1
      have i1 : (k : Int) < (l.length : Int) := by omega
      obtain ⟨v, hv⟩ : ∃ v, cmL u.pin t.pin = v := ⟨_, rfl⟩
      have HV := Lib.hid hv
      have KV : Hid (v < 0 ↔ u.pin < t.pin) := Lib.hid (by rw [← hv]; exact cmL_lt)
      clear hv e'
      go_wp2
      go_still_tail 6, (by kernel_rfl)
      change wpList _ _ _ _ _ wr.drew
      go_wp2_with fail
      refine (byPin_any u t v _ HV).mono ?_
      rintro e w1 ⟨rfl, b1⟩
      have b1' : Below wr.heap.size wr w1 := ⟨b1.os, b1.tape, b1.output, b1.size, b1.block⟩
      have K0' := K0.below b1'
      have K1' := K1.below b1'
      have hb1 := below_trans hbel b1'
      have d0' : w1.cell? ⟨b', off' + k * 3, none⟩ = some (.int .i64 u.who) := (b1'.cell (p := ⟨b', off' + k * 3, none⟩) hb).trans d0
      have d1' : w1.cell? ⟨b', off' + k * 3 + 1, none⟩ = some (.int .i64 u.till) := (b1'.cell (p := ⟨b', off' + k * 3 + 1, none⟩) hb).trans d1
      have d2' : w1.cell? ⟨b', off' + k * 3 + 2, none⟩ = some (.int .i64 u.pin) := (b1'.cell (p := ⟨b', off' + k * 3 + 2, none⟩) hb).trans d2
      clear b1 b1' K0 K1 d0 d1 d2 e0 e1 e2
      by_cases hneg : v < 0
      · obtain ⟨e0, e1, e2⟩ := three_read K1'
        obtain ⟨s0, s1, s2⟩ := stageL K1'
        obtain ⟨f0, f1, f2⟩ := frozenL K1'
        have HK1 := Lib.hid (three_sets K1' (.int .i64 u.who) (.int .i64 u.till) (.int .i64 u.pin))
        have HK0 := Lib.hid (((K0'.past (a := ⟨w.heap.size + 1, 0, none⟩) (by simp) (.int .i64 u.who)).past (a := ⟨w.heap.size + 1, 1, none⟩) (by simp) (.int .i64 u.till)).past (a := ⟨w.heap.size + 1, 2, none⟩) (by simp) (.int .i64 u.pin))
        have HB := Lib.hid (below_three (g := w.heap.size + 1) hb1 (by omega) (.int .i64 u.who) (.int .i64 u.till) (.int .i64 u.pin))
        have lt1 := K1'.lt
        have HQ : Hid (u.pin < t.pin) := Lib.hid (KV.out.mp hneg)
        clear K0' K1' hb1 hbel KV HV
        go_wp2
        go_roundw
        case rel =>
          refine ⟨k + 1, u, by omega, by omega, by go_num, Lib.hid (List.mem_of_getElem? HU.out), Lib.hid (fun j x hj hx => ?_), HK0.out, HK1.out, HB.out⟩
          by_cases c : j = k
          · subst c
            have := HU.out
            rw [hx] at this
            obtain rfl : x = u := by injection this
            exact Int.le_refl _
          · have := HA.out j x (by omega) hx
            have := HQ.out
            omega
        case measure => simp [intOf]; omega
      · have HQ : Hid (t.pin ≤ u.pin) := Lib.hid (Int.not_lt.mp (fun c => hneg (KV.out.mpr c)))
        clear KV HV
        go_wp2
        go_roundw
        case rel =>
          refine ⟨k + 1, t, by omega, by omega, by go_num, HM, Lib.hid (fun j x hj hx => ?_), K0', K1', hb1⟩
          by_cases c : j = k
          · subst c
            have := HU.out
            rw [hx] at this
            obtain rfl : x = u := by injection this
            exact HQ.out
          · exact HA.out j x (by omega) hx
        case measure => simp [intOf]; omega
    · obtain ⟨e0, e1, e2⟩ := three_read K1
      obtain ⟨s0, s1, s2⟩ := stageL K0
      obtain ⟨q0, q1, q2⟩ := three_read K0
      obtain ⟨f0, f1, f2⟩ := frozenL K0
      have HK := Lib.hid (three_sets K0 (.int .i64 t.who) (.int .i64 t.till) (.int .i64 t.pin))
      have HB := Lib.hid (below_three (g := w.heap.size) hbel (Nat.le_refl _) (.int .i64 t.who) (.int .i64 t.till) (.int .i64 t.pin))
      have lt0 := K0.lt
      have lt1 := K1.lt
      have i1 : ¬ (k : Int) < (l.length : Int) := by omega
      go_wp2
      have hk' := HK.out
      have hb2 := HB.out
      clear HK HB
      generalize (((wr.setCell ⟨w.heap.size, 0, none⟩ (.int .i64 t.who)).setCell ⟨w.heap.size, 1, none⟩ (.int .i64 t.till)).setCell ⟨w.heap.size, 2, none⟩ (.int .i64 t.pin)) = W' at *
      obtain ⟨x0, x1, x2⟩ := three_read hk'
      exact bodyPost_ret (v := .agg #[.int .i64 t.who, .int .i64 t.till, .int .i64 t.pin]) (by simp [results, Try.results61, go_sem, x0, x1, x2]) rfl ⟨⟨t, HM.out, fun u hu => by
        obtain ⟨j, hj, rfl⟩ := List.getElem_of_mem hu
        exact HA.out j _ (by omega) (List.getElem?_eq_getElem hj), rfl⟩, hb2⟩

end Go.Proofs.Ytnpdcllfdoobeaa
