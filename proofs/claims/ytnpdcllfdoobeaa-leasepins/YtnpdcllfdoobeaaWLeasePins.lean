
/-
  The law LeasePins.
-/
import Derived.Test.YtnpdcllfdoobeaaLeaU
namespace Go.Proofs.Ytnpdcllfdoobeaa
set_option linter.all false
open Go.RowKit Go.Shelf Go.Lib

theorem pins_lit {n : Int} (h : IsPin 4 [⟨0, 5, 7⟩, ⟨1, 9, 3⟩] n) : n = 3 := by
  obtain ⟨a, ha, ht, e⟩ := h.hit
  have l := h.low ⟨1, 9, 3⟩ (by simp) (by decide)
  simp only [List.mem_cons, List.not_mem_nil, or_false] at ha
  rcases ha with rfl | rfl
  · simp only at e l; omega
  · exact e.symm
set_option maxRecDepth 100000 in
set_option maxHeartbeats 1600000 in
theorem walk_LeasePins (A : Option Addr) (c : Nat) (l : List Lz) (now : Int) (w : World) (h : Les w A l) (_k : l.length ≤ c) (_h1 : (Lit.int .i64 now).wf = true) :
    Calls Try.prog 9 #[.slice A l.length c, .int .i64 now] w fun e w' => e = .returned (.bool true) ∧ Below w.heap.size w w' := by
  have hl := h.le
  have E0 : Hid (lzE [⟨0, 5, 7⟩, ⟨1, 9, 3⟩] = 0) := Lib.hid (by decide)
  have L0 : Hid (¬ liveL 4 [⟨0, 5, 7⟩, ⟨1, 9, 3⟩] = []) := Lib.hid (by decide)
  go_enter Try.func9, Try.ntmps9
  go_wp2_with fail
  refine (pin_yes (some ⟨w.heap.size, 0, none⟩) [⟨0, 5, 7⟩, ⟨1, 9, 3⟩] 2 2 4 _ (Les.lit w _ _ _ rfl (by decide)) rfl E0 L0).mono ?_
  rintro e w1 ⟨⟨n, hp, _, _, rfl⟩, b1⟩
  obtain rfl := pins_lit hp
  have hb := below_of1 b1
  replace h := h.below hb
  clear b1 hp E0 L0
  by_cases hE : lzE l = 0
  · have HE := Lib.hid hE
    have v := lzE_iff.mp hE
    clear hE
    by_cases hL : liveL now l = []
    · have HL := Lib.hid hL
      have HC : Hid (cuE now 1000000 l = 0) := Lib.hid (cu_iff.mpr ⟨v, by decide, by decide, fun a ha ht => by
        have := mem_live.mpr ⟨ha, ht⟩
        rw [hL] at this
        simp at this⟩)
      clear hL
      go_wp2_with fail
      refine (pin_none A l _ c now _ h rfl HE HL).mono ?_
      rintro e w2 ⟨rfl, b2⟩
      replace h := h.below b2
      replace hb := below_trans hb b2
      go_wp2_with fail
      refine (live_yes A l _ c now _ h rfl HE).mono ?_
      rintro e w3 ⟨A3, c3, rfl, o3, b3⟩
      rw [HL.out]
      replace h := h.below b3
      replace hb := below_trans hb b3
      clear o3
      go_wp2_with fail
      refine (cut_yes A l _ c now 1000000 _ h rfl HC).mono ?_
      rintro e w4 ⟨A4, c4, rfl, o4, b4⟩
      replace hb := below_trans hb b4
      clear o4
      go_wp2
      go_ret
      exact ⟨rfl, hb⟩
    · have HL := Lib.hid hL
      go_wp2_with fail
      refine (pin_yes A l _ c now _ h rfl HE HL).mono ?_
      rintro e w2 ⟨⟨n, hp, n0, n1, rfl⟩, b2⟩
      replace h := h.below b2
      replace hb := below_trans hb b2
      have HC : Hid (cuE now n l = 0) := Lib.hid (cu_iff.mpr ⟨v, n0, n1, hp.cut.mpr (Int.le_refl _)⟩)
      have HD : Hid (n + 1 ≤ 1000000 → cuE now (n + 1) l = 7) := Lib.hid (fun q => cu_there v (by omega) q (fun c => by have := hp.cut.mp c; omega))
      clear hp hL
      go_wp2_with fail
      refine (live_yes A l _ c now _ h rfl HE).mono ?_
      rintro e w3 ⟨A3, c3, rfl, o3, b3⟩
      replace h := h.below b3
      replace hb := below_trans hb b3
      go_wp2_with fail
      refine (cut_yes A l _ c now n _ h rfl HC).mono ?_
      rintro e w4 ⟨A4, c4, rfl, o4, b4⟩
      replace h := h.below b4
      replace hb := below_trans hb b4
      have i3 := (Les.of_row o3).below b4
      have i4 := Les.of_row o4
      clear o3 o4
      go_wp2_with fail
      refine (leSame A4 A3 (liveL now l) _ _ _ _ _ i4 i3 rfl rfl).mono ?_
      rintro e w5 ⟨rfl, n5, hw5⟩
      have b5 := below_of_drewN hw5
      replace h := h.below b5
      replace hb := below_trans hb b5
      clear hw5 i3 i4
      by_cases hn : n = 1000000
      · have HN := Lib.hid hn
        have e1 : (n == 1000000) = true := by simp [hn]
        clear hn
        go_wp2
        go_ret
        exact ⟨rfl, hb⟩
      · have e1 : (n == 1000000) = false := by simp [hn]
        have HQ := Lib.hid (HD.out (by omega))
        have HQ' : Hid (¬ cuE now (n + 1) l = 0) := Lib.hid (by rw [HQ.out]; decide)
        clear HD hn
        go_wp2_with fail
        refine (cut_no A l _ c now (n + 1) _ h rfl HQ').mono ?_
        rintro e w6 ⟨rfl, b6⟩
        rw [HQ.out]
        replace hb := below_trans hb b6
        go_wp2
        go_ret
        exact ⟨rfl, hb⟩
  · have e1 : (lzE l != 0) = true := by simp [hE]
    have e2 : (lzE l == 0) = false := by simp [hE]
    go_wp2_with fail
    refine (pin_no A l _ c now _ h rfl hE).mono ?_
    rintro e w2 ⟨rfl, b2⟩
    replace h := h.below b2
    replace hb := below_trans hb b2
    go_wp2_with fail
    refine (live_no A l _ c now _ h rfl hE).mono ?_
    rintro e w3 ⟨rfl, b3⟩
    replace hb := below_trans hb b3
    clear hE
    go_wp2
    go_ret
    exact ⟨rfl, hb⟩

end Go.Proofs.Ytnpdcllfdoobeaa
