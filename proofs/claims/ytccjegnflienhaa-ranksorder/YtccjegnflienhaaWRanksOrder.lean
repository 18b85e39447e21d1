
/-
  The walk of the law RanksOrder.
-/
import Derived.Test.YtccjegnflienhaaRankB
import Derived.Test.YtccjegnflienhaaRankJ
namespace Go.Proofs.Ytccjegnflienhaa
set_option linter.all false
open Go.RowKit Go.Shelf Go.Lib

def rkY : List Tk := [⟨6, 1, 6⟩, ⟨4, 1, 4⟩]
theorem rkY_ok : tasE rkY = 0 := by decide
theorem rkY_srt : (ordX rkY 61).map (tk rkY) = [⟨4, 1, 4⟩, ⟨6, 1, 6⟩] := by kernel_rfl
/-- Tasks that a call hands back in order, read. -/
theorem ord_read {l : List Tk} {w w' : World} {v : Value} (h : OrdT l w v w') : ∃ f B c, InsA (tjs l) f l.length ∧ v = .slice B l.length c ∧ l.length ≤ c ∧ Tas w' B (srtT l f) ∧ Below w.heap.size w w' := by
  obtain ⟨f, B, c, hf, hv, o, b⟩ := h
  refine ⟨f, B, c, hf, hv, ?_, Tas.of_row (base := w.heap.size) (t := 30) (c := c) (by rw [length_srt]; exact o), b⟩
  rcases o.2 with ⟨_, h0⟩ | ⟨g, cap, cur, hv, _, _, hn, _⟩
  · omega
  · injection hv with _ _ e
    subst e
    exact hn
set_option maxRecDepth 100000 in
set_option maxHeartbeats 3200000 in
theorem walk_RanksOrder (a0 : Option Addr) (c0 : Nat) (l0 : List Tk) (w : World) (h0 : Tas w a0 l0) (k0 : l0.length ≤ c0) :
    Calls Try.prog 7 #[.slice a0 l0.length c0] w fun e w' => e = .returned (.bool true) ∧ Below w.heap.size w w' := by
  have hb := Below.refl w.heap.size w
  have hl := h0.le
  have h2 : rkY.length = 2 := rfl
  go_enter Try.func7, Try.ntmps7
  go_wp2_with fail
  refine (order_yes _ rkY 2 _ (Tas.lit _ rkY _ _ rfl (by decide)) rkY_ok).mono ?_
  rintro e w2 ⟨v, rfl, hv⟩
  obtain ⟨f, B, c, hf, rfl, _, hT, b2⟩ := ord_read hv
  have e2 := srt_ord (tas_iff.1 rkY_ok) hf
  rw [rkY_srt] at e2
  rw [e2] at hT
  replace b2 := below_of1 b2
  replace h0 := h0.below b2
  replace hb := below_trans hb b2
  rw [h2]
  obtain ⟨bb, off, q, rfl, hbl, x0, x1, x2, HJ⟩ := hT.get (k := 0) (by decide)
  have hq : q = ⟨4, 1, 4⟩ := by simpa using HJ.out.symm
  subst hq
  simp only [Nat.zero_mul, Nat.add_zero] at x0 x1 x2
  clear hv hf b2 h2 e2 HJ hT
  by_cases hE : tasE l0 = 0
  · have v := tas_iff.1 hE
    have hle := v.le
    go_wp2_with fail
    refine (order_yes a0 l0 c0 _ h0 hE).mono ?_
    rintro e w3 ⟨u, rfl, hu⟩
    obtain ⟨f, B, c, hf, rfl, hc, hT, b3⟩ := ord_read hu
    replace h0 := h0.below b3
    replace hb := below_trans hb b3
    have vs := tas_iff.2 (srt_ok v hf)
    have HS : Hid (Fts l0 → Fts (srtT l0 f)) := Lib.hid (srt_fits v hf)
    have HV := Lib.hid (srt_ok v hf)
    have hls : Hid (l0.length = (srtT l0 f).length) := Lib.hid (length_srt _ _).symm
    have hcs : Hid ((srtT l0 f).length ≤ c) := Lib.hid (by rw [length_srt]; exact hc)
    have VS := Lib.hid vs
    clear hu hf b3 x0 x1 x2 vs
    cases q1 : ftB l0
    all_goals
      have HQ := Lib.hid q1
      clear q1
      go_wp2_with fail
      refine (rfits_yes a0 l0 _ c0 _ _ h0 k0 hE rfl HQ).mono ?_
      rintro e w4 ⟨rfl, b4⟩
      replace hT := hT.below b4
      replace hb := below_trans hb b4
      clear b4
    · cases q2 : ftB (srtT l0 f)
      all_goals
        have HR := Lib.hid q2
        clear q2
        go_wp2_with fail
        refine (rfits_yes B (srtT l0 f) _ c _ _ hT hcs.out VS.out hls.out HR).mono ?_
        rintro e w5 ⟨rfl, b5⟩
        replace hb := below_trans hb b5
        clear b5 hE
        go_wp2
        go_ret
        exact ⟨rfl, hb⟩
    · have HR : Hid (ftB (srtT l0 f) = true) := Lib.hid ((ftB_iff HV.out.toTks).mpr (HS.out ((ftB_iff v.toTks).mp HQ.out)))
      go_wp2_with fail
      refine (rfits_yes B (srtT l0 f) _ c _ _ hT hcs.out VS.out hls.out HR).mono ?_
      rintro e w5 ⟨rfl, b5⟩
      replace hb := below_trans hb b5
      clear b5 hE
      go_wp2
      go_ret
      exact ⟨rfl, hb⟩
  · have e1 : (tasE l0 != 0) = true := by simp [hE]
    go_wp2_with fail
    refine (order_no a0 l0 c0 _ h0 hE).mono ?_
    rintro e w3 ⟨rfl, b3⟩
    replace h0 := h0.below b3
    replace hb := below_trans hb b3
    clear b3
    go_wp2_with fail
    refine (rfits_no a0 l0 c0 _ h0 hE).mono ?_
    rintro e w4 ⟨rfl, b4⟩
    replace hb := below_trans hb b4
    clear b4 hE
    go_wp2
    go_ret
    exact ⟨rfl, hb⟩

end Go.Proofs.Ytccjegnflienhaa
