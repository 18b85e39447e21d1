
/-
  Walks: Cut.
-/
import Derived.Test.YtifmefachdfmjaaCurveB
import Derived.Laws.CopyOwn
import Derived.Deep.OwnRows
import Derived.OwnWalk
namespace Go.Proofs.Ytifmefachdfmjaa
set_option linter.all false
open Go.RowKit

theorem int_info : (Try.prog.info? 3).map (fun i => (i.zero, i.size, i.bytes)) = some (some (.int .i64 0), 1, 8) := by kernel_rfl
theorem int_size : (Try.prog.info? 3).map (·.size) = some 1 := by kernel_rfl

/-- What Cut answers. -/
def cutE (l : List Int) (h : Int) : Int := if chk l ≠ 0 then chk l else if h < 0 ∨ (l.length : Int) ≤ h then 1 else 0
def cutL (l : List Int) (h : Int) : List Int := if cutE l h = 0 then l.take (h.toNat + 1) else []

theorem chk_len {l : List Int} (h : chk l = 0) : 0 < l.length ∧ l.length ≤ 61 := by
  unfold chk at h
  split at h
  · omega
  · split at h
    · omega
    · omega

theorem Ans.of_none {E : Int} {w : World} {e : Ending} {w' : World} {L : List Int} (hL : L = []) (he : e = .returned (.tuple #[.slice none 0 0, .int .i64 E])) (hw : w = w') : Ans L E w e w' := by
  subst hL he hw; exact Ans.none_ _ _

theorem splice_all {α : Type} (Z X : List α) (h : Z.length = X.length) : splice Z 0 X = X := by
  unfold splice; simp [h]

set_option maxHeartbeats 800000 in
theorem cut_any (A : Option Addr) (l : List Int) (c : Nat) (t : Int) (w : World) (h : Ints w A l) :
    Calls Try.prog 31 #[.slice A l.length c, .int .i64 t] w (Ans (cutL l t) (cutE l t) w) := by
  have hl := h.1
  by_cases h1 : chk l = 0
  · have e1 : (chk l != 0) = false := by simp [h1]
    obtain ⟨hpos, h61⟩ := chk_len h1
    by_cases h2 : t < 0
    · have HE : Hid (cutE l t = 1) := Lib.hid (by simp [cutE, h1, h2])
      have HL : Hid (cutL l t = []) := Lib.hid (by simp [cutL, HE.out])
      clear h1
      have e2 : decide (t < 0) = true := decide_eq_true h2
      go_enter Try.func31, Try.ntmps31
      go_wp2_with fail
      refine (check_any A l c _ h).mono ?_
      rintro e w' ⟨rfl, rfl⟩
      go_wp2
      go_ret2
      exact Ans.of_none HL.out (by rw [HE.out]; rfl) rfl
    by_cases h3 : (l.length : Int) ≤ t
    · have HE : Hid (cutE l t = 1) := Lib.hid (by simp [cutE, h1, h3])
      have HL : Hid (cutL l t = []) := Lib.hid (by simp [cutL, HE.out])
      clear h1
      have e2 : decide (t < 0) = false := decide_eq_false h2
      have e3 : decide ((l.length : Int) ≤ t) = true := decide_eq_true h3
      go_enter Try.func31, Try.ntmps31
      go_wp2_with fail
      refine (check_any A l c _ h).mono ?_
      rintro e w' ⟨rfl, rfl⟩
      go_wp2
      go_ret2
      exact Ans.of_none HL.out (by rw [HE.out]; rfl) rfl
    obtain ⟨n, rfl⟩ := Int.eq_ofNat_of_zero_le (show 0 ≤ t by omega)
    have hn : n < l.length := by omega
    have HE : Hid (cutE l n = 0) := Lib.hid (by simp [cutE, h1]; omega)
    have HL : Hid (cutL l n = l.take (n + 1)) := Lib.hid (by simp [cutL, HE.out])
    have hlen : (l.take (n + 1)).length = n + 1 := by simp; omega
    obtain ⟨b, off, rfl, hc⟩ := h.2 (by omega)
    obtain ⟨cs, hcs⟩ : ∃ cs, cs = (l.take (n + 1)).map (Value.int .i64) := ⟨_, rfl⟩
    have hcl : cs.length = n + 1 := by rw [hcs, List.length_map, hlen]
    have hcell : ∀ j v, cs[j]? = some v → w.cell? ⟨b, off + j, none⟩ = some v := by
      intro j v hv
      have hj : j < n + 1 := by rw [← hcl]; exact (List.getElem?_eq_some_iff.1 hv).1
      have h5 := hc j (by omega)
      have h6 : v = .int .i64 (l.getD j 0) := by
        rw [hcs] at hv
        simp [hj, show j < l.length by omega] at hv
        simp [List.getD, show j < l.length by omega, hv]
      rw [h6]
      exact h5
    have hone : ∀ v ∈ cs, v.oneCell' = true := by
      intro v hv; rw [hcs] at hv; obtain ⟨x, _, rfl⟩ := List.mem_map.1 hv; rfl
    have hb : b < w.heap.size := cell_lt (hc 0 hpos)
    have hmk := fun W => run_make_row' (P := Try.prog) 22 3 (.int .i64 0) 8 Try.underlying22 int_info rfl .i64 .i64 (n + 1) (by omega) (by omega) W
    have ec : ((n + 1 : Nat) : Int) = (n : Int) + 1 := by omega
    simp only [ec] at hmk
    obtain ⟨cur, hcur⟩ : ∃ cur, cur = (madeCells #[Value.int .i64 0] (n + 1)).toList := ⟨_, rfl⟩
    have hcu : cur.length = n + 1 := by rw [hcur, toList_madeCells_one]; simp
    have HCS := Lib.hid hcs; have HCL := Lib.hid hcl; have HCU := Lib.hid hcu; have HCR := Lib.hid hcur; have HLN := Lib.hid hlen; have HC := Lib.hid hc; have HCELL := Lib.hid hcell
    clear h1 hcs hcl hcu hcur hlen ec hc hcell
    go_enter Try.func31, Try.ntmps31
    go_wp2_with fail
    refine (check_any (some ⟨b, off, none⟩) l c _ h).mono ?_
    rintro e w' ⟨rfl, rfl⟩
    go_wp2_with (with_reducible refine wpList_copy_splice rfl (.tmp 24) (.tmp 25) 22 22 rfl 3 Try.underlying22 int_size _ _ _ _ _ _ rfl rfl w.heap.size 0 cur 3 ?hg cs ?hn ?hpos ?hfit hone w.heap.size w ?hb (Nat.le_refl _) ?_)
    case hg => rw [HCR.out]; exact heap_alloc_new w _
    case hn => rw [HCL.out]; simp [Nat.min_def]; omega
    case hpos =>
      intro _
      exact HCELL.out
    case hfit => rw [HCL.out, HCU.out]; omega
    case hb => exact (Below.refl _ _).alloc (Nat.le_refl _) _
    intro w2 HG2 hb2
    go_wp2
    go_ret2
    refine ⟨some ⟨w.heap.size, 0, none⟩, n + 1, ?_, ?_, hb2⟩
    · rw [HL.out, HE.out, HLN.out]; rfl
    · rw [HL.out, HLN.out]
      refine ⟨by rw [List.length_map, HLN.out, Nat.mul_one], .inr ⟨w.heap.size, n + 1, _, rfl, Nat.le_refl _, HG2.out, Nat.le_refl _, by unfold maxLen; omega, ?_, ?_⟩⟩
      · rw [splice_all _ _ (by rw [HCU.out, HCL.out])]; simp [HCL.out]
      · rw [splice_all _ _ (by rw [HCU.out, HCL.out]), List.take_of_length_le (by simp [HCL.out]), HCS.out]
  · have e1 : (chk l != 0) = true := by simp [h1]
    have HE : Hid (cutE l t = chk l) := Lib.hid (by simp [cutE, h1])
    have HL : Hid (cutL l t = []) := Lib.hid (by simp [cutL, HE.out, h1])
    clear h1
    go_enter Try.func31, Try.ntmps31
    go_wp2_with fail
    refine (check_any A l c _ h).mono ?_
    rintro e w' ⟨rfl, rfl⟩
    go_wp2
    go_ret2
    exact Ans.of_none HL.out (by rw [HE.out]; rfl) rfl

end Go.Proofs.Ytifmefachdfmjaa
