
/-
  The functions that hand back a curve, each by what it answers alone: a list of at most sixty-one numbers, and an error.
-/
import Derived.Test.YtifmefachdfmjaaOwnB
import Derived.Test.YtifmefachdfmjaaShaperA
namespace Go.Proofs.Ytifmefachdfmjaa
set_option linter.all false
open Go.RowKit Go.Shelf

structure Fn1 (f : FuncId) (l L : List Int) (E : Int) : Prop where
  len : L.length ≤ 61
  call : ∀ (A : Option Addr) (c : Nat) (w : World), Ints w A l → l.length ≤ c → Calls Try.prog f #[.slice A l.length c] w (Ans L E w)
structure Fn1n (f : FuncId) (l : List Int) (n : Int) (L : List Int) (E : Int) : Prop where
  len : L.length ≤ 61
  call : ∀ (A : Option Addr) (c : Nat) (w : World), Ints w A l → l.length ≤ c → Calls Try.prog f #[.slice A l.length c, .int .i64 n] w (Ans L E w)
structure Fn2 (f : FuncId) (l m L : List Int) (E : Int) : Prop where
  len : L.length ≤ 61
  call : ∀ (A B : Option Addr) (c d : Nat) (w : World), Ints w A l → Ints w B m → l.length ≤ c → m.length ≤ d → Calls Try.prog f #[.slice A l.length c, .slice B m.length d] w (Ans L E w)

theorem res_len {e : Int} {L : List Int} (h : e = 0 → L.length ≤ 61) : (resL e L).length ≤ 61 := by
  unfold resL
  split
  · simp
  · rename_i q
    unfold fitL
    split
    · simp
    · exact h (by omega)
theorem chk2_61 {l m : List Int} (h : chk2 l m = 0) : l.length ≤ 61 := (chk2_iff.1 h).1.le
theorem chk_len61 {l : List Int} (h : chk l = 0) : l.length ≤ 61 := (chk_iff.1 h).le

theorem fn_min (l m : List Int) : ∃ L E, Fn2 32 l m L E := ⟨_, _, res_len (fun h => by rw [length_tab]; exact chk2_61 h), fun A B c d w h h' _ _ => min_any A B l m c d w h h'⟩
theorem fn_max (l m : List Int) : ∃ L E, Fn2 33 l m L E := ⟨_, _, res_len (fun h => by rw [length_tab]; exact chk2_61 h), fun A B c d w h h' _ _ => max_any A B l m c d w h h'⟩
theorem fn_sum (l m : List Int) : ∃ L E, Fn2 34 l m L E := ⟨_, _, res_len (fun h => by rw [length_tab]; exact chk2_61 h), fun A B c d w h h' _ _ => sum_any A B l m c d w h h'⟩
theorem fn_less (l m : List Int) : ∃ L E, Fn2 35 l m L E := ⟨_, _, res_len (fun h => by rw [length_tab]; exact chk2_61 h), fun A B c d w h h' _ _ => less_any A B l m c d w h h'⟩
theorem fn_conv (l m : List Int) : ∃ L E, Fn2 21 l m L E := ⟨_, _, res_len (fun h => by rw [length_cvL]; exact chk2_61 h), fun A B c d w h h' _ _ => conv_any A B l m c d w h h'⟩
theorem fn_dual (l m : List Int) : ∃ L E, Fn2 40 l m L E := ⟨_, _, res_len (fun h => by rw [length_duL]; exact chk2_61 h), fun A B c d w h h' _ _ => dual_any A B l m c d w h h'⟩
theorem fn_deconv (l m : List Int) : ∃ L E, Fn2 38 l m L E := ⟨_, _, res_len (fun h => by rw [length_dcL]; exact chk2_61 h), fun A B c d w h h' hc _ => deconv_any A B l m c d w h h' hc⟩
theorem fn_shaper (l m : List Int) : ∃ L E, Fn2 44 l m L E := ⟨_, _, res_len (fun h => by rw [length_cvL]; exact chk2_61 h), fun A B c d w h h' _ hd => shaper_any A B l m c d w h h' hd⟩
theorem fn_clos (l : List Int) : ∃ L E, Fn1 39 l L E := ⟨_, _, res_len (fun h => by rw [length_clL]; exact chk_len61 h), fun A c w h hc => clos_any A l c w h hc⟩
theorem fn_super (l : List Int) : ∃ L E, Fn1 41 l L E := ⟨_, _, res_len (fun h => by rw [length_suL]; exact chk_len61 h), fun A c w h hc => super_any A l c w h hc⟩
theorem fn_env (l : List Int) : ∃ L E, Fn1 43 l L E := ⟨_, _, res_len (fun h => by rw [length_dcL]; exact chk_len61 h), fun A c w h hc => env_any A l c w h hc⟩
theorem fn_late (l : List Int) (n : Int) : ∃ L E, Fn1n 28 l n L E := ⟨_, _, res_len (fun h => by rw [length_tab]; exact chk_len61 (by unfold lateE at h; split at h <;> omega)), fun A c w h _ => late_any A l c n w h⟩
theorem fn_up (l : List Int) (n : Int) : ∃ L E, Fn1n 36 l n L E := ⟨_, _, res_len (fun h => by rw [length_tab]; exact chk_len61 (by unfold upE at h; split at h <;> omega)), fun A c w h _ => up_any A l c n w h⟩
theorem fn_times (l : List Int) (n : Int) : ∃ L E, Fn1n 37 l n L E := ⟨_, _, res_len (fun h => by rw [length_pw]; exact chk_len61 (by unfold timE at h; split at h <;> omega)), fun A c w h _ => times_any A l c n w h⟩
theorem fn_cut (l : List Int) (n : Int) : ∃ L E, Fn1n 31 l n L E := by
  refine ⟨_, _, ?_, fun A c w h _ => cut_any A l c n w h⟩
  unfold cutL
  split
  · rename_i h
    have : l.length ≤ 61 := chk_len61 (by unfold cutE at h; split at h <;> omega)
    simp; omega
  · simp
theorem fn_trsum (l : List Int) : ∃ L E, Fn1 19 l L E := by
  refine ⟨_, _, ?_, fun A c w h _ => trSum_any A l c w h⟩
  unfold trL
  split
  · rename_i h
    have := (trk_iff.1 h).le
    rw [length_adL]; omega
  · simp
theorem fn_slots (l : List Int) : ∃ L E, Fn1 42 l L E := by
  refine ⟨_, _, ?_, fun A c w h _ => slots_any A l c w h⟩
  unfold sloL
  split
  · rename_i h
    have := (sloE_zero h).1.le
    rw [length_difL]; omega
  · simp

end Go.Proofs.Ytifmefachdfmjaa
