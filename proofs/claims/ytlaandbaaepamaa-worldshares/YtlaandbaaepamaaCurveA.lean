
/-
  Walks: curve.Check and its document twin answer chk.
-/
import Derived.Test.YtlaandbaaepamaaProg
import Derived.Test.YtlaandbaaepamaaWords
import Derived.WalkKit
import Derived.WalkSpells
import Derived.WalkLawsBesides
import Derived.Outline
namespace Go.Proofs.Ytlaandbaaepamaa
set_option linter.all false
open Go.RowKit

theorem ret_int {k : IntKind} {a b : Int} (h : a = b) : Ending.returned (.int k a) = .returned (.int k b) := by rw [h]

theorem chkGo_hd {l : List Int} {k : Nat} {x b c : Int} (h : chk l = chkGo b (l.drop k)) (hx : l[k]? = some x) (hc : c = if x < 0 then 1 else if 1000000 < x then 2 else if x < b then 3 else chkGo x (l.drop (k + 1))) : chk l = c := by
  rw [h, drop_of_get hx, hc, chkGo]

set_option maxHeartbeats 400000 in
theorem check_any (A : Option Addr) (l : List Int) (c : Nat) (w : World) (h : Ints w A l) :
    Calls Try.prog 51 #[.slice A l.length c] w fun e w' => e = .returned (.int .i64 (chk l)) ∧ w = w' := by
  have hl := h.1
  by_cases h0 : l.length = 0
  · have H0 := Lib.hid h0
    have e0 : ((l.length : Int) == 0) = true := by simp [h0]
    clear h0
    go_enter Try.func51, Try.ntmps51
    go_wp2
    go_ret
    exact ⟨by simp [chk, H0.out], rfl⟩
  have e0 : ((l.length : Int) == 0) = false := by rw [beq_eq_false_iff_ne]; omega
  by_cases h1 : 61 < l.length
  · have H0 := Lib.hid h0
    clear h0
    go_enter Try.func51, Try.ntmps51
    go_wp2
    go_ret
    exact ⟨by simp [chk, H0.out, h1], rfl⟩
  have HC : Hid (chk l = chkGo 0 (l.drop 0)) := by apply Lib.hid; simp [chk, h0, h1]
  clear h0
  go_enter Try.func51, Try.ntmps51
  go_wp2
  go_loop [3, 15] (fun b i => ∃ (k : Nat) (x : Int), k ≤ l.length ∧ i = .int .i64 k ∧ b = .int .i64 x ∧ Hid (chk l = chkGo x (l.drop k))) (fun _ i => l.length - (intOf i).toNat)
  case atStart => exact ⟨0, 0, Nat.zero_le _, rfl, rfl, HC⟩
  case round =>
    obtain ⟨k, b, hk, rfl, rfl, HR⟩ := hrel
    clear HC
    by_cases hlt : k < l.length
    · obtain ⟨bb, off, x, rfl, hcell, HX⟩ := h.at_ hlt
      go_wp2
      · go_ret
        exact ⟨ret_int (chkGo_hd HR.out HX.out (by rw [if_pos (by assumption)])).symm, rfl⟩
      · go_ret
        exact ⟨ret_int (chkGo_hd HR.out HX.out (by rw [if_neg (by omega), if_pos (by assumption)])).symm, rfl⟩
      · go_ret
        exact ⟨ret_int (chkGo_hd HR.out HX.out (by rw [if_neg (by omega), if_neg (by omega), if_pos (by assumption)])).symm, rfl⟩
      · go_round
        case rel => exact ⟨k + 1, x, by omega, by go_num, rfl, Lib.hid (chkGo_hd HR.out HX.out (by rw [if_neg (by omega), if_neg (by omega), if_neg (by omega)]))⟩
        case measure => simp [intOf]; omega
    · go_wp2
      go_ret
      refine ⟨?_, rfl⟩
      rw [HR.out, List.drop_of_length_le (by omega)]
      rfl

end Go.Proofs.Ytlaandbaaepamaa
