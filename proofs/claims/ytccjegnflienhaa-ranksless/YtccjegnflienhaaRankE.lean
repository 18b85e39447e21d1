
/-
  Walks: headkeep's finished and rank; the document's own schedule by rank.
-/
import Derived.Test.YtccjegnflienhaaRankB
import Derived.Test.YtccjegnflienhaaRankD
import Derived.Test.YtccjegnflienhaaConvB
namespace Go.Proofs.Ytccjegnflienhaa
set_option linter.all false
open Go.RowKit Go.Shelf Go.Lib

theorem rkD_step {l : List Tk} {t i : Nat} {R : Int} (h : rkR l t = R) : rkD l (t + 1) i = rkD l t i + if R = (i : Int) then 1 else 0 := by rw [rkD_next, h]
set_option maxHeartbeats 1600000 in
theorem finished_any (A : Option Addr) (l : List Tk) (n c i : Nat) (a k need : Int) (w : World) (h : Ints w A (tab n (rkR l))) (hn : n ≤ 200) (a0 : 1 ≤ a) (a1 : a ≤ 60) (k0 : 0 ≤ k) (k1 : k ≤ 200) (hneed : Hid (a * (k + 1) = need)) :
    Calls Try.prog 22 #[.slice A n c, .int .i64 i, .int .i64 a, .int .i64 k] w fun e w' => (∃ d, IsFin l i n need d ∧ e = .returned (.int .i64 d)) ∧ w' = w := by
  have nb : 1 ≤ need ∧ need ≤ 12060 := by
    have e := hneed.out
    have h1 : a * (k + 1) ≤ 60 * (k + 1) := Int.mul_le_mul_of_nonneg_right a1 (by omega)
    have h2 : 1 * (k + 1) ≤ a * (k + 1) := Int.mul_le_mul_of_nonneg_right a0 (by omega)
    omega
  obtain ⟨n0, n1⟩ := nb
  have m1 : IntKind.i64.wrap (k + 1) = k + 1 := IntWalk.i64_in _ ⟨by omega, by omega⟩
  have m2 : IntKind.i64.wrap (a * (k + 1)) = need := by rw [hneed.out]; exact IntWalk.i64_in _ ⟨by omega, by omega⟩
  clear hneed
  go_enter Try.func22, Try.ntmps22
  go_wp2
  go_loop [9, 18] (fun u s => ∃ t : Nat, t ≤ n ∧ s = .int .i64 t ∧ ∃ d : Int, u = .int .i64 d ∧ 0 < d ∧ d ≤ need ∧ Hid (d = need - rkD l t i)) (fun _ s => n - (intOf s).toNat)
  case atStart => exact ⟨0, Nat.zero_le _, rfl, need, rfl, by omega, by omega, Lib.hid (by simp [rkD])⟩
  case round =>
    obtain ⟨t, ht, rfl, d, rfl, d0, d1, HD⟩ := hrel
    by_cases hlt : t < n
    · obtain ⟨b1, o1, x, rfl, hc1, HX⟩ := h.at_ (k := t) (by rw [length_tab]; exact hlt)
      have hx : rkR l t = x := by have := HX.out; rw [get_tab _ hlt] at this; exact Option.some.inj this
      have HS := Lib.hid (rkD_step (i := i) hx)
      have i2 : (t : Int) < (n : Int) := by omega
      clear hx
      by_cases g : x = (i : Int)
      · have e1 : (x == (i : Int)) = true := by simp [g]
        have m3 : IntKind.i64.wrap (d - 1) = d - 1 := IntWalk.i64_in _ ⟨by omega, by omega⟩
        have HN : Hid (d - 1 = need - rkD l (t + 1) i) := Lib.hid (by rw [HS.out, if_pos g]; have := HD.out; omega)
        clear g
        by_cases z : d - 1 = 0
        · have e2 : (d - 1 == 0) = true := by simp [z]
          have HF : Hid (IsFin l i n need ((t : Int) + 1)) := Lib.hid (.inr ⟨t, hlt, rfl, by have := HN.out; omega, by have := HD.out; omega⟩)
          have m4 : IntKind.i64.wrap ((t : Int) + 1) = (t : Int) + 1 := IntWalk.i64_in _ ⟨by omega, by omega⟩
          clear z
          go_wp2
          go_ret
          exact ⟨⟨_, HF.out, rfl⟩, rfl⟩
        · have e2 : (d - 1 == 0) = false := by simp [z]
          have z1 : 0 < d - 1 := by omega
          clear z
          go_wp2
          go_round
          case rel => exact ⟨t + 1, by omega, by go_num, d - 1, rfl, z1, by omega, HN⟩
          case measure => simp [intOf]; omega
      · have e1 : (x == (i : Int)) = false := by simp [g]
        have e2 : (d == 0) = false := by rw [beq_eq_false_iff_ne]; omega
        have HN : Hid (d = need - rkD l (t + 1) i) := Lib.hid (by rw [HS.out, if_neg g]; have := HD.out; omega)
        clear g
        go_wp2
        go_round
        case rel => exact ⟨t + 1, by omega, by go_num, d, rfl, d0, d1, HN⟩
        case measure => simp [intOf]; omega
    · obtain rfl : t = n := by omega
      have HF : Hid (IsFin l i t need 0) := Lib.hid (.inl ⟨rfl, by have := HD.out; omega⟩)
      go_wp2
      go_ret
      exact ⟨⟨_, HF.out, rfl⟩, rfl⟩

def rkX : List Tk := [⟨4, 1, 4⟩, ⟨6, 3, 6⟩]
set_option maxHeartbeats 400000 in
theorem rank_any (w : World) : Calls Try.prog 21 #[] w fun e w' => (∃ g, e = .returned (.slice (some ⟨g, 0, none⟩) 2 2) ∧ Tas w' (some ⟨g, 0, none⟩) rkX) ∧ Below w.heap.size w w' := by
  go_enter Try.func21, Try.ntmps21
  go_wp2
  go_ret
  exact ⟨⟨_, rfl, Tas.lit _ rkX _ _ rfl (by decide)⟩, (Below.refl _ _).alloc (Nat.le_refl _) _⟩
theorem rkX_ok : tasE rkX = 0 := by decide
theorem rkX_rt0 : rtV rkX 0 = 1 := by decide
theorem rkX_rt1 : rtV rkX 1 = 4 := by decide
theorem rkX_fits : ftB rkX = true := by decide

end Go.Proofs.Ytccjegnflienhaa
