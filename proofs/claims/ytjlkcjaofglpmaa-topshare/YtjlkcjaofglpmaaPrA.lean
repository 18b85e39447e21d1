
/-
  Walks: slices.IndexFunc, slices.ContainsFunc over whatever function that tests a number.
-/
import Derived.Test.YtjlkcjaofglpmaaPointB
import Derived.Test.YtjlkcjaofglpmaaPlain
namespace Go.Proofs.Ytjlkcjaofglpmaa
set_option linter.all false
open Go.RowKit Go.Shelf

/-- A function value 'func(int) bool' that answers p of a number, the world as it was. -/
structure Pr (k : FuncId) (p : Int → Bool) : Prop where
  ent : ∀ args w, (callFunc k args).run Try.prog w = .ok (.enter k args) w
  call : ∀ (x : Int) (w : World), Calls Try.prog k #[.int .i64 x] w fun e w' => e = .returned (.bool (p x)) ∧ w = w'

theorem any_step {p : Int → Bool} {l : List Int} {k : Nat} {x : Int} {r : Bool} (h : l.any p = (l.drop k).any p) (hx : l[k]? = some x) (hr : r = (p x || (l.drop (k + 1)).any p)) : l.any p = r := by
  rw [h, drop_of_get hx, List.any_cons, hr]
/-- A place, or -1. -/
def IdxOf (b : Bool) (e : Ending) : Prop := ∃ i : Int, e = .returned (.int .i64 i) ∧ decide (0 ≤ i) = b

set_option maxHeartbeats 400000 in
theorem indexFunc_any (k : FuncId) (p : Int → Bool) (hk : Pr k p) (A : Option Addr) (l : List Int) (c : Nat) (w : World) (h : Ints w A l) :
    Calls Try.prog 32 #[.slice A l.length c, .func (.func k) #[] #[]] w fun e w' => IdxOf (l.any p) e ∧ w = w' := by
  have hl := h.1
  have hent := hk.ent
  go_enter Try.func32, Try.ntmps32
  go_wp2
  go_loop [8] (fun i => ∃ (k : Nat), k ≤ l.length ∧ i = .int .i64 k ∧ Hid (l.any p = (l.drop k).any p)) (fun i => l.length - (intOf i).toNat)
  case atStart => exact ⟨0, Nat.zero_le _, rfl, Lib.hid (by simp)⟩
  case round =>
    obtain ⟨t, ht, rfl, HR⟩ := hrel
    by_cases hlt : t < l.length
    · obtain ⟨bb, off, x, rfl, hcell, HX⟩ := h.at_ hlt
      cases q : p x
      · have HQ := Lib.hid q
        clear q
        go_wp2_with fail
        refine (hk.call x _).mono ?_
        rintro e w' ⟨rfl, rfl⟩
        rw [HQ.out]
        go_wp2
        go_round
        case rel => exact ⟨t + 1, by omega, by go_num, Lib.hid (any_step HR.out HX.out (by rw [HQ.out]; rfl))⟩
        case measure => simp [intOf]; omega
      · have HQ := Lib.hid q
        clear q
        go_wp2_with fail
        refine (hk.call x _).mono ?_
        rintro e w' ⟨rfl, rfl⟩
        rw [HQ.out]
        go_wp2
        go_ret
        exact ⟨⟨t, rfl, by rw [any_step HR.out HX.out (r := true) (by rw [HQ.out]; rfl)]; exact decide_eq_true (by omega)⟩, rfl⟩
    · go_wp2
      go_ret
      exact ⟨⟨-1, rfl, by rw [HR.out, List.drop_of_length_le (by omega)]; rfl⟩, rfl⟩

set_option maxHeartbeats 400000 in
theorem containsFunc_any (k : FuncId) (p : Int → Bool) (hk : Pr k p) (A : Option Addr) (l : List Int) (c : Nat) (w : World) (h : Ints w A l) :
    Calls Try.prog 13 #[.slice A l.length c, .func (.func k) #[] #[]] w fun e w' => e = .returned (.bool (l.any p)) ∧ w = w' := by
  go_enter Try.func13, Try.ntmps13
  go_wp2_with fail
  refine (indexFunc_any k p hk A l c _ h).mono ?_
  rintro e w' ⟨⟨i, rfl, hi⟩, rfl⟩
  have HI := Lib.hid hi
  clear hi
  go_wp2
  go_ret
  exact ⟨ret_bool HI.out, rfl⟩

end Go.Proofs.Ytjlkcjaofglpmaa
