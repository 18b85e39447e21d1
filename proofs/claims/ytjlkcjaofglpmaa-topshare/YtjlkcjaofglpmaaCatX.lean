
/-
  Walks of packages catch and plan: Lag, Done, Bound, Rate, Room; what they owe, shown.
-/
import Derived.Test.YtjlkcjaofglpmaaCatZ
namespace Go.Proofs.Ytjlkcjaofglpmaa
set_option linter.all false
open Go.RowKit Go.Shelf Go.Lib

set_option maxHeartbeats 800000 in
theorem cout_any (r g : Int) (s : Bool) (w : World) (hs : Hid (decide (r < 0 ∨ 10000 < r ∨ g < 0 ∨ 1000000 < g) = s)) : Calls Try.prog 40 #[.int .i64 r, .int .i64 g] w fun e w' => e = .returned (.bool s) ∧ w = w' := by
  by_cases h1 : r < 0 ∨ 10000 < r
  · have q1 : Hid (decide (r < 0 ∨ 10000 < r) = true) := Lib.hid (decide_eq_true h1)
    have HS : Hid (s = true) := Lib.hid (by rw [← hs.out]; exact decide_eq_true (by omega))
    clear hs h1
    go_enter Try.func40, Try.ntmps40
    go_wp2_with fail
    refine (lim_any r 0 10000 true _ q1).mono ?_
    rintro e w' ⟨rfl, rfl⟩
    go_wp2
    go_ret
    exact ⟨ret_bool HS.out.symm, rfl⟩
  · have q1 : Hid (decide (r < 0 ∨ 10000 < r) = false) := Lib.hid (decide_eq_false h1)
    have q2 : Hid (decide (g < 0 ∨ 1000000 < g) = s) := Lib.hid (by
      rw [← hs.out]
      by_cases c : g < 0 ∨ 1000000 < g
      · rw [decide_eq_true c, decide_eq_true (by omega)]
      · rw [decide_eq_false c, decide_eq_false (by omega)])
    clear hs h1
    go_enter Try.func40, Try.ntmps40
    go_wp2_with fail
    refine (lim_any r 0 10000 false _ q1).mono ?_
    rintro e w' ⟨rfl, rfl⟩
    go_wp2_with fail
    refine (lim_any g 0 1000000 s _ q2).mono ?_
    rintro e w' ⟨rfl, rfl⟩
    go_wp2
    go_ret
    exact ⟨rfl, rfl⟩

theorem rowAt_setz {n : Nat} (F : Nat → Int) (h : 0 < n) : (madeCells #[Value.int .i64 0] n).setIfInBounds 0 (.int .i64 (F 0)) = (rowAt n 1 F).toArray := by
  rw [← rowAt_zero n F, rowAt_succ F h]

theorem dn_ix {l : List Int} {r g v E R : Int} (hE : lgE l r g = 0) (hv : DnIs l r g v E) (hR : ixIs (lgL l r g) R) : (∃ n : Nat, R = n ∧ v = n ∧ E = 0) ∨ (R = -1 ∧ v = 0 ∧ E = 5) := by
  have hl := length_lgL l r g
  rcases hv with ⟨_, n, hn, rfl, rfl⟩ | ⟨_, hn, rfl, rfl⟩ | ⟨h, _⟩
  · left
    have h1 := hn.hit
    have h2 := hn.le
    rcases hR with ⟨d, hd, e, ha, rfl⟩ | ⟨ha, rfl⟩
    · rw [gt_lgL (by omega)] at e
      have k1 := hn.least e
      by_cases c : n < d
      · have := ha n c
        rw [gt_lgL h2] at this
        exact absurd h1 this
      · obtain rfl : d = n := by omega
        exact ⟨d, rfl, rfl, rfl⟩
    · have := ha n (by omega)
      rw [gt_lgL h2] at this
      exact absurd h1 this
  · right
    rcases hR with ⟨d, hd, e, ha, rfl⟩ | ⟨ha, rfl⟩
    · rw [gt_lgL (by omega)] at e
      exact absurd e (hn d (by omega))
    · exact ⟨rfl, rfl, rfl⟩
  · exact absurd hE h
theorem dn_no {l : List Int} {r g v E : Int} (hE : ¬ lgE l r g = 0) (hv : DnIs l r g v E) : v = 0 ∧ E = lgE l r g := by
  rcases hv with ⟨h, _⟩ | ⟨h, _⟩ | ⟨_, rfl, rfl⟩
  · exact absurd h hE
  · exact absurd h hE
  · exact ⟨rfl, rfl⟩
def NoCx (l : List Int) (r g : Int) (k : Nat) : Prop := ∀ s, s < k → ¬ CatchOk l r g s
theorem NoCx.next {l : List Int} {r g : Int} {k : Nat} (h : NoCx l r g k) (h' : ¬ CatchOk l r g k) : NoCx l r g (k + 1) := fun s hs => by
  by_cases e : s = k
  · rw [e]; exact h'
  · exact h s (by omega)
theorem cb_hit {l : List Int} {r g v E : Int} {k : Nat} (hE : cbE l r g = 0) (hv : CbIs l r g v E) (hk : k < l.length) (hn : NoCx l r g k) (h : CatchOk l r g k) : v = k ∧ E = 0 := by
  rcases hv with ⟨_, d, hd, rfl, rfl⟩ | ⟨_, ha, _⟩ | ⟨q, _⟩
  · have h1 := hd.least h
    by_cases c : d < k
    · exact absurd hd.hit (hn d c)
    · obtain rfl : d = k := by omega
      exact ⟨rfl, rfl⟩
  · exact absurd h (ha k hk)
  · exact absurd hE q
theorem cb_none {l : List Int} {r g v E : Int} (hE : cbE l r g = 0) (hv : CbIs l r g v E) (hn : NoCx l r g l.length) : v = 0 ∧ E = 5 := by
  rcases hv with ⟨_, d, hd, _⟩ | ⟨_, _, rfl, rfl⟩ | ⟨q, _⟩
  · exact absurd hd.hit (hn d hd.lt)
  · exact ⟨rfl, rfl⟩
  · exact absurd hE q
theorem cb_no {l : List Int} {r g v E : Int} (hE : ¬ cbE l r g = 0) (hv : CbIs l r g v E) : v = 0 ∧ E = cbE l r g := by
  rcases hv with ⟨h, _⟩ | ⟨h, _⟩ | ⟨_, rfl, rfl⟩
  · exact absurd h hE
  · exact absurd h hE
  · exact ⟨rfl, rfl⟩
set_option maxHeartbeats 1600000 in
theorem cbound_any (A : Option Addr) (l : List Int) (c : Nat) (r g v E : Int) (w : World) (h : Ints w A l) (hv : CbIs l r g v E) :
    Calls Try.prog 29 #[.slice A l.length c, .int .i64 r, .int .i64 g] w fun e w' => e = .returned (.tuple #[.int .i64 v, .int .i64 E]) ∧ Below w.heap.size w w' := by
  by_cases h1 : chk l = 0
  · have e1 : (chk l != 0) = false := by simp [h1]
    by_cases h2 : r < 0 ∨ 10000 < r ∨ g < 0 ∨ 1000000 < g
    · have hE : cbE l r g = 1 := by rw [cbE, if_neg (by simpa using h1), if_pos h2]
      obtain ⟨rfl, hv2⟩ := cb_no (by rw [hE]; decide) hv
      rw [hE] at hv2
      have HV := Lib.hid hv2
      have q1 : Hid (decide (r < 0 ∨ 10000 < r ∨ g < 0 ∨ 1000000 < g) = true) := Lib.hid (decide_eq_true h2)
      clear h1 h2 hv hv2 hE
      go_enter Try.func29, Try.ntmps29
      go_wp2_with fail
      refine (check_any A l c _ h).mono ?_
      rintro e w' ⟨rfl, rfl⟩
      go_wp2_with fail
      refine (cout_any r g true _ q1).mono ?_
      rintro e w' ⟨rfl, rfl⟩
      go_wp2
      go_ret2
      exact ⟨by rw [HV.out]; rfl, Below.refl _ _⟩
    · have V := cv_of h1
      have q1 : Hid (decide (r < 0 ∨ 10000 < r ∨ g < 0 ∨ 1000000 < g) = false) := Lib.hid (decide_eq_false h2)
      have r0 : 0 ≤ r := by omega
      have r1 : r ≤ 10000 := by omega
      have g0 : 0 ≤ g := by omega
      have g1 : g ≤ 1000000 := by omega
      have hE : cbE l r g = 0 := cb_of ⟨V, r0, r1, g0, g1⟩
      have HH : Hid (∀ k, k < l.length → NoCx l r g k → CatchOk l r g k → v = k ∧ E = 0) := Lib.hid (fun k => cb_hit hE hv)
      have HN : Hid (NoCx l r g l.length → v = 0 ∧ E = 5) := Lib.hid (cb_none hE hv)
      have hle := V.le
      clear h1 h2 hE hv
      go_enter Try.func29, Try.ntmps29
      go_wp2_with fail
      refine (check_any A l c _ h).mono ?_
      rintro e w' ⟨rfl, rfl⟩
      go_wp2_with fail
      refine (cout_any r g false _ q1).mono ?_
      rintro e w' ⟨rfl, rfl⟩
      go_wp2
      go_loop [21] (fun i => ∃ k : Nat, k ≤ l.length ∧ i = .int .i64 k ∧ Hid (NoCx l r g k)) (fun i => l.length - (intOf i).toNat)
      case atStart => exact ⟨0, Nat.zero_le _, rfl, Lib.hid (fun s hs => by omega)⟩
      case round =>
        obtain ⟨k, hk, rfl, HK⟩ := hrel
        by_cases hlt : k < l.length
        · obtain ⟨b1, o1, x, rfl, hc1, HX⟩ := h.at_ hlt
          have hx := gt_of_get HX.out
          have x0 : 0 ≤ x := by rw [← hx]; exact V.lo k hlt
          have x1 : x ≤ 1000000 := by rw [← hx]; exact V.hi k hlt
          obtain ⟨P, hP⟩ : ∃ P, P = r * (k : Int) := ⟨_, rfl⟩
          have P0 : 0 ≤ P := by rw [hP]; exact Int.mul_nonneg r0 (by omega)
          have P1 : P ≤ 610000 := by rw [hP]; have := Int.mul_le_mul r1 (show (k : Int) ≤ 61 by omega) (by omega) (by omega); omega
          have s2 : IntKind.i64.wrap ((k : Int) * r) = P := by rw [Int.mul_comm, ← hP]; exact IntWalk.i64_in _ ⟨by omega, by omega⟩
          have s3 : IntKind.i64.wrap (g + x) = g + x := IntWalk.i64_in _ ⟨by omega, by omega⟩
          have i1 : (k : Int) < (l.length : Int) := by omega
          by_cases q : g + x ≤ P
          · obtain ⟨rfl, hE0⟩ := HH.out k hlt HK.out (by unfold CatchOk; rw [hx, ← hP]; exact q)
            have HE0 := Lib.hid hE0
            clear hE0 hx hP HH HN HK
            go_wp2
            go_ret2
            exact ⟨by rw [HE0.out]; rfl, Below.refl _ _⟩
          · have HD := Lib.hid (HK.out.next (show ¬ CatchOk l r g k by unfold CatchOk; rw [hx, ← hP]; exact q))
            clear hx hP
            go_wp2
            go_round
            case rel => exact ⟨k + 1, by omega, by go_num, HD⟩
            case measure => simp [intOf]; omega
        · obtain rfl : k = l.length := by omega
          obtain ⟨rfl, hE0⟩ := HN.out HK.out
          have HV := Lib.hid hE0
          clear hE0
          go_wp2
          go_ret2
          exact ⟨by rw [HV.out]; rfl, Below.refl _ _⟩
  · have hE : cbE l r g = chk l := by rw [cbE, if_pos h1]
    obtain ⟨rfl, hv2⟩ := cb_no (by rw [hE]; exact h1) hv
    rw [hE] at hv2
    have HV := Lib.hid hv2
    have e1 : (chk l != 0) = true := by simp [h1]
    clear h1 hv hv2 hE
    go_enter Try.func29, Try.ntmps29
    go_wp2_with fail
    refine (check_any A l c _ h).mono ?_
    rintro e w' ⟨rfl, rfl⟩
    go_wp2
    go_ret2
    exact ⟨by rw [HV.out]; rfl, Below.refl _ _⟩

end Go.Proofs.Ytjlkcjaofglpmaa
