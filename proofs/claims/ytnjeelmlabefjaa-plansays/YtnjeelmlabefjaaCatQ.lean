
/-
  Walks of the document's own Rate (headref.Rate): by halves, of what By says.
-/
import Derived.Test.YtnjeelmlabefjaaCatR
import Derived.Test.YtnjeelmlabefjaaCatU
namespace Go.Proofs.Ytnjeelmlabefjaa
set_option linter.all false
open Go.RowKit Go.Shelf Go.Lib


/-- By's answer against d. -/
theorem by_rate {l : List Int} {r g R : Int} {D : Nat} (h : ByIs l r g R) (hD : D < l.length) : (0 ≤ R ∧ R ≤ D) ↔ RateOk l g D r := by
  rcases h with ⟨d, hd, rfl⟩ | ⟨hn, rfl⟩
  · constructor
    · intro h; exact ⟨d, by omega, hd.hit⟩
    · rintro ⟨t, ht, hc⟩
      have := hd.least hc
      omega
  · constructor
    · intro h; omega
    · rintro ⟨t, ht, hc⟩
      exact absurd hc (hn t (by omega))
set_option maxHeartbeats 800000 in
theorem rate1_is (b0 b1 b2 : Nat) (A : Option Addr) (l : List Int) (c : Nat) (g : Int) (D : Nat) (k : Int) (w : World) (h : RtW w b0 b1 b2 A l c g D) (v : Cv l) (k0 : 0 ≤ k) (k1 : k ≤ 10001) (g0 : 0 ≤ g) (g1 : g ≤ 1000000) (hD : D < l.length) :
    Calls Try.prog 46 #[.int .i64 k, .pointer (some ⟨b0, 0, none⟩), .pointer (some ⟨b1, 0, none⟩), .pointer (some ⟨b2, 0, none⟩)] w fun e w' => SaysB (RateOk l g D k) e ∧ Below w.heap.size w w' := by
  have c0 : w.cell? ⟨b0, 0, none⟩ = some (.slice A l.length c) := by simpa using h.fl.cell 0
  have c1 : w.cell? ⟨b1, 0, none⟩ = some (.int .i64 g) := by simpa using h.fg.cell 0
  have hi := h.is
  go_enter Try.func46, Try.ntmps46
  go_wp2_with fail
  refine (refBy_any A l _ c k g _ hi v k0 k1 g0 g1 rfl).mono ?_
  rintro e w1 ⟨⟨R, hR, rfl⟩, b1'⟩
  have c2 : w1.cell? ⟨b2, 0, none⟩ = some (.int .i64 D) := by simpa using (h.below b1').fd.cell 0
  have HR := Lib.hid (by_rate hR hD)
  clear hR h hi c0 c1
  by_cases q : 0 ≤ R
  · have HN : Hid (R ≤ (D : Int) ↔ RateOk l g D k) := Lib.hid ⟨fun e => HR.out.1 ⟨q, e⟩, fun e => (HR.out.2 e).2⟩
    go_wp2
    go_ret
    exact ⟨⟨decide (R ≤ (D : Int)), by rw [decide_eq_true_iff]; exact HN.out, rfl⟩, b1'⟩
  · have HN : Hid (¬ RateOk l g D k) := Lib.hid (fun k => q (HR.out.2 k).1)
    go_wp2
    go_ret
    exact ⟨⟨false, ⟨fun e => by simp at e, fun k => absurd k HN.out⟩, rfl⟩, b1'⟩

/-- What the document's Rate answers. -/
def RrIs (l : List Int) (g : Int) (D : Nat) (R : Int) : Prop := IsRate l g D R ∨ ((∀ s : Int, 0 ≤ s → s ≤ 10000 → ¬ RateOk l g D s) ∧ R = -1)
set_option maxHeartbeats 1600000 in
theorem refRate_any (A : Option Addr) (l : List Int) (n c : Nat) (g d : Int) (D : Nat) (w : World) (h : Ints w A l) (v : Cv l) (g0 : 0 ≤ g) (g1 : g ≤ 1000000) (hd : d = D) (hD : D < l.length) (hn : n = l.length) :
    Calls Try.prog 26 #[.slice A n c, .int .i64 g, .int .i64 d] w fun e w' => (∃ R, RrIs l g D R ∧ e = .returned (.int .i64 R)) ∧ Below w.heap.size w w' := by
  subst hn hd
  have hent := enters_of Try.func46 (by kernel_rfl) rfl
  obtain ⟨b0, hb0⟩ : ∃ b0, b0 = w.heap.size := ⟨_, rfl⟩
  obtain ⟨b1, hb1⟩ : ∃ b1, b1 = w.heap.size + 1 := ⟨_, rfl⟩
  obtain ⟨b2, hb2⟩ : ∃ b2, b2 = w.heap.size + 1 + 1 := ⟨_, rfl⟩
  obtain ⟨W, hW⟩ : ∃ W, W = ((w.alloc (.cells #[.slice A l.length c] 22)).alloc (.cells #[.int .i64 g] 3)).alloc (.cells #[.int .i64 D] 3) := ⟨_, rfl⟩
  have bW : Below w.heap.size w W := by
    rw [hW]
    exact (((Below.refl _ w).alloc (Nat.le_refl _) _).alloc (by simp) _).alloc (by simp; omega) _
  have q0 : Blk W b0 22 #[.slice A l.length c] := by rw [hW, hb0]; exact ((Blk.new w _ _).alloc _).alloc _
  have q1 : Blk W b1 3 #[.int .i64 g] := by
    have := (Blk.new (w.alloc (.cells #[.slice A l.length c] 22)) 3 #[.int .i64 g]).alloc (.cells #[.int .i64 D] 3)
    rw [hW, hb1]
    simpa using this
  have q2 : Blk W b2 3 #[.int .i64 D] := by
    have := Blk.new ((w.alloc (.cells #[.slice A l.length c] 22)).alloc (.cells #[.int .i64 g] 3)) 3 #[.int .i64 D]
    rw [hW, hb2]
    simpa using this
  have HB : RtW W b0 b1 b2 A l c g D := ⟨q0, q1, q2, h.below bW⟩
  have HW := Lib.hid hW
  have H0 := Lib.hid hb0
  have H1 := Lib.hid hb1
  have H2 := Lib.hid hb2
  have HD := Lib.hid hD
  clear hW hb0 hb1 hb2 q0 q1 q2 h hD
  go_enter Try.func26, Try.ntmps26
  go_wp2
  rw [← HW.out, ← H2.out, ← H1.out, ← H0.out]
  go_loopw [8, 9] (fun lo hi wr => ∃ x y : Nat, x ≤ y ∧ y ≤ 10001 ∧ lo = .int .i64 x ∧ hi = .int .i64 y ∧ Hid (NoRt l g D x) ∧ Hid (YesRt l g D y) ∧ Below W.heap.size W wr) (fun lo hi _ => (intOf hi - intOf lo).toNat)
  case atStart => exact ⟨0, 10001, by omega, Nat.le_refl _, rfl, rfl, Lib.hid (fun s s0 s1 => by omega), Lib.hid (.inl rfl), Below.refl _ _⟩
  case round =>
    obtain ⟨x, y, hxy, hy, rfl, rfl, HX, HY, hbel⟩ := hrel
    by_cases hlt : x < y
    · obtain ⟨M, hM⟩ : ∃ M : Nat, M = (x + y) / 2 := ⟨_, rfl⟩
      have M0 : x ≤ M := by omega
      have M1 : M < y := by omega
      have m3 : Int.tdiv ((x : Int) + (y : Int)) 2 = (M : Int) := by rw [hM, Int.tdiv_eq_ediv_of_nonneg (by omega)]; simp
      have m4 : IntKind.i64.wrap (M : Int) = (M : Int) := IntWalk.i64_in _ ⟨by omega, by omega⟩
      have i1 : (x : Int) < (y : Int) := by omega
      have hcall := fun k0 k1 => rate1_is b0 b1 b2 A l c g D (M : Int) wr (HB.below hbel) v k0 k1 g0 g1 HD.out
      clear hM
      go_wp2_with fail
      refine (hcall (by omega) (by omega)).mono ?_
      rintro e w1 ⟨⟨s, hs, rfl⟩, b1'⟩
      have hb' := below_trans hbel b1'
      have HS := Lib.hid hs
      clear hs b1' hcall
      cases s with
      | true =>
        have HN : Hid (YesRt l g D M) := Lib.hid (.inr (HS.out.1 rfl))
        go_wp2
        go_roundw
        case rel => exact ⟨x, M, M0, by omega, rfl, rfl, HX, HN, hb'⟩
        case measure => simp [intOf]; omega
      | false =>
        have HN : Hid (NoRt l g D (M + 1)) := Lib.hid (fun s s0 s1 k => by
          have := HS.out.2 (k.up (show s ≤ (M : Int) by omega))
          simp at this)
        go_wp2
        go_roundw
        case rel => exact ⟨M + 1, y, by omega, hy, by go_num, rfl, HN, HY, hb'⟩
        case measure => simp [intOf]; omega
    · obtain rfl : x = y := by omega
      have hbb := below_trans bW hbel
      by_cases q : 10000 < x
      · obtain rfl : x = 10001 := by omega
        go_wp2
        go_ret
        exact ⟨⟨-1, .inr ⟨fun s s0 s1 => HX.out s s0 (by omega), rfl⟩, rfl⟩, hbb⟩
      · have HN : Hid (IsRate l g D (x : Int)) := Lib.hid (by
          rcases HY.out with e | e
          · omega
          · exact ⟨by omega, by omega, e, fun s s0 s1 => HX.out s s0 s1⟩)
        have i1 : ¬ (10000 : Int) < (x : Int) := by omega
        go_wp2
        go_ret
        exact ⟨⟨x, .inl HN.out, rfl⟩, hbb⟩

end Go.Proofs.Ytnjeelmlabefjaa
