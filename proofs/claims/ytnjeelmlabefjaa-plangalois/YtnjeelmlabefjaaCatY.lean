
/-
  Walks of package plan: Rate, Room; what it owes, shown.
-/
import Derived.Test.YtnjeelmlabefjaaCatX
import Derived.Test.YtnjeelmlabefjaaCatU
namespace Go.Proofs.Ytnjeelmlabefjaa
set_option linter.all false
open Go.RowKit Go.Shelf Go.Lib

/-- Bound's answer against D. -/
theorem cb_rate {l : List Int} {r g V E : Int} {D : Nat} (h : CbIs l r g V E) (hE : cbE l r g = 0) (hD : D < l.length) : (E = 0 ∧ (V ≤ D ↔ RateOk l g D r)) ∨ (E = 5 ∧ ¬ RateOk l g D r) := by
  rcases h with ⟨_, d, hd, rfl, rfl⟩ | ⟨_, ha, rfl, rfl⟩ | ⟨q, _⟩
  · left
    refine ⟨rfl, fun h => ⟨d, by omega, hd.hit⟩, ?_⟩
    rintro ⟨t, ht, hc⟩
    have := hd.least hc
    omega
  · right
    refine ⟨rfl, ?_⟩
    rintro ⟨t, ht, hc⟩
    exact absurd hc (ha t (by omega))
  · exact absurd hE q
set_option maxHeartbeats 800000 in
theorem prate1_is (b0 b1 b2 : Nat) (A : Option Addr) (l : List Int) (c : Nat) (g : Int) (D : Nat) (k : Int) (w : World) (h : RtW w b0 b1 b2 A l c g D) (v : Cv l) (k0 : 0 ≤ k) (k1 : k ≤ 10000) (g0 : 0 ≤ g) (g1 : g ≤ 1000000) (hD : D < l.length) :
    Calls Try.prog 45 #[.int .i64 k, .pointer (some ⟨b0, 0, none⟩), .pointer (some ⟨b1, 0, none⟩), .pointer (some ⟨b2, 0, none⟩)] w fun e w' => SaysB (RateOk l g D k) e ∧ Below w.heap.size w w' := by
  have c0 : w.cell? ⟨b0, 0, none⟩ = some (.slice A l.length c) := by simpa using h.fl.cell 0
  have c1 : w.cell? ⟨b1, 0, none⟩ = some (.int .i64 g) := by simpa using h.fg.cell 0
  have hi := h.is
  obtain ⟨V, E, hV⟩ := ex_cb l k g
  have HQ := Lib.hid (cb_rate hV (cb_of ⟨v, k0, k1, g0, g1⟩) hD)
  have HV := Lib.hid hV
  clear hV
  go_enter Try.func45, Try.ntmps45
  go_wp2_with fail
  refine (cbound_any A l c k g V E _ hi HV.out).mono ?_
  rintro e w1 ⟨rfl, b1'⟩
  have c2 : w1.cell? ⟨b2, 0, none⟩ = some (.int .i64 D) := by simpa using (h.below b1').fd.cell 0
  clear h hi c0 c1 HV
  rcases HQ.out with ⟨rfl, hN⟩ | ⟨rfl, hN⟩
  · have HN := Lib.hid hN
    clear hN HQ
    go_wp2
    go_ret
    exact ⟨⟨decide (V ≤ (D : Int)), by rw [decide_eq_true_iff]; exact HN.out, rfl⟩, b1'⟩
  · have HN := Lib.hid hN
    clear hN HQ
    go_wp2
    go_ret
    exact ⟨⟨false, ⟨fun e => by simp at e, fun k => absurd k HN.out⟩, rfl⟩, b1'⟩

def FoundR (l : List Int) (g : Int) (D : Nat) (e : Ending) : Prop := ∃ R : Nat, R ≤ 10001 ∧ NoRt l g D R ∧ YesRt l g D R ∧ e = .returned (.int .i64 R)
set_option maxHeartbeats 1600000 in
theorem psearch_any (b0 b1 b2 : Nat) (A : Option Addr) (l : List Int) (c : Nat) (g : Int) (D : Nat) (w : World) (h : RtW w b0 b1 b2 A l c g D) (v : Cv l) (g0 : 0 ≤ g) (g1 : g ≤ 1000000) (hD : D < l.length) :
    Calls Try.prog 44 #[.int .i64 10001, .func (.func 45) #[] #[.pointer (some ⟨b0, 0, none⟩), .pointer (some ⟨b1, 0, none⟩), .pointer (some ⟨b2, 0, none⟩)]] w fun e w' => FoundR l g D e ∧ Below w.heap.size w w' := by
  have hent := enters_of Try.func45 (by kernel_rfl) rfl
  have HD := Lib.hid hD
  clear hD
  go_enter Try.func44, Try.ntmps44
  go_wp2
  go_loopw [5, 6] (fun lo hi wr => ∃ x y : Nat, x ≤ y ∧ y ≤ 10001 ∧ lo = .int .i64 x ∧ hi = .int .i64 y ∧ Hid (NoRt l g D x) ∧ Hid (YesRt l g D y) ∧ Below w.heap.size w wr) (fun lo hi _ => (intOf hi - intOf lo).toNat)
  case atStart => exact ⟨0, 10001, by omega, Nat.le_refl _, rfl, rfl, Lib.hid (fun s s0 s1 => by omega), Lib.hid (.inl rfl), Below.refl _ _⟩
  case round =>
    obtain ⟨x, y, hxy, hy, rfl, rfl, HX, HY, hbel⟩ := hrel
    by_cases hlt : x < y
    · obtain ⟨M, hM⟩ : ∃ M : Nat, M = (x + y) / 2 := ⟨_, rfl⟩
      have M0 : x ≤ M := by omega
      have M1 : M < y := by omega
      have hk : ((x : Int) + (y : Int)) / 2 = (M : Int) := by omega
      have i1 : (x : Int) < (y : Int) := by omega
      have hcall := fun k0 k1 => prate1_is b0 b1 b2 A l c g D (M : Int) wr (h.below hbel) v k0 k1 g0 g1 HD.out
      clear hM
      go_wp2_with fail
      refine (hcall (by omega) (by omega)).mono ?_
      rintro e w1 ⟨⟨s, hs, rfl⟩, b1'⟩
      have hb' := below_trans hbel b1'
      have HS := Lib.hid hs
      clear hs b1' hcall
      cases s with
      | true =>
        have HN : Hid (YesRt l g D M) := Lib.hid (.inr (HS.out.1 rfl))
        go_wp2
        go_roundw
        case rel => exact ⟨x, M, M0, by omega, rfl, rfl, HX, HN, hb'⟩
        case measure => simp [intOf]; omega
      | false =>
        have HN : Hid (NoRt l g D (M + 1)) := Lib.hid (fun s s0 s1 k => by
          have := HS.out.2 (k.up (show s ≤ (M : Int) by omega))
          simp at this)
        go_wp2
        go_roundw
        case rel => exact ⟨M + 1, y, by omega, hy, by go_num, rfl, HN, HY, hb'⟩
        case measure => simp [intOf]; omega
    · obtain rfl : x = y := by omega
      go_wp2
      go_ret
      exact ⟨⟨x, hy, HX.out, HY.out, rfl⟩, hbel⟩

/-- What was found is what Rate answers. -/
theorem rt_found {l : List Int} {g d v E : Int} {D R : Nat} (hE : rtE l g d = 0) (hd : d = D) (hv : RtIs l g d v E) (hR : R ≤ 10001) (hn : NoRt l g D R) (hy : YesRt l g D R) : (R ≤ 10000 ∧ v = R ∧ E = 0) ∨ (R = 10001 ∧ v = 0 ∧ E = 5) := by
  subst hd
  rcases hv with ⟨_, hr, rfl⟩ | ⟨_, ha, rfl, rfl⟩ | ⟨q, _⟩
  · left
    have e : ((D : Int)).toNat = D := by omega
    rw [e] at hr
    have h0 := hr.lo
    have h1 := hr.hi
    have k1 : ¬ v < R := fun c => hn v h0 c hr.hit
    rcases hy with rfl | hy
    · omega
    · have := (hr.iff (by omega)).1 hy
      exact ⟨by omega, by omega, rfl⟩
  · right
    have e : ((D : Int)).toNat = D := by omega
    rw [e] at ha
    rcases hy with rfl | hy
    · exact ⟨rfl, rfl, rfl⟩
    · by_cases c : R = 10001
      · exact ⟨c, rfl, rfl⟩
      · exact absurd hy (ha R (by omega) (by omega))
  · exact absurd hE q
theorem rt_no {l : List Int} {g d v E : Int} (hE : ¬ rtE l g d = 0) (hv : RtIs l g d v E) : v = 0 ∧ E = rtE l g d := by
  rcases hv with ⟨h, _⟩ | ⟨h, _⟩ | ⟨_, rfl, rfl⟩
  · exact absurd h hE
  · exact absurd h hE
  · exact ⟨rfl, rfl⟩
/-- Where the three numbers are boxed. -/
theorem rtw_boxed (w : World) (A : Option Addr) (l : List Int) (c : Nat) (g d : Int) (h : Ints w A l) : ∃ (W : World) (b0 b1 b2 : Nat), Hid (W = ((w.alloc (.cells #[.slice A l.length c] 22)).alloc (.cells #[.int .i64 g] 3)).alloc (.cells #[.int .i64 d] 3)) ∧ Hid (b0 = w.heap.size) ∧ Hid (b1 = w.heap.size + 1) ∧ Hid (b2 = w.heap.size + 1 + 1) ∧ RtW W b0 b1 b2 A l c g d ∧ Below w.heap.size w W := by
  refine ⟨_, _, _, _, Lib.hid rfl, Lib.hid rfl, Lib.hid rfl, Lib.hid rfl, ⟨((Blk.new w _ _).alloc _).alloc _, ?_, ?_, ?_⟩, ?_⟩
  · have := (Blk.new (w.alloc (.cells #[.slice A l.length c] 22)) 3 #[.int .i64 g]).alloc (.cells #[.int .i64 d] 3)
    simpa using this
  · have := Blk.new ((w.alloc (.cells #[.slice A l.length c] 22)).alloc (.cells #[.int .i64 g] 3)) 3 #[.int .i64 d]
    simpa using this
  · exact h.below ((((Below.refl _ w).alloc (Nat.le_refl _) _).alloc (by simp) _).alloc (by simp; omega) _)
  · exact (((Below.refl _ w).alloc (Nat.le_refl _) _).alloc (by simp) _).alloc (by simp; omega) _

set_option maxHeartbeats 1600000 in
theorem prate_any (A : Option Addr) (l : List Int) (c : Nat) (g d v E : Int) (w : World) (h : Ints w A l) (hv : RtIs l g d v E) :
    Calls Try.prog 24 #[.slice A l.length c, .int .i64 g, .int .i64 d] w fun e w' => e = .returned (.tuple #[.int .i64 v, .int .i64 E]) ∧ Below w.heap.size w w' := by
  by_cases h1 : chk l = 0
  · have e1 : (chk l != 0) = false := by simp [h1]
    have V := cv_of h1
    have hle := V.le
    have hp := V.pos
    have m1 : IntKind.i64.wrap ((l.length : Int) - 1) = (l.length : Int) - 1 := IntWalk.i64_in _ ⟨by omega, by omega⟩
    by_cases h2 : d < 0 ∨ (l.length : Int) - 1 < d
    · have hE : rtE l g d = 1 := by rw [rtE, if_neg (by simpa using h1), if_pos (by omega)]
      obtain ⟨rfl, hv2⟩ := rt_no (by rw [hE]; decide) hv
      rw [hE] at hv2
      have HV := Lib.hid hv2
      have q1 : Hid (decide (d < 0 ∨ (l.length : Int) - 1 < d) = true) := Lib.hid (decide_eq_true h2)
      clear h1 h2 hv hv2 hE
      obtain ⟨W, b0, b1, b2, HW, H0, H1, H2, HB, bW⟩ := rtw_boxed w A l c g d h
      have hi := HB.is
      have c0 : W.cell? ⟨b0, 0, none⟩ = some (.slice A l.length c) := by simpa using HB.fl.cell 0
      have c1 : W.cell? ⟨b1, 0, none⟩ = some (.int .i64 g) := by simpa using HB.fg.cell 0
      have c2 : W.cell? ⟨b2, 0, none⟩ = some (.int .i64 d) := by simpa using HB.fd.cell 0
      go_enter Try.func24, Try.ntmps24
      go_wp2_with fail
      rw [← HW.out, ← H2.out, ← H1.out, ← H0.out]
      refine (check_any A l c _ hi).mono ?_
      rintro e w' ⟨rfl, rfl⟩
      go_wp2_with fail
      refine (lim_any d 0 ((l.length : Int) - 1) true _ q1).mono ?_
      rintro e w' ⟨rfl, rfl⟩
      go_wp2
      go_ret2
      exact ⟨by rw [HV.out]; rfl, bW⟩
    · have q1 : Hid (decide (d < 0 ∨ (l.length : Int) - 1 < d) = false) := Lib.hid (decide_eq_false h2)
      by_cases h3 : g < 0 ∨ 1000000 < g
      · have hE : rtE l g d = 1 := by rw [rtE, if_neg (by simpa using h1), if_pos (by omega)]
        obtain ⟨rfl, hv2⟩ := rt_no (by rw [hE]; decide) hv
        rw [hE] at hv2
        have HV := Lib.hid hv2
        have q2 : Hid (decide (g < 0 ∨ 1000000 < g) = true) := Lib.hid (decide_eq_true h3)
        clear h1 h2 h3 hv hv2 hE
        obtain ⟨W, b0, b1, b2, HW, H0, H1, H2, HB, bW⟩ := rtw_boxed w A l c g d h
        have hi := HB.is
        have c0 : W.cell? ⟨b0, 0, none⟩ = some (.slice A l.length c) := by simpa using HB.fl.cell 0
        have c1 : W.cell? ⟨b1, 0, none⟩ = some (.int .i64 g) := by simpa using HB.fg.cell 0
        have c2 : W.cell? ⟨b2, 0, none⟩ = some (.int .i64 d) := by simpa using HB.fd.cell 0
        go_enter Try.func24, Try.ntmps24
        go_wp2_with fail
        rw [← HW.out, ← H2.out, ← H1.out, ← H0.out]
        refine (check_any A l c _ hi).mono ?_
        rintro e w' ⟨rfl, rfl⟩
        go_wp2_with fail
        refine (lim_any d 0 ((l.length : Int) - 1) false _ q1).mono ?_
        rintro e w' ⟨rfl, rfl⟩
        go_wp2_with fail
        refine (lim_any g 0 1000000 true _ q2).mono ?_
        rintro e w' ⟨rfl, rfl⟩
        go_wp2
        go_ret2
        exact ⟨by rw [HV.out]; rfl, bW⟩
      · have q2 : Hid (decide (g < 0 ∨ 1000000 < g) = false) := Lib.hid (decide_eq_false h3)
        obtain ⟨D, rfl⟩ : ∃ D : Nat, d = D := ⟨d.toNat, by omega⟩
        have g0 : 0 ≤ g := by omega
        have g1 : g ≤ 1000000 := by omega
        have hD : D < l.length := by omega
        have hE : rtE l g D = 0 := rt_of ⟨V, by omega, by omega, g0, g1⟩
        have HF : Hid (∀ R : Nat, R ≤ 10001 → NoRt l g D R → YesRt l g D R → (R ≤ 10000 ∧ v = R ∧ E = 0) ∨ (R = 10001 ∧ v = 0 ∧ E = 5)) := Lib.hid (fun R => rt_found hE rfl hv)
        clear h1 h2 h3 hv hE
        obtain ⟨d, hd⟩ : ∃ d : Int, d = D := ⟨_, rfl⟩
        rw [← hd] at q1 ⊢
        have HDd := Lib.hid hd
        clear hd
        obtain ⟨W, b0, b1, b2, HW, H0, H1, H2, HB, bW⟩ := rtw_boxed w A l c g d h
        have hi := HB.is
        have c0 : W.cell? ⟨b0, 0, none⟩ = some (.slice A l.length c) := by simpa using HB.fl.cell 0
        have c1 : W.cell? ⟨b1, 0, none⟩ = some (.int .i64 g) := by simpa using HB.fg.cell 0
        have c2 : W.cell? ⟨b2, 0, none⟩ = some (.int .i64 d) := by simpa using HB.fd.cell 0
        go_enter Try.func24, Try.ntmps24
        go_wp2_with fail
        rw [← HW.out, ← H2.out, ← H1.out, ← H0.out]
        refine (check_any A l c _ hi).mono ?_
        rintro e w' ⟨rfl, rfl⟩
        go_wp2_with fail
        refine (lim_any d 0 ((l.length : Int) - 1) false _ q1).mono ?_
        rintro e w' ⟨rfl, rfl⟩
        go_wp2_with fail
        refine (lim_any g 0 1000000 false _ q2).mono ?_
        rintro e w' ⟨rfl, rfl⟩
        rw [HDd.out] at HB
        go_wp2_with fail
        refine (psearch_any b0 b1 b2 A l c g D _ HB V g0 g1 hD).mono ?_
        rintro e w1 ⟨⟨R, r0, r1, r2, rfl⟩, b1'⟩
        replace bW := below_trans bW b1'
        rcases HF.out R r0 r1 r2 with ⟨hr, rfl, rfl⟩ | ⟨rfl, rfl, rfl⟩
        · have i1 : (R : Int) ≤ 10000 := by omega
          clear r1 r2 HF
          go_wp2
          go_ret2
          exact ⟨rfl, bW⟩
        · clear r1 r2 HF
          go_wp2
          go_ret2
          exact ⟨rfl, bW⟩
  · have hE : rtE l g d = chk l := by rw [rtE, if_pos h1]
    obtain ⟨rfl, hv2⟩ := rt_no (by rw [hE]; exact h1) hv
    rw [hE] at hv2
    have HV := Lib.hid hv2
    have e1 : (chk l != 0) = true := by simp [h1]
    clear h1 hv hv2 hE
    obtain ⟨W, b0, b1, b2, HW, H0, H1, H2, HB, bW⟩ := rtw_boxed w A l c g d h
    have hi := HB.is
    have c0 : W.cell? ⟨b0, 0, none⟩ = some (.slice A l.length c) := by simpa using HB.fl.cell 0
    have c1 : W.cell? ⟨b1, 0, none⟩ = some (.int .i64 g) := by simpa using HB.fg.cell 0
    have c2 : W.cell? ⟨b2, 0, none⟩ = some (.int .i64 d) := by simpa using HB.fd.cell 0
    go_enter Try.func24, Try.ntmps24
    go_wp2_with fail
    rw [← HW.out, ← H2.out, ← H1.out, ← H0.out]
    refine (check_any A l c _ hi).mono ?_
    rintro e w' ⟨rfl, rfl⟩
    go_wp2
    go_ret2
    exact ⟨by rw [HV.out]; rfl, bW⟩

/-- The greatest so far of t * r - l t, and of -1. -/
def pmV (l : List Int) (r : Int) : Nat → Int
  | 0 => -1
  | k + 1 => max (pmV l r k) (r * (k : Int) - gt l k)
theorem pm_lo (l : List Int) (r : Int) : ∀ k, -1 ≤ pmV l r k
  | 0 => Int.le_refl _
  | k + 1 => by have := pm_lo l r k; simp only [pmV]; omega
theorem pm_ge (l : List Int) (r : Int) : ∀ k t : Nat, t < k → r * (t : Int) - gt l t ≤ pmV l r k
  | k + 1, t, h => by
    simp only [pmV]
    by_cases e : t = k
    · subst e; omega
    · have := pm_ge l r k t (by omega); omega
theorem pm_hit (l : List Int) (r : Int) : ∀ k, pmV l r k = -1 ∨ ∃ t : Nat, t < k ∧ pmV l r k = r * (t : Int) - gt l t
  | 0 => .inl rfl
  | k + 1 => by
    by_cases c : pmV l r k ≤ r * (k : Int) - gt l k
    · exact .inr ⟨k, by omega, by simp only [pmV]; omega⟩
    · rcases pm_hit l r k with h | ⟨t, ht, h⟩
      · exact .inl (by simp only [pmV]; omega)
      · exact .inr ⟨t, by omega, by simp only [pmV]; omega⟩
theorem pm_hi {l : List Int} {r : Int} (v : Cv l) (r0 : 0 ≤ r) (r1 : r ≤ 10000) : ∀ k, k ≤ l.length → pmV l r k ≤ 610000
  | 0, _ => by simp [pmV]
  | k + 1, h => by
    have := pm_hi v r0 r1 k (by omega)
    have h1 := v.lo k (by omega)
    have h2 := v.le
    have h3 := Int.mul_le_mul r1 (show (k : Int) ≤ 61 by omega) (by omega) (by omega)
    simp only [pmV]; omega
theorem rm_pm {l : List Int} {r d v E : Int} {D : Nat} (hE : rmE l r d = 0) (hd : d = D) (hv : RmIs l r d v E) : (pmV l r (D + 1) < 0 ∧ v = 0 ∧ E = 5) ∨ (¬ pmV l r (D + 1) < 0 ∧ v = pmV l r (D + 1) ∧ E = 0) := by
  subst hd
  have e : ((D : Int)).toNat = D := by omega
  by_cases c : pmV l r (D + 1) < 0
  · left
    have hn : ∀ t : Nat, t ≤ D → r * (t : Int) - gt l t < 0 := fun t ht => by have := pm_ge l r (D + 1) t (by omega); omega
    have hn' := no_room hn
    rcases hv with ⟨_, hr, rfl⟩ | ⟨_, ha, rfl, rfl⟩ | ⟨q, _⟩
    · rw [e] at hr
      exact absurd hr.hit (hn' _ hr.lo)
    · exact ⟨c, rfl, rfl⟩
    · exact absurd hE q
  · right
    have hr0 : IsRoom l r D (pmV l r (D + 1)) := by
      refine room_of (by omega) ?_ (fun t ht => pm_ge l r (D + 1) t (by omega))
      rcases pm_hit l r (D + 1) with h | ⟨t, ht, h⟩
      · omega
      · exact ⟨t, by omega, h⟩
    rcases hv with ⟨_, hr, rfl⟩ | ⟨_, ha, rfl, rfl⟩ | ⟨q, _⟩
    · rw [e] at hr
      have h1 := hr.top _ hr0.lo hr0.hit
      have h2 := hr0.top _ hr.lo hr.hit
      exact ⟨c, by omega, rfl⟩
    · rw [e] at ha
      exact absurd hr0.hit (ha _ hr0.lo)
    · exact absurd hE q
theorem rm_no {l : List Int} {r d v E : Int} (hE : ¬ rmE l r d = 0) (hv : RmIs l r d v E) : v = 0 ∧ E = rmE l r d := by
  rcases hv with ⟨h, _⟩ | ⟨h, _⟩ | ⟨_, rfl, rfl⟩
  · exact absurd h hE
  · exact absurd h hE
  · exact ⟨rfl, rfl⟩
set_option maxHeartbeats 1600000 in
theorem proom_any (A : Option Addr) (l : List Int) (c : Nat) (r d v E : Int) (w : World) (h : Ints w A l) (hcap : l.length ≤ c) (hv : RmIs l r d v E) :
    Calls Try.prog 25 #[.slice A l.length c, .int .i64 r, .int .i64 d] w fun e w' => e = .returned (.tuple #[.int .i64 v, .int .i64 E]) ∧ Below w.heap.size w w' := by
  by_cases h1 : chk l = 0
  · have e1 : (chk l != 0) = false := by simp [h1]
    have V := cv_of h1
    have hle := V.le
    have hp := V.pos
    have m1 : IntKind.i64.wrap ((l.length : Int) - 1) = (l.length : Int) - 1 := IntWalk.i64_in _ ⟨by omega, by omega⟩
    by_cases h2 : d < 0 ∨ (l.length : Int) - 1 < d
    · have hE : rmE l r d = 1 := by rw [rmE, if_neg (by simpa using h1), if_pos (by omega)]
      obtain ⟨rfl, hv2⟩ := rm_no (by rw [hE]; decide) hv
      rw [hE] at hv2
      have HV := Lib.hid hv2
      have q1 : Hid (decide (d < 0 ∨ (l.length : Int) - 1 < d) = true) := Lib.hid (decide_eq_true h2)
      clear h1 h2 hv hv2 hE
      go_enter Try.func25, Try.ntmps25
      go_wp2_with fail
      refine (check_any A l c _ h).mono ?_
      rintro e w' ⟨rfl, rfl⟩
      go_wp2_with fail
      refine (lim_any d 0 ((l.length : Int) - 1) true _ q1).mono ?_
      rintro e w' ⟨rfl, rfl⟩
      go_wp2
      go_ret2
      exact ⟨by rw [HV.out]; rfl, Below.refl _ _⟩
    · have q1 : Hid (decide (d < 0 ∨ (l.length : Int) - 1 < d) = false) := Lib.hid (decide_eq_false h2)
      by_cases h3 : r < 0 ∨ 10000 < r
      · have hE : rmE l r d = 1 := by rw [rmE, if_neg (by simpa using h1), if_pos (by omega)]
        obtain ⟨rfl, hv2⟩ := rm_no (by rw [hE]; decide) hv
        rw [hE] at hv2
        have HV := Lib.hid hv2
        have q2 : Hid (decide (r < 0 ∨ 10000 < r) = true) := Lib.hid (decide_eq_true h3)
        clear h1 h2 h3 hv hv2 hE
        go_enter Try.func25, Try.ntmps25
        go_wp2_with fail
        refine (check_any A l c _ h).mono ?_
        rintro e w' ⟨rfl, rfl⟩
        go_wp2_with fail
        refine (lim_any d 0 ((l.length : Int) - 1) false _ q1).mono ?_
        rintro e w' ⟨rfl, rfl⟩
        go_wp2_with fail
        refine (lim_any r 0 10000 true _ q2).mono ?_
        rintro e w' ⟨rfl, rfl⟩
        go_wp2
        go_ret2
        exact ⟨by rw [HV.out]; rfl, Below.refl _ _⟩
      · have q2 : Hid (decide (r < 0 ∨ 10000 < r) = false) := Lib.hid (decide_eq_false h3)
        obtain ⟨D, rfl⟩ : ∃ D : Nat, d = D := ⟨d.toNat, by omega⟩
        have r0 : 0 ≤ r := by omega
        have r1 : r ≤ 10000 := by omega
        have hD : D < l.length := by omega
        have hE : rmE l r D = 0 := rm_of ⟨V, by omega, by omega, r0, r1⟩
        have HF := Lib.hid (rm_pm hE rfl hv)
        obtain ⟨bb, off, rfl, _⟩ := h.2 hp
        have m2 : IntKind.i64.wrap ((D : Int) + 1) = (D : Int) + 1 := IntWalk.i64_in _ ⟨by omega, by omega⟩
        have i2 : (D : Int) + 1 ≤ (c : Int) := by omega
        have i3 : D + 1 ≤ c := by omega
        have i4 : ((D : Int) + 1).toNat = D + 1 := by omega
        have i5 : 0 ≤ (D : Int) + 1 := by omega
        clear h1 h2 h3 hv hE
        go_enter Try.func25, Try.ntmps25
        go_wp2_with fail
        refine (check_any _ l c _ h).mono ?_
        rintro e w' ⟨rfl, rfl⟩
        go_wp2_with fail
        refine (lim_any D 0 ((l.length : Int) - 1) false _ q1).mono ?_
        rintro e w' ⟨rfl, rfl⟩
        go_wp2_with fail
        refine (lim_any r 0 10000 false _ q2).mono ?_
        rintro e w' ⟨rfl, rfl⟩
        go_wp2
        go_loop [9, 31] (fun m i => ∃ k : Nat, k ≤ D + 1 ∧ m = .int .i64 (pmV l r k) ∧ i = .int .i64 k) (fun _ i => D + 1 - (intOf i).toNat)
        case atStart => exact ⟨0, Nat.zero_le _, rfl, rfl⟩
        case round =>
          obtain ⟨k, hk, rfl, rfl⟩ := hrel
          obtain ⟨m, hm⟩ : ∃ m, m = pmV l r k := ⟨_, rfl⟩
          have n0 : -1 ≤ m := by rw [hm]; exact pm_lo l r k
          have n1 : m ≤ 610000 := by rw [hm]; exact pm_hi V r0 r1 k (by omega)
          rw [← hm]
          by_cases hlt : k < D + 1
          · obtain ⟨b1, o1, x, e2, hc1, HX⟩ := h.at_ (k := k) (by omega)
            obtain ⟨rfl, rfl⟩ : b1 = bb ∧ o1 = off := by injection e2 with e1; injection e1 with e1 e2; exact ⟨e1.symm, e2.symm⟩
            clear e2
            have hx := gt_of_get HX.out
            have x0 : 0 ≤ x := by rw [← hx]; exact V.lo k (by omega)
            have x1 : x ≤ 1000000 := by rw [← hx]; exact V.hi k (by omega)
            obtain ⟨P, hP⟩ : ∃ P, P = r * (k : Int) := ⟨_, rfl⟩
            have P0 : 0 ≤ P := by rw [hP]; exact Int.mul_nonneg r0 (by omega)
            have P1 : P ≤ 610000 := by rw [hP]; have := Int.mul_le_mul r1 (show (k : Int) ≤ 61 by omega) (by omega) (by omega); omega
            have s2 : IntKind.i64.wrap ((k : Int) * r) = P := by rw [Int.mul_comm, ← hP]; exact IntWalk.i64_in _ ⟨by omega, by omega⟩
            have s3 : IntKind.i64.wrap (P - x) = P - x := IntWalk.i64_in _ ⟨by omega, by omega⟩
            have HN : Hid (pmV l r (k + 1) = max m (P - x)) := Lib.hid (by simp only [pmV]; rw [← hm, hx, ← hP])
            have i1 : (k : Int) < (D : Int) + 1 := by omega
            clear hx hP hm
            rcases Int.lt_trichotomy m (P - x) with q | q | q
            · go_wp2
              go_round
              case rel => exact ⟨k + 1, by omega, by rw [HN.out]; congr 1; omega, by go_num⟩
              case measure => simp [intOf]; omega
            · go_wp2
              go_round
              case rel => exact ⟨k + 1, by omega, by rw [HN.out]; congr 1; omega, by go_num⟩
              case measure => simp [intOf]; omega
            · go_wp2
              go_round
              case rel => exact ⟨k + 1, by omega, by rw [HN.out]; congr 1; omega, by go_num⟩
              case measure => simp [intOf]; omega
          · obtain rfl : k = D + 1 := by omega
            have HM := Lib.hid hm
            rcases HF.out with ⟨q, rfl, rfl⟩ | ⟨q, hv, rfl⟩
            · rw [← hm] at q
              clear hm HF
              go_wp2
              go_ret2
              exact ⟨rfl, Below.refl _ _⟩
            · rw [← hm] at q hv
              have HV := Lib.hid hv
              clear hm HF hv
              go_wp2
              go_ret2
              exact ⟨by rw [HV.out]; rfl, Below.refl _ _⟩
  · have hE : rmE l r d = chk l := by rw [rmE, if_pos h1]
    obtain ⟨rfl, hv2⟩ := rm_no (by rw [hE]; exact h1) hv
    rw [hE] at hv2
    have HV := Lib.hid hv2
    have e1 : (chk l != 0) = true := by simp [h1]
    clear h1 hv hv2 hE
    go_enter Try.func25, Try.ntmps25
    go_wp2_with fail
    refine (check_any A l c _ h).mono ?_
    rintro e w' ⟨rfl, rfl⟩
    go_wp2
    go_ret2
    exact ⟨by rw [HV.out]; rfl, Below.refl _ _⟩

theorem plnC : PlnC := ⟨prate_any, proom_any⟩

end Go.Proofs.Ytnjeelmlabefjaa
