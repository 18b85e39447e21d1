
/-
  Walks: prio.Run and what it leaves the second, prio.Left.
-/
import Derived.Test.YthngolnflogdnaaLineA
import Derived.Test.YthngolnflogdnaaPrioQ
import Derived.Test.YthngolnflogdnaaShapeA
namespace Go.Proofs.Ythngolnflogdnaa
set_option linter.all false
open Go.RowKit Go.Shelf

set_option maxHeartbeats 1600000 in
theorem behind_any (A A' : Option Addr) (a b : List Int) (nb nt c d : Nat) (r : Int) (w : World) (va : Tr a) (vb : Tr b) (r0 : 0 ≤ r) (r1 : r ≤ 10000) (e : a.length = b.length) (h : Ints w A b) (h' : Ints w A' (goL a r)) (hb : nb = b.length) (hn : nt = a.length) :
    Calls Try.prog 32 #[.slice A nb c, .int .i64 r, .slice A' nt d] w (AnsL (gbL a b r) w) := by
  subst hb hn
  have hle := vb.le
  have HE := Lib.hid e
  have HL : Hid (gbL a b r = tab b.length (gbV a b r)) := Lib.hid (by rw [gbL, e])
  have hmk := fun W => run_make_row' (P := Try.prog) 22 3 (.int .i64 0) 8 Try.underlying22 int_info rfl .i64 .i64 b.length (by omega) (by omega) W
  go_enter Try.func32, Try.ntmps32
  go_wp2
  go_loopw [8, 16] (fun v i wr => ∃ k : Nat, k ≤ b.length ∧ i = .int .i64 k ∧ v = .int .i64 (wbV a b r k) ∧ Blk wr w.heap.size 3 (rowAt b.length k (gbV a b r)).toArray ∧ Below w.heap.size w wr) (fun _ i _ => b.length - (intOf i).toNat)
  case atStart =>
    refine ⟨0, Nat.zero_le _, rfl, rfl, ?_, (Below.refl _ _).alloc (Nat.le_refl _) _⟩
    rw [rowAt_zero]; exact Blk.new _ _ _
  case round =>
    obtain ⟨t, ht, rfl, rfl, hblk, hbel⟩ := hrel
    by_cases hlt : t < b.length
    · have hla : t < a.length := by omega
      obtain ⟨b1, o1, x, rfl, hc1, HX⟩ := (h.below hbel).at_ hlt
      obtain ⟨b2, o2, g, rfl, hc2, HG⟩ := (h'.below hbel).at_ (k := t) (by rw [length_goL]; exact hla)
      have hx := gt_of_get HX.out
      have hg := gt_of_get HG.out
      rw [gt_goL hla] at hg
      have x0 : 0 ≤ x ∧ x ≤ 10000 := by rw [← hx]; exact ⟨vb.lo t hlt, vb.hi t hlt⟩
      have g0 : 0 ≤ g ∧ g ≤ r := by rw [← hg]; exact go_bd va r0 hla
      obtain ⟨y, hy⟩ : ∃ y, y = wbV a b r t := ⟨_, rfl⟩
      have y0 : 0 ≤ y := by rw [hy]; exact wb_lo _ _ _ _
      have y1 : y ≤ 600000 := by
        have := wb_bd va vb r0 e t (by omega)
        have := (sum_lo vb t (by omega)).2
        rw [hy]; omega
      have HO : Hid (gbV a b r t = min (r - g) (y + x)) := Lib.hid (by rw [gb_min, ← hy, hx, hg])
      have HN : Hid (wbV a b r (t + 1) = y + x - min (r - g) (y + x)) := Lib.hid (by have := gb_min (a := a) (b := b) (r := r) t; rw [← hy, hx, hg] at this; simp only [gbV] at this; rw [← hy, hx] at this; omega)
      rw [← hy]
      obtain ⟨xa, xb⟩ := x0
      obtain ⟨ga, gb⟩ := g0
      have i1 : (t : Int) < (b.length : Int) := by omega
      have i2 : (t : Int) < (a.length : Int) := by omega
      have c0 : wr.cell? ⟨w.heap.size, t, none⟩ = some (.int .i64 0) := by rw [hblk.cell t]; simpa using rowAt_get (gbV a b r) hlt
      have f0 := hblk.frozen t
      have S0 : ∀ u, (wr.setCell ⟨w.heap.size, t, none⟩ u).cell? ⟨w.heap.size, t, none⟩ = some u := fun u => by
        rw [(hblk.set_ t u).cell t]; simp [rowAt_length _ ht, hlt]
      have R0 : ∀ u : Int, gbV a b r t = u → Blk (wr.setCell ⟨w.heap.size, t, none⟩ (.int .i64 u)) w.heap.size 3 (rowAt b.length (t + 1) (gbV a b r)).toArray := fun u e => by
        rw [← rowAt_succ _ hlt, e]; exact hblk.set_ t _
      have HR0 := Lib.hid R0
      clear R0 hx hg hy
      rcases Int.lt_trichotomy (y + x) (r - g) with q | q | q
      all_goals
        go_wp2
        go_roundw
        case rel =>
          refine ⟨t + 1, by omega, by go_num, ?_, HR0.out _ (by rw [HO.out]; omega), hbel.setCell (p := ⟨w.heap.size, t, none⟩) (Nat.le_refl _) _⟩
          rw [HN.out]; congr 1; omega
        case measure => simp [intOf]; omega
    · obtain rfl : t = b.length := by omega
      go_wp2
      go_ret
      rw [rowAt_full] at hblk
      have o0 := own_of_blk (n := b.length) hblk (Nat.le_refl _) (length_tab _ _).symm (by omega)
      rw [HL.out]
      exact ⟨some ⟨w.heap.size, 0, none⟩, b.length, by rw [length_tab]; rfl, by rw [length_tab]; rw [length_tab] at o0; exact o0, hbel⟩

/-- What Run answers: the error. -/
def prE (a b : List Int) (r : Int) : Int := if linE a r ≠ 0 then linE a r else if trk b ≠ 0 then trk b else if a.length = b.length then 0 else 4
theorem pr_ok {a b : List Int} {r : Int} (h : prE a b r = 0) : Tr a ∧ Tr b ∧ 0 ≤ r ∧ r ≤ 10000 ∧ a.length = b.length ∧ linE a r = 0 := by
  unfold prE at h
  by_cases h1 : linE a r = 0
  · rw [if_neg (by simpa using h1)] at h
    by_cases h2 : trk b = 0
    · rw [if_neg (by simpa using h2)] at h
      by_cases h3 : a.length = b.length
      · obtain ⟨v, r0, r1⟩ := lin_ok h1
        exact ⟨v, trk_iff.1 h2, r0, r1, h3, h1⟩
      · rw [if_neg h3] at h; omega
    · rw [if_pos h2] at h; omega
  · rw [if_pos h1] at h; omega
theorem pr_of {a b : List Int} {r : Int} (va : Tr a) (vb : Tr b) (r0 : 0 ≤ r) (r1 : r ≤ 10000) (e : a.length = b.length) : prE a b r = 0 := by
  rw [prE, if_neg (by simpa using lin_of va r0 r1), if_neg (by simpa using trk_iff.2 vb), if_pos e]

set_option maxHeartbeats 800000 in
theorem prun_yes (A A' : Option Addr) (a b x y : List Int) (na nb n c d : Nat) (r : Int) (w : World) (hE : Hid (prE a b r = 0)) (hx : Hid (goL a r = x)) (hy : Hid (gbL a b r = y)) (h : Ints w A a) (h' : Ints w A' b) (ha : na = a.length) (hb : nb = b.length) (hn : n = a.length) :
    Calls Try.prog 9 #[.slice A na c, .slice A' nb d, .int .i64 r] w (AnsT n x y w) := by
  subst ha hb hn
  have hx := hx.out
  have hy := hy.out
  subst hx hy
  obtain ⟨va, vb, r0, r1, el, hl⟩ := pr_ok hE.out
  have hle := va.le
  have HT : Hid (trk b = 0) := Lib.hid (trk_iff.2 vb)
  have HL := Lib.hid hl
  have e3 : ((a.length : Int) != (b.length : Int)) = false := by rw [el]; simp
  have EL := Lib.hid el
  clear hl el
  go_enter Try.func9, Try.ntmps9
  go_wp2_with fail
  refine (lrun_yes A a _ _ _ a.length c r _ HL (Lib.hid rfl) (Lib.hid rfl) h rfl rfl).mono ?_
  rintro e w1 ⟨Ax, cx, Ay, cy, rfl, hx, _, kx, _, b1⟩
  replace h' := h'.below b1
  go_wp2_with fail
  refine (trCheck_any A' b d _ h').mono ?_
  rintro e w' ⟨rfl, rfl⟩
  rw [HT.out]
  go_wp2_with fail
  refine (behind_any A' Ax a b _ _ d cx r _ va vb r0 r1 EL.out h' hx rfl rfl).mono ?_
  rintro e w2 ⟨Az, cz, rfl, oz, b2⟩
  replace hx := hx.below b2
  have kz := own_cap' oz
  rw [length_gbL] at kz
  have lz := length_gbL a b r
  rw [lz]
  go_wp2
  exact bodyPost_ret (v := .tuple #[.slice Ax a.length cx, .slice Az a.length cz, .int .i64 0]) (by simp [results, Try.results9, go_sem]) rfl ⟨Ax, cx, Az, cz, rfl, hx, Ints.of_own oz, kx, kz, below_trans b1 b2⟩

set_option maxHeartbeats 800000 in
theorem prun_no (A A' : Option Addr) (a b : List Int) (c d : Nat) (r : Int) (w : World) (hE : ¬ prE a b r = 0) (h : Ints w A a) (h' : Ints w A' b) :
    Calls Try.prog 9 #[.slice A a.length c, .slice A' b.length d, .int .i64 r] w fun e w' => ∃ B d B' d', e = .returned (.tuple #[.slice B 0 d, .slice B' 0 d', .int .i64 (prE a b r)]) ∧ Below w.heap.size w w' := by
  by_cases h1 : linE a r = 0
  · have HL := Lib.hid h1
    by_cases h2 : trk b = 0
    · have e3 : ¬ a.length = b.length := fun q => hE (by rw [prE, if_neg (by simpa using h1), if_neg (by simpa using h2), if_pos q])
      have HE : Hid (prE a b r = 4) := Lib.hid (by rw [prE, if_neg (by simpa using h1), if_neg (by simpa using h2), if_neg e3])
      have e4 : ((a.length : Int) != (b.length : Int)) = true := by rw [bne_iff_ne]; omega
      have HT := Lib.hid h2
      clear h1 h2 e3
      go_enter Try.func9, Try.ntmps9
      go_wp2_with fail
      refine (lrun_yes A a _ _ _ a.length c r _ HL (Lib.hid rfl) (Lib.hid rfl) h rfl rfl).mono ?_
      rintro e w1 ⟨Ax, cx, Ay, cy, rfl, hx, _, kx, _, b1⟩
      replace h' := h'.below b1
      go_wp2_with fail
      refine (trCheck_any A' b d _ h').mono ?_
      rintro e w' ⟨rfl, rfl⟩
      rw [HT.out]
      go_wp2
      exact bodyPost_ret (v := .tuple #[.slice none 0 0, .slice none 0 0, .int .i64 4]) (by simp [results, Try.results9, go_sem]) rfl ⟨none, 0, none, 0, by rw [HE.out], b1⟩
    · have HE : Hid (prE a b r = trk b) := Lib.hid (by rw [prE, if_neg (by simpa using h1), if_pos h2])
      have e2 : (trk b != 0) = true := by simp [h2]
      clear h1 h2
      go_enter Try.func9, Try.ntmps9
      go_wp2_with fail
      refine (lrun_yes A a _ _ _ a.length c r _ HL (Lib.hid rfl) (Lib.hid rfl) h rfl rfl).mono ?_
      rintro e w1 ⟨Ax, cx, Ay, cy, rfl, hx, _, kx, _, b1⟩
      replace h' := h'.below b1
      go_wp2_with fail
      refine (trCheck_any A' b d _ h').mono ?_
      rintro e w' ⟨rfl, rfl⟩
      go_wp2
      exact bodyPost_ret (v := .tuple #[.slice none 0 0, .slice none 0 0, .int .i64 (trk b)]) (by simp [results, Try.results9, go_sem]) rfl ⟨none, 0, none, 0, by rw [HE.out], b1⟩
  · have HE : Hid (prE a b r = linE a r) := Lib.hid (by rw [prE, if_pos h1])
    have e1 : (linE a r != 0) = true := by simp [h1]
    go_enter Try.func9, Try.ntmps9
    go_wp2_with fail
    refine (lrun_no A a c r _ h1 h).mono ?_
    rintro e w1 ⟨Ax, cx, Ay, cy, rfl, b1⟩
    go_wp2
    exact bodyPost_ret (v := .tuple #[.slice none 0 0, .slice none 0 0, .int .i64 (linE a r)]) (by simp [results, Try.results9, go_sem]) rfl ⟨none, 0, none, 0, by rw [HE.out], b1⟩

/-- What Left answers: the error. -/
def lfE (g : List Int) (r : Int) : Int := if chk g ≠ 0 then chk g else if r < 0 ∨ 10000 < r then 1 else 0
theorem lf_ok {g : List Int} {r : Int} (h : lfE g r = 0) : Cv g ∧ 0 ≤ r ∧ r ≤ 10000 := by
  unfold lfE at h
  by_cases h1 : chk g = 0
  · rw [if_neg (by simpa using h1)] at h
    by_cases h2 : r < 0 ∨ 10000 < r
    · rw [if_pos h2] at h; omega
    · exact ⟨cv_of h1, by omega, by omega⟩
  · rw [if_pos h1] at h; omega
theorem lf_of {g : List Int} {r : Int} (v : Cv g) (r0 : 0 ≤ r) (r1 : r ≤ 10000) : lfE g r = 0 := by
  rw [lfE, if_neg (by simpa using chk_iff.2 v), if_neg (by omega)]

theorem left_is {g : List Int} {r : Int} (v : Cv g) (r0 : 0 ≤ r) (r1 : r ≤ 10000) : Lesses (tab g.length (liV r 0)) g (leftL g r) := by
  have hp := v.pos
  have hl := v.le
  have hc : Cv (tab g.length (liV r 0)) := by
    have := li_cv r0 r1 (Int.le_refl 0) (show g.length - 1 ≤ 60 by omega)
    rw [show g.length - 1 + 1 = g.length by omega] at this
    exact this
  obtain ⟨R, z⟩ := ex_less hc v (length_tab _ _)
  have e : R = leftL g r := eq_tab (by rw [z.rlen, length_tab]) (fun t ht => by
    rw [z.val t (by rw [length_tab]; exact ht), ← left_less ht]
    rfl)
  rwa [e] at z

set_option maxHeartbeats 800000 in
theorem left_yes (A : Option Addr) (g x : List Int) (ng c : Nat) (r : Int) (w : World) (hE : Hid (lfE g r = 0)) (hx : Hid (leftL g r = x)) (h : Ints w A g) (hg : ng = g.length) :
    Calls Try.prog 17 #[.slice A ng c, .int .i64 r] w (Ans x 0 w) := by
  subst hg
  have hx := hx.out
  subst hx
  obtain ⟨v, r0, r1⟩ := lf_ok hE.out
  have HC : Hid (chk g = 0) := Lib.hid (chk_iff.2 v)
  have hp := v.pos
  have hle := v.le
  obtain ⟨k, hk⟩ : ∃ k, g.length = k + 1 := ⟨g.length - 1, by omega⟩
  have HK := Lib.hid hk
  have bg := Lib.hid (li_cv r0 r1 (Int.le_refl 0) (show k ≤ 60 by omega)).small
  have z := left_is v r0 r1
  rw [hk] at z
  have s1 : IntKind.i64.wrap ((g.length : Int) - 1) = (k : Int) := by rw [hk]; simpa using IntWalk.i64_in (k : Int) ⟨by omega, by omega⟩
  have k60 : k ≤ 60 := by omega
  clear hk
  go_enter Try.func17, Try.ntmps17
  go_wp2_with fail
  refine (check_any A g c _ h).mono ?_
  rintro e w' ⟨rfl, rfl⟩
  rw [HC.out]
  go_wp2_with fail
  refine (line_yes k k r 0 (tab (k + 1) (liV r 0)) _ rfl (by omega) r0 r1 (by omega) (by omega) rfl bg.out).mono ?_
  rintro e w1 ⟨Af, cf, rfl, of, b1⟩
  have hf := Ints.of_own of
  replace h := h.below b1
  go_wp2_with fail
  refine (less_ok Af A (tab (k + 1) (liV r 0)) g (leftL g r) _ _ cf c _ z hf h rfl rfl).mono ?_
  rintro e w2 ⟨Ax, cx, rfl, ox, b2⟩
  go_wp2
  go_ret2
  exact ⟨Ax, cx, rfl, own_lower ox b1.size, below_trans b1 b2⟩

theorem line_bad (h r : Int) (w : World) (hr : r < 0 ∨ 10000 < r) : Calls Try.prog 38 #[.int .i64 h, .int .i64 r, .int .i64 0] w (Ans [] 1 w) := by
  have q := line_any h r 0 w
  have o := outB_yes hr
  have e : shE h r 0 0 60 = 1 := shE_no (by rw [o]; simp)
  rw [e, (res_err (by decide)).1, (res_err (by decide)).2] at q
  exact q

set_option maxHeartbeats 800000 in
theorem left_no (A : Option Addr) (g : List Int) (c : Nat) (r : Int) (w : World) (hE : ¬ lfE g r = 0) (h : Ints w A g) :
    Calls Try.prog 17 #[.slice A g.length c, .int .i64 r] w (Ans [] (lfE g r) w) := by
  by_cases h1 : chk g = 0
  · have v := cv_of h1
    have h2 : r < 0 ∨ 10000 < r := by
      by_cases q : r < 0 ∨ 10000 < r
      · exact q
      · exact absurd (lf_of v (by omega) (by omega)) hE
    have HE : Hid (lfE g r = 1) := Lib.hid (by rw [lfE, if_neg (by simpa using h1), if_pos h2])
    have HC := Lib.hid h1
    have HR := Lib.hid h2
    have hp := v.pos
    have hle := v.le
    obtain ⟨k, hk⟩ : ∃ k, g.length = k + 1 := ⟨g.length - 1, by omega⟩
    have s1 : IntKind.i64.wrap ((g.length : Int) - 1) = (k : Int) := by rw [hk]; simpa using IntWalk.i64_in (k : Int) ⟨by omega, by omega⟩
    have k1 : k ≤ 60 := by omega
    clear hk h1
    go_enter Try.func17, Try.ntmps17
    go_wp2_with fail
    refine (check_any A g c _ h).mono ?_
    rintro e w' ⟨rfl, rfl⟩
    rw [HC.out]
    go_wp2_with fail
    refine (line_bad k r _ HR.out).mono ?_
    rintro e w1 ⟨Af, cf, rfl, of, b1⟩
    go_wp2
    go_ret2
    exact ⟨none, 0, by rw [HE.out]; rfl, World.ownsRow_nil _ _ _ _, b1⟩
  · have HE : Hid (lfE g r = chk g) := Lib.hid (by rw [lfE, if_pos h1])
    have e1 : (chk g != 0) = true := by simp [h1]
    clear h1
    go_enter Try.func17, Try.ntmps17
    go_wp2_with fail
    refine (check_any A g c _ h).mono ?_
    rintro e w' ⟨rfl, rfl⟩
    go_wp2
    go_ret2
    exact ⟨none, 0, by rw [HE.out]; rfl, World.ownsRow_nil _ _ _ _, Below.refl _ _⟩

def lfL (g : List Int) (r : Int) : List Int := if lfE g r = 0 then leftL g r else []
theorem left_any (A : Option Addr) (g : List Int) (c : Nat) (r : Int) (w : World) (h : Ints w A g) :
    Calls Try.prog 17 #[.slice A g.length c, .int .i64 r] w (Ans (lfL g r) (lfE g r) w) := by
  by_cases hE : lfE g r = 0
  · rw [lfL, if_pos hE, hE]; exact left_yes A g _ _ c r w (Lib.hid hE) (Lib.hid rfl) h rfl
  · rw [lfL, if_neg hE]; exact left_no A g c r w hE h
/-- The convolution with what is left never exceeds what came. -/
theorem left_small {b g x : List Int} {r : Int} (vb : Tr b) (v : Cv g) (r0 : 0 ≤ r) (r1 : r ≤ 10000) (z : Convs (adL b) (leftL g r) x) : Cv x := by
  have hp := v.pos
  have hlen := z.len
  rw [length_leftL] at hlen
  refine z.curve (bigB_no.2 (fun t ht => ?_))
  rw [z.rlen] at ht
  have h1 := z.le t 0 (by omega)
  rw [Nat.add_zero, gt_leftL (by omega)] at h1
  have h2 := (left_cv v r0 r1 0 (by omega)).2
  have h3 := (ad_cv vb).hi t ht
  have h4 : r * ((0 : Nat) : Int) = 0 := by simp
  have := (sum_lo vb t (by rw [length_adL] at ht; omega)).2
  have := vb.le
  rw [length_adL] at ht
  rw [gt_adL (by omega)] at h1
  omega

end Go.Proofs.Ythngolnflogdnaa
