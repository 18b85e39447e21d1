
/-
  Walks of the document's own Bound (headref.By) and Rate (headref.Rate): by what is asked of each time.
-/
import Derived.Test.YtnjeelmlabefjaaCatC
import Derived.Test.YtnjeelmlabefjaaTraceB
import Derived.Deep.DeepCutAuto
namespace Go.Proofs.Ytnjeelmlabefjaa
set_option linter.all false
open Go.RowKit Go.Shelf Go.Lib


def idL (n : Nat) : List Int := tab n (fun t : Nat => (t : Int))
set_option maxHeartbeats 800000 in
theorem rtimes_any (n : Nat) (w : World) (hn : n ≤ 61) : Calls Try.prog 41 #[.int .i64 n] w (AnsL (idL n) w) := by
  obtain ⟨i0, hi0, hz0, hz1, hz2⟩ := info_parts int_info
  obtain ⟨F, hF⟩ : ∃ F : Nat → Int, F = fun t : Nat => (t : Int) := ⟨_, rfl⟩
  have HL : Hid (idL n = tab n F) := Lib.hid (by rw [hF]; rfl)
  have HF : Hid (∀ t, F t = (t : Int)) := Lib.hid (fun t => by rw [hF])
  clear hF
  go_enter Try.func41, Try.ntmps41
  go_wp2
  go_loopw [3, 6] (fun u i wr => ∃ k : Nat, k ≤ n ∧ i = .int .i64 k ∧ wr.ownsRow w.heap.size 3 1 u k ((tab k F).map (Value.int .i64)) ∧ Below w.heap.size w wr) (fun _ i _ => n - (intOf i).toNat)
  case atStart => exact ⟨0, Nat.zero_le _, rfl, by rw [tab_zero]; exact World.ownsRow_nil _ _ _ _, Below.refl _ _⟩
  case round =>
    obtain ⟨t, ht, rfl, hown, hbel⟩ := hrel
    by_cases hlt : t < n
    · have i1 : (t : Int) < (n : Int) := by omega
      have HM := Lib.hid (HF.out t)
      have hsz := hbel.size
      go_wp2_with (at_builtin; refine wpList_append_own _ rfl _ _ 22 rfl w.heap.size 3 i0 (.int .i64 0) 1 8 Try.underlying22 hi0 hz0 hz1 hz2 rfl (by decide) _ _ _ rfl (World.ownsRow.alloc hown _) ⟨wr.heap.size, 0, none⟩ 1 1 [.int .i64 (t : Int)] rfl rfl ?c1 ?c2 ?c3 ?c4 ?c5 ?_)
      case c1 => exact new_one2 _ _ _
      case c2 => exact one_cell2 _
      case c3 => unfold maxLen; omega
      case c4 => omega
      case c5 => simp; omega
      intro v' w2 hown' hgrow _
      have hbel' : Below w.heap.size w w2 := ((hbel.alloc hbel.size _).grown hgrow (by simp; omega) (fun k hk => (hown.lt k hk).1))
      have hown'' : w2.ownsRow w.heap.size 3 1 v' (t + 1) ((tab (t + 1) F).map (Value.int .i64)) := by rw [tab_succ, List.map_append, HM.out]; exact hown'
      clear hown' hgrow hown hbel
      go_wp2
      go_roundw
      case rel => exact ⟨t + 1, by omega, by go_num, hown'', hbel'⟩
      case measure => simp [intOf]; omega
    · obtain rfl : t = n := by omega
      go_wp2
      go_ret
      rw [HL.out]
      exact AnsL.of (by rw [length_tab]; exact hown) hbel

/-- What the three captured blocks hold. -/
structure ByW (w : World) (b0 b1 b2 : Nat) (A : Option Addr) (l : List Int) (c : Nat) (r g : Int) : Prop where
  fl : Blk w b0 22 #[.slice A l.length c]
  fr : Blk w b1 3 #[.int .i64 r]
  fg : Blk w b2 3 #[.int .i64 g]
  is : Ints w A l
theorem ByW.below {w w' : World} {b0 b1 b2 : Nat} {A : Option Addr} {l : List Int} {c : Nat} {r g : Int} (h : ByW w b0 b1 b2 A l c r g) (b : Below w.heap.size w w') : ByW w' b0 b1 b2 A l c r g := ⟨h.fl.below b, h.fr.below b, h.fg.below b, h.is.below b⟩
set_option maxHeartbeats 800000 in
theorem by1_is (b0 b1 b2 : Nat) (A : Option Addr) (l : List Int) (c : Nat) (r g : Int) (d : Nat) (s : Bool) (w : World) (h : ByW w b0 b1 b2 A l c r g) (v : Cv l) (r0 : 0 ≤ r) (r1 : r ≤ 10001) (g0 : 0 ≤ g) (g1 : g ≤ 1000000) (hd : d < l.length) (hs : Hid (decide (CatchOk l r g d) = s)) :
    Calls Try.prog 42 #[.int .i64 d, .pointer (some ⟨b1, 0, none⟩), .pointer (some ⟨b2, 0, none⟩), .pointer (some ⟨b0, 0, none⟩)] w fun e w' => e = .returned (.bool s) ∧ ∃ n, w' = w.drewN n := by
  have hle := v.le
  have c0 : w.cell? ⟨b0, 0, none⟩ = some (.slice A l.length c) := by simpa using h.fl.cell 0
  have c1 : w.cell? ⟨b1, 0, none⟩ = some (.int .i64 r) := by simpa using h.fr.cell 0
  have c2 : w.cell? ⟨b2, 0, none⟩ = some (.int .i64 g) := by simpa using h.fg.cell 0
  obtain ⟨bb, off, x, rfl, hc, HX⟩ := h.is.at_ (k := d) hd
  have hx := gt_of_get HX.out
  have x0 : 0 ≤ x := by rw [← hx]; exact v.lo d hd
  have x1 : x ≤ 1000000 := by rw [← hx]; exact v.hi d hd
  obtain ⟨P, hP⟩ : ∃ P, P = r * (d : Int) := ⟨_, rfl⟩
  have P0 : 0 ≤ P := by rw [hP]; exact Int.mul_nonneg r0 (by omega)
  have P1 : P ≤ 610061 := by rw [hP]; have := Int.mul_le_mul r1 (show (d : Int) ≤ 61 by omega) (by omega) (by omega); omega
  have s2 : IntKind.i64.wrap (r * (d : Int)) = P := by rw [← hP]; exact IntWalk.i64_in _ ⟨by omega, by omega⟩
  have s3 : IntKind.i64.wrap (g + x) = g + x := IntWalk.i64_in _ ⟨by omega, by omega⟩
  have i1 : (d : Int) < (l.length : Int) := by omega
  have HS : Hid (decide (g + x ≤ P) = s) := Lib.hid (by rw [← hs.out, hP, ← hx]; rfl)
  clear hP hx hs h
  go_enter Try.func42, Try.ntmps42
  go_wp2
  go_quiet (fail)
  go_wp2
  go_ret
  exact ⟨ret_bool HS.out, _, rfl⟩

/-- What the document's Bound answers. -/
def ByIs (l : List Int) (r g R : Int) : Prop := (∃ d : Nat, IsCb l r g d ∧ R = d) ∨ ((∀ s, s < l.length → ¬ CatchOk l r g s) ∧ R = -1)
def NoCb (l : List Int) (r g : Int) (k : Nat) : Prop := ∀ s, s < k → ¬ CatchOk l r g s
theorem NoCb.next {l : List Int} {r g : Int} {k : Nat} (h : NoCb l r g k) (h' : ¬ CatchOk l r g k) : NoCb l r g (k + 1) := fun s hs => by
  by_cases e : s = k
  · rw [e]; exact h'
  · exact h s (by omega)
set_option maxHeartbeats 800000 in
theorem byIndex_any (b0 b1 b2 : Nat) (A B : Option Addr) (l : List Int) (c n cb : Nat) (r g : Int) (w : World) (h : ByW w b0 b1 b2 A l c r g) (v : Cv l) (r0 : 0 ≤ r) (r1 : r ≤ 10001) (g0 : 0 ≤ g) (g1 : g ≤ 1000000) (hn : n = l.length) (hB : Ints w B (idL n)) :
    Calls Try.prog 40 #[.slice B n cb, .func (.func 42) #[] #[.pointer (some ⟨b1, 0, none⟩), .pointer (some ⟨b2, 0, none⟩), .pointer (some ⟨b0, 0, none⟩)]] w fun e w' => (∃ R, ByIs l r g R ∧ e = .returned (.int .i64 R)) ∧ ∃ m, w' = w.drewN m := by
  have hent := enters_of Try.func42 (by kernel_rfl) rfl
  have hle := v.le
  have HN := Lib.hid hn
  have nle : n ≤ 61 := by omega
  clear hn hle
  go_enter Try.func40, Try.ntmps40
  go_wp2
  go_loopw [8] (fun i wr => ∃ k m : Nat, k ≤ n ∧ i = .int .i64 k ∧ Hid (NoCb l r g k) ∧ wr = w.drewN m) (fun i _ => n - (intOf i).toNat)
  case atStart => exact ⟨0, 0, Nat.zero_le _, rfl, Lib.hid (fun s hs => by omega), rfl⟩
  case round =>
    obtain ⟨k, m, hk, rfl, HC, rfl⟩ := hrel
    by_cases hlt : k < n
    · obtain ⟨bb, off, x, rfl, hc, HX⟩ := hB.at_ (k := k) (by rw [idL, length_tab]; exact hlt)
      have hx := gt_of_get HX.out
      rw [idL, gt_tab _ hlt] at hx
      subst hx
      have i1 : (k : Int) < (n : Int) := by omega
      obtain ⟨s, hs⟩ : ∃ s, decide (CatchOk l r g k) = s := ⟨_, rfl⟩
      have HS := Lib.hid hs
      have hc1 : k < l.length := by rw [← HN.out]; exact hlt
      have hcall := fun W (hW : W = w.drewN m) => by1_is b0 b1 b2 A l c r g k s W (h.below (below_of_drewN hW)) v r0 r1 g0 g1 hc1 HS
      clear hs hc1
      go_wp2_with fail
      refine (hcall _ rfl).mono ?_
      rintro e w1 ⟨rfl, j, rfl⟩
      cases s with
      | true =>
        go_wp2
        go_ret
        exact ⟨⟨k, .inl ⟨k, ⟨by rw [← HN.out]; exact hlt, of_decide_eq_true HS.out, HC.out⟩, rfl⟩, rfl⟩, m + j, by simp [World.drewN, Nat.add_assoc]⟩
      | false =>
        have HD := Lib.hid (HC.out.next (of_decide_eq_false HS.out))
        go_wp2
        go_roundw
        case rel => exact ⟨k + 1, m + j, by omega, by go_num, HD, by simp [World.drewN, Nat.add_assoc]⟩
        case measure => simp [intOf]; omega
    · obtain rfl : k = n := by omega
      go_wp2
      go_ret
      exact ⟨⟨-1, .inr ⟨fun s hs => HC.out s (by rw [HN.out]; exact hs), rfl⟩, rfl⟩, m, rfl⟩

set_option maxHeartbeats 800000 in
theorem refBy_any (A : Option Addr) (l : List Int) (n c : Nat) (r g : Int) (w : World) (h : Ints w A l) (v : Cv l) (r0 : 0 ≤ r) (r1 : r ≤ 10001) (g0 : 0 ≤ g) (g1 : g ≤ 1000000) (hn : n = l.length) :
    Calls Try.prog 23 #[.slice A n c, .int .i64 r, .int .i64 g] w fun e w' => (∃ R, ByIs l r g R ∧ e = .returned (.int .i64 R)) ∧ Below w.heap.size w w' := by
  subst hn
  have hle := v.le
  obtain ⟨b0, hb0⟩ : ∃ b0, b0 = w.heap.size := ⟨_, rfl⟩
  obtain ⟨b1, hb1⟩ : ∃ b1, b1 = w.heap.size + 1 := ⟨_, rfl⟩
  obtain ⟨b2, hb2⟩ : ∃ b2, b2 = w.heap.size + 1 + 1 := ⟨_, rfl⟩
  obtain ⟨W, hW⟩ : ∃ W, W = ((w.alloc (.cells #[.slice A l.length c] 22)).alloc (.cells #[.int .i64 r] 3)).alloc (.cells #[.int .i64 g] 3) := ⟨_, rfl⟩
  have bW : Below w.heap.size w W := by
    rw [hW]
    exact (((Below.refl _ w).alloc (Nat.le_refl _) _).alloc (by simp) _).alloc (by simp; omega) _
  have q0 : Blk W b0 22 #[.slice A l.length c] := by rw [hW, hb0]; exact ((Blk.new w _ _).alloc _).alloc _
  have q1 : Blk W b1 3 #[.int .i64 r] := by
    have := (Blk.new (w.alloc (.cells #[.slice A l.length c] 22)) 3 #[.int .i64 r]).alloc (.cells #[.int .i64 g] 3)
    rw [hW, hb1]
    simpa using this
  have q2 : Blk W b2 3 #[.int .i64 g] := by
    have := Blk.new ((w.alloc (.cells #[.slice A l.length c] 22)).alloc (.cells #[.int .i64 r] 3)) 3 #[.int .i64 g]
    rw [hW, hb2]
    simpa using this
  have HB : ByW W b0 b1 b2 A l c r g := ⟨q0, q1, q2, h.below bW⟩
  have c0 : W.cell? ⟨b0, 0, none⟩ = some (.slice A l.length c) := by simpa using q0.cell 0
  have HW := Lib.hid hW
  have H0 := Lib.hid hb0
  have H1 := Lib.hid hb1
  have H2 := Lib.hid hb2
  clear hW hb0 hb1 hb2 q0 q1 q2 h
  go_enter Try.func23, Try.ntmps23
  go_wp2_with fail
  rw [← HW.out, ← H2.out, ← H1.out, ← H0.out]
  refine (rtimes_any l.length _ hle).mono ?_
  rintro e w1 ⟨B, cb, rfl, o, b⟩
  have hB := Ints.of_own o
  rw [show (idL l.length).length = l.length from length_tab _ _]
  have HB1 := HB.below b
  replace bW := below_trans bW b
  clear o b HB c0
  go_wp2_with fail
  refine (byIndex_any b0 b1 b2 A B l c _ cb r g _ HB1 v r0 r1 g0 g1 rfl hB).mono ?_
  rintro e w2 ⟨⟨R, hR, rfl⟩, m, rfl⟩
  go_wp2
  go_ret
  exact ⟨⟨R, hR, rfl⟩, below_trans bW (below_of_drewN rfl)⟩

end Go.Proofs.Ytnjeelmlabefjaa
