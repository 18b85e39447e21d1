
/-
  The walk of the law WorldTurns over what package world owes.
-/
import Derived.Test.YtlaandbaaepamaaWldF
import Derived.Test.YtlaandbaaepamaaWldM
import Derived.Test.YtlaandbaaepamaaWinZ
import Derived.Test.YtlaandbaaepamaaWiN
import Derived.Test.YtlaandbaaepamaaTraceB
namespace Go.Proofs.Ytlaandbaaepamaa
set_option linter.all false
open Go.RowKit Go.Shelf Go.Lib

variable {Rep : World → Value → (Nat → Prop) → WSt → Prop}
/-- A world that was made behind w: there it is, as s says. -/
structure Own1 (Rep : World → Value → (Nat → Prop) → WSt → Prop) (w wr : World) (p : Value) (s : WSt) : Prop where
  rep : ∃ S, Rep wr p S s ∧ ∀ b, S b → w.heap.size ≤ b
  b : Below w.heap.size w wr
theorem Own1.mv {w wr w' : World} {p : Value} {s' : WSt} {S S' : Nat → Prop} (h : Below w.heap.size w wr) (hS : ∀ b, S b → w.heap.size ≤ b) (hR : Rep w' p S' s') (m : Mv wr w' S S') : Own1 Rep w w' p s' :=
  ⟨⟨S', hR, m.from_ h.size hS⟩, h.trans (m.below h.size hS)⟩
theorem Own1.keep (K : WldC Rep) {w wr w' : World} {p : Value} {s : WSt} (h : Own1 Rep w wr p s) (b : Below wr.heap.size wr w') : Own1 Rep w w' p s := by
  obtain ⟨⟨S, hR, hS⟩, hb⟩ := h
  exact ⟨⟨S, K.keep _ _ _ _ _ hR (fun b' hb' => b.block b' (K.lt _ _ _ _ hR b' hb')), hS⟩, below_trans hb b⟩
theorem Own1.ok (K : WldC Rep) {w wr : World} {p : Value} {s : WSt} (h : Own1 Rep w wr p s) : StOk s := by
  obtain ⟨⟨S, hR, _⟩, _⟩ := h
  exact K.ok _ _ _ _ hR
theorem WldC.append1 (K : WldC Rep) (k E : Int) (w wr : World) (p : Value) (s : WSt) (h : Own1 Rep w wr p s) (hE : Hid (apE k s = E)) : Calls Try.prog 13 #[p, .int .i64 k] wr fun e w' => e = .returned (.int .i64 E) ∧ Own1 Rep w w' p (apW k s) := by
  obtain ⟨⟨S, hR, hS⟩, hb⟩ := h
  refine (K.append k wr p S s hR).mono ?_
  rintro e w' ⟨rfl, S', hR', m⟩
  exact ⟨by rw [hE.out], Own1.mv hb hS hR' m⟩
theorem WldC.tick1 (K : WldC Rep) (w wr : World) (p : Value) (s : WSt) (t : Wd) (m : Nat) (h : Own1 Rep w wr p s) (ht : Tick s.unit s.rate s.d t m) : Calls Try.prog 15 #[p] wr fun e w' => e = .returned (.int .i64 m) ∧ Own1 Rep w w' p (tickW t s) := by
  obtain ⟨⟨S, hR, hS⟩, hb⟩ := h
  refine (K.tick wr p S s t m hR ht).mono ?_
  rintro e w' ⟨rfl, S', hR', mv⟩
  exact ⟨rfl, Own1.mv hb hS hR' mv⟩
theorem WldC.crash1 (K : WldC Rep) (i : Nat) (w wr : World) (p : Value) (s : WSt) (h : Own1 Rep w wr p s) (hi : i < s.d.l.length) : Calls Try.prog 17 #[p, .int .i64 i] wr fun e w' => e = .returned (.int .i64 0) ∧ Own1 Rep w w' p (crashW i s) := by
  obtain ⟨⟨S, hR, hS⟩, hb⟩ := h
  refine (K.crash i wr p S s hR hi).mono ?_
  rintro e w' ⟨rfl, S', hR', mv⟩
  exact ⟨rfl, Own1.mv hb hS hR' mv⟩
theorem WldC.peers1 (K : WldC Rep) (n : Nat) (w wr : World) (p : Value) (s : WSt) (h : Own1 Rep w wr p s) (hn : s.d.l.length = n) : Calls Try.prog 19 #[p] wr fun e w' => ∃ A c, e = .returned (.slice A n c) ∧ Prs w' A s.d.l ∧ Below wr.heap.size wr w' ∧ Own1 Rep w w' p s := by
  subst hn
  have h' := h
  obtain ⟨⟨S, hR, hS⟩, hb⟩ := h
  refine (K.peers wr p S s hR).mono ?_
  rintro e w' ⟨A, c, rfl, o, b⟩
  exact ⟨A, c, rfl, Prs.of_own o, b, h'.keep K b⟩

/-- What all had is as much, or a byte more. -/
theorem turns_even {N R k : Nat} {t : Wd} {s : WSt} (hs : StOk s) (hu : s.unit = 1000) (hz : ∀ i, i < s.d.l.length → (pr s.d.l i).need = 100000) (h0 : s.d.turn = 0) (hN : s.d.l.length = N) (b : Bys 1000 (k * R) s.d t) : ∃ a : Int, ∀ i, i < N → 100000 - (pr t.l i).need = a ∨ 100000 - (pr t.l i).need = a + 1 := by
  have ok := hs.ok
  rw [hu] at ok
  obtain ⟨a, _, h⟩ := b.even (N := 100000) (by omega) ok h0 hz
  refine ⟨a, fun i hi => ?_⟩
  have := h i (by omega)
  split at this <;> omega
set_option maxRecDepth 100000 in
set_option maxHeartbeats 3200000 in
theorem v_WorldTurns (K : WldC Rep) (n1 n2 n3 : Int) (w : World) (_1 : (Lit.int .i64 n1).wf = true) (_2 : (Lit.int .i64 n2).wf = true) (_3 : (Lit.int .i64 n3).wf = true) :
    Calls Try.prog 6 #[.int .i64 n1, .int .i64 n2, .int .i64 n3] w fun e w' => e = .returned (.bool true) ∧ Below w.heap.size w w' := by
  clear _1 _2 _3
  obtain ⟨i0, hi0, hz0, hz1, hz2⟩ := info_parts int_info
  obtain ⟨A, hA⟩ := Int.eq_ofNat_of_zero_le (wi_nonneg n1 8 (by omega))
  have hA8 : A < 8 := by have := wi_lt n1 8 (by omega); omega
  obtain ⟨R, hR⟩ := Int.eq_ofNat_of_zero_le (wi_nonneg n2 100 (by omega))
  have hR1 : R < 100 := by have := wi_lt n2 100 (by omega); omega
  obtain ⟨T, hT⟩ := Int.eq_ofNat_of_zero_le (wi_nonneg n3 60 (by omega))
  have hT1 : T < 60 := by have := wi_lt n3 60 (by omega); omega
  have HA := Lib.hid hA
  have HR := Lib.hid hR
  have HT := Lib.hid hT
  clear hA hR hT
  go_enter Try.func6, Try.ntmps6
  go_wp2_with fail
  refine (within_n n1 8 A _ (by omega) (by omega) HA).mono ?_
  rintro e w' ⟨rfl, rfl⟩
  go_wp2_with fail
  refine (within_n n2 100 R _ (by omega) (by omega) HR).mono ?_
  rintro e w' ⟨rfl, rfl⟩
  go_wp2_with fail
  refine (within_n n3 60 T _ (by omega) (by omega) HT).mono ?_
  rintro e w' ⟨rfl, rfl⟩
  go_wp2_with fail
  refine (K.new_at (1 + (A : Int)) R 1000 (A + 1) _ (by omega) ⟨by omega, by omega, by omega, by omega, by omega, by omega⟩).mono ?_
  rintro e w1 ⟨a, S, rfl, hR1', hS, b1⟩
  have O1 : Own1 Rep w w1 (.pointer (some a)) (newW (A + 1) R 1000) := ⟨⟨S, hR1', hS⟩, b1⟩
  clear hR1' hS b1
  have HE : Hid (apE 100000 (newW (A + 1) R 1000) = 0) := Lib.hid (by
    have : overB 100000 (newW (A + 1) R 1000).d.l = false := over_iff.2 (fun i hi => by simp [newW] at hi ⊢; rw [pr_rep hi]; simp)
    rw [apE, if_neg (by decide), this]; rfl)
  go_wp2_with fail
  refine (K.append1 100000 0 w _ _ _ O1 HE).mono ?_
  rintro e w2 ⟨rfl, O2⟩
  clear O1
  obtain ⟨s, hs⟩ : ∃ s, s = apW 100000 (newW (A + 1) R 1000) := ⟨_, rfl⟩
  have hs' : s = moreW 100000 (newW (A + 1) R 1000) := by rw [hs, apW, if_pos HE.out]
  rw [← hs] at O2
  have su : s.unit = 1000 := by rw [hs']; rfl
  have sr : s.rate = R := by rw [hs']; rfl
  have sn : s.d.l.length = A + 1 := by rw [hs']; simp [moreW, newW]
  have st : s.d.turn = 0 := by rw [hs']; rfl
  have sd : ∀ i, i < s.d.l.length → (pr s.d.l i).need = 100000 := fun i hi => by
    rw [sn] at hi
    rw [hs']
    simp only [moreW, newW]
    rw [pr_map (by simpa using hi), pr_rep hi]; rfl
  have ssum : s.d.sum = ((A + 1 : Nat) : Int) * 100000 := by
    have : ∀ n, n ≤ s.d.l.length → needs s.d.l n = (n : Int) * 100000 := fun n => by
      induction n with
      | zero => intro _; simp [needs]
      | succ n ih => intro h; rw [needs, ih (by omega), sd n (by omega)]; omega
    rw [Wd.sum, this _ (Nat.le_refl _), sn]
  have HSU := Lib.hid su
  have HSR := Lib.hid sr
  have HSN := Lib.hid sn
  have HST := Lib.hid st
  have HSD := Lib.hid sd
  have HSS := Lib.hid ssum
  have HOS := Lib.hid (O2.ok K)
  clear hs hs' su sr sn st sd ssum HE
  go_wp2
  go_loopw [37] (fun i wr => ∃ (k : Nat) (t : Wd), k ≤ T ∧ i = .int .i64 k ∧ Own1 Rep w wr (.pointer (some a)) (tickW t s) ∧ Hid (Bys 1000 (k * R) s.d t)) (fun i _ => T - (intOf i).toNat)
  case atStart => exact ⟨0, s.d, Nat.zero_le _, rfl, O2, Lib.hid (by rw [Nat.zero_mul]; exact .none _)⟩
  case round =>
    clear O2
    obtain ⟨k, t, hk, rfl, O, HB⟩ := hrel
    by_cases hlt : k < T
    · have i1 : (k : Int) < (T : Int) := by omega
      obtain ⟨t', m, ht⟩ := ex_tick (O.ok K)
      have hti := ht.is (by show 1 ≤ s.unit; rw [HSU.out]; omega) (O.ok K).ok
      have okS := HOS.out.ok
      rw [HSU.out] at okS
      have hkp := HB.out.keep (by omega) okS
      have hmR : m = R := by
        have h1 : (m : Int) = min s.rate t.sum := hti.1
        rw [HSR.out, hkp.2.2, HSS.out] at h1
        have h2 : k * R ≤ 60 * 100 := Nat.mul_le_mul (by omega) (by omega)
        omega
      subst hmR
      have HB' : Hid (Bys 1000 ((k + 1) * m) s.d t') := Lib.hid (by
        rw [Nat.add_mul, Nat.one_mul]
        have hb := ht.bys
        have e : (tickW t s).unit = 1000 := HSU.out
        rw [e] at hb
        exact HB.out.trans hb)
      have HTK := Lib.hid ht
      clear hti okS hkp ht
      go_wp2_with fail
      refine (K.tick1 w _ _ _ t' m O HTK.out).mono ?_
      rintro e w5 ⟨rfl, O5⟩
      clear O
      go_wp2
      go_roundw
      case rel => exact ⟨k + 1, t', by omega, by go_num, O5, HB'⟩
      case measure => simp [intOf]; omega
    · obtain rfl : k = T := by omega
      obtain ⟨g, hg⟩ := turns_even HOS.out HSU.out HSD.out HST.out HSN.out HB.out
      have ho := O.ok K
      have tl : t.l.length = A + 1 := by
        have okS := HOS.out.ok
        rw [HSU.out] at okS
        rw [(HB.out.keep (by omega) okS).2.1, HSN.out]
      obtain ⟨F, hF⟩ : ∃ F : Nat → Int, F = fun i => 100000 - (pr t.l i).need := ⟨_, rfl⟩
      have HF : Hid (∀ i, F i = 100000 - (pr t.l i).lag + (pr t.l i).part) := Lib.hid (fun i => by rw [hF]; simp only [Per.need]; omega)
      have HG : Hid (∀ i, i < A + 1 → F i = g ∨ F i = g + 1) := Lib.hid (fun i hi => by rw [hF]; exact hg i hi)
      have HP : Hid (∀ i, i < A + 1 → 0 ≤ (pr t.l i).lag ∧ (pr t.l i).lag ≤ 1000000 ∧ 0 ≤ (pr t.l i).part ∧ (pr t.l i).part ≤ 1000) := Lib.hid (fun i hi => by
        have k1 := ho.ok.ok i (by show i < t.l.length; omega)
        have k2 := ho.lag i (by show i < t.l.length; omega)
        have k3 : s.unit = 1000 := HSU.out
        have k4 := k1.less
        have k5 := k1.lag0
        have k6 := k1.part0
        exact ⟨k5, k2, k6, by have : (pr t.l i).part < s.unit := k4; omega⟩)
      have HTL := Lib.hid tl
      clear hF hg ho tl HB HSU HSR HSN HST HSD HSS HOS
      go_wp2_with fail
      refine (K.peers1 (A + 1) w _ _ _ O HTL.out).mono ?_
      rintro e w6 ⟨B, c, rfl, hP, b6, O6⟩
      have hP : Prs w6 B t.l := hP
      have hb := O6.b
      clear O O6 b6
      go_wp2
      go_loopw [9, 47] (fun o i wr => ∃ j : Nat, j ≤ A + 1 ∧ i = .int .i64 j ∧ wr.ownsRow w6.heap.size 3 1 o j ((tab j F).map (Value.int .i64)) ∧ Below w6.heap.size w6 wr) (fun _ i _ => A + 1 - (intOf i).toNat)
      case atStart => exact ⟨0, Nat.zero_le _, rfl, by rw [tab_zero]; exact World.ownsRow_nil _ _ _ _, Below.refl _ _⟩
      case round =>
        obtain ⟨j, hj, rfl, hown, hbel⟩ := hrel
        by_cases hlt : j < A + 1
        · obtain ⟨bb, off, rfl, hbl, g0, g1, g2⟩ := (hP.below hbel).get (k := j) (by rw [HTL.out]; exact hlt)
          have hf := HF.out j
          obtain ⟨p0, p1, p2, p3⟩ := HP.out j hlt
          obtain ⟨x, hx⟩ : ∃ x, x = (pr t.l j).lag := ⟨_, rfl⟩
          obtain ⟨y, hy⟩ : ∃ y, y = (pr t.l j).part := ⟨_, rfl⟩
          obtain ⟨z, hz⟩ : ∃ z, z = (pr t.l j).done := ⟨_, rfl⟩
          rw [← hx] at g0 hf p0 p1
          rw [← hy] at g1 hf p2 p3
          rw [← hz] at g2
          have HM := Lib.hid hf
          have i1 : (j : Int) < (A : Int) + 1 := by omega
          have s1 : IntKind.i64.wrap (100000 - x) = 100000 - x := IntWalk.i64_in _ ⟨by omega, by omega⟩
          have s2 : IntKind.i64.wrap (100000 - x + y) = 100000 - x + y := IntWalk.i64_in _ ⟨by omega, by omega⟩
          have hsz := hbel.size
          clear hx hy hz hf
          go_wp2_with (at_builtin; refine wpList_append_own _ rfl _ _ 29 rfl w6.heap.size 3 i0 (.int .i64 0) 1 8 Try.underlying29 hi0 hz0 hz1 hz2 rfl (by decide) _ _ _ rfl (World.ownsRow.alloc (World.ownsRow.alloc hown _) _) ⟨wr.heap.size + 1, 0, none⟩ 1 1 [.int .i64 (100000 - x + y)] rfl rfl ?c1 ?c2 ?c3 ?c4 ?c5 ?_)
          case c1 => simpa using new_one2 (wr.alloc (.cells #[.int .i64 x, .int .i64 y, .bool z] 34)) (.int .i64 (100000 - x + y)) 3
          case c2 => exact one_cell2 _
          case c3 => unfold maxLen; omega
          case c4 => omega
          case c5 => first | (simp; omega) | omega
          intro v' w7 hown' hgrow _
          have hbel' : Below w6.heap.size w6 w7 := ((hbel.alloc hbel.size _).alloc (by simp; omega) _).grown hgrow (by simp; omega) (fun k hk => (hown.lt k hk).1)
          have hown'' : w7.ownsRow w6.heap.size 3 1 v' (j + 1) ((tab (j + 1) F).map (Value.int .i64)) := by rw [tab_succ, List.map_append, HM.out]; exact hown'
          clear hown' hgrow hown hbel
          go_wp2
          go_roundw
          case rel => exact ⟨j + 1, by omega, by go_num, hown'', hbel'⟩
          case measure => simp [intOf]; omega
        · obtain rfl : j = A + 1 := by omega
          obtain ⟨D, d, rfl⟩ := row_formW hown
          have hD : Ints wr D (tab (A + 1) F) := Ints.of_own (by rw [length_tab]; exact hown)
          have hL : (tab (A + 1) F).length = A + 1 := length_tab _ _
          obtain ⟨MX, hMX⟩ : ∃ MX, maxTo (tab (A + 1) F) ((tab (A + 1) F).length - 1) = MX := ⟨_, rfl⟩
          obtain ⟨MN, hMN⟩ : ∃ MN, minTo (tab (A + 1) F) ((tab (A + 1) F).length - 1) = MN := ⟨_, rfl⟩
          have hF0 : ∀ i, i ≤ A → g ≤ gt (tab (A + 1) F) i ∧ gt (tab (A + 1) F) i ≤ g + 1 := fun i hi => by
            rw [gt_tab _ (by omega)]
            have := HG.out i (by omega); omega
          have m1 : MX ≤ g + 1 := by rw [← hMX, hL]; exact maxTo_leW _ (fun i hi => (hF0 i (by omega)).2)
          have m2 : g ≤ MN := by rw [← hMN, hL]; exact minTo_ge _ (fun i hi => (hF0 i (by omega)).1)
          have m3 := min_max (l := tab (A + 1) F) ((tab (A + 1) F).length - 1)
          rw [hMX, hMN] at m3
          have g0 := hF0 0 (by omega)
          have gb : -2000000 ≤ gt (tab (A + 1) F) 0 ∧ gt (tab (A + 1) F) 0 ≤ 2000000 := by
            rw [gt_tab _ (by omega), HF.out]
            have := HP.out 0 (by omega); omega
          have HMX := Lib.hid hMX
          have HMN := Lib.hid hMN
          have e1 : (((A : Int) + 1) == (1 + (A : Int))) = true := by rw [beq_iff_eq]; omega
          have s1 : IntKind.i64.wrap (MX - MN) = MX - MN := IntWalk.i64_in _ ⟨by omega, by omega⟩
          have s2 : MX - MN ≤ 1 := by omega
          replace hb := below_trans hb hbel
          clear hMX hMN hF0 m1 m2 m3 g0 gb hown hbel hP
          go_wp2_with fail
          refine (smax_smq D (tab (A + 1) F) _ d MX _ HMX hD (by rw [hL]; omega) hL.symm).mono ?_
          rintro e w' ⟨rfl, rfl⟩
          go_wp2_with fail
          refine (smin_smp D (tab (A + 1) F) _ d MN _ HMN hD (by rw [hL]; omega) hL.symm).mono ?_
          rintro e w' ⟨rfl, rfl⟩
          go_wp2
          go_ret
          exact ⟨rfl, hb⟩

end Go.Proofs.Ytlaandbaaepamaa
