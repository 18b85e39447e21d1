
/-
  Two worlds side by side.
-/
import Derived.Test.YtlaandbaaepamaaWldO
namespace Go.Proofs.Ytlaandbaaepamaa
set_option linter.all false
open Go.RowKit Go.Shelf Go.Lib

variable {Rep : World → Value → (Nat → Prop) → WSt → Prop}
set_option maxRecDepth 100000 in
set_option maxHeartbeats 1600000 in
theorem act_anyF (K : WldC Rep) (N : Nat) (A : Option Addr) (c : Nat) (l : List Int) (w wr : World) (p : Value) (s : WSt) (F : Nat → Prop) (W0 : World) (h : OwnF Rep w wr p s F W0) (hl : Ints wr A l) (hN : s.d.l.length = N) :
    Calls Try.prog 22 #[p, .int .i64 N, .slice A l.length c] wr fun e w' => ∃ s' v, ActIs N l s s' v ∧ e = .returned (.int .i64 v) ∧ OwnF Rep w w' p s' F W0 := by
  have ho := h.ok K
  have hN1 : 1 ≤ N := by have := ho.n0; omega
  have hN8 : N ≤ 8 := by have := ho.n1; omega
  have HN := Lib.hid hN
  have hll := hl.1
  clear hN ho
  by_cases hp : l.length = 0
  · have HA : Hid (ActIs N l s s 0) := Lib.hid (.inl ⟨hp, rfl, rfl⟩)
    have e1 : ((l.length : Int) == 0) = true := by rw [hp]; rfl
    have e2 : (l.length : Int) = 0 := by omega
    have O := h
    clear hp
    go_enter Try.func22, Try.ntmps22
    go_wp2
    go_ret
    exact ⟨_, _, HA.out, rfl, O⟩
  · replace hp : 0 < l.length := by omega
    have e1 : ((l.length : Int) == 0) = false := by rw [beq_eq_false_iff_ne]; omega
    have hi0 : (0 : Int) < (l.length : Int) := by omega
    obtain ⟨b0, o0, x, rfl, hc0, HX⟩ := hl.at_ (k := 0) hp
    have hg0 := gt_of_get HX.out
    have hw : wi x 3 = 0 ∨ wi x 3 = 1 ∨ wi x 3 = 2 := by
      have := wi_nonneg x 3 (by omega); have := wi_lt x 3 (by omega); omega
    simp only [Nat.add_zero] at hc0
    by_cases h1 : 1 < l.length
    · have hi1 : (1 : Int) < (l.length : Int) := by omega
      obtain ⟨b1, o1, y, e2, hc1, HY⟩ := hl.at_ (k := 1) h1
      obtain ⟨rfl, rfl⟩ : b1 = b0 ∧ o1 = o0 := by injection e2 with e1; injection e1 with e1 e2; exact ⟨e1.symm, e2.symm⟩
      clear e2
      have HK : Hid (kV l = y) := Lib.hid (by rw [kV, if_pos h1]; exact gt_of_get HY.out)
      clear h1
      go_enter Try.func22, Try.ntmps22
      rcases hw with q | q | q
      · have HA : Hid (ActIs N l s (apW (wi (kV l) 100) s) 0) := Lib.hid (.inr (.inl ⟨hp, by rw [hg0]; exact q, rfl, rfl⟩))
        have HQ := Lib.hid q
        clear q hg0
        go_wp2_with fail
        refine (within_any x 3 _ (by omega) (by omega)).mono ?_
        rintro e w5 ⟨rfl, rfl⟩
        rw [HQ.out]
        go_wp2_with fail
        rw [← HK.out]
        refine (within_any (kV l) 100 _ (by omega) (by omega)).mono ?_
        rintro e w5 ⟨rfl, rfl⟩
        go_wp2_with fail
        refine (K.appendF (wi (kV l) 100) (apE (wi (kV l) 100) s) w _ W0 _ _ F h (Lib.hid rfl)).mono ?_
        rintro e w6 ⟨rfl, O⟩
        go_wp2
        go_ret
        exact ⟨_, _, HA.out, rfl, O⟩
      · obtain ⟨t, m, ht⟩ := ex_tick (h.ok K)
        have HA : Hid (ActIs N l s (tickW t s) 0) := Lib.hid (.inr (.inr (.inl ⟨hp, by rw [hg0]; exact q, rfl, t, m, ht, rfl⟩)))
        have HQ := Lib.hid q
        have HT := Lib.hid ht
        clear q hg0 ht
        go_wp2_with fail
        refine (within_any x 3 _ (by omega) (by omega)).mono ?_
        rintro e w5 ⟨rfl, rfl⟩
        rw [HQ.out]
        go_wp2_with fail
        refine (K.tickF w _ W0 _ _ F t m h HT.out).mono ?_
        rintro e w6 ⟨rfl, O⟩
        go_wp2
        go_ret
        exact ⟨_, _, HA.out, rfl, O⟩
      · obtain ⟨i, hi⟩ := Int.eq_ofNat_of_zero_le (wi_nonneg (kV l) (N : Int) (by omega))
        have hiN : i < N := by have := wi_lt (kV l) (N : Int) (by omega); omega
        have HA : Hid (ActIs N l s (crashW i s) (pr s.d.l i).part) := Lib.hid (.inr (.inr (.inr ⟨hp, by rw [hg0]; exact q, i, hi, rfl, rfl⟩)))
        have HQ := Lib.hid q
        have HI := Lib.hid hi
        have i1 : (i : Int) < (N : Int) := by omega
        clear q hg0 hi
        go_wp2_with fail
        refine (within_any x 3 _ (by omega) (by omega)).mono ?_
        rintro e w5 ⟨rfl, rfl⟩
        rw [HQ.out]
        go_wp2_with fail
        rw [← HK.out]
        refine (within_n (kV l) (N : Int) i _ (by omega) (by omega) HI).mono ?_
        rintro e w5 ⟨rfl, rfl⟩
        go_wp2_with fail
        refine (K.peersF N w _ W0 _ _ F h HN.out).mono ?_
        rintro e w6 ⟨B, cB, rfl, hP, O6⟩
        obtain ⟨bb, off, rfl, hbl, g0, g1, g2⟩ := hP.get (k := i) (by rw [HN.out]; exact hiN)
        go_wp2_with fail
        refine (K.crashF i w _ W0 _ _ F O6 (by rw [HN.out]; exact hiN)).mono ?_
        rintro e w7 ⟨rfl, O⟩
        go_wp2
        go_ret
        exact ⟨_, _, HA.out, rfl, O⟩
    · have hi1 : ¬ (1 : Int) < (l.length : Int) := by omega
      have HK : Hid (kV l = 0) := Lib.hid (by rw [kV, if_neg h1])
      clear h1
      go_enter Try.func22, Try.ntmps22
      rcases hw with q | q | q
      · have HA : Hid (ActIs N l s (apW (wi (kV l) 100) s) 0) := Lib.hid (.inr (.inl ⟨hp, by rw [hg0]; exact q, rfl, rfl⟩))
        have HQ := Lib.hid q
        clear q hg0
        go_wp2_with fail
        refine (within_any x 3 _ (by omega) (by omega)).mono ?_
        rintro e w5 ⟨rfl, rfl⟩
        rw [HQ.out]
        go_wp2_with fail
        rw [← HK.out]
        refine (within_any (kV l) 100 _ (by omega) (by omega)).mono ?_
        rintro e w5 ⟨rfl, rfl⟩
        go_wp2_with fail
        refine (K.appendF (wi (kV l) 100) (apE (wi (kV l) 100) s) w _ W0 _ _ F h (Lib.hid rfl)).mono ?_
        rintro e w6 ⟨rfl, O⟩
        go_wp2
        go_ret
        exact ⟨_, _, HA.out, rfl, O⟩
      · obtain ⟨t, m, ht⟩ := ex_tick (h.ok K)
        have HA : Hid (ActIs N l s (tickW t s) 0) := Lib.hid (.inr (.inr (.inl ⟨hp, by rw [hg0]; exact q, rfl, t, m, ht, rfl⟩)))
        have HQ := Lib.hid q
        have HT := Lib.hid ht
        clear q hg0 ht
        go_wp2_with fail
        refine (within_any x 3 _ (by omega) (by omega)).mono ?_
        rintro e w5 ⟨rfl, rfl⟩
        rw [HQ.out]
        go_wp2_with fail
        refine (K.tickF w _ W0 _ _ F t m h HT.out).mono ?_
        rintro e w6 ⟨rfl, O⟩
        go_wp2
        go_ret
        exact ⟨_, _, HA.out, rfl, O⟩
      · obtain ⟨i, hi⟩ := Int.eq_ofNat_of_zero_le (wi_nonneg (kV l) (N : Int) (by omega))
        have hiN : i < N := by have := wi_lt (kV l) (N : Int) (by omega); omega
        have HA : Hid (ActIs N l s (crashW i s) (pr s.d.l i).part) := Lib.hid (.inr (.inr (.inr ⟨hp, by rw [hg0]; exact q, i, hi, rfl, rfl⟩)))
        have HQ := Lib.hid q
        have HI := Lib.hid hi
        have i1 : (i : Int) < (N : Int) := by omega
        clear q hg0 hi
        go_wp2_with fail
        refine (within_any x 3 _ (by omega) (by omega)).mono ?_
        rintro e w5 ⟨rfl, rfl⟩
        rw [HQ.out]
        go_wp2_with fail
        rw [← HK.out]
        refine (within_n (kV l) (N : Int) i _ (by omega) (by omega) HI).mono ?_
        rintro e w5 ⟨rfl, rfl⟩
        go_wp2_with fail
        refine (K.peersF N w _ W0 _ _ F h HN.out).mono ?_
        rintro e w6 ⟨B, cB, rfl, hP, O6⟩
        obtain ⟨bb, off, rfl, hbl, g0, g1, g2⟩ := hP.get (k := i) (by rw [HN.out]; exact hiN)
        go_wp2_with fail
        refine (K.crashF i w _ W0 _ _ F O6 (by rw [HN.out]; exact hiN)).mono ?_
        rintro e w7 ⟨rfl, O⟩
        go_wp2
        go_ret
        exact ⟨_, _, HA.out, rfl, O⟩


/-- Two, as s and s' say, in blocks of their own. -/
structure Two (Rep : World → Value → (Nat → Prop) → WSt → Prop) (w wr : World) (p q : Value) (s s' : WSt) : Prop where
  rep : ∃ S T, Rep wr p S s ∧ Rep wr q T s' ∧ (∀ b, S b → w.heap.size ≤ b) ∧ (∀ b, T b → w.heap.size ≤ b) ∧ ∀ b, S b → ¬ T b
  b : Below w.heap.size w wr
theorem Two.swap {w wr : World} {p q : Value} {s s' : WSt} (h : Two Rep w wr p q s s') : Two Rep w wr q p s' s := by
  obtain ⟨⟨S, T, h1, h2, h3, h4, h5⟩, b⟩ := h
  exact ⟨⟨T, S, h2, h1, h4, h3, fun b hT hS => h5 b hS hT⟩, b⟩
/-- One moves while the other stays. -/
theorem Two.open_ (K : WldC Rep) {w wr : World} {p q : Value} {s s' : WSt} (h : Two Rep w wr p q s s') : ∃ F, OwnF Rep w wr p s F wr ∧ ∀ w' s1, OwnF Rep w w' p s1 F wr → Two Rep w w' p q s1 s' := by
  obtain ⟨⟨S, T, h1, h2, h3, h4, h5⟩, b⟩ := h
  refine ⟨T, ⟨⟨S, h1, h3, h5⟩, b, K.lt _ _ _ _ h2, fun _ _ => rfl⟩, fun w' s1 k => ?_⟩
  obtain ⟨⟨S', k1, k2, k3⟩, kb, kl, ks⟩ := k
  exact ⟨⟨S', T, k1, K.keep _ _ _ _ _ h2 ks, k2, h4, k3⟩, kb⟩
theorem Two.keep (K : WldC Rep) {w wr w' : World} {p q : Value} {s s' : WSt} (h : Two Rep w wr p q s s') (b : Below wr.heap.size wr w') : Two Rep w w' p q s s' := by
  obtain ⟨⟨S, T, h1, h2, h3, h4, h5⟩, hb⟩ := h
  exact ⟨⟨S, T, K.keep _ _ _ _ _ h1 (fun b' hb' => b.block b' (K.lt _ _ _ _ h1 b' hb')), K.keep _ _ _ _ _ h2 (fun b' hb' => b.block b' (K.lt _ _ _ _ h2 b' hb')), h3, h4, h5⟩, below_trans hb b⟩
theorem Two.ok (K : WldC Rep) {w wr : World} {p q : Value} {s s' : WSt} (h : Two Rep w wr p q s s') : StOk s := by
  obtain ⟨⟨S, T, h1, _⟩, _⟩ := h
  exact K.ok _ _ _ _ h1
/-- What a word does to the one it does to the other. -/
theorem ActIs.uniq {n : Nat} {l : List Int} {s a b : WSt} {u v : Int} (h : ActIs n l s a u) (k : ActIs n l s b v) (ok : StOk s) : a = b := by
  rcases h with ⟨h0, rfl, _⟩ | ⟨h0, h1, rfl, _⟩ | ⟨h0, h1, _, t, m, ht, rfl⟩ | ⟨h0, h1, i, hi, rfl, _⟩
  · rcases k with ⟨_, rfl, _⟩ | ⟨c, _⟩ | ⟨c, _⟩ | ⟨c, _⟩
    · rfl
    all_goals omega
  · rcases k with ⟨c, _⟩ | ⟨_, c, rfl, _⟩ | ⟨_, c, _⟩ | ⟨_, c, _⟩
    · omega
    · rfl
    all_goals omega
  · rcases k with ⟨c, _⟩ | ⟨_, c, _⟩ | ⟨_, c, _, t', m', ht', rfl⟩ | ⟨_, c, _⟩
    · omega
    · omega
    · rw [(ht.uniq ok.u0 ok.ok ht').2]
    · omega
  · rcases k with ⟨c, _⟩ | ⟨_, c, _⟩ | ⟨_, c, _⟩ | ⟨_, c, i', hi', rfl, _⟩
    · omega
    · omega
    · omega
    · obtain rfl : i = i' := by omega
      rfl
theorem WldC.append2 (K : WldC Rep) (k E : Int) (w wr : World) (p q : Value) (s s' : WSt) (h : Two Rep w wr p q s s') (hE : Hid (apE k s = E)) : Calls Try.prog 13 #[p, .int .i64 k] wr fun e w' => e = .returned (.int .i64 E) ∧ Two Rep w w' p q (apW k s) s' := by
  obtain ⟨F, O, back⟩ := h.open_ K
  refine (K.appendF k E w wr wr p s F O hE).mono ?_
  rintro e w' ⟨rfl, O'⟩
  exact ⟨rfl, back _ _ O'⟩
theorem act2 (K : WldC Rep) (k : Int) (N : Nat) (A : Option Addr) (n c : Nat) (l : List Int) (w wr : World) (p q : Value) (s s' : WSt) (h : Two Rep w wr p q s s') (hl : Ints wr A l) (hN : s.d.l.length = N) (hk : k = N) (hn : n = l.length) :
    Calls Try.prog 22 #[p, .int .i64 k, .slice A n c] wr fun e w' => ∃ s1 v, ActIs N l s s1 v ∧ e = .returned (.int .i64 v) ∧ Two Rep w w' p q s1 s' := by
  subst hk hn
  obtain ⟨F, O, back⟩ := h.open_ K
  refine (act_anyF K N A c l w wr p s F wr O hl hN).mono ?_
  rintro e w' ⟨s1, v, h1, h2, O'⟩
  exact ⟨s1, v, h1, h2, back _ _ O'⟩
theorem WldC.peers2 (K : WldC Rep) (n : Nat) (w wr : World) (p q : Value) (s s' : WSt) (h : Two Rep w wr p q s s') (hn : s.d.l.length = n) : Calls Try.prog 19 #[p] wr fun e w' => ∃ A c, e = .returned (.slice A n c) ∧ Prs w' A s.d.l ∧ w'.ownsRow wr.heap.size 34 3 (.slice A n c) n (pecs s.d.l) ∧ Below wr.heap.size wr w' ∧ Two Rep w w' p q s s' := by
  subst hn
  have h' := h
  obtain ⟨⟨S, T, h1, _⟩, hb⟩ := h
  refine (K.peers wr p S s h1).mono ?_
  rintro e w' ⟨A, c, rfl, o, b⟩
  exact ⟨A, c, rfl, Prs.of_own o, o, b, h'.keep K b⟩
theorem WldC.new2 (K : WldC Rep) (k r u : Int) (n : Nat) (w wr : World) (p : Value) (s : WSt) (h : Own1 Rep w wr p s) (hk : k = n) (hn : NewOk n r u) : Calls Try.prog 10 #[.int .i64 k, .int .i64 r, .int .i64 u] wr fun e w' => ∃ a, e = .returned (.tuple #[.pointer (some a), .int .i64 0]) ∧ Two Rep w w' p (.pointer (some a)) s (newW n r u) := by
  obtain ⟨⟨S, h1, h2⟩, hb⟩ := h
  refine (K.new_at k r u n wr hk hn).mono ?_
  rintro e w' ⟨a, T, rfl, hT, hs, b⟩
  exact ⟨a, rfl, ⟨S, T, K.keep _ _ _ _ _ h1 (fun b' hb' => b.block b' (K.lt _ _ _ _ h1 b' hb')), hT, h2, fun b' hb' => by have := hs b' hb'; have := hb.size; omega, fun b' hb' hc => by have := K.lt _ _ _ _ h1 b' hb'; have := hs b' hc; omega⟩, below_trans hb b⟩

end Go.Proofs.Ytlaandbaaepamaa
