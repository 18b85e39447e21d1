
/-
  Walks: the document's own standard curves: made, over the law's three function values.
-/
import Derived.Test.YtkjcganbdnbclaaShapeA
import Derived.Test.YtkjcganbdnbclaaRefB
namespace Go.Proofs.Ytkjcganbdnbclaa
set_option linter.all false
open Go.RowKit Go.Shelf

theorem Ans.of {L : List Int} {E : Int} {w : World} {v : Value} {w' : World} (h : w'.ownsRow w.heap.size 3 1 v L.length (L.map (Value.int .i64))) (hb : Below w.heap.size w w') : Ans L E w (.returned (.tuple #[v, .int .i64 E])) w' := by
  rcases h.2 with ⟨rfl, h0⟩ | ⟨g, cap, cur, rfl, h1⟩
  · have : L = [] := List.eq_nil_of_length_eq_zero h0
    subst this
    exact ⟨none, 0, rfl, h, hb⟩
  · exact ⟨some ⟨g, 0, none⟩, cap, rfl, h, hb⟩
theorem Blk.below {w w' : World} {g : Nat} {t : TypeId} {cs : Array Value} (h : Blk w g t cs) (hb : Below w.heap.size w w') : Blk w' g t cs := (hb.block g h.lt).trans h
theorem Blk.one {w : World} {g : Nat} {t : TypeId} {u : Value} (h : Blk w g t #[u]) : w.cell? ⟨g, 0, none⟩ = some u := by simpa using h.cell 0

/-- A function value 'func(t int) int' that answers F and leaves the world alone, wherever P holds; P hangs on blocks below B alone. -/
structure At (k : FuncId) (cs : Array Value) (B n : Nat) (F : Nat → Int) (P : World → Prop) : Prop where
  ent : ∀ args w, (callFunc k args).run Try.prog w = .ok (.enter k args) w
  call : ∀ (t : Nat) (w' : World), t < n → P w' → Calls Try.prog k (#[.int .i64 t] ++ cs) w' fun e w'' => e = .returned (.int .i64 (F t)) ∧ w' = w''
  far : ∀ (w1 w2 : World), P w1 → (∀ b, b < B → w2.heap[b]? = w1.heap[b]?) → P w2

set_option maxHeartbeats 1600000 in
theorem made_yes (k : FuncId) (cs : Array Value) (h : Nat) (F : Nat → Int) (P : World → Prop) (w : World) (hh : h ≤ 60) (hc : At k cs w.heap.size (h + 1) F P) (hP : P w) :
    Calls Try.prog 11 #[.int .i64 h, .bool true, .func (.func k) #[] cs] w (Ans (tab (h + 1) F) 0 w) := by
  obtain ⟨i0, hi0, hz0, hz1, hz2⟩ := info_parts int_info
  have hent := hc.ent
  go_enter Try.func11, Try.ntmps11
  go_wp2
  go_loopw [8, 22] (fun v i wr => ∃ t : Nat, t ≤ h + 1 ∧ i = .int .i64 t ∧ wr.ownsRow w.heap.size 3 1 v t ((tab t F).map (Value.int .i64)) ∧ Below w.heap.size w wr) (fun _ i _ => h + 1 - (intOf i).toNat)
  case atStart => exact ⟨0, Nat.zero_le _, rfl, by rw [tab_zero]; exact World.ownsRow_nil _ _ _ _, Below.refl _ _⟩
  case round =>
    obtain ⟨t, ht, rfl, hown, hbel⟩ := hrel
    by_cases hlt : t < h + 1
    · have hPr : P wr := hc.far w wr hP hbel.block
      obtain ⟨y, HY⟩ : ∃ y, Hid (y = F t) := ⟨_, Lib.hid rfl⟩
      have hsz := hbel.size
      go_wp2_with fail
      refine (hc.call t wr hlt hPr).mono ?_
      rintro e w' ⟨rfl, rfl⟩
      rw [← HY.out]
      go_wp2_with (at_builtin; refine wpList_append_own _ rfl _ _ 22 rfl w.heap.size 3 i0 (.int .i64 0) 1 8 Try.underlying22 hi0 hz0 hz1 hz2 rfl (by decide) _ _ _ rfl (World.ownsRow.alloc hown _) ⟨wr.heap.size, 0, none⟩ 1 1 [.int .i64 y] rfl rfl ?c1 ?c2 ?c3 ?c4 ?c5 ?_)
      case c1 => exact new_one _ _ _
      case c2 => exact one_cell _
      case c3 => unfold maxLen; omega
      case c4 => omega
      case c5 => simp; omega
      intro v' w1 hown' hgrow _
      have hbel' : Below w.heap.size w w1 := ((hbel.alloc hbel.size _).grown hgrow (by simp; omega) (fun k hk => (hown.lt k hk).1))
      have hown'' : w1.ownsRow w.heap.size 3 1 v' (t + 1) ((tab (t + 1) F).map (Value.int .i64)) := by rw [tab_succ, List.map_append, ← HY.out]; exact hown'
      clear hown' hgrow hown hbel
      go_wp2
      go_roundw
      case rel => exact ⟨t + 1, by omega, by go_num, hown'', hbel'⟩
      case measure => simp [intOf]; omega
    · obtain rfl : t = h + 1 := by omega
      go_wp2
      go_ret2
      exact Ans.of (by rw [length_tab]; exact hown) hbel

/-- The error of made. -/
def madeE (h : Int) (b : Bool) : Int := if (outB h 0 60 || !b) = true then 1 else 0
theorem shE_made {h r n lo hi : Int} {b : Bool} (e : (!(outB r 0 10000 || outB n lo hi)) = b) : shE h r n lo hi = madeE h b := by
  subst e; unfold shE madeE; rw [Bool.not_not, Bool.or_assoc]

set_option maxHeartbeats 800000 in
theorem made_no (h : Int) (b : Bool) (fv : Value) (w : World) (hh : (h < 0 ∨ 60 < h) ∨ b = false) :
    Calls Try.prog 11 #[.int .i64 h, .bool b, fv] w (Ans [] 1 w) := by
  by_cases h1 : h < 0
  · clear hh
    go_enter Try.func11, Try.ntmps11
    go_wp2
    go_ret2
    exact Ans.none_ 1 w
  · by_cases h2 : 60 < h
    · clear hh
      go_enter Try.func11, Try.ntmps11
      go_wp2
      go_ret2
      exact Ans.none_ 1 w
    · obtain rfl : b = false := by rcases hh with hh | hh; · omega
                                   · exact hh
      clear hh
      go_enter Try.func11, Try.ntmps11
      go_wp2
      go_ret2
      exact Ans.none_ 1 w

theorem made_any (k : FuncId) (cs : Array Value) (h : Int) (b : Bool) (F : Nat → Int) (P : World → Prop) (w : World) (Y : List Int) (hY : Y = if madeE h b = 0 then tab (h.toNat + 1) F else [])
    (hc : 0 ≤ h → h ≤ 60 → b = true → At k cs w.heap.size (h.toNat + 1) F P) (hP : P w) :
    Calls Try.prog 11 #[.int .i64 h, .bool b, .func (.func k) #[] cs] w (Ans Y (madeE h b) w) := by
  cases o : outB h 0 60
  · obtain ⟨h0, h60⟩ := outB_false o
    cases b
    · have e : madeE h false = 1 := by simp [madeE]
      rw [e] at hY ⊢
      rw [if_neg (by decide)] at hY
      subst hY
      exact made_no h false _ w (.inr rfl)
    · have e : madeE h true = 0 := by simp [madeE, o]
      rw [e] at hY ⊢
      rw [if_pos rfl] at hY
      subst hY
      obtain ⟨k', rfl⟩ := Int.eq_ofNat_of_zero_le h0
      exact made_yes k cs k' F P w (by omega) (hc h0 h60 rfl) hP
  · have e : madeE h b = 1 := by simp [madeE, o]
    rw [e] at hY ⊢
    rw [if_neg (by decide)] at hY
    subst hY
    refine made_no h b _ w (.inl ?_)
    unfold outB at o
    simpa using o

/-- The law's three function values, and what they need: the boxes of rate and number. -/
def RBox (g : Nat) (r n : Int) (w : World) : Prop := Blk w g 3 #[.int .i64 r] ∧ Blk w (g + 1) 3 #[.int .i64 n]

set_option maxHeartbeats 400000 in
theorem ss1_any (t g : Nat) (r n : Int) (w : World) (ht : t ≤ 60) (r0 : 0 ≤ r) (r1 : r ≤ 10000) (n0 : 0 ≤ n) (n1 : n ≤ 1000000) (hb : RBox g r n w) :
    Calls Try.prog 12 #[.int .i64 t, .pointer (some ⟨g + 1, 0, none⟩), .pointer (some ⟨g, 0, none⟩)] w fun e w' => e = .returned (.int .i64 (buV r n t)) ∧ w = w' := by
  have c1 := hb.1.one
  have c2 := hb.2.one
  clear hb
  obtain ⟨P, hP⟩ : ∃ P, P = (t : Int) * r := ⟨_, rfl⟩
  have p0 : 0 ≤ P := by rw [hP]; exact Int.mul_nonneg (by omega) r0
  have p1 : P ≤ 600000 := by rw [hP]; exact Int.le_trans (mul_l r1 (by omega)) (by omega)
  have e2 : IntKind.i64.wrap ((t : Int) * r) = P := by rw [hP]; exact IntWalk.i64_in _ ⟨by omega, by omega⟩
  rcases Nat.lt_trichotomy t 1 with h | h | h
  · obtain rfl : t = 0 := by omega
    have e3 : IntKind.i64.wrap ((0 : Int) * r) = 0 := by rw [Int.zero_mul]; rfl
    have e4 : IntKind.i64.wrap ((0 : Int) * n) = 0 := by rw [Int.zero_mul]; rfl
    have H : Hid (buV r n 0 = 0) := Lib.hid rfl
    clear e2 hP
    rw [show ((0 : Nat) : Int) = 0 from rfl]
    go_enter Try.func12, Try.ntmps12
    go_wp2
    go_ret
    exact ⟨ret_int (by rw [H.out]), rfl⟩
  · subst h
    have H : Hid (buV r n 1 = n + r) := Lib.hid (by unfold buV; rw [if_neg (by decide)]; simp)
    clear e2 hP
    rw [show ((1 : Nat) : Int) = 1 from rfl]
    go_enter Try.func12, Try.ntmps12
    go_wp2
    go_ret
    exact ⟨ret_int (by rw [H.out]), rfl⟩
  · have H : Hid (buV r n t = n + P) := Lib.hid (by unfold buV; rw [if_neg (by omega), hP])
    have h' : (1 : Int) < (t : Int) := by omega
    clear hP
    go_enter Try.func12, Try.ntmps12
    go_wp2
    go_ret
    exact ⟨ret_int (by rw [H.out]), rfl⟩

set_option maxHeartbeats 400000 in
theorem ss2_any (t g : Nat) (r n : Int) (w : World) (ht : t ≤ 60) (r0 : 0 ≤ r) (r1 : r ≤ 10000) (n0 : 0 ≤ n) (n1 : n ≤ 60) (hb : RBox g r n w) :
    Calls Try.prog 13 #[.int .i64 t, .pointer (some ⟨g, 0, none⟩), .pointer (some ⟨g + 1, 0, none⟩)] w fun e w' => e = .returned (.int .i64 (liV r n t)) ∧ w = w' := by
  have c1 := hb.1.one
  have c2 := hb.2.one
  clear hb
  obtain ⟨P, hP⟩ : ∃ P, P = (t : Int) * r := ⟨_, rfl⟩
  have p0 : 0 ≤ P := by rw [hP]; exact Int.mul_nonneg (by omega) r0
  have p1 : P ≤ 600000 := by rw [hP]; exact Int.le_trans (mul_l r1 (by omega)) (by omega)
  have e2 : IntKind.i64.wrap ((t : Int) * r) = P := by rw [hP]; exact IntWalk.i64_in _ ⟨by omega, by omega⟩
  obtain ⟨Q, hQ⟩ : ∃ Q, Q = n * r := ⟨_, rfl⟩
  have q0 : 0 ≤ Q := by rw [hQ]; exact Int.mul_nonneg n0 r0
  have q1 : Q ≤ 600000 := by rw [hQ]; exact Int.le_trans (mul_l r1 n0) (by omega)
  have e3 : IntKind.i64.wrap (n * r) = Q := by rw [hQ]; exact IntWalk.i64_in _ ⟨by omega, by omega⟩
  have H : Hid (liV r n t = max (P - Q) 0) := Lib.hid (by rw [li_eq r0, ← hP, ← hQ])
  clear hP hQ
  by_cases h : 0 < P - Q
  · go_enter Try.func13, Try.ntmps13
    go_wp2
    go_ret
    exact ⟨ret_int (by rw [H.out]; omega), rfl⟩
  · go_enter Try.func13, Try.ntmps13
    go_wp2
    all_goals
      go_ret
      exact ⟨ret_int (by rw [H.out]; omega), rfl⟩

set_option maxHeartbeats 400000 in
theorem ss3_any (t g : Nat) (r n : Int) (w : World) (ht : t ≤ 60) (r0 : 0 ≤ r) (r1 : r ≤ 10000) (n0 : 1 ≤ n) (n1 : n ≤ 60) (hb : RBox g r n w) :
    Calls Try.prog 14 #[.int .i64 t, .pointer (some ⟨g + 1, 0, none⟩), .pointer (some ⟨g, 0, none⟩)] w fun e w' => e = .returned (.int .i64 (stV r n t)) ∧ w = w' := by
  have c1 := hb.1.one
  have c2 := hb.2.one
  clear hb
  go_enter Try.func14, Try.ntmps14
  go_wp2
  go_loop [5, 6] (fun u s => ∃ S M : Int, s = .int .i64 S ∧ u = .int .i64 M ∧ 0 ≤ S ∧ S ≤ 120 ∧ 0 ≤ M ∧ M ≤ 600000 ∧ Hid (∃ j : Nat, S = (j : Int) * n ∧ M = (j : Int) * r ∧ (j = 0 ∨ ((j : Int) - 1) * n < (t : Int)))) (fun _ s => 120 + 1 - (intOf s).toNat)
  case atStart => exact ⟨0, 0, rfl, rfl, by omega, by omega, by omega, by omega, Lib.hid ⟨0, by simp, by simp, .inl rfl⟩⟩
  case round =>
    obtain ⟨S, M, rfl, rfl, s0, s1, m0, m1, HR⟩ := hrel
    by_cases hlt : S < (t : Int)
    · go_wp2
      go_round
      case rel =>
        refine ⟨S + n, M + r, rfl, rfl, by omega, by omega, by omega, ?_, Lib.hid ?_⟩
        · obtain ⟨j, e1, e2, _⟩ := HR.out
          have h1 : (j : Int) ≤ S := by have := mul_l n0 (show (0 : Int) ≤ (j : Int) by omega); omega
          have h2 := mul_l r1 (show (0 : Int) ≤ (j : Int) + 1 by omega)
          rw [Int.add_mul] at h2
          omega
        · obtain ⟨j, e1, e2, _⟩ := HR.out
          exact ⟨j + 1, by rw [show ((j + 1 : Nat) : Int) = (j : Int) + 1 by omega, Int.add_mul]; omega, by rw [show ((j + 1 : Nat) : Int) = (j : Int) + 1 by omega, Int.add_mul]; omega, .inr (by rw [show ((j + 1 : Nat) : Int) - 1 = (j : Int) by omega]; omega)⟩
      case measure => simp [intOf]; omega
    · go_wp2
      go_ret
      refine ⟨ret_int ?_, rfl⟩
      obtain ⟨j, e1, e2, h3⟩ := HR.out
      have u1 : ((t : Int) + n - 1) / n ≤ (j : Int) := (ceil_iff n0).2 (by omega)
      have u2 : (j : Int) ≤ ((t : Int) + n - 1) / n := by
        rcases h3 with rfl | h3
        · exact ceil_nonneg n0 (by omega)
        · by_cases q : ((t : Int) + n - 1) / n ≤ (j : Int) - 1
          · have := (ceil_iff n0).1 q; omega
          · omega
      unfold stV
      rw [show ((t : Int) + n - 1) / n = (j : Int) by omega, e2]

theorem ss1_at (h : Nat) (r n : Int) (g B : Nat) (hB : g + 1 < B) (hh : h ≤ 60) (r0 : 0 ≤ r) (r1 : r ≤ 10000) (n0 : 0 ≤ n) (n1 : n ≤ 1000000) : At 12 #[.pointer (some ⟨g + 1, 0, none⟩), .pointer (some ⟨g, 0, none⟩)] B (h + 1) (buV r n) (RBox g r n) :=
  ⟨enters_of Try.func12 (by kernel_rfl) rfl, fun t w' ht hp => ss1_any t g r n w' (by omega) r0 r1 n0 n1 hp, fun w1 w2 hp he => ⟨hp.1.same (he _ (by omega)), hp.2.same (he _ (by omega))⟩⟩
theorem ss2_at (h : Nat) (r n : Int) (g B : Nat) (hB : g + 1 < B) (hh : h ≤ 60) (r0 : 0 ≤ r) (r1 : r ≤ 10000) (n0 : 0 ≤ n) (n1 : n ≤ 60) : At 13 #[.pointer (some ⟨g, 0, none⟩), .pointer (some ⟨g + 1, 0, none⟩)] B (h + 1) (liV r n) (RBox g r n) :=
  ⟨enters_of Try.func13 (by kernel_rfl) rfl, fun t w' ht hp => ss2_any t g r n w' (by omega) r0 r1 n0 n1 hp, fun w1 w2 hp he => ⟨hp.1.same (he _ (by omega)), hp.2.same (he _ (by omega))⟩⟩
theorem ss3_at (h : Nat) (r n : Int) (g B : Nat) (hB : g + 1 < B) (hh : h ≤ 60) (r0 : 0 ≤ r) (r1 : r ≤ 10000) (n0 : 1 ≤ n) (n1 : n ≤ 60) : At 14 #[.pointer (some ⟨g + 1, 0, none⟩), .pointer (some ⟨g, 0, none⟩)] B (h + 1) (stV r n) (RBox g r n) :=
  ⟨enters_of Try.func14 (by kernel_rfl) rfl, fun t w' ht hp => ss3_any t g r n w' (by omega) r0 r1 n0 n1 hp, fun w1 w2 hp he => ⟨hp.1.same (he _ (by omega)), hp.2.same (he _ (by omega))⟩⟩

end Go.Proofs.Ytkjcganbdnbclaa
