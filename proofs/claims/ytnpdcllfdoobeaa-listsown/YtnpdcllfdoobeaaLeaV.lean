
/-
  Walks over leases: two lists compared, a lease looked for, functions of the library that ask a function value (IndexFunc, ContainsFunc, MinFunc).
-/
import Derived.Test.YtnpdcllfdoobeaaLeaY
import Derived.Laws.StructEq
import Derived.Deep.QuietTactic
namespace Go.Proofs.Ytnpdcllfdoobeaa
set_option linter.all false
open Go.RowKit Go.Shelf Go.Lib

theorem leT : Try.prog.underlying 35 = some (.struct (Try.prog.fieldsOf 35)) := by kernel_rfl
theorem leH : Try.prog.stoodInHeld 35 = false := by kernel_rfl
theorem leM : Try.prog.eqGuardType Try.prog.depth 35 = false := by kernel_rfl
theorem leEq (a b c a' b' c' : Int) (w : World) : (Op.equalIn 10000 35 (.agg #[.int .i64 a, .int .i64 b, .int .i64 c]) (.agg #[.int .i64 a', .int .i64 b', .int .i64 c'])).run Try.prog w = .ok (a == a' && (b == b' && c == c')) w := by
  rw [show (10000 : Nat) = 9998 + 1 + 1 from rfl, run_equalIn_struct _ _ _ _ _ leT leH]
  simp only [Program.fieldsOf, Try.underlying35, Op.eqFields]
  simp [go_sem, Op.eqFields, part, run_equalIn_int _ _ _ _ _ _ _ Try.underlying3]
  by_cases h1 : a = a' <;> by_cases h2 : b = b' <;> by_cases h3 : c = c' <;> simp [h1, h2, h3]
theorem leDiff {x a : Lz} (h : ¬ x = a) (w : World) : (Op.equalIn 10000 35 (.agg #[.int .i64 x.who, .int .i64 x.till, .int .i64 x.pin]) (.agg #[.int .i64 a.who, .int .i64 a.till, .int .i64 a.pin])).run Try.prog w = .ok false w := by
  rw [leEq]
  obtain ⟨x1, x2, x3⟩ := x
  obtain ⟨a1, a2, a3⟩ := a
  have : (x1 == a1 && (x2 == a2 && x3 == a3)) = false := by
    by_cases h1 : x1 = a1 <;> by_cases h2 : x2 = a2 <;> by_cases h3 : x3 = a3 <;> simp_all
  rw [this]
theorem leAlike (x : Lz) (w : World) : (Op.equalIn 10000 35 (.agg #[.int .i64 x.who, .int .i64 x.till, .int .i64 x.pin]) (.agg #[.int .i64 x.who, .int .i64 x.till, .int .i64 x.pin])).run Try.prog w = .ok true w := by rw [leEq]; simp

set_option maxHeartbeats 800000 in
theorem leSame (A B : Option Addr) (l : List Lz) (n m c d : Nat) (w : World) (h : Les w A l) (h' : Les w B l) (hn : n = l.length) (hm : m = l.length) :
    Calls Try.prog 27 #[.slice A n c, .slice B m d] w fun e w' => e = .returned (.bool true) ∧ ∃ n, w' = w.drewN n := by
  subst hn hm
  have hl := h.le
  go_enter Try.func27, Try.ntmps27
  go_wp2
  go_loopw [13] (fun i wr => ∃ k nd : Nat, k ≤ l.length ∧ i = .int .i64 k ∧ wr = w.drewN nd) (fun i _ => l.length - (intOf i).toNat)
  case atStart => exact ⟨0, 0, Nat.zero_le _, rfl, rfl⟩
  case round =>
    obtain ⟨k, nd, hk, rfl, rfl⟩ := hrel
    by_cases hlt : k < l.length
    · obtain ⟨b1, o1, s, hA, _, c0, c1, c2, HS⟩ := h.get hlt
      obtain ⟨b2, o2, s', hB, _, d0, d1, d2, HS'⟩ := h'.get hlt
      subst hA hB
      obtain rfl : s' = s := Option.some.inj (HS'.out.symm.trans HS.out)
      have i1 : (k : Int) < (l.length : Int) := by omega
      go_wp2
      go_quiet (fail)
      go_wp2
      go_roundw
      case rel => exact ⟨k + 1, nd + nq, by omega, by go_num, by simp [World.drewN, Nat.add_assoc]⟩
      case measure => simp [intOf]; omega
    · go_wp2
      go_ret
      exact ⟨rfl, nd, rfl⟩

/-- A place from 0 on. -/
def PlaceZ (e : Ending) : Prop := ∃ i : Nat, e = .returned (.int .i64 i)
set_option maxHeartbeats 1600000 in
/-- A lease that is there is found. -/
theorem lindex_yes (A : Option Addr) (l : List Lz) (x : Lz) (n c : Nat) (w : World) (h : Les w A l) (hn : n = l.length) (hx : x ∈ l) :
    Calls Try.prog 65 #[.slice A n c, .agg #[.int .i64 x.who, .int .i64 x.till, .int .i64 x.pin]] w fun e w' => PlaceZ e ∧ Below w.heap.size w w' := by
  subst hn
  obtain ⟨K, hK, eK⟩ := List.getElem_of_mem hx
  have HK : Hid (l[K]? = some x) := Lib.hid (by rw [List.getElem?_eq_getElem hK, eK])
  have hl := h.le
  obtain ⟨gx, hgx⟩ : ∃ gx, gx = w.heap.size := ⟨_, rfl⟩
  have GX := Lib.hid hgx
  clear hx eK hgx
  go_enter Try.func65, Try.ntmps65
  go_wp2
  rw [← GX.out]
  go_loopw [8] (fun i wr => ∃ k : Nat, k ≤ K ∧ i = .int .i64 k ∧ Blk wr gx 35 #[.int .i64 x.who, .int .i64 x.till, .int .i64 x.pin] ∧ Below w.heap.size w wr) (fun i _ => l.length - (intOf i).toNat)
  case atStart => exact ⟨0, Nat.zero_le _, rfl, by rw [GX.out]; exact Blk.new _ _ _, (Below.refl _ _).alloc (Nat.le_refl _) _⟩
  case round =>
    obtain ⟨k, hk, rfl, BX, hbel⟩ := hrel
    obtain ⟨x0, x1, x2⟩ := three_read BX
    obtain ⟨bb, off, a, rfl, hbl, c0, c1, c2, HA⟩ := (h.below hbel).get (k := k) (by omega)
    have i2 : (k : Int) < (l.length : Int) := by omega
    have hbN := below_trans hbel (below_of_drewN (w := wr) (n := 1) rfl)
    have hM := leM
    by_cases e : x = a
    · subst e
      have hA := leAlike x
      go_wp2
      go_quiet (fail)
      go_wp2
      go_ret
      exact ⟨⟨k, rfl⟩, below_trans hbel (below_of_drewN rfl)⟩
    · have hA := leDiff e
      have HN : Hid (k + 1 ≤ K) := Lib.hid (by
        by_cases c : k = K
        · subst c
          have := HK.out.symm.trans HA.out
          exact absurd (Option.some.inj this) e
        · omega)
      have hd : (x.who == a.who && (x.till == a.till && x.pin == a.pin)) = false := by
        by_cases h1 : x.who = a.who <;> by_cases h2 : x.till = a.till <;> by_cases h3 : x.pin = a.pin <;> simp [h1, h2, h3]
        exact e (by cases x; cases a; simp_all)
      clear e
      go_wp2
      go_quiet (fail)
      go_wp2
      go_roundw
      case rel => exact ⟨k + 1, HN.out, by go_num, BX, below_trans hbel (below_of_drewN rfl)⟩
      case measure => simp [intOf]; omega
set_option maxHeartbeats 800000 in
theorem lcontains_yes (A : Option Addr) (l : List Lz) (x : Lz) (n c : Nat) (w : World) (h : Les w A l) (hn : n = l.length) (hx : x ∈ l) :
    Calls Try.prog 37 #[.slice A n c, .agg #[.int .i64 x.who, .int .i64 x.till, .int .i64 x.pin]] w fun e w' => e = .returned (.bool true) ∧ Below w.heap.size w w' := by
  subst hn
  obtain ⟨W, hW⟩ : ∃ W, W = w.alloc (.cells #[.int .i64 x.who, .int .i64 x.till, .int .i64 x.pin] 35) := ⟨_, rfl⟩
  have bW : Below w.heap.size w W := by rw [hW]; exact (Below.refl _ _).alloc (Nat.le_refl _) _
  have h' := h.below bW
  have HW := Lib.hid hW
  clear hW
  go_enter Try.func37, Try.ntmps37
  go_wp2_with fail
  rw [← HW.out]
  refine (lindex_yes A l x _ c W h' rfl hx).mono ?_
  rintro e w1 ⟨⟨i, rfl⟩, b1⟩
  have i0 : (0 : Int) ≤ (i : Int) := by omega
  have hb := below_trans bW b1
  go_wp2
  go_ret
  exact ⟨rfl, hb⟩

/-- A function value that tests a lease by what lies in a block of its own. -/
structure Prz (k : FuncId) (bb : Nat) (R : World → Prop) (p : Lz → Bool) : Prop where
  ent : ∀ args w, (callFunc k args).run Try.prog w = .ok (.enter k args) w
  keep : ∀ {w w' : World}, R w → Below w.heap.size w w' → R w'
  ans : ∀ (x : Lz) (w : World), R w → Calls Try.prog k #[.agg #[.int .i64 x.who, .int .i64 x.till, .int .i64 x.pin], .pointer (some ⟨bb, 0, none⟩)] w fun e w' => e = .returned (.bool (p x)) ∧ Below w.heap.size w w'
/-- The first place where it says yes. -/
def ixZ (p : Lz → Bool) : List Lz → Nat
  | [] => 0
  | a :: l => if p a = true then 0 else ixZ p l + 1
theorem ix_le (p : Lz → Bool) : ∀ l, ixZ p l ≤ l.length
  | [] => Nat.le_refl _
  | a :: l => by have := ix_le p l; rw [ixZ]; split <;> simp <;> omega
theorem ix_no {p : Lz → Bool} : ∀ {l : List Lz} {k : Nat} {a : Lz}, k < ixZ p l → l[k]? = some a → p a = false
  | [], k, a, h, _ => by simp [ixZ] at h
  | b :: l, k, a, h, e => by
    rw [ixZ] at h
    by_cases c : p b = true
    · rw [if_pos c] at h; omega
    · rw [if_neg c] at h
      cases k with
      | zero => simp at e; subst e; simpa using c
      | succ k => exact ix_no (l := l) (k := k) (by omega) (by simpa using e)
theorem ix_yes {p : Lz → Bool} : ∀ {l : List Lz} {a : Lz}, l[ixZ p l]? = some a → p a = true
  | [], a, e => by simp at e
  | b :: l, a, e => by
    by_cases c : p b = true
    · rw [ixZ, if_pos c] at e; simp at e; subst e; exact c
    · rw [ixZ, if_neg c] at e; exact ix_yes (l := l) (by simpa using e)
def ixI (p : Lz → Bool) (l : List Lz) : Int := if ixZ p l < l.length then (ixZ p l : Int) else -1
set_option maxHeartbeats 800000 in
theorem lindexFunc_any (k : FuncId) (bb : Nat) (R : World → Prop) (p : Lz → Bool) (P : Prz k bb R p) (A : Option Addr) (l : List Lz) (n c : Nat) (w : World) (h : Les w A l) (hn : n = l.length) (hR : R w) :
    Calls Try.prog 58 #[.slice A n c, .func (.func k) #[] #[.pointer (some ⟨bb, 0, none⟩)]] w fun e w' => e = .returned (.int .i64 (ixI p l)) ∧ Below w.heap.size w w' := by
  subst hn
  have hl := h.le
  have hent := P.ent
  go_enter Try.func58, Try.ntmps58
  go_wp2
  go_loopw [8] (fun i wr => ∃ t : Nat, t ≤ l.length ∧ i = .int .i64 t ∧ Hid (t ≤ ixZ p l) ∧ R wr ∧ Below w.heap.size w wr) (fun i _ => l.length - (intOf i).toNat)
  case atStart => exact ⟨0, Nat.zero_le _, rfl, Lib.hid (Nat.zero_le _), hR, Below.refl _ _⟩
  case round =>
    obtain ⟨t, ht, rfl, HT, hR, hbel⟩ := hrel
    by_cases hlt : t < l.length
    · obtain ⟨bb', off, x, rfl, hbl, c0, c1, c2, HX⟩ := (h.below hbel).get hlt
      have i1 : (t : Int) < (l.length : Int) := by omega
      obtain ⟨s, hs⟩ : ∃ s, p x = s := ⟨_, rfl⟩
      have HS := Lib.hid hs
      clear hs
      go_wp2_with fail
      refine (P.ans x _ hR).mono ?_
      rintro e w1 ⟨rfl, b1⟩
      rw [HS.out]
      have hb1 := below_trans hbel b1
      have hR1 := P.keep hR b1
      clear b1 hR
      cases s with
      | false =>
        have HN : Hid (t + 1 ≤ ixZ p l) := Lib.hid (by
          by_cases c : t = ixZ p l
          · have := ix_yes (p := p) (l := l) (by rw [← c]; exact HX.out)
            rw [HS.out] at this; exact absurd this (by simp)
          · have := HT.out; omega)
        go_wp2
        go_roundw
        case rel => exact ⟨t + 1, by omega, by go_num, HN, hR1, hb1⟩
        case measure => simp [intOf]; omega
      | true =>
        have HN : Hid (ixI p l = (t : Int)) := Lib.hid (by
          have : ixZ p l = t := by
            by_cases c : t < ixZ p l
            · have := ix_no c HX.out
              rw [HS.out] at this; exact absurd this (by simp)
            · have := HT.out; omega
          rw [ixI, if_pos (by omega), this])
        go_wp2
        go_ret
        exact ⟨ret_int HN.out.symm, hb1⟩
    · have i1 : ¬ (t : Int) < (l.length : Int) := by omega
      have HN : Hid (ixI p l = -1) := Lib.hid (by rw [ixI, if_neg (by have := HT.out; omega)])
      go_wp2
      go_ret
      exact ⟨ret_int HN.out.symm, hbel⟩
theorem any_ix (p : Lz → Bool) : ∀ l, l.any p = decide (ixZ p l < l.length)
  | [] => rfl
  | a :: l => by
    rw [List.any_cons, any_ix p l, ixZ]
    by_cases c : p a = true
    · rw [if_pos c, c]; simp
    · rw [if_neg c]
      have : p a = false := by simpa using c
      rw [this]; simp
set_option maxHeartbeats 800000 in
theorem lcontainsFunc_any (k : FuncId) (bb : Nat) (R : World → Prop) (p : Lz → Bool) (P : Prz k bb R p) (A : Option Addr) (l : List Lz) (n c : Nat) (s : Bool) (w : World) (h : Les w A l) (hn : n = l.length) (hR : R w) (hs : Hid (l.any p = s)) :
    Calls Try.prog 35 #[.slice A n c, .func (.func k) #[] #[.pointer (some ⟨bb, 0, none⟩)]] w fun e w' => e = .returned (.bool s) ∧ Below w.heap.size w w' := by
  have hix := lindexFunc_any k bb R p P A l n c w h hn hR
  cases s with
  | true =>
    have cc : ixZ p l < l.length := by have := hs.out; rw [any_ix] at this; exact of_decide_eq_true this
    have HU : Hid (ixI p l = (ixZ p l : Int)) := Lib.hid (by rw [ixI, if_pos cc])
    clear hs cc hn h hR
    obtain ⟨K, hK⟩ : ∃ K, K = ixZ p l := ⟨_, rfl⟩
    rw [← hK] at HU
    have i0 : (0 : Int) ≤ (K : Int) := by omega
    clear hK
    go_enter Try.func35, Try.ntmps35
    go_wp2_with fail
    refine hix.mono ?_
    rintro e w1 ⟨rfl, b1⟩
    rw [HU.out]
    clear hix
    go_wp2
    go_ret
    exact ⟨rfl, b1⟩
  | false =>
    have cc : ¬ ixZ p l < l.length := by have := hs.out; rw [any_ix] at this; exact of_decide_eq_false this
    have HU : Hid (ixI p l = -1) := Lib.hid (by rw [ixI, if_neg cc])
    clear hs cc hn h hR
    go_enter Try.func35, Try.ntmps35
    go_wp2_with fail
    refine hix.mono ?_
    rintro e w1 ⟨rfl, b1⟩
    rw [HU.out]
    clear hix
    go_wp2
    go_ret
    exact ⟨rfl, b1⟩

end Go.Proofs.Ytnpdcllfdoobeaa
