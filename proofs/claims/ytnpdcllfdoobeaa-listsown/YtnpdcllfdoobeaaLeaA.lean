
/-
  Leases in memory: how a slice of them reads; arguments opened; what Check answers.
-/
import Derived.Test.YtnpdcllfdoobeaaPcsA
import Derived.Test.YtnpdcllfdoobeaaRetryP
import Derived.Test.YtnpdcllfdoobeaaRefA
namespace Go.Proofs.Ytnpdcllfdoobeaa
set_option linter.all false
open Go.RowKit Go.Shelf Go.Lib Go.ChangeShapes Go.WideShapes Go.Deep Go.Joins

section
variable {H : Type} {enc : TypeId × Value → H} {w : World}

set_option maxRecDepth 100000 in
theorem les_openP {A : Option Addr} {len cap : Nat} {d : DataW H} {p : List MemPlace} (h : DataW.Trod enc Try.prog w 0 (fun _ => true) true 33 (.slice A len cap) d p) :
    ∃ l : List Pk, Pks w A l ∧ len = l.length ∧ l.length ≤ cap := by
  obtain ⟨fuel, hf⟩ := h
  rcases open_slice Try.underlying33 hf with ⟨hcs, _⟩ | ⟨a, ln, cp, m, n, D, Pl, hcs, _, hl, hm, hmm, _, hi⟩
  · simp [Value.cells] at hcs
    obtain ⟨rfl, rfl, rfl⟩ := hcs
    exact ⟨[], Pks.nil_ _ _, rfl, Nat.zero_le _⟩
  · simp [Value.cells] at hcs
    obtain ⟨rfl, rfl, rfl⟩ := hcs
    have hmm' : m = cap := by simpa using hmm
    subst hmm'
    have hC : Try.prog.cellsOf 35 = 3 := by kernel_rfl
    rw [hC] at hi
    have each : ∀ i, ∃ q : Pk, i < m → w.cell? (a.add (i * 3)) = some (.int .i64 q.at_) ∧ w.cell? ((a.add (i * 3)).add 1) = some (.int .i64 q.size) ∧ w.cell? ((a.add (i * 3)).add 2) = some (.int .i64 q.flow) := by
      intro i
      by_cases him : i < m
      · obtain ⟨cs, hc, ht⟩ := hi i him
        obtain ⟨_, hcl, hat⟩ := World.cells?_some hc
        obtain ⟨y0, y1, y2, n', _, _, t0, t1, t2⟩ := trod_struct3 Try.underlying35 ht
        match cs, hcl with
        | [c0, c1, c2], _ =>
          have e1 : Try.prog.cellsOf 3 = 1 := by kernel_rfl
          obtain ⟨x, rfl, _⟩ := one_int (by simpa [e1] using t0)
          obtain ⟨y, rfl, _⟩ := one_int (by simpa [e1] using t1)
          obtain ⟨z, rfl, _⟩ := one_int (by simpa [e1] using t2)
          exact ⟨⟨x, y, z⟩, fun _ => ⟨by simpa [Addr.add] using hat 0 (by omega), by simpa using hat 1 (by omega), by simpa using hat 2 (by omega)⟩⟩
      · exact ⟨⟨0, 0, 0⟩, fun h => absurd h him⟩
    obtain ⟨f, hf'⟩ := Classical.axiomOfChoice each
    refine ⟨(List.range len).map f, ⟨by simp; unfold maxLen at hm; omega, fun h0 => ?_⟩, by simp, by simpa using hl⟩
    simp at h0
    obtain ⟨b, off, spot⟩ := a
    have hc := (hf' 0 (by omega)).1
    have hspot : spot = none := by simpa [Addr.add] using World.cell?_spot hc
    subst hspot
    refine ⟨b, off, rfl, fun j q hj => ?_⟩
    have hjl : j < len := by
      have := (List.getElem?_eq_some_iff.1 hj).1
      simpa using this
    have hq : q = f j := by simp [hjl] at hj; exact hj.symm
    subst hq
    obtain ⟨k0, k1, k2⟩ := hf' j (by omega)
    by_cases hz : j * 3 = 0
    · rw [hz] at k0 k1 k2 ⊢
      exact ⟨by simpa [Addr.add] using k0, by simpa [Addr.add] using k1, by simpa [Addr.add] using k2⟩
    · exact ⟨by simpa [Addr.add, hz] using k0, by simpa [Addr.add, hz] using k1, by simpa [Addr.add, hz] using k2⟩
set_option maxRecDepth 100000 in
theorem les_form {A : Option Addr} {len cap : Nat} {d : DataW H} {p : List MemPlace} (h : DataW.Trod enc Try.prog w 0 (fun _ => true) true 33 (.slice A len cap) d p) :
    (A = none → cap = 0) ∧ (0 < len → ∃ elems spare, d = .slice elems spare ∧ elems.length = len) := by
  obtain ⟨fuel, hf⟩ := h
  rcases Go.Deep.open_slice Try.underlying33 hf with ⟨hcs, _⟩ | ⟨a, ln, cp, m, n, D, Pl, hcs, _, hl, hm, hmm, hx, hi⟩
  · simp [Value.cells] at hcs
    obtain ⟨rfl, rfl, rfl⟩ := hcs
    exact ⟨fun _ => rfl, fun h => by omega⟩
  · simp [Value.cells] at hcs
    obtain ⟨rfl, rfl, rfl⟩ := hcs
    exact ⟨fun e => (by cases e), fun _ => ⟨_, _, (Prod.mk.inj hx).1, by simp⟩⟩
set_option maxRecDepth 100000 in
theorem lz_open {base : Nat} {v : Value} {d : DataW H} {p : List MemPlace} (hv : Value.okWide Try.prog w .any base 35 v) (h : DataW.Trod enc Try.prog w 0 (fun _ => true) true 35 v d p) :
    ∃ x y z : Int, v = .agg #[.int .i64 x, .int .i64 y, .int .i64 z] ∧ (Lit.int .i64 x).wf = true ∧ (Lit.int .i64 y).wf = true ∧ (Lit.int .i64 z).wf = true := by
  obtain ⟨v0, v1, v2, y0, y1, y2, n, rfl, _, _, h0, h1, h2⟩ := open_agg3 Try.underlying35 (by kernel_rfl) (by kernel_rfl) hv h
  obtain ⟨x, rfl, k0⟩ := one_int h0
  obtain ⟨y, rfl, k1⟩ := one_int h1
  obtain ⟨z, rfl, k2⟩ := one_int h2
  exact ⟨x, y, z, rfl, k0, k1, k2⟩
end

/-- A lease's three numbers. -/
def lp (j : Lz) : Pk := ⟨j.who, j.till, j.pin⟩
def pl (p : Pk) : Lz := ⟨p.at_, p.size, p.flow⟩
theorem lp_pl (l : List Pk) : (l.map pl).map lp = l := by
  rw [List.map_map]
  have : (lp ∘ pl) = id := by funext p; cases p; rfl
  rw [this, List.map_id]
theorem lp_inj {a b : Lz} (h : lp a = lp b) : a = b := by
  cases a; cases b; simp [lp] at h; simp [h]
def lcs (l : List Lz) : List Value := pcs (l.map lp)
theorem length_lcs (l : List Lz) : (lcs l).length = l.length * 3 := by rw [lcs, length_pcs, List.length_map]
theorem lcs_append (l m : List Lz) : lcs (l ++ m) = lcs l ++ lcs m := by rw [lcs, List.map_append, pcs_append]; rfl
theorem lcs_one (l : List Lz) : ∀ u ∈ lcs l, u.oneCell' = true := pcs_one _
theorem lcs_cons (x : Lz) (l : List Lz) : lcs (x :: l) = [Value.int .i64 x.who, .int .i64 x.till, .int .i64 x.pin] ++ lcs l := pcs_cons _ _
theorem lcs_get {l : List Lz} {k : Nat} {j : Lz} (h : l[k]? = some j) : (lcs l)[k * 3]? = some (.int .i64 j.who) ∧ (lcs l)[k * 3 + 1]? = some (.int .i64 j.till) ∧ (lcs l)[k * 3 + 2]? = some (.int .i64 j.pin) :=
  pcs_get (l := l.map lp) (k := k) (p := lp j) (by rw [List.getElem?_map, h]; rfl)
theorem pcs3L : ∀ {l : List Pk} {k : Nat} (p : Pk), k < l.length → (((pcs l).set (k * 3) (.int .i64 p.at_)).set (k * 3 + 1) (.int .i64 p.size)).set (k * 3 + 2) (.int .i64 p.flow) = pcs (l.set k p)
  | [], k, p, h => by simp at h
  | q :: l, 0, p, h => by simp [pcs_cons]
  | q :: l, k + 1, p, h => by
    have ih := pcs3L (l := l) (k := k) p (by simpa using h)
    rw [pcs_cons, List.set_append_right _ _ (by simp; omega), List.set_append_right _ _ (by simp; omega), List.set_append_right _ _ (by simp; omega), List.set_cons_succ, pcs_cons, ← ih]
    simp [show (k + 1) * 3 - 3 = k * 3 by omega, show (k + 1) * 3 + 1 - 3 = k * 3 + 1 by omega, show (k + 1) * 3 + 2 - 3 = k * 3 + 2 by omega]
theorem lcs_three {l : List Lz} {k : Nat} (j : Lz) (h : k < l.length) : (((lcs l).set (k * 3) (.int .i64 j.who)).set (k * 3 + 1) (.int .i64 j.till)).set (k * 3 + 2) (.int .i64 j.pin) = lcs (l.set k j) := by
  have := pcs3L (l := l.map lp) (k := k) (lp j) (by simpa using h)
  unfold lcs
  rw [List.map_set]
  exact this
/-- The slice at A reads, in w, as the list l of leases. -/
def Les (w : World) (A : Option Addr) (l : List Lz) : Prop := Pks w A (l.map lp)
theorem Les.le {w : World} {A : Option Addr} {l : List Lz} (h : Les w A l) : l.length ≤ 9223372036854775807 := by have := h.1; simpa using this
theorem Les.nil_ (w : World) (A : Option Addr) : Les w A [] := Pks.nil_ _ _
theorem Les.below {w w' : World} {A : Option Addr} {l : List Lz} (h : Les w A l) (hb : Below w.heap.size w w') : Les w' A l := Pks.below h hb
theorem Les.alloc {w : World} {A : Option Addr} {l : List Lz} (h : Les w A l) (o : Obj) : Les (w.alloc o) A l := Pks.alloc h o
theorem Les.drewN {w : World} {A : Option Addr} {l : List Lz} (h : Les w A l) (n : Nat) : Les (w.drewN n) A l := h
theorem Les.get {w : World} {A : Option Addr} {l : List Lz} {k : Nat} (h : Les w A l) (hk : k < l.length) :
    ∃ b off j, A = some ⟨b, off, none⟩ ∧ b < w.heap.size ∧ w.cell? ⟨b, off + k * 3, none⟩ = some (.int .i64 (j : Lz).who) ∧ w.cell? ⟨b, off + k * 3 + 1, none⟩ = some (.int .i64 j.till) ∧ w.cell? ⟨b, off + k * 3 + 2, none⟩ = some (.int .i64 j.pin) ∧ Hid (l[k]? = some j) := by
  obtain ⟨b, off, p, e, hb, c0, c1, c2, HP⟩ := Pks.get h (k := k) (by simpa using hk)
  have hg := List.getElem?_eq_getElem hk
  have : p = lp l[k] := by
    have := HP.out
    rw [List.getElem?_map, hg] at this
    exact (Option.some.inj this).symm
  subst this
  exact ⟨b, off, l[k], e, hb, c0, c1, c2, Lib.hid hg⟩
theorem Les.lit (w : World) (l : List Lz) (cs : Array Value) (t : TypeId) (h : cs = (lcs l).toArray) (hl : l.length ≤ 1000) : Les (w.alloc (.cells cs t)) (some ⟨w.heap.size, 0, none⟩) l := Pks.litN w _ cs t h (by simpa using hl)
theorem Les.of_row {w : World} {base : Nat} {t : TypeId} {A : Option Addr} {c : Nat} {l : List Lz} (h : w.ownsRow base t 3 (.slice A l.length c) l.length (lcs l)) : Les w A l := by
  refine Pks.of_row (base := base) (t := t) (c := c) ?_
  rw [List.length_map]; exact h
theorem Les.cells {w : World} {b off : Nat} {l : List Lz} (h : Les w (some ⟨b, off, none⟩) l) : ∀ j u, (lcs l)[j]? = some u → w.cell? ⟨b, off + j, none⟩ = some u := Pks.cells h
theorem les_open {H : Type} {enc : TypeId × Value → H} {w : World} {A : Option Addr} {len cap : Nat} {d : DataW H} {p : List MemPlace} (h : DataW.Trod enc Try.prog w 0 (fun _ => true) true 33 (.slice A len cap) d p) :
    ∃ l : List Lz, Les w A l ∧ len = l.length ∧ l.length ≤ cap := by
  obtain ⟨l, a, b, c⟩ := les_openP h
  exact ⟨l.map pl, by unfold Les; rw [lp_pl]; exact a, by rw [List.length_map]; exact b, by rw [List.length_map]; exact c⟩
theorem le_info : (Try.prog.info? 35).map (fun i => (i.zero, i.size, i.bytes)) = some (some (.agg #[.int .i64 0, .int .i64 0, .int .i64 0]), 3, 24) := by kernel_rfl

/-- A number of a lease out of its range. -/
def lzBad (x : Lz) : Bool := decide (x.who < 0 ∨ 7 < x.who ∨ x.till < 0 ∨ 1000000 < x.till ∨ x.pin < 0 ∨ 1000000 < x.pin)
/-- The error of Check, behind a holder. -/
def lzF : Int → List Lz → Int
  | _, [] => 0
  | b, x :: l => if lzBad x = true then 1 else if x.who ≤ b then 3 else lzF x.who l
def lzE (l : List Lz) : Int := lzF (-1) l
structure LzOk (l : List Lz) : Prop where
  sorted : Lzs l
  good : ∀ x, x ∈ l → lzBad x = false
theorem lzF_iff : ∀ {l : List Lz} {b : Int}, lzF b l = 0 ↔ LzOk l ∧ ∀ x, x ∈ l → b < x.who
  | [], b => by simp [lzF]; exact ⟨List.Pairwise.nil, fun x hx => by simp at hx⟩
  | x :: l, b => by
    rw [lzF]
    by_cases c : lzBad x = true
    · rw [if_pos c]
      refine ⟨fun h => absurd h (by decide), fun h => ?_⟩
      have := h.1.good x List.mem_cons_self
      rw [c] at this; exact absurd this (by simp)
    · rw [if_neg c]
      by_cases d : x.who ≤ b
      · rw [if_pos d]
        refine ⟨fun h => absurd h (by decide), fun h => ?_⟩
        have := h.2 x List.mem_cons_self
        omega
      · rw [if_neg d, lzF_iff (l := l)]
        constructor
        · intro ⟨h, k⟩
          refine ⟨⟨List.pairwise_cons.mpr ⟨k, h.sorted⟩, fun y hy => ?_⟩, fun y hy => ?_⟩
          · rcases List.mem_cons.mp hy with e | e
            · subst e; simpa using c
            · exact h.good y e
          · rcases List.mem_cons.mp hy with e | e
            · subst e; omega
            · have := k y e; omega
        · intro ⟨h, k⟩
          have s := List.pairwise_cons.mp h.sorted
          exact ⟨⟨s.2, fun y hy => h.good y (List.mem_cons_of_mem _ hy)⟩, s.1⟩
theorem lzBad_iff {x : Lz} : lzBad x = false ↔ 0 ≤ x.who ∧ x.who ≤ 7 ∧ 0 ≤ x.till ∧ x.till ≤ 1000000 ∧ 0 ≤ x.pin ∧ x.pin ≤ 1000000 := by
  unfold lzBad
  rw [decide_eq_false_iff_not]
  omega
theorem lzE_iff {l : List Lz} : lzE l = 0 ↔ LzOk l := by
  rw [lzE, lzF_iff]
  refine ⟨fun h => h.1, fun h => ⟨h, fun x hx => ?_⟩⟩
  have := lzBad_iff.mp (h.good x hx)
  omega
theorem lzF_cases : ∀ (l : List Lz) (b : Int), lzF b l = 0 ∨ lzF b l = 1 ∨ lzF b l = 3
  | [], _ => .inl rfl
  | x :: l, b => by
    rw [lzF]
    split
    · exact .inr (.inl rfl)
    · split
      · exact .inr (.inr rfl)
      · exact lzF_cases l _
/-- Holders rise from 0 on: at most eight. -/
theorem lzs_len : ∀ {l : List Lz} {b : Int}, Lzs l → (∀ x, x ∈ l → b < x.who ∧ x.who ≤ 7) → b ≤ 7 → (l.length : Int) ≤ 7 - b
  | [], b, _, _, h => by simp; omega
  | x :: l, b, h, k, _ => by
    have s := List.pairwise_cons.mp h
    have hx := k x List.mem_cons_self
    have := lzs_len (b := x.who) s.2 (fun y hy => ⟨s.1 y hy, (k y (List.mem_cons_of_mem _ hy)).2⟩) hx.2
    simp only [List.length_cons]; omega
theorem LzOk.len {l : List Lz} (h : LzOk l) : l.length ≤ 8 := by
  have := lzs_len (b := -1) h.sorted (fun x hx => by have := lzBad_iff.mp (h.good x hx); omega) (by decide)
  omega
theorem LzOk.take {l : List Lz} (h : LzOk l) {x : Lz} (hx : lzBad x = false) : LzOk (takeL x l) :=
  ⟨take_sorted h.sorted, fun a ha => by
    rcases (mem_take h.sorted).mp ha with e | e
    · rw [e]; exact hx
    · exact h.good a e.1⟩
theorem LzOk.live {l : List Lz} (h : LzOk l) (now : Int) : LzOk (liveL now l) := ⟨live_sorted h.sorted, fun a ha => h.good a (mem_live.mp ha).1⟩
theorem live_len (now : Int) (l : List Lz) : (liveL now l).length ≤ l.length := List.length_filter_le _ _
/-- Where the lease of a holder stands, or would. -/
def plcV (x : Lz) : List Lz → Nat
  | [] => 0
  | a :: l => if a.who < x.who then plcV x l + 1 else 0
theorem plc_le (x : Lz) : ∀ l, plcV x l ≤ l.length
  | [] => Nat.le_refl _
  | a :: l => by
    have := plc_le x l
    rw [plcV]; split <;> simp <;> omega
theorem plc_lt {x : Lz} : ∀ {l : List Lz} {k : Nat} {a : Lz}, k < plcV x l → l[k]? = some a → a.who < x.who
  | [], k, a, h, _ => by simp [plcV] at h
  | b :: l, k, a, h, e => by
    rw [plcV] at h
    by_cases c : b.who < x.who
    · rw [if_pos c] at h
      cases k with
      | zero => simp at e; subst e; exact c
      | succ k => exact plc_lt (l := l) (k := k) (by omega) (by simpa using e)
    · rw [if_neg c] at h; omega
theorem plc_ge {x : Lz} : ∀ {l : List Lz} {k : Nat} {a : Lz}, Lzs l → plcV x l ≤ k → l[k]? = some a → x.who ≤ a.who
  | [], k, a, _, _, e => by simp at e
  | b :: l, k, a, s, h, e => by
    have s' := List.pairwise_cons.mp s
    rw [plcV] at h
    by_cases c : b.who < x.who
    · rw [if_pos c] at h
      cases k with
      | zero => omega
      | succ k => exact plc_ge (l := l) (k := k) s'.2 (by omega) (by simpa using e)
    · cases k with
      | zero => simp at e; subst e; omega
      | succ k =>
        have := s'.1 a (List.mem_of_getElem? (by simpa using e))
        omega
/-- There is a lease of the holder: it is replaced; there is none: it is put in. -/
theorem take_same {x : Lz} : ∀ {l : List Lz} {a : Lz}, l[plcV x l]? = some a → a.who = x.who → takeL x l = l.set (plcV x l) x
  | [], a, h, _ => by simp at h
  | b :: l, a, h, e => by
    rw [takeL]
    by_cases c : b.who < x.who
    · have hp : plcV x (b :: l) = plcV x l + 1 := by rw [plcV, if_pos c]
      rw [hp] at h ⊢
      rw [if_pos c, take_same (l := l) (a := a) (by simpa using h) e]; rfl
    · have hp : plcV x (b :: l) = 0 := by rw [plcV, if_neg c]
      rw [hp] at h ⊢
      simp at h; subst h
      rw [if_neg c, if_pos e]; rfl
theorem take_new {x : Lz} : ∀ {l : List Lz}, (∀ a, l[plcV x l]? = some a → a.who ≠ x.who) → takeL x l = l.take (plcV x l) ++ x :: l.drop (plcV x l)
  | [], _ => rfl
  | b :: l, h => by
    rw [takeL]
    by_cases c : b.who < x.who
    · have hp : plcV x (b :: l) = plcV x l + 1 := by rw [plcV, if_pos c]
      rw [hp] at h ⊢
      rw [if_pos c, take_new (l := l) (fun a ha => h a (by simpa using ha))]; simp
    · have hp : plcV x (b :: l) = 0 := by rw [plcV, if_neg c]
      rw [hp] at h ⊢
      rw [if_neg c, if_neg (h b (by simp))]; simp

end Go.Proofs.Ytnpdcllfdoobeaa
