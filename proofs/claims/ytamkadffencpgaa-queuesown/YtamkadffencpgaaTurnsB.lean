
/-
  Walks: the queues in memory; fill, which queue waits.
-/
import Derived.Test.YtamkadffencpgaaTurnsA
namespace Go.Proofs.Ytamkadffencpgaa
set_option linter.all false
open Go.RowKit Go.Shelf

/-- Four cells set: what they read, and that the others stay. -/
theorem set4 {cs : Array Value} {n k : Nat} (hs : cs.size = n * 4) (hk : k < n) (a b c d : Value) :
    ((((cs.setIfInBounds (k * 4) a).setIfInBounds (k * 4 + 1) b).setIfInBounds (k * 4 + 2) c).setIfInBounds (k * 4 + 3) d).size = n * 4 ∧
    (∀ i, (i < k * 4 ∨ k * 4 + 3 < i) → ((((cs.setIfInBounds (k * 4) a).setIfInBounds (k * 4 + 1) b).setIfInBounds (k * 4 + 2) c).setIfInBounds (k * 4 + 3) d)[i]? = cs[i]?) ∧
    ((((cs.setIfInBounds (k * 4) a).setIfInBounds (k * 4 + 1) b).setIfInBounds (k * 4 + 2) c).setIfInBounds (k * 4 + 3) d)[k * 4]? = some a ∧
    ((((cs.setIfInBounds (k * 4) a).setIfInBounds (k * 4 + 1) b).setIfInBounds (k * 4 + 2) c).setIfInBounds (k * 4 + 3) d)[k * 4 + 1]? = some b ∧
    ((((cs.setIfInBounds (k * 4) a).setIfInBounds (k * 4 + 1) b).setIfInBounds (k * 4 + 2) c).setIfInBounds (k * 4 + 3) d)[k * 4 + 2]? = some c ∧
    ((((cs.setIfInBounds (k * 4) a).setIfInBounds (k * 4 + 1) b).setIfInBounds (k * 4 + 2) c).setIfInBounds (k * 4 + 3) d)[k * 4 + 3]? = some d := by
  have h0 : k * 4 < cs.size := by omega
  have h1 : k * 4 + 1 < cs.size := by omega
  have h2 : k * 4 + 2 < cs.size := by omega
  have h3 : k * 4 + 3 < cs.size := by omega
  refine ⟨by simp [hs], fun i hi => ?_, ?_, ?_, ?_, ?_⟩
  · rw [Array.getElem?_setIfInBounds_ne (by omega), Array.getElem?_setIfInBounds_ne (by omega), Array.getElem?_setIfInBounds_ne (by omega), Array.getElem?_setIfInBounds_ne (by omega)]
  · rw [Array.getElem?_setIfInBounds_ne (by omega), Array.getElem?_setIfInBounds_ne (by omega), Array.getElem?_setIfInBounds_ne (by omega), Array.getElem?_setIfInBounds_self_of_lt (by simpa using h0)]
  · rw [Array.getElem?_setIfInBounds_ne (by omega), Array.getElem?_setIfInBounds_ne (by omega), Array.getElem?_setIfInBounds_self_of_lt (by simpa using h1)]
  · rw [Array.getElem?_setIfInBounds_ne (by omega), Array.getElem?_setIfInBounds_self_of_lt (by simpa using h2)]
  · rw [Array.getElem?_setIfInBounds_self_of_lt (by simpa using h3)]
theorem set2 {cs : Array Value} {n k : Nat} (hs : cs.size = n * 4) (hk : k < n) (a b : Value) :
    ((cs.setIfInBounds (k * 4) a).setIfInBounds (k * 4 + 1) b).size = n * 4 ∧
    (∀ i, (i < k * 4 ∨ k * 4 + 1 < i) → ((cs.setIfInBounds (k * 4) a).setIfInBounds (k * 4 + 1) b)[i]? = cs[i]?) ∧
    ((cs.setIfInBounds (k * 4) a).setIfInBounds (k * 4 + 1) b)[k * 4]? = some a ∧
    ((cs.setIfInBounds (k * 4) a).setIfInBounds (k * 4 + 1) b)[k * 4 + 1]? = some b := by
  have h0 : k * 4 < cs.size := by omega
  have h1 : k * 4 + 1 < cs.size := by omega
  refine ⟨by simp [hs], fun i hi => ?_, ?_, ?_⟩
  · rw [Array.getElem?_setIfInBounds_ne (by omega), Array.getElem?_setIfInBounds_ne (by omega)]
  · rw [Array.getElem?_setIfInBounds_ne (by omega), Array.getElem?_setIfInBounds_self_of_lt (by simpa using h0)]
  · rw [Array.getElem?_setIfInBounds_self_of_lt (by simpa using h1)]

/-- The queues of the flows l lie in block g: how far each is, and its deficit. -/
def Qb (w : World) (g : Nat) (l : List Fw) (X : Nat → Nat) (D : Nat → Int) : Prop :=
  ∃ cs : Array Value, Blk w g 91 cs ∧ cs.size = l.length * 4 ∧ ∀ k f, l[k]? = some f → cs[k * 4]? = some (.int .i64 f.q) ∧ cs[k * 4 + 1]? = some (.slice f.a f.z.length f.c) ∧ cs[k * 4 + 2]? = some (.int .i64 (X k)) ∧ cs[k * 4 + 3]? = some (.int .i64 (D k))
theorem Qb.same {w w' : World} {g : Nat} {l : List Fw} {X : Nat → Nat} {D : Nat → Int} (h : Qb w g l X D) (e : w'.heap[g]? = w.heap[g]?) : Qb w' g l X D := by
  obtain ⟨cs, b, r⟩ := h
  exact ⟨cs, b.same e, r⟩
theorem Qb.lt {w : World} {g : Nat} {l : List Fw} {X : Nat → Nat} {D : Nat → Int} (h : Qb w g l X D) : g < w.heap.size := by
  obtain ⟨cs, b, _⟩ := h
  exact b.lt
theorem Qb.below {w w' : World} {g : Nat} {l : List Fw} {X : Nat → Nat} {D : Nat → Int} (h : Qb w g l X D) (hb : Below w.heap.size w w') : Qb w' g l X D := h.same (hb.block g h.lt)
theorem Qb.read {w : World} {g : Nat} {l : List Fw} {X : Nat → Nat} {D : Nat → Int} (h : Qb w g l X D) {k : Nat} {f : Fw} (hk : l[k]? = some f) :
    w.cell? ⟨g, k * 4, none⟩ = some (.int .i64 f.q) ∧ w.cell? ⟨g, k * 4 + 1, none⟩ = some (.slice f.a f.z.length f.c) ∧ w.cell? ⟨g, k * 4 + 2, none⟩ = some (.int .i64 (X k)) ∧ w.cell? ⟨g, k * 4 + 3, none⟩ = some (.int .i64 (D k)) := by
  obtain ⟨cs, b, _, r⟩ := h
  obtain ⟨r0, r1, r2, r3⟩ := r k f hk
  exact ⟨(b.cell _).trans r0, (b.cell _).trans r1, (b.cell _).trans r2, (b.cell _).trans r3⟩
theorem Qb.frozen {w : World} {g : Nat} {l : List Fw} {X : Nat → Nat} {D : Nat → Int} (h : Qb w g l X D) (i : Nat) : w.frozen? ⟨g, i, none⟩ = false := by
  obtain ⟨cs, b, _⟩ := h
  exact b.frozen i
def upd {α : Type} (X : Nat → α) (k : Nat) (y : α) (j : Nat) : α := if j = k then y else X j
theorem upd_self {α : Type} (X : Nat → α) (k : Nat) (y : α) : upd X k y k = y := if_pos rfl
theorem upd_ne {α : Type} (X : Nat → α) {k j : Nat} (y : α) (h : j ≠ k) : upd X k y j = X j := if_neg h
theorem Qb.put {w : World} {g : Nat} {l : List Fw} {X : Nat → Nat} {D : Nat → Int} (h : Qb w g l X D) {k : Nat} {f : Fw} (hk : l[k]? = some f) (y : Nat) (e : Int) :
    Qb ((((w.setCell ⟨g, k * 4, none⟩ (.int .i64 f.q)).setCell ⟨g, k * 4 + 1, none⟩ (.slice f.a f.z.length f.c)).setCell ⟨g, k * 4 + 2, none⟩ (.int .i64 y)).setCell ⟨g, k * 4 + 3, none⟩ (.int .i64 e)) g l (upd X k y) (upd D k e) := by
  obtain ⟨cs, b, hs, r⟩ := h
  have hkl : k < l.length := (List.getElem?_eq_some_iff.1 hk).1
  obtain ⟨s0, s1, s2, s3, s4, s5⟩ := set4 hs hkl (.int .i64 f.q) (.slice f.a f.z.length f.c) (.int .i64 y) (.int .i64 e)
  refine ⟨_, (((b.set_ _ _).set_ _ _).set_ _ _).set_ _ _, s0, fun j f' hj => ?_⟩
  by_cases c : j = k
  · subst c
    rw [hk] at hj
    obtain rfl : f = f' := by injection hj
    rw [upd_self, upd_self]
    exact ⟨s2, s3, s4, s5⟩
  · rw [upd_ne _ _ c, upd_ne _ _ c, s1 _ (by omega), s1 _ (by omega), s1 _ (by omega), s1 _ (by omega)]
    exact r j f' hj
/-- What the store of a queue reads on its way. -/
theorem Qb.stage {w : World} {g : Nat} {l : List Fw} {X : Nat → Nat} {D : Nat → Int} (h : Qb w g l X D) {k : Nat} {f : Fw} (hk : l[k]? = some f) :
    (∀ a, (w.setCell ⟨g, k * 4, none⟩ a).cell? ⟨g, k * 4, none⟩ = some a) ∧ (∀ a b, ((w.setCell ⟨g, k * 4, none⟩ a).setCell ⟨g, k * 4 + 1, none⟩ b).cell? ⟨g, k * 4 + 1, none⟩ = some b) ∧ (∀ a b c, (((w.setCell ⟨g, k * 4, none⟩ a).setCell ⟨g, k * 4 + 1, none⟩ b).setCell ⟨g, k * 4 + 2, none⟩ c).cell? ⟨g, k * 4 + 2, none⟩ = some c) := by
  obtain ⟨cs, b, hs, r⟩ := h
  have hkl : k < l.length := (List.getElem?_eq_some_iff.1 hk).1
  refine ⟨fun x => ?_, fun x y => ?_, fun x y z => ?_⟩
  · rw [(b.set_ _ x).cell, Array.getElem?_setIfInBounds_self_of_lt (by omega)]
  · rw [((b.set_ _ x).set_ _ y).cell, Array.getElem?_setIfInBounds_self_of_lt (by simp; omega)]
  · rw [(((b.set_ _ x).set_ _ y).set_ _ z).cell, Array.getElem?_setIfInBounds_self_of_lt (by simp; omega)]

/-- The queues as they are made. -/
def zq : Array Value := #[.int .i64 0, .slice none 0 0, .int .i64 0, .int .i64 0]
theorem q_info : (Try.prog.info? 91).map (fun i => (i.zero, i.size, i.bytes)) = some (some (.agg #[.int .i64 0, .slice none 0 0, .int .i64 0, .int .i64 0]), 4, 48) := by kernel_rfl
theorem made_q (n : Nat) (hn : n ≤ 1000) (W : World) : (Instr.makeSlice 87 (.int .i64 n) (.int .i64 n)).run Try.prog W = .ok (.slice (some ⟨W.heap.size, 0, none⟩) n n) (W.alloc (.cells (madeCells zq (n * 4)) 91)) := by
  obtain ⟨i, hi, hz⟩ := Option.map_eq_some_iff.1 q_info
  simp only [Prod.mk.injEq] at hz
  obtain ⟨hz, hs, hb⟩ := hz
  have hr := run_make (P := Try.prog) W 87 91 i _ Try.underlying87 hi hz .i64 .i64 n n (by omega) (Int.le_refl _) (by rw [hb]; omega) (by omega)
  simp only [Int.toNat_natCast, hs] at hr
  exact hr
theorem made_get (n j i : Nat) (h : j < n) (hi : i < 4) : (madeCells zq (n * 4))[j * 4 + i]? = zq[i]? := by
  have h1 : (j * 4 + i) % 4 = i := by omega
  have h2 : j * 4 + i < n * 4 := by omega
  have h3 : (madeCells zq (n * 4))[j * 4 + i]? = some (zq[(j * 4 + i) % zq.size]!) := by simp [madeCells, h2]
  rw [h3, show zq.size = 4 from rfl, h1]
  match i, hi with
  | 0, _ => rfl
  | 1, _ => rfl
  | 2, _ => rfl
  | 3, _ => rfl

set_option maxHeartbeats 800000 in
theorem fill_any (A : Option Addr) (l : List Fw) (c : Nat) (w : World) (h : Fls w A l) (h8 : l.length ≤ 8) :
    Calls Try.prog 52 #[.slice A l.length c] w fun e w' => ∃ g, e = .returned (.slice (some ⟨g, 0, none⟩) l.length l.length) ∧ w.heap.size ≤ g ∧ Qb w' g l (fun _ => 0) (fun _ => 0) ∧ Below w.heap.size w w' := by
  have hmk := fun W => made_q l.length (by omega) W
  go_enter Try.func52, Try.ntmps52
  go_wp2
  go_loopw [11] (fun i wr => ∃ (k : Nat) (cs : Array Value), k ≤ l.length ∧ i = .int .i64 k ∧ Blk wr w.heap.size 91 cs ∧ cs.size = l.length * 4 ∧ Hid (∀ j f, l[j]? = some f → j < k → cs[j * 4]? = some (.int .i64 f.q) ∧ cs[j * 4 + 1]? = some (.slice f.a f.z.length f.c)) ∧ Hid (∀ j, j < l.length → cs[j * 4 + 2]? = some (.int .i64 0) ∧ cs[j * 4 + 3]? = some (.int .i64 0)) ∧ Below w.heap.size w wr) (fun i _ => l.length - (intOf i).toNat)
  case atStart =>
    exact ⟨0, _, Nat.zero_le _, rfl, Blk.new _ _ _, size_madeCells _ _, Lib.hid (fun j f _ hj => by omega), Lib.hid (fun j hj => ⟨made_get _ _ 2 hj (by omega), made_get _ _ 3 hj (by omega)⟩), (Below.refl _ _).alloc (Nat.le_refl _) _⟩
  case round =>
    obtain ⟨k, cs, hk, rfl, B, hs, H1, H2, hbel⟩ := hrel
    by_cases hlt : k < l.length
    · obtain ⟨bb, off, f, rfl, hbl, c0, c1, iz, kz, HP⟩ := (h.below hbel).get hlt
      have i1 : (k : Int) < (l.length : Int) := by omega
      obtain ⟨u0, d0⟩ : ∃ u, wr.cell? ⟨w.heap.size, k * 4, none⟩ = some u := ⟨_, (B.cell _).trans (Array.getElem?_eq_getElem (by omega))⟩
      obtain ⟨u1, d1⟩ : ∃ u, wr.cell? ⟨w.heap.size, k * 4 + 1, none⟩ = some u := ⟨_, (B.cell _).trans (Array.getElem?_eq_getElem (by omega))⟩
      have f0 := B.frozen (k * 4)
      have f1 := B.frozen (k * 4 + 1)
      have lt0 := B.lt
      have HB : Hid (Blk ((wr.setCell ⟨w.heap.size, k * 4, none⟩ (.int .i64 f.q)).setCell ⟨w.heap.size, k * 4 + 1, none⟩ (.slice f.a f.z.length f.c)) w.heap.size 91 ((cs.setIfInBounds (k * 4) (.int .i64 f.q)).setIfInBounds (k * 4 + 1) (.slice f.a f.z.length f.c))) := Lib.hid ((B.set_ _ _).set_ _ _)
      have HBB : Hid (Below w.heap.size w ((wr.setCell ⟨w.heap.size, k * 4, none⟩ (.int .i64 f.q)).setCell ⟨w.heap.size, k * 4 + 1, none⟩ (.slice f.a f.z.length f.c))) := Lib.hid ((hbel.setCell (p := ⟨w.heap.size, k * 4, none⟩) (Nat.le_refl _) _).setCell (p := ⟨w.heap.size, k * 4 + 1, none⟩) (Nat.le_refl _) _)
      have HS : Hid (cs.size = l.length * 4) := Lib.hid hs
      have sg : ∀ a, (wr.setCell ⟨w.heap.size, k * 4, none⟩ a).cell? ⟨w.heap.size, k * 4, none⟩ = some a := fun a => by rw [(B.set_ _ a).cell, Array.getElem?_setIfInBounds_self_of_lt (by omega)]
      clear hs B hbel
      go_wp2
      go_roundw
      case rel =>
        obtain ⟨s0, s1, s2, s3⟩ := set2 HS.out hlt (.int .i64 f.q) (.slice f.a f.z.length f.c)
        refine ⟨k + 1, _, by omega, by go_num, HB.out.alloc _, s0, Lib.hid (fun j f' hj hjk => ?_), Lib.hid (fun j hj => ?_), HBB.out.alloc HBB.out.size _⟩
        · by_cases e : j = k
          · subst e
            have := HP.out
            rw [hj] at this
            obtain rfl : f' = f := by injection this
            exact ⟨s2, s3⟩
          · rw [s1 _ (by omega), s1 _ (by omega)]
            exact H1.out j f' hj (by omega)
        · rw [s1 _ (by omega), s1 _ (by omega)]
          exact H2.out j hj
      case measure => simp [intOf]; omega
    · obtain rfl : k = l.length := by omega
      go_wp2
      go_ret
      exact ⟨w.heap.size, rfl, Nat.le_refl _, ⟨cs, B, hs, fun j f hj => ⟨(H1.out j f hj (List.getElem?_eq_some_iff.1 hj).1).1, (H1.out j f hj (List.getElem?_eq_some_iff.1 hj).1).2, (H2.out j (List.getElem?_eq_some_iff.1 hj).1).1, (H2.out j (List.getElem?_eq_some_iff.1 hj).1).2⟩⟩, hbel⟩

end Go.Proofs.Ytamkadffencpgaa
