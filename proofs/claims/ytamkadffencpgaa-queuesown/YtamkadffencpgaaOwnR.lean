
/-
  What bucket.Run, fifo.Run, turns.Run hand back, whatever they were handed: a list in new memory.
-/
import Derived.Test.YtamkadffencpgaaOwnQ
import Derived.Test.YtamkadffencpgaaFifoA
import Derived.Test.YtamkadffencpgaaBucketE
namespace Go.Proofs.Ytamkadffencpgaa
set_option linter.all false
open Go.RowKit Go.Shelf Go.Lib

/-- A list in new memory, by its cells, and an error. -/
def AnsO {α : Type} (t : TypeId) (size : Nat) (mk : List α → List Value) (w : World) (e : Ending) (w' : World) : Prop :=
  ∃ A c E L, e = .returned (.tuple #[.slice A L.length c, .int .i64 E]) ∧ w'.ownsRow w.heap.size t size (.slice A L.length c) L.length (mk L) ∧ L.length ≤ 1000 ∧ Below w.heap.size w w'
def ics (l : List Int) : List Value := l.map (Value.int .i64)
def bcs (l : List Bool) : List Value := l.map Value.bool
theorem int_one (l : List Int) : ∀ u ∈ l.map (Value.int .i64), u.oneCell' = true := by
  intro u hu
  obtain ⟨y, _, rfl⟩ := List.mem_map.1 hu
  rfl
theorem bool_one (l : List Bool) : ∀ u ∈ l.map Value.bool, u.oneCell' = true := by
  intro u hu
  obtain ⟨y, _, rfl⟩ := List.mem_map.1 hu
  rfl
theorem brun_own (A : Option Addr) (l : List Pk) (r b f : Int) (n c : Nat) (w : World) (hp : Pks w A l) (hn : n = l.length) :
    Calls Try.prog 21 #[.agg #[.int .i64 r, .int .i64 b, .int .i64 f], .slice A n c] w (AnsO 4 1 bcs w) := by
  subst hn
  have key : ∀ L E e w', AnsBw L E w e w' → L.length ≤ 1000 → AnsO 4 1 bcs w e w' := fun L E e w' h hl => by
    obtain ⟨A', c', rfl, _, o, bl⟩ := h
    exact ⟨A', c', E, L, rfl, o, hl, bl⟩
  by_cases h : Bk r b f
  · by_cases hq : pksE l = 0
    · refine (run_yes' A l r b f c w h hp hq).mono fun e w' q => key _ _ e w' q ?_
      have := (qu_of hq).le
      rw [length_runL]; omega
    · exact (run_no' A l r b f c w h hp hq).mono fun e w' q => key _ _ e w' q (by simp)
  · exact (run_bad' A l r b f c w h).mono fun e w' q => key _ _ e w' q (by simp)
theorem trun_own (A : Option Addr) (l : List Fw) (n c : Nat) (w : World) (h : Fls w A l) (hn : n = l.length) :
    Calls Try.prog 22 #[.slice A n c] w (AnsO 60 2 scs w) := by
  subst hn
  have key : ∀ L E e w', AnsR L E w e w' → L.length ≤ 1000 → AnsO 60 2 scs w e w' := fun L E e w' h hl => by
    obtain ⟨A', c', rfl, o, bl⟩ := h
    exact ⟨A', c', E, L, rfl, o, hl, bl⟩
  by_cases hE : flE (fls l) = 0
  · refine (trun_yes A l _ c w h (Lib.hid hE) rfl).mono fun e w' q => key _ _ e w' q ?_
    have := ord_bd (flE_iff.1 hE) 60000
    unfold ordF; omega
  · exact (trun_no A l c w h hE).mono fun e w' q => key _ _ e w' q (by simp)
theorem frun_own (A : Option Addr) (l : List Pk) (n c : Nat) (w : World) (h : Pks w A l) (hn : n = l.length) :
    Calls Try.prog 18 #[.slice A n c] w (AnsO 3 1 ics w) := by
  subst hn
  refine (frun_any A l c w h).mono fun e w' q => ?_
  obtain ⟨A', c', rfl, o, bl⟩ := q
  refine ⟨A', c', _, _, rfl, o, ?_, bl⟩
  by_cases hq : pksE l = 0
  · rw [fdL_yes hq, length_dnL]; have := (qu_of hq).le; omega
  · rw [fdL_no hq]; simp

theorem own_apart {w : World} {base n size g : Nat} {e t : TypeId} {v : Value} {xs : List Value} {cs : Array Value} (h : w.ownsRow base e size v n xs) (hB : Blk w g t cs) (ht : t ≠ e) : v.ownBlock ≠ some g := by
  rcases h.2 with ⟨rfl, _⟩ | ⟨g', cap, cur, rfl, _, hg, _⟩
  · simp [Value.ownBlock]
  · intro c
    have e1 : g' = g := by simpa [Value.ownBlock] using c
    subst e1
    unfold Blk at hB
    rw [hB] at hg
    injection hg with hg
    injection hg with _ hg
    exact ht hg
/-- The cells of a list of flows. -/
def fcs (l : List Fw) : List Value := l.flatMap (fun f => [Value.int .i64 f.q, .slice f.a f.z.length f.c])
theorem fcs_cons (f : Fw) (l : List Fw) : fcs (f :: l) = [Value.int .i64 f.q, .slice f.a f.z.length f.c] ++ fcs l := by simp [fcs]
theorem fcs_app (l m : List Fw) : fcs (l ++ m) = fcs l ++ fcs m := by simp [fcs]
theorem length_fcs (l : List Fw) : (fcs l).length = l.length * 2 := by
  induction l with
  | nil => rfl
  | cons p l ih => rw [fcs_cons, List.length_append, ih]; simp; omega
theorem fcs_get : ∀ {l : List Fw} {k : Nat} {f : Fw}, l[k]? = some f → (fcs l)[k * 2]? = some (.int .i64 f.q) ∧ (fcs l)[k * 2 + 1]? = some (.slice f.a f.z.length f.c)
  | [], k, p, h => by simp at h
  | q :: l, 0, p, h => by simp at h; subst h; rw [fcs_cons]; simp
  | q :: l, k + 1, p, h => by
    have ih := fcs_get (l := l) (k := k) (f := p) (by simpa using h)
    rw [fcs_cons]
    refine ⟨?_, ?_⟩
    · rw [List.getElem?_append_right (by simp; omega)]; simpa [show (k + 1) * 2 - 2 = k * 2 by omega] using ih.1
    · rw [List.getElem?_append_right (by simp; omega)]; simpa [show (k + 1) * 2 + 1 - 2 = k * 2 + 1 by omega] using ih.2
theorem flow_info : (Try.prog.info? 47).map (fun i => (i.zero, i.size, i.bytes)) = some (some (.agg #[.int .i64 0, .slice none 0 0]), 2, 32) := by kernel_rfl
/-- A flow made anew: the same, its sizes in a block of their own, with three marks behind them. -/
structure Mk1 (w : World) (base : Nat) (f f' : Fw) (g : Nat) : Prop where
  q : f'.q = f.q
  z : f'.z = f.z
  a : f'.a = some ⟨g, 0, none⟩
  c : f'.c = f.z.length + 3
  lo : base ≤ g
  blk : Blk w g 3 ((f.z ++ [-9, -9, -9]).map (Value.int .i64)).toArray
def Mks (w : World) (base : Nat) (l l' : List Fw) : Prop := ∀ (j : Nat) (f' : Fw), l'[j]? = some f' → ∃ f g, l[j]? = some f ∧ Mk1 w base f f' g
theorem Mks.keep {w w' : World} {base : Nat} {l l' : List Fw} (h : Mks w base l l') (hk : ∀ g cs, Blk w g 3 cs → Blk w' g 3 cs) : Mks w' base l l' := fun j f' hj => by
  obtain ⟨f, g, h1, h2⟩ := h j f' hj
  exact ⟨f, g, h1, ⟨h2.q, h2.z, h2.a, h2.c, h2.lo, hk _ _ h2.blk⟩⟩
theorem Mks.below {w w' : World} {base : Nat} {l l' : List Fw} (h : Mks w base l l') (hb : Below w.heap.size w w') : Mks w' base l l' := h.keep (fun _ _ b => b.below hb)
theorem Mks.nil (w : World) (base : Nat) (l : List Fw) : Mks w base l [] := fun j f' hj => by simp at hj
theorem Mks.snoc {w : World} {base g : Nat} {l l' : List Fw} {f f' : Fw} (h : Mks w base l l') (hf : l[l'.length]? = some f) (m : Mk1 w base f f' g) : Mks w base l (l' ++ [f']) := fun j f'' hj => by
  by_cases c : j < l'.length
  · rw [List.getElem?_append_left c] at hj; exact h j f'' hj
  · rw [List.getElem?_append_right (by omega)] at hj
    have hj' : j = l'.length := by
      have := (List.getElem?_eq_some_iff.1 hj).1
      simp at this
      omega
    subst hj'
    simp at hj
    subst hj
    exact ⟨f, g, hf, m⟩

/-- The flows made anew read as flows. -/
theorem Mks.fls {w : World} {base0 base : Nat} {l l' : List Fw} {A : Option Addr} {c : Nat} (h : Mks w base l l') (ho : w.ownsRow base0 47 2 (.slice A l'.length c) l'.length (fcs l')) (hz : ∀ f ∈ l, f.z.length ≤ 9223372036854775807) : Fls w A l' := by
  rcases ho.2 with ⟨hv, h0⟩ | ⟨g, cap, cur, hv, _, hh, hn, hm, hs, ht⟩
  · rw [List.eq_nil_of_length_eq_zero h0]
    exact Fls.nil_ _ _
  · refine ⟨by unfold maxLen at hm; omega, fun hl => ?_⟩
    have hA : A = some ⟨g, 0, none⟩ := by injection hv
    subst hA
    refine ⟨g, 0, rfl, fun j f' hj => ?_⟩
    obtain ⟨g0, g1⟩ := fcs_get hj
    have c0 := ho.cells (g := g) rfl _ _ g0
    have c1 := ho.cells (g := g) rfl _ _ g1
    rw [Addr.add_lit] at c0 c1
    obtain ⟨f, gz, hf, m⟩ := h j f' hj
    refine ⟨c0, by rw [← Nat.add_assoc] at c1; exact c1, ?_, ?_⟩
    · rw [m.a, m.z]; exact Ints.of_room m.blk (hz f (List.mem_of_getElem? hf))
    · rw [m.c, m.z]; omega
/-- A slice at the head of a block of packets. -/
theorem Pks.of_room {w : World} {g : Nat} {l m : List Pk} (h : Blk w g 32 (pcs (l ++ m)).toArray) (hl : l.length ≤ 9223372036854775807) : Pks w (some ⟨g, 0, none⟩) l :=
  Pks.mk_cells hl (fun j u hu => by
    rw [h.cell, List.getElem?_toArray, Nat.zero_add, pcs_append, List.getElem?_append_left (List.getElem?_eq_some_iff.1 hu).1]
    exact hu)

theorem Turned.grown {g : Nat} {w w' : World} (h : Turned g w w') : w.grownBy w' (some g) := ⟨h.os, h.tape, h.output, Nat.le_of_eq h.size.symm, fun k _ hne => h.block k (fun e => hne (by rw [e]))⟩
theorem own_grown {w w' : World} {base n size g : Nat} {e : TypeId} {v : Value} {xs : List Value} (h : w.ownsRow base e size v n xs) (hg : w.grownBy w' (some g)) (hb : g < base) : w'.ownsRow base e size v n xs :=
  h.kept hg (.inr (fun q => by have := (h.lt _ q).1; omega))
theorem Blk.grown {w w' : World} {g g' : Nat} {t : TypeId} {cs : Array Value} (h : Blk w g' t cs) (hg : w.grownBy w' (some g)) (hb : g' ≠ g) : Blk w' g' t cs := h.same (hg.block g' h.lt (fun e => by injection e with e; exact hb e))

set_option maxHeartbeats 800000 in
theorem spoil_keep (g n c : Nat) (x : Int) (cs : Array Value) (w : World) (h : Blk w g 3 cs) (hc : cs.size = c) (hn : n ≤ c) (hm : c ≤ 9223372036854775807) :
    Calls Try.prog 30 #[.slice (some ⟨g, 0, none⟩) n c, .int .i64 x] w fun e w' => e = .returned (.tuple #[]) ∧ (∃ cs', Blk w' g 3 cs' ∧ cs'.size = c) ∧ w.grownBy w' (some g) := by
  go_enter Try.func30, Try.ntmps30
  go_wp2
  go_loopw [11] (fun i wr => ∃ k : Nat, k ≤ c ∧ i = .int .i64 k ∧ (∃ cs, Blk wr g 3 cs ∧ cs.size = c) ∧ Turned g w wr) (fun i _ => c - (intOf i).toNat)
  case atStart => exact ⟨0, Nat.zero_le _, rfl, ⟨cs, h, hc⟩, Turned.refl _ _⟩
  case round =>
    clear h hc
    obtain ⟨k, hk, rfl, ⟨cs, B0, hc⟩, ht⟩ := hrel
    by_cases hlt : k < c
    · have i1 : (k : Int) < (c : Int) := by omega
      obtain ⟨u, hu⟩ : ∃ u, cs[k]? = some u := ⟨_, Array.getElem?_eq_getElem (show k < cs.size by omega)⟩
      have cl := (B0.cell k).trans hu
      have fl := B0.frozen k
      have M := (B0.set_ k (.int .i64 x))
      have HM : Hid ((cs.setIfInBounds k (.int .i64 x)).size = c) := Lib.hid (by simpa using hc)
      clear hu hc
      go_wp2
      go_roundw
      case rel => exact ⟨k + 1, by omega, by go_num, ⟨_, M, HM.out⟩, ht.set k _⟩
      case measure => simp [intOf]; omega
    · go_wp2
      exact ⟨rfl, .tuple #[], by simp [results, Try.results30, go_sem], rfl, ⟨cs, B0, hc⟩, ht.grown⟩
theorem equal_yes (A B : Option Addr) (l : List Int) (nl nm c d : Nat) (w : World) (h : Ints w A l) (h' : Ints w B l) (hl : nl = l.length) (hm : nm = l.length) :
    Calls Try.prog 11 #[.slice A nl c, .slice B nm d] w fun e w' => e = .returned (.bool true) ∧ ∃ n, w' = w.drewN n := by
  have q := equal_at A B l l nl nm c d w h h' hl hm
  rw [eqB_true rfl] at q
  exact q
theorem marked_yes (g : Nat) (l : List Int) (x : Int) (n c : Nat) (w : World) (h : Blk w g 3 ((l ++ [x, x, x]).map (Value.int .i64)).toArray) (hl : 8 * (l.length + 3) ≤ 281474976710656) (hn : n = l.length) (hc : c = l.length + 3) :
    Calls Try.prog 25 #[.slice (some ⟨g, 0, none⟩) n c, .int .i64 x] w fun e w' => e = .returned (.bool true) ∧ w' = w := by
  subst hn hc
  exact (marked_any g l x w h hl).mono fun _ _ ⟨a, b⟩ => ⟨a, b.symm⟩
theorem Bls.of_own {w : World} {base : Nat} {A : Option Addr} {c : Nat} {l : List Bool} (h : w.ownsRow base 4 1 (.slice A l.length c) l.length (bcs l)) : Bls w A l := by
  rcases h.2 with ⟨hv, h0⟩ | ⟨g, cap, cur, hv, _, hh, hn, hm, hs, ht⟩
  · rw [List.eq_nil_of_length_eq_zero h0]
    exact Bls.nil_ _ _
  · refine ⟨by unfold maxLen at hm; omega, fun hl => ?_⟩
    have hA : A = some ⟨g, 0, none⟩ := by injection hv
    subst hA
    refine ⟨g, 0, rfl, fun j hj => ?_⟩
    have := h.cells (g := g) rfl j (.bool (l.getD j false)) (by simp [bcs, List.getD, List.getElem?_eq_getElem hj])
    rw [Addr.add_lit] at this
    exact this

theorem blk_ne {w : World} {g g' : Nat} {t t' : TypeId} {cs cs' : Array Value} (h : Blk w g t cs) (h' : Blk w g' t' cs') (ht : t ≠ t') : g ≠ g' := by
  intro e
  subst e
  unfold Blk at h h'
  rw [h] at h'
  injection h' with h'
  injection h' with _ h'
  exact ht h'
/-- The sizes of the flows made anew still lie in blocks of their room, from lo on and ahead of R. -/
def Sp (w : World) (lo R : Nat) (l' : List Fw) : Prop := ∀ (j : Nat) (f' : Fw), l'[j]? = some f' → ∃ g cs, f'.a = some ⟨g, 0, none⟩ ∧ Blk w g 3 cs ∧ cs.size = f'.c ∧ f'.z.length ≤ f'.c ∧ f'.c ≤ 9223372036854775807 ∧ lo ≤ g ∧ g < R
theorem Mks.sp {w : World} {lo R : Nat} {l l' : List Fw} (h : Mks w lo l l') (hR : w.heap.size ≤ R) (hz : ∀ f ∈ l, 8 * f.z.length ≤ 140737488351232) : Sp w lo R l' := fun j f' hj => by
  obtain ⟨f, g, hf, m⟩ := h j f' hj
  have := hz f (List.mem_of_getElem? hf)
  have hl := m.blk.lt
  exact ⟨g, _, m.a, m.blk, by rw [m.c]; simp, by rw [m.c, m.z]; omega, by rw [m.c]; omega, m.lo, by omega⟩
theorem Sp.below {w w' : World} {lo R : Nat} {l' : List Fw} (h : Sp w lo R l') (hb : Below w.heap.size w w') : Sp w' lo R l' := fun j f' hj => by
  obtain ⟨g, cs, h1, h2, h3⟩ := h j f' hj
  exact ⟨g, cs, h1, h2.below hb, h3⟩
theorem Sp.grown {w w' : World} {lo R g : Nat} {l' : List Fw} (h : Sp w lo R l') (hg : w.grownBy w' (some g)) (hl : g < lo) : Sp w' lo R l' := fun j f' hj => by
  obtain ⟨g', cs, h1, h2, h3, h4, h5, h6, h7⟩ := h j f' hj
  exact ⟨g', cs, h1, h2.grown hg (by omega), h3, h4, h5, h6, h7⟩
/-- One of them spoilt. -/
theorem Sp.spoilt {w w' : World} {lo R g c : Nat} {l' : List Fw} (h : Sp w lo R l') (hg : w.grownBy w' (some g)) (cs : Array Value) (hB : Blk w' g 3 cs) (hc : cs.size = c) (hs : ∃ cs0, Blk w g 3 cs0 ∧ cs0.size = c) : Sp w' lo R l' := fun j f' hj => by
  obtain ⟨g', cs', h1, h2, h3, h4, h5, h6, h7⟩ := h j f' hj
  by_cases e : g' = g
  · subst e
    obtain ⟨cs0, q1, q2⟩ := hs
    have : cs0 = cs' := by
      unfold Blk at q1 h2
      rw [q1] at h2
      injection h2 with h2
      injection h2
    exact ⟨g', cs, h1, hB, by rw [hc, ← q2, this]; exact h3, h4, h5, h6, h7⟩
  · exact ⟨g', cs', h1, h2.grown hg e, h3, h4, h5, h6, h7⟩

end Go.Proofs.Ytamkadffencpgaa
