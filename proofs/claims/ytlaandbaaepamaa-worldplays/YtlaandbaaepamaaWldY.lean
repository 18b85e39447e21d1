
/-
  Toward the law WorldPlays: the program's world beside the document's own.
-/
import Derived.Test.YtlaandbaaepamaaWldW
import Derived.Test.YtlaandbaaepamaaWldF
import Derived.Test.YtlaandbaaepamaaWldS
import Derived.Test.YtlaandbaaepamaaLlsA
namespace Go.Proofs.Ytlaandbaaepamaa
set_option linter.all false
open Go.RowKit Go.Shelf Go.Lib

variable {Rep : World → Value → (Nat → Prop) → WSt → Prop}
def GH (g h : Nat) (b : Nat) : Prop := b = g ∨ b = h
/-- Both, as s says. -/
structure Play (Rep : World → Value → (Nat → Prop) → WSt → Prop) (w wr : World) (p : Value) (g h : Nat) (s s' : WSt) : Prop where
  own : OwnF Rep w wr p s (GH g h) wr
  ref : RefAt wr g h s'
  hg : w.heap.size ≤ g
  hh : w.heap.size ≤ h
theorem RefAt.heap {w w' : World} {g h : Nat} {s : WSt} (k : RefAt w g h s) (e : ∀ b, GH g h b → w'.heap[b]? = w.heap[b]?) : RefAt w' g h s :=
  ⟨(e g (.inl rfl)).trans k.box, (e h (.inr rfl)).trans k.row, k.ne⟩
/-- The program's moved. -/
theorem Play.mine {w wr w' : World} {p : Value} {g h : Nat} {s s' s1 : WSt} (k : Play Rep w wr p g h s s') (o : OwnF Rep w w' p s1 (GH g h) wr) : Play Rep w w' p g h s1 s' :=
  ⟨⟨o.rep, o.b, o.lt, fun _ _ => rfl⟩, k.ref.heap o.same, k.hg, k.hh⟩
/-- The document's moved. -/
theorem Play.its (K : WldC Rep) {w wr w' : World} {p : Value} {g h : Nat} {s s' s1 : WSt} (k : Play Rep w wr p g h s s') (r : RefAt w' g h s1) (b : But2 w.heap.size wr w' g h) : Play Rep w w' p g h s s1 := by
  obtain ⟨⟨⟨S, hR, hS, hF⟩, hb, hl, _⟩, _, k1, k2⟩ := k
  exact ⟨⟨⟨S, K.keep _ _ _ _ _ hR (fun i hi => b.block i (K.lt _ _ _ _ hR i hi) (fun e => hF i hi (.inl e)) (fun e => hF i hi (.inr e))), hS, hF⟩, hb.trans b.b, fun i hi => Nat.lt_of_lt_of_le (hl i hi) b.b.size, fun _ _ => rfl⟩, r, k1, k2⟩
theorem Play.keep (K : WldC Rep) {w wr w' : World} {p : Value} {g h : Nat} {s s' : WSt} (k : Play Rep w wr p g h s s') (b : Below wr.heap.size wr w') : Play Rep w w' p g h s s' :=
  ⟨⟨(k.own.keep K b).rep, (k.own.keep K b).b, (k.own.keep K b).lt, fun _ _ => rfl⟩, k.ref.below b, k.hg, k.hh⟩
theorem WldC.appendP (K : WldC Rep) (k : Int) (w wr : World) (p : Value) (g h : Nat) (s s' : WSt) (P : Play Rep w wr p g h s s') : Calls Try.prog 13 #[p, .int .i64 k] wr fun e w' => e = .returned (.int .i64 (apE k s)) ∧ Play Rep w w' p g h (apW k s) s' := by
  refine (K.appendF k _ w wr wr p s _ P.own (Lib.hid rfl)).mono ?_
  rintro e w' ⟨rfl, o⟩
  exact ⟨rfl, P.mine o⟩
theorem WldC.tickP (K : WldC Rep) (w wr : World) (p : Value) (g h : Nat) (s s' : WSt) (t : Wd) (m : Nat) (P : Play Rep w wr p g h s s') (ht : Tick s.unit s.rate s.d t m) : Calls Try.prog 15 #[p] wr fun e w' => e = .returned (.int .i64 m) ∧ Play Rep w w' p g h (tickW t s) s' := by
  refine (K.tickF w wr wr p s _ t m P.own ht).mono ?_
  rintro e w' ⟨rfl, o⟩
  exact ⟨rfl, P.mine o⟩
theorem WldC.crashP (K : WldC Rep) (i : Nat) (w wr : World) (p : Value) (g h : Nat) (s s' : WSt) (P : Play Rep w wr p g h s s') (hi : i < s.d.l.length) : Calls Try.prog 17 #[p, .int .i64 i] wr fun e w' => e = .returned (.int .i64 0) ∧ Play Rep w w' p g h (crashW i s) s' := by
  refine (K.crashF i w wr wr p s _ P.own hi).mono ?_
  rintro e w' ⟨rfl, o⟩
  exact ⟨rfl, P.mine o⟩
theorem WldC.crash_noP (K : WldC Rep) (i : Int) (w wr : World) (p : Value) (g h : Nat) (s s' : WSt) (P : Play Rep w wr p g h s s') (hi : ¬ (0 ≤ i ∧ i < s.d.l.length)) : Calls Try.prog 17 #[p, .int .i64 i] wr fun e w' => e = .returned (.int .i64 1) ∧ Play Rep w w' p g h s s' := by
  obtain ⟨S, hR, hS, hF⟩ := P.own.rep
  refine (K.crash_no i wr p S s hR hi).mono ?_
  rintro e w' ⟨rfl, S', hR', mv⟩
  exact ⟨rfl, P.mine (P.own.mv hS hF hR' mv)⟩
theorem WldC.peersP (K : WldC Rep) (n : Nat) (w wr : World) (p : Value) (g h : Nat) (s s' : WSt) (P : Play Rep w wr p g h s s') (hn : s.d.l.length = n) : Calls Try.prog 19 #[p] wr fun e w' => ∃ A c, e = .returned (.slice A n c) ∧ Prs w' A s.d.l ∧ Below wr.heap.size wr w' ∧ Play Rep w w' p g h s s' := by
  subst hn
  obtain ⟨S, hR, hS, hF⟩ := P.own.rep
  refine (K.peers wr p S s hR).mono ?_
  rintro e w' ⟨A, c, rfl, o, b⟩
  exact ⟨A, c, rfl, Prs.of_own o, b, P.keep K b⟩
theorem rappendP (K : WldC Rep) (k : Int) (w wr : World) (p : Value) (g h : Nat) (s s' : WSt) (P : Play Rep w wr p g h s s') (ok : StOk s') : Calls Try.prog 14 #[.pointer (some ⟨g, 0, none⟩), .int .i64 k] wr fun e w' => e = .returned (.int .i64 (apE k s')) ∧ Play Rep w w' p g h s (apW k s') := by
  refine (rappend_any w.heap.size g h s' k wr ok P.ref P.hg P.hh).mono ?_
  rintro e w' ⟨rfl, r, b⟩
  exact ⟨rfl, P.its K r b⟩
theorem rtickP (K : WldC Rep) (w wr : World) (p : Value) (g h : Nat) (s s' : WSt) (t : Wd) (m : Nat) (P : Play Rep w wr p g h s s') (ok : StOk s') (ht : Tick s'.unit s'.rate s'.d t m) : Calls Try.prog 16 #[.pointer (some ⟨g, 0, none⟩)] wr fun e w' => e = .returned (.int .i64 m) ∧ Play Rep w w' p g h s (tickW t s') := by
  refine (rtick_any w.heap.size g h s' t m wr ok P.ref P.hg P.hh ht).mono ?_
  rintro e w' ⟨rfl, r, b⟩
  exact ⟨rfl, P.its K r b⟩
/-- The document's row reads as its peers. -/
theorem RefAt.prs {w : World} {g h : Nat} {s : WSt} (k : RefAt w g h s) (hl : s.d.l.length ≤ 8) : Prs w (some ⟨h, 0, none⟩) s.d.l :=
  ⟨by omega, fun _ => ⟨h, 0, rfl, fun j p hj => by
    have hi : j < s.d.l.length := (List.getElem?_eq_some_iff.1 hj).1
    obtain ⟨c0, c1, c2⟩ := k.row.peer hi
    have e : pr s.d.l j = p := by simp [pr, List.getD, hj]
    rw [e] at c0 c1 c2
    rw [Nat.zero_add]
    exact ⟨c0, c1, c2⟩⟩⟩

end Go.Proofs.Ytlaandbaaepamaa
