
/-
  What package world owes, with memory beside it that stays as it is.
-/
import Derived.Test.YtlaandbaaepamaaWldC
namespace Go.Proofs.Ytlaandbaaepamaa
set_option linter.all false
open Go.RowKit Go.Shelf Go.Lib

/-- What stays. -/
structure Same (s s' : WSt) : Prop where
  rate : s'.rate = s.rate
  unit : s'.unit = s.unit
  len : s'.d.l.length = s.d.l.length
theorem ap_same (k : Int) (s : WSt) : Same s (apW k s) := by
  unfold apW
  split
  · exact ⟨rfl, rfl, by simp [moreW]⟩
  · exact ⟨rfl, rfl, rfl⟩
theorem tick_same {s : WSt} {t : Wd} {m : Nat} (h : StOk s) (k : Tick s.unit s.rate s.d t m) : Same s (tickW t s) := ⟨rfl, rfl, (tick_st h k).2⟩
theorem crash_same (i : Nat) (s : WSt) : Same s (crashW i s) := ⟨rfl, rfl, by simp [crashW]⟩
/-- One that is as it was, but for who lags. -/
structure Frm (s : WSt) (R U : Int) (n : Nat) : Prop where
  rate : s.rate = R
  unit : s.unit = U
  len : s.d.l.length = n
theorem Frm.same {s s' : WSt} {R U : Int} {n : Nat} (h : Frm s R U n) (k : Same s s') : Frm s' R U n := ⟨k.rate.trans h.rate, k.unit.trans h.unit, k.len.trans h.len⟩
variable {Rep : World → Value → (Nat → Prop) → WSt → Prop}
theorem WldC.new_at (K : WldC Rep) (k r u : Int) (n : Nat) (w : World) (hk : k = n) (h : NewOk n r u) : Calls Try.prog 10 #[.int .i64 k, .int .i64 r, .int .i64 u] w fun e w' => ∃ a S, e = .returned (.tuple #[.pointer (some a), .int .i64 0]) ∧ Rep w' (.pointer (some a)) S (newW n r u) ∧ (∀ b, S b → w.heap.size ≤ b) ∧ Below w.heap.size w w' := by
  subst hk
  refine (K.new n r u w h).mono ?_
  rintro e w' ⟨p, S, rfl, hR, hS, b⟩
  obtain ⟨a, rfl⟩ := K.ptr _ _ _ _ hR
  exact ⟨a, S, rfl, hR, hS, b⟩
theorem cell_heapW {w w' : World} {b : Nat} (h : w'.heap[b]? = w.heap[b]?) (o : Nat) : w'.cell? ⟨b, o, none⟩ = w.cell? ⟨b, o, none⟩ := by
  simp only [World.cell?, h]
theorem Ints.heapW {w w' : World} {A : Option Addr} {l : List Int} (hb : Ints w A l) (h : ∀ b off, A = some ⟨b, off, none⟩ → w'.heap[b]? = w.heap[b]?) : Ints w' A l := by
  refine ⟨hb.1, fun hl => ?_⟩
  obtain ⟨b, off, e, hc⟩ := hb.2 hl
  exact ⟨b, off, e, fun j hj => by rw [cell_heapW (h b off e)]; exact hc j hj⟩
theorem own_bltW {w : World} {base n c size : Nat} {e : TypeId} {A : Option Addr} {xs : List Value} (h : w.ownsRow base e size (.slice A n c) n xs) : ∀ b off, A = some ⟨b, off, none⟩ → base ≤ b ∧ b < w.heap.size := by
  intro b off hA
  rcases h.2 with ⟨hv, _⟩ | ⟨g, cap, cur, hv, hB, hb, _⟩
  · injection hv with e1; rw [hA] at e1; cases e1
  · injection hv with e1
    rw [hA] at e1
    injection e1 with e1
    injection e1 with e1
    subst e1
    exact ⟨hB, Blk.lt hb⟩
/-- A world that was made behind w, and the blocks of F as they were in W0. -/
structure OwnF (Rep : World → Value → (Nat → Prop) → WSt → Prop) (w wr : World) (p : Value) (s : WSt) (F : Nat → Prop) (W0 : World) : Prop where
  rep : ∃ S, Rep wr p S s ∧ (∀ b, S b → w.heap.size ≤ b) ∧ ∀ b, S b → ¬ F b
  b : Below w.heap.size w wr
  lt : ∀ b, F b → b < wr.heap.size
  same : ∀ b, F b → wr.heap[b]? = W0.heap[b]?
theorem OwnF.ok (K : WldC Rep) {w wr W0 : World} {p : Value} {s : WSt} {F : Nat → Prop} (h : OwnF Rep w wr p s F W0) : StOk s := by
  obtain ⟨⟨S, hR, _⟩, _⟩ := h
  exact K.ok _ _ _ _ hR
theorem OwnF.keep (K : WldC Rep) {w wr w' W0 : World} {p : Value} {s : WSt} {F : Nat → Prop} (h : OwnF Rep w wr p s F W0) (b : Below wr.heap.size wr w') : OwnF Rep w w' p s F W0 := by
  obtain ⟨⟨S, hR, hS, hF⟩, hb, hl, hs⟩ := h
  exact ⟨⟨S, K.keep _ _ _ _ _ hR (fun b' hb' => b.block b' (K.lt _ _ _ _ hR b' hb')), hS, hF⟩, below_trans hb b, fun b' k => Nat.lt_of_lt_of_le (hl b' k) b.size, fun b' k => (b.block b' (hl b' k)).trans (hs b' k)⟩
theorem OwnF.mv {w wr w' W0 : World} {p : Value} {s s' : WSt} {F : Nat → Prop} {S S' : Nat → Prop} (h : OwnF Rep w wr p s F W0) (hS : ∀ b, S b → w.heap.size ≤ b) (hF : ∀ b, S b → ¬ F b) (hR : Rep w' p S' s') (m : Mv wr w' S S') : OwnF Rep w w' p s' F W0 :=
  ⟨⟨S', hR, m.from_ h.b.size hS, fun b k q => by
    rcases m.new b k with c | c
    · exact hF b c q
    · have := h.lt b q; omega⟩, h.b.trans (m.below h.b.size hS), fun b q => Nat.lt_of_lt_of_le (h.lt b q) m.size, fun b q => (m.block b (h.lt b q) (fun k => hF b k q)).trans (h.same b q)⟩
theorem WldC.appendF (K : WldC Rep) (k E : Int) (w wr W0 : World) (p : Value) (s : WSt) (F : Nat → Prop) (h : OwnF Rep w wr p s F W0) (hE : Hid (apE k s = E)) : Calls Try.prog 13 #[p, .int .i64 k] wr fun e w' => e = .returned (.int .i64 E) ∧ OwnF Rep w w' p (apW k s) F W0 := by
  obtain ⟨S, hR, hS, hF⟩ := h.rep
  refine (K.append k wr p S s hR).mono ?_
  rintro e w' ⟨rfl, S', hR', m⟩
  exact ⟨by rw [hE.out], h.mv hS hF hR' m⟩
theorem WldC.tickF (K : WldC Rep) (w wr W0 : World) (p : Value) (s : WSt) (F : Nat → Prop) (t : Wd) (m : Nat) (h : OwnF Rep w wr p s F W0) (ht : Tick s.unit s.rate s.d t m) : Calls Try.prog 15 #[p] wr fun e w' => e = .returned (.int .i64 m) ∧ OwnF Rep w w' p (tickW t s) F W0 := by
  obtain ⟨S, hR, hS, hF⟩ := h.rep
  refine (K.tick wr p S s t m hR ht).mono ?_
  rintro e w' ⟨rfl, S', hR', mv⟩
  exact ⟨rfl, h.mv hS hF hR' mv⟩
theorem WldC.peersF (K : WldC Rep) (n : Nat) (w wr W0 : World) (p : Value) (s : WSt) (F : Nat → Prop) (h : OwnF Rep w wr p s F W0) (hn : s.d.l.length = n) : Calls Try.prog 19 #[p] wr fun e w' => ∃ A c, e = .returned (.slice A n c) ∧ Prs w' A s.d.l ∧ OwnF Rep w w' p s F W0 := by
  subst hn
  obtain ⟨S, hR, hS, hF⟩ := h.rep
  refine (K.peers wr p S s hR).mono ?_
  rintro e w' ⟨A, c, rfl, o, b⟩
  exact ⟨A, c, rfl, Prs.of_own o, h.keep K b⟩
theorem WldC.crashF (K : WldC Rep) (i : Nat) (w wr W0 : World) (p : Value) (s : WSt) (F : Nat → Prop) (h : OwnF Rep w wr p s F W0) (hi : i < s.d.l.length) : Calls Try.prog 17 #[p, .int .i64 i] wr fun e w' => e = .returned (.int .i64 0) ∧ OwnF Rep w w' p (crashW i s) F W0 := by
  obtain ⟨S, hR, hS, hF⟩ := h.rep
  refine (K.crash i wr p S s hR hi).mono ?_
  rintro e w' ⟨rfl, S', hR', mv⟩
  exact ⟨rfl, h.mv hS hF hR' mv⟩

end Go.Proofs.Ytlaandbaaepamaa
