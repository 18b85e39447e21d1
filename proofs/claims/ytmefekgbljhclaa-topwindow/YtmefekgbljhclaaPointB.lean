
/-
  Walks: point's functions: Min, Max, Sum, Less, Late, Up, each by values.Curve over its own function value.
-/
import Derived.Test.YtmefekgbljhclaaPointA
import Derived.Shelf.Abstract
import Derived.StillTailTactics
namespace Go.Proofs.Ytmefekgbljhclaa
set_option linter.all false
open Go.RowKit Go.Shelf

/-- A function value 'func(a, b int) int' called at a run of pairs: it answers F at each; of the blocks below B0 none turns, and none from B on; it makes none. -/
structure Op2 (k : FuncId) (cs : Array Value) (B0 B n : Nat) (f g F : Nat → Int) (Inv : Nat → World → Prop) : Prop where
  ent : ∀ args w, (callFunc k args).run Try.prog w = .ok (.enter k args) w
  call : ∀ (t : Nat) (w' : World), t < n → Inv t w' → B ≤ w'.heap.size → Calls Try.prog k (#[.int .i64 (f t), .int .i64 (g t)] ++ cs) w' fun e w'' =>
    e = .returned (.int .i64 (F t)) ∧ Inv (t + 1) w'' ∧ Below B0 w' w'' ∧ ∀ b, B ≤ b → b < w'.heap.size → w''.heap[b]? = w'.heap[b]?
  far : ∀ (t : Nat) (w1 w2 : World), Inv t w1 → (∀ b, b < B → w2.heap[b]? = w1.heap[b]?) → Inv t w2

set_option maxRecDepth 100000 in
set_option maxHeartbeats 800000 in
/-- The function value inside pairwise: what op answers of the two values. -/
theorem pair_call (k : FuncId) (cs : Array Value) (B0 B n : Nat) (f g F : Nat → Int) (Inv : Nat → World → Prop) (hop : Op2 k cs B0 B n f g F Inv)
    (A A' : Option Addr) (l m : List Int) (c d bo bf bg t : Nat) (w : World) (ht : t < n) (hl : n ≤ l.length) (hm : n ≤ m.length) (hf : ∀ i, i < n → f i = gt l i) (hg : ∀ i, i < n → g i = gt m i)
    (h : Ints w A l) (h' : Ints w A' m) (hB : B ≤ w.heap.size) (hi : Inv t w)
    (ho : w.cell? ⟨bo, 0, none⟩ = some (.func (.func k) #[] cs)) (hbf : w.cell? ⟨bf, 0, none⟩ = some (.slice A l.length c)) (hbg : w.cell? ⟨bg, 0, none⟩ = some (.slice A' m.length d)) :
    Calls Try.prog 52 #[.int .i64 t, .pointer (some ⟨bo, 0, none⟩), .pointer (some ⟨bf, 0, none⟩), .pointer (some ⟨bg, 0, none⟩)] w fun e w'' =>
      e = .returned (.int .i64 (F t)) ∧ Inv (t + 1) w'' ∧ Below B0 w w'' ∧ ∀ b, B ≤ b → b < w.heap.size → w''.heap[b]? = w.heap[b]? := by
  obtain ⟨b1, o1, x, rfl, hc1, HX⟩ := h.at_ (k := t) (by omega)
  obtain ⟨b2, o2, y, rfl, hc2, HY⟩ := h'.at_ (k := t) (by omega)
  have hent := hop.ent
  have EX : Hid (x = f t) := Lib.hid (by rw [hf t ht, gt_of_get HX.out])
  have EY : Hid (y = g t) := Lib.hid (by rw [hg t ht, gt_of_get HY.out])
  clear hf hg
  have i1 : (t : Int) < (l.length : Int) := by omega
  have i2 : (t : Int) < (m.length : Int) := by omega
  go_enter Try.func52, Try.ntmps52
  go_wp2
  go_still_tail 9, (by kernel_rfl)
  change wpList _ _ _ _ _ w.drew
  go_wp2_with fail
  rw [EX.out, EY.out]
  refine (hop.call t w.drew ht (hop.far t w _ hi (fun _ _ => rfl)) hB).mono ?_
  rintro e w1 ⟨rfl, h1, h2, h3⟩
  go_wp2
  go_ret
  exact ⟨rfl, h1, ⟨h2.os, h2.tape, h2.output, h2.size, h2.block⟩, h3⟩

theorem Ints.heap {w w' : World} {A : Option Addr} {l : List Int} (h : Ints w A l) (he : ∀ b, b < w.heap.size → w'.heap[b]? = w.heap[b]?) : Ints w' A l := by
  refine ⟨h.1, fun hl => ?_⟩
  obtain ⟨b, off, rfl, hc⟩ := h.2 hl
  exact ⟨b, off, rfl, fun j hj => (World.cell?_of_block (a := ⟨b, off + j, none⟩) (he b (cell_lt (hc j hj)))).trans (hc j hj)⟩

theorem own_lower {w : World} {base base' : Nat} {e : TypeId} {size n : Nat} {v : Value} {xs : List Value} (h : w.ownsRow base e size v n xs) (hb : base' ≤ base) : w.ownsRow base' e size v n xs := by
  refine ⟨h.1, ?_⟩
  rcases h.2 with h | ⟨g, cap, cur, h1, h2, h3⟩
  · exact .inl h
  · exact .inr ⟨g, cap, cur, h1, by omega, h3⟩

/-- What a call leaves that hands back a curve and turns nothing below block B0. -/
def AnsB (B0 : Nat) (L : List Int) (E : Int) (w : World) (e : Ending) (w' : World) : Prop :=
  ∃ A c, e = .returned (.tuple #[.slice A L.length c, .int .i64 E]) ∧ w'.ownsRow w.heap.size 3 1 (.slice A L.length c) L.length (L.map (Value.int .i64)) ∧ Below B0 w w'

theorem Op2.up {k : FuncId} {cs : Array Value} {B0 B B' n : Nat} {f g F : Nat → Int} {Inv : Nat → World → Prop} (h : Op2 k cs B0 B n f g F Inv) (hB : B ≤ B') : Op2 k cs B0 B' n f g F Inv :=
  ⟨h.ent, fun t w' ht hi hs => (h.call t w' ht hi (by omega)).mono fun _ _ ⟨a, b, c, d⟩ => ⟨a, b, c, fun x hx hy => d x (by omega) hy⟩, fun t w1 w2 hi he => h.far t w1 w2 hi (fun b hb => he b (by omega))⟩

/-- What pairwise's function value needs of memory: op's own, the old blocks, and the three boxes. -/
def PInv (k : FuncId) (cs : Array Value) (A A' : Option Addr) (n n' c d B0 : Nat) (wp : World) (Inv : Nat → World → Prop) (t : Nat) (w : World) : Prop :=
  Inv t w ∧ (∀ b, b < B0 → w.heap[b]? = wp.heap[b]?) ∧ Blk w wp.heap.size 25 #[.slice A n c] ∧ Blk w (wp.heap.size + 1) 25 #[.slice A' n' d] ∧ Blk w (wp.heap.size + 2) 43 #[.func (.func k) #[] cs]

theorem Blk.same {w w' : World} {g : Nat} {t : TypeId} {cs : Array Value} (h : Blk w g t cs) (he : w'.heap[g]? = w.heap[g]?) : Blk w' g t cs := he.trans h
theorem Blk.alloc {w : World} {g : Nat} {t : TypeId} {cs : Array Value} (h : Blk w g t cs) (o : Obj) : Blk (w.alloc o) g t cs := (Below.heap_alloc w o g h.lt).trans h

theorem pair_clo (k : FuncId) (cs : Array Value) (B0 : Nat) (F : Nat → Int) (Inv : Nat → World → Prop) (A A' : Option Addr) (l m : List Int) (c d : Nat) (w : World)
    (hlm : l.length = m.length)
    (hA : ∀ w', (∀ b, b < B0 → w'.heap[b]? = w.heap[b]?) → Ints w' A l) (hA' : ∀ w', (∀ b, b < B0 → w'.heap[b]? = w.heap[b]?) → Ints w' A' m) (hB0 : B0 ≤ w.heap.size)
    (hop : Op2 k cs B0 w.heap.size l.length (gt l) (gt m) F Inv) :
    Clo 52 #[.pointer (some ⟨w.heap.size + 2, 0, none⟩), .pointer (some ⟨w.heap.size, 0, none⟩), .pointer (some ⟨w.heap.size + 1, 0, none⟩)] B0 (w.heap.size + 3) l.length F (PInv k cs A A' l.length m.length c d B0 w Inv) := by
  refine ⟨enters_of Try.func52 (by kernel_rfl) rfl, ?_, ?_⟩
  · rintro t w' ht ⟨hi, hold, b1, b2, b3⟩ hs
    refine (pair_call k cs B0 w.heap.size l.length (gt l) (gt m) F Inv hop A A' l m c d (w.heap.size + 2) w.heap.size (w.heap.size + 1) t w' ht (Nat.le_refl _) (by omega) (fun _ _ => rfl) (fun _ _ => rfl)
      (hA w' hold) (hA' w' hold) (by omega) hi (b3.cell 0) (b1.cell 0) (b2.cell 0)).mono ?_
    rintro e w'' ⟨he, hi', hb, hf⟩
    exact ⟨he, ⟨hi', fun b hb' => (hb.block b hb').trans (hold b hb'), b1.same (hf _ (Nat.le_refl _) b1.lt), b2.same (hf _ (by omega) b2.lt), b3.same (hf _ (by omega) b3.lt)⟩, hb, fun b h1 h2 => hf b (by omega) h2⟩
  · rintro t w1 w2 ⟨hi, hold, b1, b2, b3⟩ he
    exact ⟨hop.far t w1 w2 hi (fun b hb => he b (by omega)), fun b hb => (he b (by omega)).trans (hold b hb), b1.same (he _ (by omega)), b2.same (he _ (by omega)), b3.same (he _ (by omega))⟩

set_option maxHeartbeats 800000 in
theorem pairwise_any (k : FuncId) (cs : Array Value) (B0 : Nat) (F : Nat → Int) (Inv : Nat → World → Prop) (A A' : Option Addr) (l m : List Int) (c d : Nat) (w : World)
    (hA : ∀ w', (∀ b, b < B0 → w'.heap[b]? = w.heap[b]?) → Ints w' A l) (hA' : ∀ w', (∀ b, b < B0 → w'.heap[b]? = w.heap[b]?) → Ints w' A' m) (hB0 : B0 ≤ w.heap.size)
    (hop : chk2 l m = 0 → Op2 k cs B0 w.heap.size l.length (gt l) (gt m) F Inv) (hi : chk2 l m = 0 → Inv 0 w) :
    Calls Try.prog 44 #[.slice A l.length c, .slice A' m.length d, .func (.func k) #[] cs] w (AnsB B0 (resL (chk2 l m) (tab l.length F)) (resE (chk2 l m) (tab l.length F)) w) := by
  obtain ⟨W, hW⟩ : ∃ W, W = ((w.alloc (.cells #[.slice A l.length c] 25)).alloc (.cells #[.slice A' m.length d] 25)).alloc (.cells #[.func (.func k) #[] cs] 43) := ⟨_, rfl⟩
  have hold : ∀ b, b < w.heap.size → W.heap[b]? = w.heap[b]? := by
    intro b hb
    rw [hW, Below.heap_alloc _ _ b (by simp; omega), Below.heap_alloc _ _ b (by simp; omega), Below.heap_alloc _ _ b hb]
  have b1 : Blk W w.heap.size 25 #[.slice A l.length c] := by rw [hW]; exact ((Blk.new w _ _).alloc _).alloc _
  have b2 : Blk W (w.heap.size + 1) 25 #[.slice A' m.length d] := by rw [hW]; simpa using (Blk.new (w.alloc (.cells #[.slice A l.length c] 25)) 25 #[.slice A' m.length d]).alloc (.cells #[.func (.func k) #[] cs] 43)
  have b3 : Blk W (w.heap.size + 2) 43 #[.func (.func k) #[] cs] := by rw [hW]; simpa using Blk.new ((w.alloc (.cells #[.slice A l.length c] 25)).alloc (.cells #[.slice A' m.length d] 25)) 43 #[.func (.func k) #[] cs]
  have hsz : W.heap.size = w.heap.size + 3 := by rw [hW]; simp
  have hbel : Below B0 w W := by rw [hW]; exact (((Below.refl _ _).alloc hB0 _).alloc (by simp; omega) _).alloc (by simp; omega) _
  have h0 : Ints W A l := hA W (fun b hb => hold b (by omega))
  have h1 : Ints W A' m := hA' W (fun b hb => hold b (by omega))
  have HW := Lib.hid hW
  have HZ := Lib.hid hsz
  have HO := Lib.hid hold
  clear hW hsz hold
  by_cases h2 : chk2 l m = 0
  · have e1 : (chk2 l m != 0) = false := by simp [h2]
    have HE : Hid (resE (chk2 l m) (tab l.length F) = fitE (tab l.length F)) := Lib.hid (by simp [resE, h2])
    have HL : Hid (resL (chk2 l m) (tab l.length F) = fitL (tab l.length F)) := Lib.hid (by simp [resL, h2])
    have HD : Hid ((decide (chk2 l m = 0) && leB l m) = leB l m) := Lib.hid (by simp [h2])
    have hlm := Lib.hid (chk2_len h2)
    have hl61 : l.length ≤ 61 := ((chk2_iff.1 h2).1).le
    have hop' := hop h2
    have hi' := hi h2
    clear h2 hop hi
    have c1 := b1.cell 0
    have c2 := b2.cell 0
    have c3 := b3.cell 0
    simp at c1 c2 c3
    go_enter Try.func44, Try.ntmps44
    go_wp2_with fail
    rw [← HW.out]
    refine (le_any A A' l m c d W h0 h1).mono ?_
    rintro e w4 ⟨rfl, n4, rfl⟩
    rw [HD.out]
    go_wp2_with fail
    refine (build_any _ _ B0 l.length F (PInv k cs A A' l.length m.length c d B0 w Inv) (W.drewN n4) hl61 (by have := HZ.out; simp; omega) ?hclo ?hinv).mono ?_
    case hclo =>
      have := pair_clo k cs B0 F Inv A A' l m c d w hlm.out hA hA' hB0 hop'
      rw [show (W.drewN n4).heap.size = w.heap.size + 3 from HZ.out]
      exact this
    case hinv => exact ⟨hop'.far 0 w _ hi' HO.out, fun b hb => HO.out b (by omega), b1, b2, b3⟩
    rintro e w5 ⟨A5, c5, rfl, o5, b5⟩
    go_wp2
    go_ret2
    have hs : w.heap.size ≤ (W.drewN n4).heap.size := by have := HZ.out; simp; omega
    refine ⟨A5, c5, by rw [HE.out, HL.out]; rfl, ?_, hbel.trans ((below_of_drewN rfl |>.mono (by have := HZ.out; omega)).trans b5)⟩
    rw [HL.out]
    exact own_lower o5 hs
  · have e1 : (chk2 l m != 0) = true := by simp [h2]
    have HE : Hid (resE (chk2 l m) (tab l.length F) = chk2 l m) := Lib.hid (by simp [resE, h2])
    have HL : Hid (resL (chk2 l m) (tab l.length F) = []) := Lib.hid (by simp [resL, h2])
    have HD : Hid ((decide (chk2 l m = 0) && leB l m) = false) := Lib.hid (by simp [h2])
    clear h2
    go_enter Try.func44, Try.ntmps44
    go_wp2_with fail
    rw [← HW.out]
    refine (le_any A A' l m c d W h0 h1).mono ?_
    rintro e w4 ⟨rfl, n4, rfl⟩
    rw [HD.out]
    go_wp2
    go_ret2
    exact ⟨none, 0, by rw [HE.out, HL.out]; rfl, by rw [HL.out]; exact World.ownsRow_nil _ _ _ _, hbel.trans (below_of_drewN rfl |>.mono (by have := HZ.out; omega))⟩

end Go.Proofs.Ytmefekgbljhclaa
