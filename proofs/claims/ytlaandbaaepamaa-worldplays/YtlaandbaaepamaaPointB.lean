
/-
  Walks: point's functions: Min, Max, Sum, Less, Late, Up, each by values.Curve over its own function value.
-/
import Derived.Test.YtlaandbaaepamaaPointA
import Derived.Shelf.Abstract
import Derived.StillTailTactics
namespace Go.Proofs.Ytlaandbaaepamaa
set_option linter.all false
open Go.RowKit Go.Shelf

/-- A function value 'func(a, b int) int' called at a run of pairs: it answers F at each; of the blocks below B0 none turns, and none from B on; it makes none. -/
structure Op2 (k : FuncId) (cs : Array Value) (B0 B n : Nat) (f g F : Nat → Int) (Inv : Nat → World → Prop) : Prop where
  ent : ∀ args w, (callFunc k args).run Try.prog w = .ok (.enter k args) w
  call : ∀ (t : Nat) (w' : World), t < n → Inv t w' → B ≤ w'.heap.size → Calls Try.prog k (#[.int .i64 (f t), .int .i64 (g t)] ++ cs) w' fun e w'' =>
    e = .returned (.int .i64 (F t)) ∧ Inv (t + 1) w'' ∧ Below B0 w' w'' ∧ ∀ b, B ≤ b → b < w'.heap.size → w''.heap[b]? = w'.heap[b]?
  far : ∀ (t : Nat) (w1 w2 : World), Inv t w1 → (∀ b, b < B → w2.heap[b]? = w1.heap[b]?) → Inv t w2

theorem Ints.heap {w w' : World} {A : Option Addr} {l : List Int} (h : Ints w A l) (he : ∀ b, b < w.heap.size → w'.heap[b]? = w.heap[b]?) : Ints w' A l := by
  refine ⟨h.1, fun hl => ?_⟩
  obtain ⟨b, off, rfl, hc⟩ := h.2 hl
  exact ⟨b, off, rfl, fun j hj => (World.cell?_of_block (a := ⟨b, off + j, none⟩) (he b (cell_lt (hc j hj)))).trans (hc j hj)⟩

theorem own_lower {w : World} {base base' : Nat} {e : TypeId} {size n : Nat} {v : Value} {xs : List Value} (h : w.ownsRow base e size v n xs) (hb : base' ≤ base) : w.ownsRow base' e size v n xs := by
  refine ⟨h.1, ?_⟩
  rcases h.2 with h | ⟨g, cap, cur, h1, h2, h3⟩
  · exact .inl h
  · exact .inr ⟨g, cap, cur, h1, by omega, h3⟩

/-- What a call leaves that hands back a curve and turns nothing below block B0. -/
def AnsB (B0 : Nat) (L : List Int) (E : Int) (w : World) (e : Ending) (w' : World) : Prop :=
  ∃ A c, e = .returned (.tuple #[.slice A L.length c, .int .i64 E]) ∧ w'.ownsRow w.heap.size 3 1 (.slice A L.length c) L.length (L.map (Value.int .i64)) ∧ Below B0 w w'

theorem Op2.up {k : FuncId} {cs : Array Value} {B0 B B' n : Nat} {f g F : Nat → Int} {Inv : Nat → World → Prop} (h : Op2 k cs B0 B n f g F Inv) (hB : B ≤ B') : Op2 k cs B0 B' n f g F Inv :=
  ⟨h.ent, fun t w' ht hi hs => (h.call t w' ht hi (by omega)).mono fun _ _ ⟨a, b, c, d⟩ => ⟨a, b, c, fun x hx hy => d x (by omega) hy⟩, fun t w1 w2 hi he => h.far t w1 w2 hi (fun b hb => he b (by omega))⟩

/-- What pairwise's function value needs of memory: op's own, the old blocks, and the three boxes. -/
def PInv (k : FuncId) (cs : Array Value) (A A' : Option Addr) (n n' c d B0 : Nat) (wp : World) (Inv : Nat → World → Prop) (t : Nat) (w : World) : Prop :=
  Inv t w ∧ (∀ b, b < B0 → w.heap[b]? = wp.heap[b]?) ∧ Blk w wp.heap.size 29 #[.slice A n c] ∧ Blk w (wp.heap.size + 1) 29 #[.slice A' n' d] ∧ Blk w (wp.heap.size + 2) 41 #[.func (.func k) #[] cs]

theorem Blk.same {w w' : World} {g : Nat} {t : TypeId} {cs : Array Value} (h : Blk w g t cs) (he : w'.heap[g]? = w.heap[g]?) : Blk w' g t cs := he.trans h
theorem Blk.alloc {w : World} {g : Nat} {t : TypeId} {cs : Array Value} (h : Blk w g t cs) (o : Obj) : Blk (w.alloc o) g t cs := (Below.heap_alloc w o g h.lt).trans h

end Go.Proofs.Ytlaandbaaepamaa
