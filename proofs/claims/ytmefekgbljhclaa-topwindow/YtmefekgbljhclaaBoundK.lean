
/-
  point.Sum in two cases; headkeep.served, as a relation between lists.
-/
import Derived.Test.YtmefekgbljhclaaBoundA
namespace Go.Proofs.Ytmefekgbljhclaa
set_option linter.all false
open Go.RowKit Go.Shelf

theorem pmin_at (A A' : Option Addr) (l m R : List Int) (nl nm c d : Nat) (w : World) (z : Zips min l m R) (h : Ints w A l) (h' : Ints w A' m) (hl : nl = l.length) (hm : nm = m.length) :
    Calls Try.prog 35 #[.slice A nl c, .slice A' nm d] w (Ans R 0 w) := by
  subst hl hm
  exact min_ok A A' l m R c d w z h h'

/-- What is served: z, and whether it may be. -/
structure Serv (f b more x y z : List Int) (s : Bool) : Prop where
  zx : Convs f b x
  bx : bigB x = false
  ok : okB f more = true
  zy : Sums x more y
  sy : bigB y = false
  zz : Zips min f y z
  is : leK x z = s
/-- What is not served. -/
structure ServNo (f b more x : List Int) : Prop where
  zx : Convs f b x
  no : bigB x = true ∨ bigB x = false ∧ okB f more = false ∨ bigB x = false ∧ okB f more = true ∧ ∃ y, Sums x more y ∧ bigB y = true

theorem ex_serv {f b : List Int} (more : List Int) (vf : Cv f) (vb : Cv b) (e : f.length = b.length) : (∃ x y z s, Serv f b more x y z s) ∨ ∃ x, ServNo f b more x := by
  obtain ⟨x, zx⟩ := ex_conv vf vb e
  have ex := zx.rlen
  cases bx : bigB x
  · cases q : okB f more
    · exact .inr ⟨x, zx, .inr (.inl ⟨bx, q⟩)⟩
    · obtain ⟨_, h1, h2⟩ := okB_iff.1 q
      have vm := cv_of h1
      obtain ⟨y, zy⟩ := ex_sum (zx.curve bx) vm (by omega)
      cases sy : bigB y
      · have vy := zy.curve sy
        obtain ⟨z, zz⟩ := ex_min vf vy (by rw [zy.rlen, ex])
        exact .inl ⟨x, y, z, _, zx, bx, q, zy, sy, zz, rfl⟩
      · exact .inr ⟨x, zx, .inr (.inr ⟨bx, q, y, zy, sy⟩)⟩
  · exact .inr ⟨x, zx, .inl bx⟩

theorem Serv.le {f b more x y z : List Int} (h : Serv f b more x y z true) : ∀ t, t < f.length → gt x t ≤ gt z t := by
  have ex := h.zx.rlen; have ez := h.zz.rlen
  have := (leK_iff (h.zx.curve h.bx) h.zz.r (by omega)).1 h.is
  exact fun t ht => this t (by omega)
theorem Serv.top {f b more x y z : List Int} {s : Bool} (h : Serv f b more x y z s) : ∀ t, t < f.length → gt z t ≤ gt f t := fun t ht => by
  have := h.zz.val t ht; omega

/-- What served leaves. -/
def AnsS (L : List Int) (s : Bool) (w : World) (e : Ending) (w' : World) : Prop :=
  ∃ A c, e = .returned (.tuple #[.slice A L.length c, .bool s]) ∧ w'.ownsRow w.heap.size 3 1 (.slice A L.length c) L.length (L.map (Value.int .i64)) ∧ Below w.heap.size w w'

theorem back_lits (A A' : Option Addr) (l m : List Int) (nl nm c d : Nat) (v : Int) (w : World) (hq : chk2 l m = 0) (hv : Hid (backV l m = v)) (h : Ints w A l) (h' : Ints w A' m) (hl : nl = l.length) (hm : nm = m.length) :
    Calls Try.prog 37 #[.slice A nl c, .slice A' nm d] w fun e w' => e = .returned (.tuple #[.int .i64 v, .int .i64 0]) ∧ Below w.heap.size w w' := by
  have := back_yes A A' l m nl nm c d w (chk2_iff.1 hq).1 (chk2_iff.1 hq).2.1 (chk2_iff.1 hq).2.2 h h' hl hm
  rw [hv.out] at this
  exact this
theorem fit_lits (A A' : Option Addr) (l m : List Int) (nl nm c d : Nat) (s : Bool) (w : World) (hq : chk2 l m = 0) (hs : fitB l m = s) (h : Ints w A l) (h' : Ints w A' m) (hc : l.length ≤ c) (hl : nl = l.length) (hm : nm = m.length) :
    Calls Try.prog 36 #[.slice A nl c, .slice A' nm d] w fun e w' => e = .returned (.tuple #[.bool s, .int .i64 0]) ∧ Below w.heap.size w w' :=
  fits_yes A A' l m nl nm c d s w (chk2_iff.1 hq).1 (chk2_iff.1 hq).2.1 (chk2_iff.1 hq).2.2 (Lib.hid hs) h h' hc hl hm
/-- A delay of two curves that are written out. -/
theorem del_dec {a b : List Int} {d : Nat} (hd : d < a.length) (h1 : ∀ t : Fin a.length, t.val + d < a.length → gt a t.val ≤ gt b (t.val + d)) (h2 : ∀ e : Fin d, ∃ t : Fin a.length, t.val + e.val < a.length ∧ gt b (t.val + e.val) < gt a t.val) : DelIs a b d 0 := by
  refine .inl ⟨d, ⟨hd, fun t ht => h1 ⟨t, by omega⟩ ht, fun e he h => ?_⟩, rfl, rfl⟩
  obtain ⟨t, q1, q2⟩ := h2 ⟨e, he⟩
  exact absurd (h t.val q1) (Int.not_le.2 q2)
theorem del_none {a b : List Int} (h2 : ∀ e : Fin a.length, ∃ t : Fin a.length, t.val + e.val < a.length ∧ gt b (t.val + e.val) < gt a t.val) : DelIs a b 0 5 := by
  refine .inr ⟨fun e he h => ?_, rfl, rfl⟩
  obtain ⟨t, q1, q2⟩ := h2 ⟨e, he⟩
  exact absurd (h t.val q1) (Int.not_le.2 q2)

end Go.Proofs.Ytmefekgbljhclaa
