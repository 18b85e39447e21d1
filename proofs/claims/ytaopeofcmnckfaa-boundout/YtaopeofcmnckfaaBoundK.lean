
/-
  point.Sum in two cases; headkeep.served, as a relation between lists.
-/
import Derived.Test.YtaopeofcmnckfaaBoundA
namespace Go.Proofs.Ytaopeofcmnckfaa
set_option linter.all false
open Go.RowKit Go.Shelf

theorem psum_yes (A A' : Option Addr) (l m S : List Int) (nl nm c d : Nat) (w : World) (z : Sums l m S) (hb : bigB S = false) (h : Ints w A l) (h' : Ints w A' m) (hl : nl = l.length) (hm : nm = m.length) :
    Calls Try.prog 43 #[.slice A nl c, .slice A' nm d] w (Ans S 0 w) := by
  have := sum_ok A A' l m S nl nm c d w z h h' hl hm
  rw [(fit_ok hb).1, (fit_ok hb).2] at this
  exact this
theorem psum_no (A A' : Option Addr) (l m S : List Int) (nl nm c d : Nat) (w : World) (z : Sums l m S) (hb : bigB S = true) (h : Ints w A l) (h' : Ints w A' m) (hl : nl = l.length) (hm : nm = m.length) :
    Calls Try.prog 43 #[.slice A nl c, .slice A' nm d] w (Ans [] 2 w) := by
  have := sum_ok A A' l m S nl nm c d w z h h' hl hm
  rw [(fit_big hb).1, (fit_big hb).2] at this
  exact this
theorem pmin_at (A A' : Option Addr) (l m R : List Int) (nl nm c d : Nat) (w : World) (z : Zips min l m R) (h : Ints w A l) (h' : Ints w A' m) (hl : nl = l.length) (hm : nm = m.length) :
    Calls Try.prog 42 #[.slice A nl c, .slice A' nm d] w (Ans R 0 w) := by
  subst hl hm
  exact min_ok A A' l m R c d w z h h'

/-- What is served: z, and whether it may be. -/
structure Serv (f b more x y z : List Int) (s : Bool) : Prop where
  zx : Convs f b x
  bx : bigB x = false
  ok : okB f more = true
  zy : Sums x more y
  sy : bigB y = false
  zz : Zips min f y z
  is : leK x z = s
/-- What is not served. -/
structure ServNo (f b more x : List Int) : Prop where
  zx : Convs f b x
  no : bigB x = true ∨ bigB x = false ∧ okB f more = false ∨ bigB x = false ∧ okB f more = true ∧ ∃ y, Sums x more y ∧ bigB y = true

theorem ex_serv {f b : List Int} (more : List Int) (vf : Cv f) (vb : Cv b) (e : f.length = b.length) : (∃ x y z s, Serv f b more x y z s) ∨ ∃ x, ServNo f b more x := by
  obtain ⟨x, zx⟩ := ex_conv vf vb e
  have ex := zx.rlen
  cases bx : bigB x
  · cases q : okB f more
    · exact .inr ⟨x, zx, .inr (.inl ⟨bx, q⟩)⟩
    · obtain ⟨_, h1, h2⟩ := okB_iff.1 q
      have vm := cv_of h1
      obtain ⟨y, zy⟩ := ex_sum (zx.curve bx) vm (by omega)
      cases sy : bigB y
      · have vy := zy.curve sy
        obtain ⟨z, zz⟩ := ex_min vf vy (by rw [zy.rlen, ex])
        exact .inl ⟨x, y, z, _, zx, bx, q, zy, sy, zz, rfl⟩
      · exact .inr ⟨x, zx, .inr (.inr ⟨bx, q, y, zy, sy⟩)⟩
  · exact .inr ⟨x, zx, .inl bx⟩

theorem Serv.le {f b more x y z : List Int} (h : Serv f b more x y z true) : ∀ t, t < f.length → gt x t ≤ gt z t := by
  have ex := h.zx.rlen; have ez := h.zz.rlen
  have := (leK_iff (h.zx.curve h.bx) h.zz.r (by omega)).1 h.is
  exact fun t ht => this t (by omega)
theorem Serv.top {f b more x y z : List Int} {s : Bool} (h : Serv f b more x y z s) : ∀ t, t < f.length → gt z t ≤ gt f t := fun t ht => by
  have := h.zz.val t ht; omega

/-- What served leaves. -/
def AnsS (L : List Int) (s : Bool) (w : World) (e : Ending) (w' : World) : Prop :=
  ∃ A c, e = .returned (.tuple #[.slice A L.length c, .bool s]) ∧ w'.ownsRow w.heap.size 3 1 (.slice A L.length c) L.length (L.map (Value.int .i64)) ∧ Below w.heap.size w w'

set_option maxHeartbeats 1600000 in
theorem served_yes (A0 A1 A2 : Option Addr) (l0 l1 l2 x y z : List Int) (c0 c1 c2 : Nat) (s : Bool) (w : World) (hs : Hid (Serv l0 l1 l2 x y z s)) (h0 : Ints w A0 l0) (h1 : Ints w A1 l1) (h2 : Ints w A2 l2) :
    Calls Try.prog 44 #[.slice A0 l0.length c0, .slice A1 l1.length c1, .slice A2 l2.length c2] w (AnsS z s w) := by
  have hb : Below w.heap.size w w := Below.refl _ _
  have M : Hid (okB l0 l2 = true) := Lib.hid hs.out.ok
  have I : Hid (leK x z = s) := Lib.hid hs.out.is
  go_enter Try.func44, Try.ntmps44
  go_wp2_with fail
  refine (conv_yes A0 A1 l0 l1 x _ _ c0 c1 _ hs.out.zx hs.out.bx h0 h1 rfl rfl).mono ?_
  rintro e w1 ⟨Ax, cx, rfl, ox, bw1⟩
  replace h0 := h0.below bw1
  replace h1 := h1.below bw1
  replace h2 := h2.below bw1
  replace hb := below_trans hb bw1
  have hx := Ints.of_own ox
  clear bw1 ox
  go_wp2_with fail
  refine (both_any A0 A2 l0 l2 c0 c2 _ h0 h2).mono ?_
  rintro e w' ⟨rfl, rfl⟩
  rw [M.out]
  go_wp2_with fail
  refine (psum_yes Ax A2 x l2 y _ _ cx c2 _ hs.out.zy hs.out.sy hx h2 rfl rfl).mono ?_
  rintro e w2 ⟨Ay, cy, rfl, oy, bw2⟩
  replace h0 := h0.below bw2
  replace hx := hx.below bw2
  replace hb := below_trans hb bw2
  have hy := Ints.of_own oy
  clear bw2 oy
  go_wp2_with fail
  refine (pmin_at A0 Ay l0 y z _ _ c0 cy _ hs.out.zz h0 hy rfl rfl).mono ?_
  rintro e w3 ⟨Az, cz, rfl, oz, bw3⟩
  have hz := Ints.of_own oz
  replace hx := hx.below bw3
  have hsz := hb.size
  have hb3 := below_trans hb bw3
  go_wp2_with fail
  refine (kle_at Ax Az x z _ _ _ _ _ hx hz rfl rfl).mono ?_
  rintro e w4 ⟨rfl, n4, rfl⟩
  rw [I.out]
  go_wp2
  go_ret2
  exact ⟨Az, cz, rfl, own_lower (show (w3.drewN n4).ownsRow w2.heap.size 3 1 (.slice Az z.length cz) z.length (z.map (Value.int .i64)) from oz) hsz, below_trans hb3 (below_of_drewN rfl)⟩

set_option maxHeartbeats 1600000 in
theorem served_no (A0 A1 A2 : Option Addr) (l0 l1 l2 x : List Int) (c0 c1 c2 : Nat) (w : World) (hs : ServNo l0 l1 l2 x) (h0 : Ints w A0 l0) (h1 : Ints w A1 l1) (h2 : Ints w A2 l2) :
    Calls Try.prog 44 #[.slice A0 l0.length c0, .slice A1 l1.length c1, .slice A2 l2.length c2] w (AnsS [] false w) := by
  have hb : Below w.heap.size w w := Below.refl _ _
  obtain ⟨zx, no⟩ := hs
  rcases no with bx | ⟨bx, q⟩ | ⟨bx, q, y, zy, sy⟩
  · have B := Lib.hid bx
    clear bx
    go_enter Try.func44, Try.ntmps44
    go_wp2_with fail
    refine (conv_no A0 A1 l0 l1 x _ _ c0 c1 _ zx B.out h0 h1 rfl rfl).mono ?_
    rintro e w1 ⟨Ax, cx, rfl, ox, bw1⟩
    replace h0 := h0.below bw1
    replace h1 := h1.below bw1
    replace h2 := h2.below bw1
    replace hb := below_trans hb bw1
    have hx := Ints.of_own ox
    clear bw1 ox
    go_wp2
    go_ret2
    exact ⟨none, 0, rfl, World.ownsRow_nil _ _ _ _, hb⟩
  · have B := Lib.hid bx
    have M := Lib.hid q
    clear bx q
    go_enter Try.func44, Try.ntmps44
    go_wp2_with fail
    refine (conv_yes A0 A1 l0 l1 x _ _ c0 c1 _ zx B.out h0 h1 rfl rfl).mono ?_
    rintro e w1 ⟨Ax, cx, rfl, ox, bw1⟩
    replace h0 := h0.below bw1
    replace h1 := h1.below bw1
    replace h2 := h2.below bw1
    replace hb := below_trans hb bw1
    have hx := Ints.of_own ox
    clear bw1 ox
    go_wp2_with fail
    refine (both_any A0 A2 l0 l2 c0 c2 _ h0 h2).mono ?_
    rintro e w' ⟨rfl, rfl⟩
    rw [M.out]
    go_wp2
    go_ret2
    exact ⟨none, 0, rfl, World.ownsRow_nil _ _ _ _, hb⟩
  · have B := Lib.hid bx
    have M := Lib.hid q
    have Y := Lib.hid sy
    clear bx q sy
    go_enter Try.func44, Try.ntmps44
    go_wp2_with fail
    refine (conv_yes A0 A1 l0 l1 x _ _ c0 c1 _ zx B.out h0 h1 rfl rfl).mono ?_
    rintro e w1 ⟨Ax, cx, rfl, ox, bw1⟩
    replace h0 := h0.below bw1
    replace h1 := h1.below bw1
    replace h2 := h2.below bw1
    replace hb := below_trans hb bw1
    have hx := Ints.of_own ox
    clear bw1 ox
    go_wp2_with fail
    refine (both_any A0 A2 l0 l2 c0 c2 _ h0 h2).mono ?_
    rintro e w' ⟨rfl, rfl⟩
    rw [M.out]
    go_wp2_with fail
    refine (psum_no Ax A2 x l2 y _ _ cx c2 _ zy Y.out hx h2 rfl rfl).mono ?_
    rintro e w2 ⟨Ay, cy, rfl, oy, bw2⟩
    replace h0 := h0.below bw2
    replace hx := hx.below bw2
    replace hb := below_trans hb bw2
    have hy := Ints.of_own oy
    clear bw2 oy
    go_wp2
    go_ret2
    exact ⟨none, 0, rfl, World.ownsRow_nil _ _ _ _, hb⟩

/-- Served or not: a list and whether it is what was asked. -/
structure SvIs (f b more d : List Int) (s : Bool) : Prop where
  call : ∀ (A0 A1 A2 : Option Addr) (c0 c1 c2 : Nat) (w : World), Ints w A0 f → Ints w A1 b → Ints w A2 more →
    Calls Try.prog 44 #[.slice A0 f.length c0, .slice A1 b.length c1, .slice A2 more.length c2] w (AnsS d s w)
  yes : s = true → ∃ x, Convs f b x ∧ Cv d ∧ d.length = f.length ∧ (∀ t, t < f.length → gt x t ≤ gt d t) ∧ ∀ t, t < f.length → gt d t ≤ gt f t
theorem ex_sv {f b : List Int} (more : List Int) (vf : Cv f) (vb : Cv b) (e : f.length = b.length) : ∃ d s, SvIs f b more d s := by
  rcases ex_serv more vf vb e with ⟨x, y, z, s, h⟩ | ⟨x, h⟩
  · refine ⟨z, s, fun A0 A1 A2 c0 c1 c2 w h0 h1 h2 => served_yes A0 A1 A2 f b more x y z c0 c1 c2 s w (Lib.hid h) h0 h1 h2, fun hs => ?_⟩
    subst hs
    exact ⟨x, h.zx, h.zz.r, h.zz.rlen, h.le, h.top⟩
  · exact ⟨[], false, fun A0 A1 A2 c0 c1 c2 w h0 h1 h2 => served_no A0 A1 A2 f b more x c0 c1 c2 w h h0 h1 h2, fun hs => by cases hs⟩

theorem back_lits (A A' : Option Addr) (l m : List Int) (nl nm c d : Nat) (v : Int) (w : World) (hq : chk2 l m = 0) (hv : Hid (backV l m = v)) (h : Ints w A l) (h' : Ints w A' m) (hl : nl = l.length) (hm : nm = m.length) :
    Calls Try.prog 29 #[.slice A nl c, .slice A' nm d] w fun e w' => e = .returned (.tuple #[.int .i64 v, .int .i64 0]) ∧ Below w.heap.size w w' := by
  have := back_yes A A' l m nl nm c d w (chk2_iff.1 hq).1 (chk2_iff.1 hq).2.1 (chk2_iff.1 hq).2.2 h h' hl hm
  rw [hv.out] at this
  exact this
theorem delay_at (A A' : Option Addr) (l m : List Int) (nl nm c d : Nat) (v E : Int) (w : World) (hq : chk2 l m = 0) (hv : DelIs l m v E) (h : Ints w A l) (h' : Ints w A' m) (hc : l.length ≤ c) (hd : m.length ≤ d) (hl : nl = l.length) (hm : nm = m.length) :
    Calls Try.prog 30 #[.slice A nl c, .slice A' nm d] w fun e w' => e = .returned (.tuple #[.int .i64 v, .int .i64 E]) ∧ ∃ n, w' = w.drewN n :=
  delay_yes A A' l m nl nm c d v E w hv (chk2_iff.1 hq).1 (chk2_iff.1 hq).2.1 (chk2_iff.1 hq).2.2 h h' hc hd hl hm
theorem fit_lits (A A' : Option Addr) (l m : List Int) (nl nm c d : Nat) (s : Bool) (w : World) (hq : chk2 l m = 0) (hs : fitB l m = s) (h : Ints w A l) (h' : Ints w A' m) (hc : l.length ≤ c) (hl : nl = l.length) (hm : nm = m.length) :
    Calls Try.prog 24 #[.slice A nl c, .slice A' nm d] w fun e w' => e = .returned (.tuple #[.bool s, .int .i64 0]) ∧ Below w.heap.size w w' :=
  fits_yes A A' l m nl nm c d s w (chk2_iff.1 hq).1 (chk2_iff.1 hq).2.1 (chk2_iff.1 hq).2.2 (Lib.hid hs) h h' hc hl hm
/-- A delay of two curves that are written out. -/
theorem del_dec {a b : List Int} {d : Nat} (hd : d < a.length) (h1 : ∀ t : Fin a.length, t.val + d < a.length → gt a t.val ≤ gt b (t.val + d)) (h2 : ∀ e : Fin d, ∃ t : Fin a.length, t.val + e.val < a.length ∧ gt b (t.val + e.val) < gt a t.val) : DelIs a b d 0 := by
  refine .inl ⟨d, ⟨hd, fun t ht => h1 ⟨t, by omega⟩ ht, fun e he h => ?_⟩, rfl, rfl⟩
  obtain ⟨t, q1, q2⟩ := h2 ⟨e, he⟩
  exact absurd (h t.val q1) (Int.not_le.2 q2)
theorem del_none {a b : List Int} (h2 : ∀ e : Fin a.length, ∃ t : Fin a.length, t.val + e.val < a.length ∧ gt b (t.val + e.val) < gt a t.val) : DelIs a b 0 5 := by
  refine .inr ⟨fun e he h => ?_, rfl, rfl⟩
  obtain ⟨t, q1, q2⟩ := h2 ⟨e, he⟩
  exact absurd (h t.val q1) (Int.not_le.2 q2)

end Go.Proofs.Ytaopeofcmnckfaa
