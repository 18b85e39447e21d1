
/-
  The walk of the law WorldPlays over what package world owes.
-/
import Derived.Test.YtlaandbaaepamaaWldZ
namespace Go.Proofs.Ytlaandbaaepamaa
set_option linter.all false
open Go.RowKit Go.Shelf Go.Lib

variable {Rep : World → Value → (Nat → Prop) → WSt → Prop}
set_option maxRecDepth 100000 in
set_option maxHeartbeats 3200000 in
theorem v_WorldPlays (K : WldC Rep) (n1 n2 n3 : Int) (a3 : Option Addr) (c3 : Nat) (l3 : List Lw) (w : World) (_1 : (Lit.int .i64 n1).wf = true) (_2 : (Lit.int .i64 n2).wf = true) (_3 : (Lit.int .i64 n3).wf = true) (h3 : Lls w a3 l3) (k3 : l3.length ≤ c3) :
    Calls Try.prog 3 #[.int .i64 n1, .int .i64 n2, .int .i64 n3, .slice a3 l3.length c3] w fun e w' => e = .returned (.bool true) ∧ Below w.heap.size w w' := by
  clear _1 _2 _3
  have h3l := h3.1
  by_cases hno : NewOk n1 n2 n3
  case neg => exact plays_no K n1 n2 n3 a3 c3 l3 w hno
  obtain ⟨q1, q2, q3, q4, q5, q6⟩ := id hno
  obtain ⟨N, hN⟩ := Int.eq_ofNat_of_zero_le (show 0 ≤ n1 by omega)
  subst hN
  have hok := Lib.hid hno
  clear hno
  go_enter Try.func3, Try.ntmps3
  go_wp2_with fail
  refine (K.new_at (N : Int) n2 n3 N w rfl hok.out).mono ?_
  rintro e w1 ⟨a, S, rfl, hR, hS, b1⟩
  go_wp2_with fail
  refine (rnew_any N n2 n3 _ (by omega) (by omega)).mono ?_
  rintro e w2 ⟨g, h, rfl, hRf, lg, lh, lg2, lh2, b2⟩
  have P2 : Play Rep w w2 (.pointer (some a)) g h (newW N n2 n3) (newW N n2 n3) := Play.start K hR hS b1 hRf lg lh lg2 lh2 b2
  have FR0 : Frm (newW N n2 n3) n2 n3 N := ⟨rfl, rfl, List.length_replicate⟩
  clear hR hS b1 b2 hRf lg lh lg2 lh2
  go_wp2
  go_loopw [63] (fun i wr => ∃ (k : Nat) (s : WSt), k ≤ l3.length ∧ i = .int .i64 k ∧ Play Rep w wr (.pointer (some a)) g h s s ∧ Frm s n2 n3 N) (fun i _ => l3.length - (intOf i).toNat)
  case atStart => exact ⟨0, _, Nat.zero_le _, rfl, P2, FR0⟩
  case round =>
    clear P2 FR0
    obtain ⟨k, s, hk, rfl, P, FR⟩ := hrel
    have HL := Lib.hid FR.len
    have x2 : wr.cell? ⟨g, 2, none⟩ = some (.slice (some ⟨h, 0, none⟩) N N) := by have := P.ref.cells.2.2.1; rwa [FR.len] at this
    by_cases hlt : k < l3.length
    · obtain ⟨b', o', f, rfl, hbl, c0, iz, kz, HF⟩ := (h3.below P.own.b).get (k := k) hlt
      have i1 : (k : Int) < (l3.length : Int) := by omega
      obtain ⟨v, hv⟩ : ∃ v, atV f.z 1 = v := ⟨_, rfl⟩
      obtain ⟨u, hu⟩ : ∃ u, atV f.z 0 = u := ⟨_, rfl⟩
      have HV := Lib.hid hv
      have HU := Lib.hid hu
      clear hv hu x2
      go_wp2_with fail
      refine (at_any f.a f.z _ f.c 1 v _ iz rfl (by omega) HV).mono ?_
      rintro e w5 ⟨rfl, rfl⟩
      go_wp2_with fail
      refine (at_any f.a f.z _ f.c 0 u _ iz rfl (by omega) HU).mono ?_
      rintro e w5 ⟨rfl, rfl⟩
      clear iz kz HF c0 hbl
      by_cases u1 : u = 1
      · subst u1
        go_wp2_with fail
        refine (K.appendP v w _ _ g h s s P).mono ?_
        rintro e w6 ⟨rfl, P6⟩
        have hos := P.own.ok K
        clear P
        go_wp2_with fail
        refine (rappendP K v w _ _ g h _ s P6 hos).mono ?_
        rintro e w7 ⟨rfl, Q⟩
        have FR5 := FR.same (ap_same v s)
        clear P6 FR hos
        have HL5 := Lib.hid FR5.len
        have x2 : w7.cell? ⟨g, 2, none⟩ = some (.slice (some ⟨h, 0, none⟩) N N) := by have := Q.ref.cells.2.2.1; rwa [FR5.len] at this
        go_wp2
        go_region_held3 (fun w' => w'.cell? ⟨g, 2, none⟩ = some (.slice (some ⟨h, 0, none⟩) N N))
          (first | go_keep | exact (b9.cell (cell_lt (by assumption))).trans (by assumption))
          (first
            | ((with_reducible refine (K.peersP N w _ _ g h _ _ (Q.keep K (by first | exact Below.refl _ _ | exact below_of_drewN rfl)) HL5.out).mono ?_); rintro e w9 ⟨C, cC, rfl, hC, b9, P9⟩)
            | ((with_reducible refine (peSame C _ _ _ _ cC _ _ hC (P9.ref.prs (by rw [HL5.out]; omega)) HL5.out.symm HL5.out.symm).mono ?_); rintro e w8 ⟨rfl, nd, hnd⟩))
        have P8 := P9.keep K (below_of_drewN (w := w9) (n := nd) rfl)
        clear P9 Q hnd b9 hC x2
        go_wp2
        go_roundw
        case rel => exact ⟨k + 1, _, by omega, by go_num, P8, FR5⟩
        case measure => simp [intOf]; omega
      by_cases u2 : u = 2
      · subst u2
        obtain ⟨t, m, ht⟩ := ex_tick (P.own.ok K)
        have HT := Lib.hid ht
        have hos := P.own.ok K
        have FR5 := FR.same (tick_same hos ht)
        clear ht u1
        go_wp2_with fail
        refine (K.tickP w _ _ g h s s t m P HT.out).mono ?_
        rintro e w6 ⟨rfl, P6⟩
        clear P
        go_wp2_with fail
        refine (rtickP K w _ _ g h _ s t m P6 hos HT.out).mono ?_
        rintro e w7 ⟨rfl, Q⟩
        clear P6 FR hos
        have HL5 := Lib.hid FR5.len
        have x2 : w7.cell? ⟨g, 2, none⟩ = some (.slice (some ⟨h, 0, none⟩) N N) := by have := Q.ref.cells.2.2.1; rwa [FR5.len] at this
        go_wp2
        go_region_held3 (fun w' => w'.cell? ⟨g, 2, none⟩ = some (.slice (some ⟨h, 0, none⟩) N N))
          (first | go_keep | exact (b9.cell (cell_lt (by assumption))).trans (by assumption))
          (first
            | ((with_reducible refine (K.peersP N w _ _ g h _ _ (Q.keep K (by first | exact Below.refl _ _ | exact below_of_drewN rfl)) HL5.out).mono ?_); rintro e w9 ⟨C, cC, rfl, hC, b9, P9⟩)
            | ((with_reducible refine (peSame C _ _ _ _ cC _ _ hC (P9.ref.prs (by rw [HL5.out]; omega)) HL5.out.symm HL5.out.symm).mono ?_); rintro e w8 ⟨rfl, nd, hnd⟩))
        have P8 := P9.keep K (below_of_drewN (w := w9) (n := nd) rfl)
        clear P9 Q hnd b9 hC x2
        go_wp2
        go_roundw
        case rel => exact ⟨k + 1, _, by omega, by go_num, P8, FR5⟩
        case measure => simp [intOf]; omega
      by_cases u3 : u = 3
      · subst u3
        clear u1 u2
        by_cases v0 : v < 0
        · go_wp2_with fail
          refine (K.crash_noP v w _ _ g h s s P (by omega)).mono ?_
          rintro e w6 ⟨rfl, Q⟩
          have FR5 := FR
          clear P FR
          have HL5 := Lib.hid FR5.len
          have x2 : w6.cell? ⟨g, 2, none⟩ = some (.slice (some ⟨h, 0, none⟩) N N) := by have := Q.ref.cells.2.2.1; rwa [FR5.len] at this
          go_wp2
          go_region_held3 (fun w' => w'.cell? ⟨g, 2, none⟩ = some (.slice (some ⟨h, 0, none⟩) N N))
            (first | go_keep | exact (b9.cell (cell_lt (by assumption))).trans (by assumption))
            (first
              | ((with_reducible refine (K.peersP N w _ _ g h _ _ (Q.keep K (by first | exact Below.refl _ _ | exact below_of_drewN rfl)) HL5.out).mono ?_); rintro e w9 ⟨C, cC, rfl, hC, b9, P9⟩)
              | ((with_reducible refine (peSame C _ _ _ _ cC _ _ hC (P9.ref.prs (by rw [HL5.out]; omega)) HL5.out.symm HL5.out.symm).mono ?_); rintro e w8 ⟨rfl, nd, hnd⟩))
          have P8 := P9.keep K (below_of_drewN (w := w9) (n := nd) rfl)
          clear P9 Q hnd b9 hC x2
          go_wp2
          go_roundw
          case rel => exact ⟨k + 1, _, by omega, by go_num, P8, FR5⟩
          case measure => simp [intOf]; omega
        by_cases v1 : (N : Int) ≤ v
        · go_wp2_with fail
          refine (K.crash_noP v w _ _ g h s s P (by rw [HL.out]; omega)).mono ?_
          rintro e w6 ⟨rfl, Q⟩
          have FR5 := FR
          clear P FR
          have HL5 := Lib.hid FR5.len
          have x2 : w6.cell? ⟨g, 2, none⟩ = some (.slice (some ⟨h, 0, none⟩) N N) := by have := Q.ref.cells.2.2.1; rwa [FR5.len] at this
          go_wp2
          go_region_held3 (fun w' => w'.cell? ⟨g, 2, none⟩ = some (.slice (some ⟨h, 0, none⟩) N N))
            (first | go_keep | exact (b9.cell (cell_lt (by assumption))).trans (by assumption))
            (first
              | ((with_reducible refine (K.peersP N w _ _ g h _ _ (Q.keep K (by first | exact Below.refl _ _ | exact below_of_drewN rfl)) HL5.out).mono ?_); rintro e w9 ⟨C, cC, rfl, hC, b9, P9⟩)
              | ((with_reducible refine (peSame C _ _ _ _ cC _ _ hC (P9.ref.prs (by rw [HL5.out]; omega)) HL5.out.symm HL5.out.symm).mono ?_); rintro e w8 ⟨rfl, nd, hnd⟩))
          have P8 := P9.keep K (below_of_drewN (w := w9) (n := nd) rfl)
          clear P9 Q hnd b9 hC x2
          go_wp2
          go_roundw
          case rel => exact ⟨k + 1, _, by omega, by go_num, P8, FR5⟩
          case measure => simp [intOf]; omega
        obtain ⟨i, hi⟩ := Int.eq_ofNat_of_zero_le (show 0 ≤ v by omega)
        subst hi
        have hiN : i < N := by omega
        have FR5 := FR.same (crash_same i s)
        have hil : i < s.d.l.length := by rw [HL.out]; exact hiN
        have HIL := Lib.hid hil
        obtain ⟨_, c1, _⟩ := P.ref.row.peer hil
        have f1 := P.ref.row.frozen (i * 3 + 1)
        have x2 : wr.cell? ⟨g, 2, none⟩ = some (.slice (some ⟨h, 0, none⟩) N N) := by have := P.ref.cells.2.2.1; rwa [FR.len] at this
        have lh := P.ref.row.lt
        have lN : (crashW i s).d.l.length = s.d.l.length := FR5.len.trans FR.len.symm
        have r1 : RefAt (wr.setCell ⟨h, i * 3 + 1, none⟩ (.int .i64 0)) g h (crashW i s) := by
          refine ⟨?_, ?_, P.ref.ne⟩
          · have := P.ref.box.past (a := ⟨h, i * 3 + 1, none⟩) P.ref.ne (.int .i64 0)
            rw [← lN] at this
            exact this
          · have := P.ref.row.setl (i := i * 3 + 1) (.int .i64 0)
            rw [pecs_part hil] at this
            exact this
        have P1 := Lib.hid (P.its K r1 ((But2.refl _ _ _ _).seth P.hh (i * 3 + 1) (.int .i64 0)))
        have i2 : (i : Int) < (N : Int) := by omega
        clear P r1 lN FR hil
        go_wp2_with fail
        refine (K.crashP i w _ _ g h s _ P1.out HIL.out).mono ?_
        rintro e w6 ⟨rfl, Q⟩
        clear P1 x2 c1 f1 lh
        have HL5 := Lib.hid FR5.len
        have x2 : w6.cell? ⟨g, 2, none⟩ = some (.slice (some ⟨h, 0, none⟩) N N) := by have := Q.ref.cells.2.2.1; rwa [FR5.len] at this
        go_wp2
        go_region_held3 (fun w' => w'.cell? ⟨g, 2, none⟩ = some (.slice (some ⟨h, 0, none⟩) N N))
          (first | go_keep | exact (b9.cell (cell_lt (by assumption))).trans (by assumption))
          (first
            | ((with_reducible refine (K.peersP N w _ _ g h _ _ (Q.keep K (by first | exact Below.refl _ _ | exact below_of_drewN rfl)) HL5.out).mono ?_); rintro e w9 ⟨C, cC, rfl, hC, b9, P9⟩)
            | ((with_reducible refine (peSame C _ _ _ _ cC _ _ hC (P9.ref.prs (by rw [HL5.out]; omega)) HL5.out.symm HL5.out.symm).mono ?_); rintro e w8 ⟨rfl, nd, hnd⟩))
        have P8 := P9.keep K (below_of_drewN (w := w9) (n := nd) rfl)
        clear P9 Q hnd b9 hC x2
        go_wp2
        go_roundw
        case rel => exact ⟨k + 1, _, by omega, by go_num, P8, FR5⟩
        case measure => simp [intOf]; omega
      have Q := P
      have FR5 := FR
      clear P FR
      have HL5 := Lib.hid FR5.len
      have x2 : wr.cell? ⟨g, 2, none⟩ = some (.slice (some ⟨h, 0, none⟩) N N) := by have := Q.ref.cells.2.2.1; rwa [FR5.len] at this
      go_wp2
      go_region_held3 (fun w' => w'.cell? ⟨g, 2, none⟩ = some (.slice (some ⟨h, 0, none⟩) N N))
        (first | go_keep | exact (b9.cell (cell_lt (by assumption))).trans (by assumption))
        (first
          | ((with_reducible refine (K.peersP N w _ _ g h _ _ (Q.keep K (by first | exact Below.refl _ _ | exact below_of_drewN rfl)) HL5.out).mono ?_); rintro e w9 ⟨C, cC, rfl, hC, b9, P9⟩)
          | ((with_reducible refine (peSame C _ _ _ _ cC _ _ hC (P9.ref.prs (by rw [HL5.out]; omega)) HL5.out.symm HL5.out.symm).mono ?_); rintro e w8 ⟨rfl, nd, hnd⟩))
      have P8 := P9.keep K (below_of_drewN (w := w9) (n := nd) rfl)
      clear P9 Q hnd b9 hC x2
      go_wp2
      go_roundw
      case rel => exact ⟨k + 1, _, by omega, by go_num, P8, FR5⟩
      case measure => simp [intOf]; omega
    · go_wp2
      go_region_held3 (fun w' => w'.cell? ⟨g, 2, none⟩ = some (.slice (some ⟨h, 0, none⟩) N N))
        (first | go_keep | exact (b9.cell (cell_lt (by assumption))).trans (by assumption))
        (first
          | ((with_reducible refine (K.peersP N w _ _ g h s s (P.keep K (by first | exact Below.refl _ _ | exact below_of_drewN rfl)) HL.out).mono ?_); rintro e w9 ⟨C, cC, rfl, hC, b9, P9⟩)
          | ((with_reducible refine (peSame C _ s.d.l _ _ cC _ _ hC (P9.ref.prs (by rw [HL.out]; omega)) HL.out.symm HL.out.symm).mono ?_); rintro e w8 ⟨rfl, nd, hnd⟩))
      have hb := below_trans P9.own.b (below_of_drewN (w := w9) (n := nd) rfl)
      clear P9 P hnd
      go_wp2
      go_ret
      exact ⟨rfl, hb⟩

end Go.Proofs.Ytlaandbaaepamaa
