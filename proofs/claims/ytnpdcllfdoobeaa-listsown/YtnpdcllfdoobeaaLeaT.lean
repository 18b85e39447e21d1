
/-
  The walk of lease.Take.
-/
import Derived.Test.YtnpdcllfdoobeaaLeaI
import Derived.Test.YtnpdcllfdoobeaaLeaY
namespace Go.Proofs.Ytnpdcllfdoobeaa
set_option linter.all false
open Go.RowKit Go.Shelf Go.Lib

def tkE (x : Lz) (l : List Lz) : Int := if ¬ lzE l = 0 then lzE l else if lzBad x = true then 1 else 0
theorem tk_iff {x : Lz} {l : List Lz} : tkE x l = 0 ↔ LzOk l ∧ lzBad x = false := by
  unfold tkE
  by_cases c : lzE l = 0
  · rw [if_neg (by simpa using c)]
    have v := lzE_iff.mp c
    by_cases d : lzBad x = true
    · rw [if_pos d]; exact ⟨fun h => absurd h (by decide), fun h => by rw [h.2] at d; exact absurd d (by simp)⟩
    · rw [if_neg d]; exact ⟨fun _ => ⟨v, by simpa using d⟩, fun _ => rfl⟩
  · rw [if_pos c]
    exact ⟨fun h => absurd h c, fun h => absurd (lzE_iff.mpr h.1) c⟩

set_option maxHeartbeats 1600000 in
theorem take_no (A : Option Addr) (l : List Lz) (x : Lz) (n c : Nat) (w : World) (h : Les w A l) (hn : n = l.length) (hE : Hid (¬ tkE x l = 0)) :
    Calls Try.prog 18 #[.slice A n c, .agg #[.int .i64 x.who, .int .i64 x.till, .int .i64 x.pin]] w fun e w' => e = .returned (.tuple #[.slice none 0 0, .int .i64 (tkE x l)]) ∧ Below w.heap.size w w' := by
  subst hn
  obtain ⟨B0, hB0⟩ : ∃ B0, B0 = w.heap.size := ⟨_, rfl⟩
  have HB0 := Lib.hid hB0
  obtain ⟨W, hW⟩ : ∃ W, W = w.alloc (.cells #[.int .i64 x.who, .int .i64 x.till, .int .i64 x.pin] 35) := ⟨_, rfl⟩
  have bW : Below w.heap.size w W := by rw [hW]; exact (Below.refl _ _).alloc (Nat.le_refl _) _
  have BW : Blk W B0 35 #[.int .i64 x.who, .int .i64 x.till, .int .i64 x.pin] := by rw [hW, hB0]; exact Blk.new _ _ _
  have HW := Lib.hid hW
  have h0 := h.below bW
  clear hB0 hW h
  by_cases hL : lzE l = 0
  · have HL := Lib.hid hL
    have hx : lzBad x = true := by
      cases c : lzBad x with
      | true => rfl
      | false => exact absurd (tk_iff.mpr ⟨lzE_iff.mp hL, c⟩) hE.out
    have HX := Lib.hid hx
    have HQ : Hid (tkE x l = 1) := Lib.hid (by rw [tkE, if_neg (by simpa using hL), if_pos hx])
    clear hL hx hE
    go_enter Try.func18, Try.ntmps18
    go_wp2_with fail
    rw [← HW.out]
    refine (lcheck_any A l _ c _ h0 rfl).mono ?_
    rintro e w1 ⟨rfl, b1⟩
    rw [HL.out, ← HB0.out]
    have B1 := BW.below b1
    have hb := below_trans bW b1
    obtain ⟨x0, x1, x2⟩ := three_read B1
    go_wp2_with fail
    refine (lout_any x true _ HX).mono ?_
    rintro e w2 ⟨rfl, b2⟩
    have hb2 := below_trans hb b2
    clear x0 x1 x2
    go_wp2
    go_ret2
    exact ⟨by rw [HQ.out]; rfl, hb2⟩
  · have e1 : (lzE l != 0) = true := by simp [hL]
    have HQ : Hid (tkE x l = lzE l) := Lib.hid (by rw [tkE, if_pos hL])
    clear hL hE
    go_enter Try.func18, Try.ntmps18
    go_wp2_with fail
    rw [← HW.out]
    refine (lcheck_any A l _ c _ h0 rfl).mono ?_
    rintro e w1 ⟨rfl, b1⟩
    have hb := below_trans bW b1
    go_wp2
    go_ret2
    exact ⟨by rw [HQ.out]; rfl, hb⟩

set_option maxRecDepth 100000 in
set_option maxHeartbeats 1600000 in
theorem take_yes (A : Option Addr) (l : List Lz) (x : Lz) (n c : Nat) (w : World) (h : Les w A l) (hn : n = l.length) (hE : Hid (tkE x l = 0)) :
    Calls Try.prog 18 #[.slice A n c, .agg #[.int .i64 x.who, .int .i64 x.till, .int .i64 x.pin]] w (AnsZ (takeL x l) 0 w) := by
  subst hn
  obtain ⟨B0, hB0⟩ : ∃ B0, B0 = w.heap.size := ⟨_, rfl⟩
  have HB0 := Lib.hid hB0
  obtain ⟨W, hW⟩ : ∃ W, W = w.alloc (.cells #[.int .i64 x.who, .int .i64 x.till, .int .i64 x.pin] 35) := ⟨_, rfl⟩
  have bW : Below w.heap.size w W := by rw [hW]; exact (Below.refl _ _).alloc (Nat.le_refl _) _
  have BW : Blk W B0 35 #[.int .i64 x.who, .int .i64 x.till, .int .i64 x.pin] := by rw [hW, hB0]; exact Blk.new _ _ _
  have HW := Lib.hid hW
  have h0 := h.below bW
  clear hB0 hW h
  obtain ⟨v, hx⟩ := tk_iff.mp hE.out
  have HL := Lib.hid (lzE_iff.mpr v)
  have HX := Lib.hid hx
  have h8 := v.len
  clear hx hE
  go_enter Try.func18, Try.ntmps18
  go_wp2_with fail
  rw [← HW.out]
  refine (lcheck_any A l _ c _ h0 rfl).mono ?_
  rintro e w1 ⟨rfl, b1⟩
  rw [HL.out, ← HB0.out]
  have hb := below_trans bW b1
  replace BW := BW.below b1
  replace h0 := h0.below b1
  obtain ⟨x0, x1, x2⟩ := three_read BW
  go_wp2_with fail
  refine (lout_any x false _ HX).mono ?_
  rintro e w2 ⟨rfl, b2⟩
  replace hb := below_trans hb b2
  replace BW := BW.below b2
  replace h0 := h0.below b2
  clear x0 x1 x2 b1 b2
  obtain ⟨x0, x1, x2⟩ := three_read BW
  go_wp2_with fail
  refine (bsearch_any A l x _ c _ h0 rfl v).mono ?_
  rintro e w3 ⟨rfl, b3⟩
  replace hb := below_trans hb b3
  replace BW := BW.below b3
  replace h0 := h0.below b3
  clear x0 x1 x2 b3
  obtain ⟨P, hP⟩ : ∃ P, P = plcV x l := ⟨_, rfl⟩
  obtain ⟨F, hF⟩ : ∃ F, F = fndB x l := ⟨_, rfl⟩
  have hPl : P ≤ l.length := by rw [hP]; exact plc_le x l
  rw [← hP, ← hF]
  have HP := Lib.hid hP
  have HF := Lib.hid hF
  clear hP hF v
  go_wp2_with fail
  refine (clone_le A l _ c _ h0 rfl (by omega)).mono ?_
  rintro e w4 ⟨A4, c4, rfl, o4, b4⟩
  have sz := hb.size
  replace hb := below_trans hb b4
  replace BW := BW.below b4
  replace o4 := own_lower o4 sz
  clear b4 h0 sz
  obtain ⟨x0, x1, x2⟩ := three_read BW
  cases F with
  | true =>
    obtain ⟨et, hlt⟩ := take_at HF.out.symm
    rw [← HP.out] at et hlt
    obtain ⟨g, rfl⟩ : ∃ g, A4 = some ⟨g, 0, none⟩ := by
      rcases o4.2 with ⟨hv', h0⟩ | ⟨g, cap, cur, hv', _⟩
      · omega
      · injection hv' with e1 _ _; exact ⟨g, e1⟩
    obtain ⟨gb, gl⟩ := o4.lt g rfl
    obtain ⟨y, hy⟩ : ∃ y, l[P]? = some y := ⟨_, List.getElem?_eq_getElem hlt⟩
    obtain ⟨a0, a1, a2⟩ := lcs_get hy
    have lq := length_lcs l
    have k0 := (o4.cellAt (P * 3) (by omega)).trans a0
    have k1 := (o4.cellAt (P * 3 + 1) (by omega)).trans a1
    have k2 := (o4.cellAt (P * 3 + 2) (by omega)).trans a2
    have f0 := o4.frozenAt (P * 3)
    have f1 := o4.frozenAt (P * 3 + 1)
    have f2 := o4.frozenAt (P * 3 + 2)
    have s1 := (o4.stored (P * 3) (.int .i64 x.who)).1
    have s2 := (s1.stored (P * 3 + 1) (.int .i64 x.till)).1
    have s3 := (s2.stored (P * 3 + 2) (.int .i64 x.pin)).1
    rw [lcs_three x hlt, ← et] at s3
    have bs := ((hb.setCell (p := ⟨g, P * 3, none⟩) gb (.int .i64 x.who)).setCell (p := ⟨g, P * 3 + 1, none⟩) gb (.int .i64 x.till)).setCell (p := ⟨g, P * 3 + 2, none⟩) gb (.int .i64 x.pin)
    have el : l.length = (takeL x l).length := by rw [et, List.length_set]
    have i1 : (P : Int) < (l.length : Int) := by omega
    have S3 := Lib.hid s3
    have BS := Lib.hid bs
    have EL := Lib.hid el
    clear s1 s2 s3 bs el et lq a0 a1 a2 hy o4 hb BW
    go_wp2
    go_ret2
    refine ⟨some ⟨g, 0, none⟩, c4, ?_, ?_, BS.out⟩
    · rw [← EL.out]; rfl
    · rw [← EL.out]; exact S3.out
  | false =>
    have et := take_in HF.out.symm
    rw [← HP.out] at et
    have el : l.length + 1 = (takeL x l).length := by rw [et, List.length_append, List.length_cons, List.length_take, List.length_drop]; omega
    have EL := Lib.hid el
    have ET := Lib.hid et
    obtain ⟨X, hX⟩ : ∃ X, X = w4.alloc (.cells #[.int .i64 x.who, .int .i64 x.till, .int .i64 x.pin] 35) := ⟨_, rfl⟩
    have bX : Below w4.heap.size w4 X := by rw [hX]; exact (Below.refl _ _).alloc (Nat.le_refl _) _
    have BX : Blk X w4.heap.size 35 #[.int .i64 x.who, .int .i64 x.till, .int .i64 x.pin] := by rw [hX]; exact Blk.new _ _ _
    have oX := own_belL o4 bX
    have hbX := below_trans hb bX
    have hsz := hbX.size
    have apart : ∀ g, (Value.slice A4 l.length c4).ownBlock = some g → w4.heap.size ≠ g := fun g e => by have := (o4.lt g e).2; omega
    have HX4 := Lib.hid hX
    have AP := Lib.hid apart
    clear et el hX o4 hb apart bX
    go_wp2_with fail
    rw [← HX4.out]
    refine (insert_any A4 l.length c4 P w4.heap.size w.heap.size l x _ rfl (by omega) hPl hsz oX BX AP.out).mono ?_
    rintro e w5 ⟨A5, c5, rfl, o5, b5⟩
    have hb5 : Below w.heap.size w w5 := hbX.trans b5
    clear oX BX hbX b5
    go_wp2
    go_ret2
    refine ⟨A5, c5, ?_, ?_, hb5⟩
    · rw [← EL.out]; rfl
    · rw [← EL.out, ET.out]; exact o5

end Go.Proofs.Ytnpdcllfdoobeaa
