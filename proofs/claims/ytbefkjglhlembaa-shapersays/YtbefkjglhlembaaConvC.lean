
/-
  The document's own convolution: pair by pair; its powers: by halves.
-/
import Derived.Test.YtbefkjglhlembaaConvB
namespace Go.Proofs.Ytbefkjglhlembaa
set_option linter.all false
open Go.RowKit Go.Shelf

/-- The pairs that were met ahead of the pair (a, b). -/
def Dn (a b i j : Nat) : Prop := i < a ∨ i = a ∧ j < b

theorem gt_set {L : List Int} {k t : Nat} {x : Int} (hk : k < L.length) : gt (L.set k x) t = if t = k then x else gt L t := by
  unfold gt List.getD
  rw [List.getElem?_set]
  by_cases e : k = t
  · subst e; simp [hk]
  · simp [e, Ne.symm e]
theorem set_cells (L : List Int) (k : Nat) (x : Int) : ((L.map (Value.int .i64)).toArray).setIfInBounds k (.int .i64 x) = ((L.set k x).map (Value.int .i64)).toArray := by
  simp [List.map_set]
theorem gt_replicate {n t : Nat} {x : Int} (h : t < n) : gt (List.replicate n x) t = x := by simp [gt, List.getD, h]

/-- What the document's convolution has at the pair (a, b). -/
structure CInv (n : Nat) (f g : Nat → Int) (a b : Nat) (L : List Int) : Prop where
  len : L.length = n
  low : ∀ i j, i + j < n → Dn a b i j → gt L (i + j) ≤ f i + g j
  at_ : ∀ t, t < n → gt L t = 1099511627776 ∨ ∃ i j, i + j = t ∧ Dn a b i j ∧ gt L t = f i + g j

theorem CInv.init (n : Nat) (f g : Nat → Int) : CInv n f g 0 0 (List.replicate n 1099511627776) :=
  ⟨by simp, fun i j _ h => by rcases h with h | ⟨_, h⟩ <;> omega, fun t ht => .inl (gt_replicate ht)⟩
theorem CInv.put {n : Nat} {f g : Nat → Int} {a b : Nat} {L : List Int} (h : CInv n f g a b L) (hab : a + b < n) (hlt : f a + g b < gt L (a + b)) : CInv n f g a (b + 1) (L.set (a + b) (f a + g b)) := by
  have hl := h.len
  refine ⟨by simpa using hl, fun i j hij hd => ?_, fun t ht => ?_⟩
  · rw [gt_set (by omega)]
    by_cases e : i + j = a + b
    · rw [if_pos e]
      by_cases ei : i = a
      · obtain rfl : j = b := by omega
        subst ei; exact Int.le_refl _
      · have := h.low i j hij (by rcases hd with hd | ⟨hd, _⟩; exact .inl hd; omega)
        rw [e] at this; omega
    · rw [if_neg e]
      refine h.low i j hij ?_
      rcases hd with hd | ⟨hd, hj⟩
      · exact .inl hd
      · exact .inr ⟨hd, by omega⟩
  · rw [gt_set (by omega)]
    by_cases e : t = a + b
    · rw [if_pos e]; exact .inr ⟨a, b, e.symm, .inr ⟨rfl, by omega⟩, rfl⟩
    · rw [if_neg e]
      rcases h.at_ t ht with h1 | ⟨i, j, h1, h2, h3⟩
      · exact .inl h1
      · refine .inr ⟨i, j, h1, ?_, h3⟩
        rcases h2 with h2 | ⟨h2, h4⟩
        · exact .inl h2
        · exact .inr ⟨h2, by omega⟩
theorem CInv.keep {n : Nat} {f g : Nat → Int} {a b : Nat} {L : List Int} (h : CInv n f g a b L) (hk : n ≤ a + b ∨ gt L (a + b) ≤ f a + g b) : CInv n f g a (b + 1) L := by
  refine ⟨h.len, fun i j hij hd => ?_, fun t ht => ?_⟩
  · by_cases e : i = a ∧ j = b
    · obtain ⟨rfl, rfl⟩ := e
      rcases hk with hk | hk
      · omega
      · exact hk
    · refine h.low i j hij ?_
      rcases hd with hd | ⟨hd, hj⟩
      · exact .inl hd
      · exact .inr ⟨hd, by omega⟩
  · rcases h.at_ t ht with h1 | ⟨i, j, h1, h2, h3⟩
    · exact .inl h1
    · refine .inr ⟨i, j, h1, ?_, h3⟩
      rcases h2 with h2 | ⟨h2, h4⟩
      · exact .inl h2
      · exact .inr ⟨h2, by omega⟩
theorem CInv.row {n : Nat} {f g : Nat → Int} {a : Nat} {L : List Int} (h : CInv n f g a n L) : CInv n f g (a + 1) 0 L := by
  refine ⟨h.len, fun i j hij hd => ?_, fun t ht => ?_⟩
  · refine h.low i j hij ?_
    rcases hd with hd | ⟨_, hd⟩
    · by_cases e : i = a
      · exact .inr ⟨e, by omega⟩
      · exact .inl (by omega)
    · omega
  · rcases h.at_ t ht with h1 | ⟨i, j, h1, h2, h3⟩
    · exact .inl h1
    · refine .inr ⟨i, j, h1, ?_, h3⟩
      rcases h2 with h2 | ⟨h2, h4⟩
      · exact .inl (by omega)
      · exact .inl (by omega)
theorem CInv.all {n : Nat} {f g : Nat → Int} {L : List Int} (h : CInv n f g n 0 L) (hf : ∀ i, i < n → f i ≤ 100000000) (hg : ∀ i, i < n → g i ≤ 100000000) : L = tab n (cvV f g) := by
  refine eq_tab h.len (fun t ht => (cv_eq (fun i j e => ?_) ?_).symm)
  · have := h.low i j (by omega) (.inl (by omega)); rwa [e] at this
  · rcases h.at_ t ht with h1 | ⟨i, j, h1, h2, h3⟩
    · have := h.low 0 t (by omega) (.inl (by omega))
      rw [Nat.zero_add] at this
      have := hf 0 (by omega); have := hg t ht; omega
    · exact ⟨i, j, h1, by omega⟩

set_option maxHeartbeats 1600000 in
theorem refConv_any (A B : Option Addr) (l m : List Int) (c d : Nat) (w : World) (h : Ints w A l) (h' : Ints w B m) (hp : 0 < l.length) (h61 : l.length ≤ 61) (hlm : l.length = m.length) (bl : Bd l) (bm : Bd m) :
    Calls Try.prog 15 #[.slice A l.length c, .slice B m.length d] w (AnsL (cvL l m) w) := by
  have hml : l.length ≤ m.length := by omega
  have hlm' : m.length ≤ l.length := by omega
  have HLM := Lib.hid hlm
  clear hlm
  go_enter Try.func15, Try.ntmps15
  go_wp2_with fail
  refine (repeat_one _ 1099511627776 l.length _ _ (by exact Ints.lit _ _ _ _ rfl (by decide)) hp h61).mono ?_
  rintro e w1 ⟨g, rfl, hg0, hblk, hb1⟩
  have hg : w.heap.size ≤ g := by simp at hg0; omega
  replace hb1 := below_of1 hb1
  clear hg0
  go_wp2
  go_loopw [16] (fun i wr => ∃ (a : Nat) (L : List Int), a ≤ l.length ∧ i = .int .i64 a ∧ Blk wr g 3 (L.map (Value.int .i64)).toArray ∧ CInv l.length (gt l) (gt m) a 0 L ∧ Below w.heap.size w wr) (fun i _ => l.length - (intOf i).toNat)
  case atStart => exact ⟨0, _, Nat.zero_le _, rfl, hblk, CInv.init _ _ _, hb1⟩
  case round =>
    obtain ⟨a, L, ha, rfl, hblk, hinv, hbel⟩ := hrel
    by_cases hlt : a < l.length
    · have r0 := h.below hbel
      obtain ⟨b1, o1, x, rfl, hc1, HX⟩ := r0.at_ hlt
      have hx := gt_of_get HX.out
      have x0 : 0 ≤ x := by rw [← hx]; exact bl.lo a hlt
      have x1 : x ≤ 100000000 := by rw [← hx]; exact bl.hi a hlt
      have EX := Lib.hid hx
      clear hx
      go_wp2
      go_loopw [23] (fun i wi => ∃ (b : Nat) (L : List Int), b ≤ m.length ∧ i = .int .i64 b ∧ Blk wi g 3 (L.map (Value.int .i64)).toArray ∧ CInv l.length (gt l) (gt m) a b L ∧ Below w.heap.size w wi) (fun i _ => m.length - (intOf i).toNat)
      case atStart => exact ⟨0, _, Nat.zero_le _, rfl, hblk, hinv, hbel⟩
      case round =>
        clear hblk hinv hbel r0 hc1
        obtain ⟨b, L, hb, rfl, hblk, hinv, hbel⟩ := hrel
        by_cases hbt : b < m.length
        · have r1 := h'.below hbel
          obtain ⟨b2, o2, y, rfl, hc2, HY⟩ := r1.at_ hbt
          have hy := gt_of_get HY.out
          have y0 : 0 ≤ y := by rw [← hy]; exact bm.lo b hbt
          have y1 : y ≤ 100000000 := by rw [← hy]; exact bm.hi b hbt
          have EY := Lib.hid hy
          clear hy
          by_cases hab : a + b < l.length
          · have HL := Lib.hid hinv.len
            obtain ⟨z, hz⟩ : ∃ z, z = gt L (a + b) := ⟨_, rfl⟩
            have hcz : wr.cell? ⟨g, a + b, none⟩ = some (.int .i64 z) := by
              rw [hblk.cell, hz]
              have := get_of_lt (l := L) (i := a + b) (by rw [HL.out]; exact hab)
              simp [this]
            have hfz := hblk.frozen (a + b)
            have HZ := Lib.hid hz
            clear hz
            have t1 : (a : Int) + (b : Int) < (l.length : Int) := by omega
            have t2 : ((a : Int) + (b : Int)).toNat = a + b := by omega
            by_cases hlow : x + y < z
            · go_wp2
              go_roundw
              case rel =>
                refine ⟨b + 1, L.set (a + b) (x + y), by omega, by go_num, ?_, ?_, hbel.setCell (by simpa using hg) _⟩
                · rw [← set_cells]; exact hblk.set_ _ _
                · have := hinv.put hab (by rw [EX.out, EY.out, ← HZ.out]; exact hlow)
                  rwa [EX.out, EY.out] at this
              case measure => simp [intOf]; omega
            · go_wp2
              go_roundw
              case rel => exact ⟨b + 1, L, by omega, by go_num, hblk, hinv.keep (.inr (by rw [EX.out, EY.out, ← HZ.out]; omega)), hbel⟩
              case measure => simp [intOf]; omega
          · have t1 : ¬ (a : Int) + (b : Int) < (l.length : Int) := by omega
            go_wp2
            go_roundw
            case rel => exact ⟨b + 1, L, by omega, by go_num, hblk, hinv.keep (.inl (by omega)), hbel⟩
            case measure => simp [intOf]; omega
        · obtain rfl : b = m.length := by omega
          go_wp2
          go_roundw
          case rel => exact ⟨a + 1, L, by omega, by go_num, hblk, CInv.row (by rw [HLM.out]; rw [HLM.out] at hinv; exact hinv), hbel⟩
          case measure => simp [intOf]; omega
    · obtain rfl : a = l.length := by omega
      go_wp2
      go_ret
      have e := hinv.all bl.hi (fun i hi => bm.hi i (by omega))
      refine AnsL.of ?_ hbel
      rw [show cvL l m = L from e.symm]
      exact own_of_blk hblk hg hinv.len.symm (by omega)

end Go.Proofs.Ytbefkjglhlembaa
