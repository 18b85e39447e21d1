
/-
  conv.Of and deconv.Of of curves that may be, as relations between lists.
-/
import Derived.Test.YtlaandbaaepamaaConvD
import Derived.Test.YtlaandbaaepamaaDecA
import Derived.Test.YtlaandbaaepamaaPointL
namespace Go.Proofs.Ytlaandbaaepamaa
set_option linter.all false
open Go.RowKit Go.Shelf

theorem own_cap {w : World} {base : Nat} {e : TypeId} {A : Option Addr} {n c : Nat} {xs : List Value} (h : w.ownsRow base e 1 (.slice A n c) n xs) : n ≤ c := by
  rcases h.2 with ⟨hv, h0⟩ | ⟨g, cap, cur, hv, _, _, hn, _⟩
  · omega
  · injection hv with _ _ hc; subst hc; exact hn

/-- R is the convolution of two curves of one length, whether or not it fits. -/
structure Convs (l m R : List Int) : Prop where
  one : Cv l
  two : Cv m
  len : l.length = m.length
  is : R = cvL l m
theorem ex_conv {l m : List Int} (hl : Cv l) (hm : Cv m) (e : l.length = m.length) : ∃ R, Convs l m R := ⟨_, hl, hm, e, rfl⟩
theorem Convs.rlen {l m R : List Int} (z : Convs l m R) : R.length = l.length := by rw [z.is, length_cvL]
theorem Convs.val {l m R : List Int} (z : Convs l m R) {t : Nat} (ht : t < l.length) : gt R t = cvV (gt l) (gt m) t := by rw [z.is, gt_cvL ht]
theorem Convs.nd {l m R : List Int} (z : Convs l m R) : Nd 2000000 R := by rw [z.is]; exact z.one.nd.conv z.two.nd z.len
theorem Convs.curve {l m R : List Int} (z : Convs l m R) (hb : bigB R = false) : Cv R := z.nd.cv hb
theorem Convs.symm {l m R : List Int} (z : Convs l m R) : Convs m l R := ⟨z.two, z.one, z.len.symm, by rw [z.is, cvL_comm z.len]⟩
theorem Convs.le {l m R : List Int} (z : Convs l m R) (i j : Nat) (h : i + j < l.length) : gt R (i + j) ≤ gt l i + gt m j := by rw [z.val h]; exact cv_le i j rfl
theorem Convs.at_ {l m R : List Int} (z : Convs l m R) {t : Nat} (h : t < l.length) : ∃ i j, i + j = t ∧ gt R t = gt l i + gt m j := by rw [z.val h]; exact cv_at _ _ _
theorem conv_assoc {l m k a c x : List Int} (za : Convs l m a) (zc : Convs m k c) (vc : Cv c) (zx : Convs a k x) : Convs l c x :=
  ⟨za.one, vc, by rw [zc.rlen, za.len], by rw [zx.is, za.is, cvL_assoc za.len, ← zc.is]⟩

theorem conv_ok (A A' : Option Addr) (l m S : List Int) (nl nm c d : Nat) (w : World) (z : Convs l m S) (h : Ints w A l) (h' : Ints w A' m) (hl : nl = l.length) (hm : nm = m.length) :
    Calls Try.prog 40 #[.slice A nl c, .slice A' nm d] w (Ans (fitL S) (fitE S) w) := by
  subst hl hm
  have := conv_any A A' l m c d w h h'
  rw [← z.is, chk2_iff.2 ⟨z.one, z.two, z.len⟩] at this
  exact this
theorem conv_yes (A A' : Option Addr) (l m S : List Int) (nl nm c d : Nat) (w : World) (z : Convs l m S) (hb : bigB S = false) (h : Ints w A l) (h' : Ints w A' m) (hl : nl = l.length) (hm : nm = m.length) :
    Calls Try.prog 40 #[.slice A nl c, .slice A' nm d] w (Ans S 0 w) := by
  have := conv_ok A A' l m S nl nm c d w z h h' hl hm
  rw [(fit_ok hb).1, (fit_ok hb).2] at this
  exact this
theorem conv_no (A A' : Option Addr) (l m S : List Int) (nl nm c d : Nat) (w : World) (z : Convs l m S) (hb : bigB S = true) (h : Ints w A l) (h' : Ints w A' m) (hl : nl = l.length) (hm : nm = m.length) :
    Calls Try.prog 40 #[.slice A nl c, .slice A' nm d] w (Ans [] 2 w) := by
  have := conv_ok A A' l m S nl nm c d w z h h' hl hm
  rw [(fit_big hb).1, (fit_big hb).2] at this
  exact this
/-- R is the deconvolution of two curves of one length. -/
structure Decs (l m R : List Int) : Prop where
  one : Cv l
  two : Cv m
  len : l.length = m.length
  is : R = dcL l m
theorem ex_dec {l m : List Int} (hl : Cv l) (hm : Cv m) (e : l.length = m.length) : ∃ R, Decs l m R := ⟨_, hl, hm, e, rfl⟩
theorem Decs.rlen {l m R : List Int} (z : Decs l m R) : R.length = l.length := by rw [z.is, length_dcL]
theorem Decs.r {l m R : List Int} (z : Decs l m R) : Cv R := by rw [z.is]; exact z.one.deconv z.two z.len
theorem Decs.ge {l m R : List Int} (z : Decs l m R) (t j : Nat) (h : t + j < l.length) : gt l (t + j) - gt m j ≤ gt R t := by
  rw [z.is, gt_dcL (by omega)]; exact dc_ge _ _ h rfl
theorem Decs.iff {l m R : List Int} (z : Decs l m R) {t : Nat} (ht : t < l.length) {B : Int} (hB : 0 ≤ B) : gt R t ≤ B ↔ ∀ j, t + j < l.length → gt l (t + j) - gt m j ≤ B := by
  rw [z.is, gt_dcL ht, dc_iff hB]
  exact ⟨fun h j hj => h _ j hj rfl, fun h i j hi e => by subst e; exact h j hi⟩
theorem Ints.first {w : World} {A : Option Addr} {l : List Int} (h : Ints w A l) (hp : 0 < l.length) : ∃ b off, A = some ⟨b, off, none⟩ ∧ w.cell? ⟨b, off, none⟩ = some (.int .i64 (gt l 0)) := by
  obtain ⟨b, off, x, e, hc, HX⟩ := h.at_ (k := 0) hp
  exact ⟨b, off, e, by rw [gt_of_get HX.out]; exact hc⟩
theorem Ints.made (w : World) (n : Nat) (hn : n ≤ 61) : Ints (w.alloc (.cells (madeCells #[Value.int .i64 0] n) 3)) (some ⟨w.heap.size, 0, none⟩) (List.replicate n 0) := by
  refine Ints.of_blk ?_ (by simp; omega)
  have := toList_madeCells_one (Value.int .i64 0) n
  rw [List.map_replicate, ← this, Array.toArray_toList]
  exact Blk.new _ _ _
theorem fitE_or (S : List Int) : fitE S = 0 ∨ fitE S = 2 := by unfold fitE; split <;> simp

theorem cutk_ok {l : List Int} (h : Cv l) {q : Nat} (hq : q < l.length) : cutE l q = 0 ∧ cutL l q = l.take (q + 1) := by
  have e : cutE l q = 0 := by simp [cutE, chk_iff.2 h]; omega
  exact ⟨e, by simp [cutL, e]⟩
/-- R is n copies of a curve, one after the other, whether or not it fits. -/
structure Pows (l : List Int) (n : Int) (R : List Int) : Prop where
  one : Cv l
  n1 : 1 ≤ n
  n2 : n ≤ 60
  is : R = pw l (n.toNat - 1)
theorem ex_pow {l : List Int} (hl : Cv l) {n : Int} (h1 : 1 ≤ n) (h2 : n ≤ 60) : ∃ R, Pows l n R := ⟨_, hl, h1, h2, rfl⟩
theorem Pows.nd {l : List Int} {n : Int} {R : List Int} (z : Pows l n R) : Nd 60000000 R := by
  have := z.n1; have := z.n2
  rw [z.is]; exact nd_pw z.one (by omega)
theorem Pows.rlen {l : List Int} {n : Int} {R : List Int} (z : Pows l n R) : R.length = l.length := by rw [z.is, length_pw]
theorem Pows.curve {l : List Int} {n : Int} {R : List Int} (z : Pows l n R) (hb : bigB R = false) : Cv R := z.nd.cv hb
end Go.Proofs.Ytlaandbaaepamaa
