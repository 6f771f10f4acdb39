/- The specification's reader: where the reading of an object stands. -/
import Derived.Test.YtcbcfcokfjfffaaDoorSe
namespace Go.Proofs.YtcbcfcokfjfffaaDoor
open Go.RowKit

/-- Where the reading of an object stands: the box of what is answered, the box of the object, what hangs on it. -/
structure OS (w : World) (G g : Nat) (s : ByteArray) (bl : Bool) (k : Nat) (bd : Bool) (st : List ByteArray × List V) (A : Option Addr) (c : Nat) (K : Option Addr) (d : Nat) (W : World) : Prop where
  went : RWent g s k bl bd w W
  far : w.heap.size + 1 ≤ G
  b0 : BlockIs W w.heap.size 25 zeroF
  bG : BlockIs W G 25 #[.int .i64 5, .int .i64 0, .string ⟨#[]⟩, .slice A st.2.length c, .slice K st.1.length d]
  lies : LiesIn (fun b => G + 1 ≤ b ∧ b < W.heap.size) W (V.mk 5 0 ⟨#[]⟩ st.2 st.1) A c K d
section
variable {w W W' W2 : World} {G g k k' : Nat} {s : ByteArray} {bl bd bd' : Bool} {st st' : List ByteArray × List V} {A A' K K' : Option Addr} {c d c' d' : Nat}
theorem OS.step (h : OS w G g s bl k bd st A c K d W) (hg : g < w.heap.size) (hw : RWent g s k' bl bd' W W') : OS w G g s bl k' bd' st A c K d W' := by
  obtain ⟨h1, h2, h3, h4, h5⟩ := h
  have hs := hw.1.size
  exact ⟨h1.trans hw, h2, h3.grown hw.1 (by simp; omega), h4.grown hw.1 (by simp; omega), LiesIn.keep (fun b o hb => hw.1.cell_far ⟨b, o, none⟩ hb.2 (by have := hb.1; simp; omega)) (fun b hb => ⟨hb.1, by have := hb.2; omega⟩) _ h5⟩
/-- Behind a value and the laying of an entry. -/
theorem OS.entry (h : OS w G g s bl k bd st A c K d W) (hg : g < w.heap.size) (hB : Below W.heap.size W W2) (hl : LiesIn (fun b => (G + 1 ≤ b ∧ b < W.heap.size) ∨ Fresh W W2 b) W2 (V.mk 5 0 ⟨#[]⟩ st'.2 st'.1) A' c' K' d') :
    OS w G g s bl k bd st' A' c' K' d' (put5 W2 G 0 (.int .i64 5) (.int .i64 0) (.string ⟨#[]⟩) (.slice A' st'.2.length c') (.slice K' st'.1.length d')) := by
  obtain ⟨h1, h2, h3, h4, h5⟩ := h
  have hG := h4.lt
  have hs := hB.size
  have hs5 := put5_size W2 G 0 (.int .i64 5) (.int .i64 0) (.string ⟨#[]⟩) (.slice A' st'.2.length c') (.slice K' st'.1.length d')
  have h4' : BlockIs W2 G 25 #[.int .i64 5, .int .i64 0, .string ⟨#[]⟩, .slice A st.2.length c, .slice K st.1.length d] := h4.below hB hG
  have hw := h1.1.size
  refine ⟨((((((h1.below hB).set hg _ _ (by simp; omega)).set hg _ _ (by simp; omega)).set hg _ _ (by simp; omega)).set hg _ _ (by simp; omega)).set hg _ _ (by simp; omega)), h2, ?_, ?_, ?_⟩
  · exact (put5_heap W2 G 0 _ _ _ _ _ (by omega)).trans (h3.below hB (by omega))
  · have := ((((h4'.set_ 0 (.int .i64 5)).set_ 1 (.int .i64 0)).set_ 2 (.string ⟨#[]⟩)).set_ 3 (.slice A' st'.2.length c')).set_ 4 (.slice K' st'.1.length d')
    simpa [put5] using this
  · have hb2 : ∀ b, ((G + 1 ≤ b ∧ b < W.heap.size) ∨ Fresh W W2 b) → G + 1 ≤ b ∧ b < W2.heap.size := by
      rintro b (hb | hb)
      · exact ⟨hb.1, by have := hb.2; omega⟩
      · exact ⟨by have := hb.1; omega, hb.2⟩
    exact LiesIn.keep (fun b o hb => World.cell?_of_block (put5_heap W2 G 0 _ _ _ _ _ (by have := (hb2 b hb).1; show b ≠ G; omega))) (fun b hb => ⟨(hb2 b hb).1, by rw [hs5]; exact (hb2 b hb).2⟩) _ hl
/-- What is answered, where the object is. -/
theorem OS.done (h : OS w G g s bl k bd st A c K d W) (hg : g < w.heap.size) : ∀ u0 u1 u2 u3 u4, LiesIn (Fresh w (put5 W w.heap.size 0 u0 u1 u2 u3 u4)) (put5 W w.heap.size 0 u0 u1 u2 u3 u4) (V.mk 5 0 ⟨#[]⟩ st.2 st.1) A c K d ∧ RWent g s k bl bd w (put5 W w.heap.size 0 u0 u1 u2 u3 u4) := by
  obtain ⟨h1, h2, h3, h4, h5⟩ := h
  refine fun u0 u1 u2 u3 u4 => ⟨?_, ?_⟩
  · have hs := put5_size W w.heap.size 0 u0 u1 u2 u3 u4
    exact LiesIn.keep (fun b o hb => World.cell?_of_block (put5_heap W w.heap.size 0 u0 u1 u2 u3 u4 (by have := hb.1; show b ≠ w.heap.size; omega))) (fun b hb => ⟨by have := hb.1; omega, by rw [hs]; exact hb.2⟩) _ h5
  · exact ((((h1.set hg _ _ (by simp)).set hg _ _ (by simp)).set hg _ _ (by simp)).set hg _ _ (by simp)).set hg _ _ (by simp)
end
section
variable {f : List UInt8 → Option (V × List UInt8)} {bl : Bool} {F : Nat} {st : List ByteArray × List V} {l l1 l2 t : List UInt8} {R : Option ((List ByteArray × List V) × List UInt8)} {x : V}
theorem er_quote (h : entriesR f bl F st l = R) (hF : l.length < F) (h1 : takesP 34 (skipB bl l) = false) : R = none := by
  cases F with
  | zero => omega
  | succ F => rw [entriesR, if_neg (by rw [h1]; simp)] at h; exact h.symm
theorem er_text (h : entriesR f bl F st l = R) (hF : l.length < F) (h1 : takesP 34 (skipB bl l) = true) (h2 : strR (tailP 34 (skipB bl l)) [] = none) : R = none := by
  cases F with
  | zero => omega
  | succ F => rw [entriesR, if_pos h1, h2] at h; exact h.symm
theorem er_colon (h : entriesR f bl F st l = R) (hF : l.length < F) (h1 : takesP 34 (skipB bl l) = true) (h2 : strR (tailP 34 (skipB bl l)) [] = some (t, l1)) (h3 : takesP 58 (skipB bl l1) = false) : R = none := by
  cases F with
  | zero => omega
  | succ F => rw [entriesR, if_pos h1, h2] at h; simp only [h3, Bool.false_eq_true, if_false] at h; exact h.symm
theorem er_value (h : entriesR f bl F st l = R) (hF : l.length < F) (h1 : takesP 34 (skipB bl l) = true) (h2 : strR (tailP 34 (skipB bl l)) [] = some (t, l1)) (h3 : takesP 58 (skipB bl l1) = true) (h4 : f (tailP 58 (skipB bl l1)) = none) : R = none := by
  cases F with
  | zero => omega
  | succ F => rw [entriesR, if_pos h1, h2] at h; simp only [h3, if_true, h4] at h; exact h.symm
theorem er_twice (h : entriesR f bl F st l = R) (hF : l.length < F) (h1 : takesP 34 (skipB bl l) = true) (h2 : strR (tailP 34 (skipB bl l)) [] = some (t, l1)) (h3 : takesP 58 (skipB bl l1) = true) (h4 : f (tailP 58 (skipB bl l1)) = some (x, l2)) (h5 : hasK ⟨t.toArray⟩ st.1 = true) : R = none := by
  cases F with
  | zero => omega
  | succ F => rw [entriesR, if_pos h1, h2] at h; simp only [h3, if_true, h4, h5] at h; exact h.symm
theorem er_end (h : entriesR f bl F st l = R) (hF : l.length < F) (h1 : takesP 34 (skipB bl l) = true) (h2 : strR (tailP 34 (skipB bl l)) [] = some (t, l1)) (h3 : takesP 58 (skipB bl l1) = true) (h4 : f (tailP 58 (skipB bl l1)) = some (x, l2)) (h5 : hasK ⟨t.toArray⟩ st.1 = false) (h6 : takesP 125 (skipB bl l2) = true) :
    R = some (insK st ⟨t.toArray⟩ x, tailP 125 (skipB bl l2)) := by
  cases F with
  | zero => omega
  | succ F => rw [entriesR, if_pos h1, h2] at h; simp only [h3, if_true, h4, h5, Bool.false_eq_true, if_false, h6] at h; exact h.symm
theorem er_more (h : entriesR f bl F st l = R) (hF : l.length < F) (h1 : takesP 34 (skipB bl l) = true) (h2 : strR (tailP 34 (skipB bl l)) [] = some (t, l1)) (h3 : takesP 58 (skipB bl l1) = true) (h4 : f (tailP 58 (skipB bl l1)) = some (x, l2)) (h5 : hasK ⟨t.toArray⟩ st.1 = false) (h6 : takesP 125 (skipB bl l2) = false) (h7 : takesP 44 (skipB bl l2) = true) (hlen : (tailP 44 (skipB bl l2)).length < l.length) :
    ∃ F', entriesR f bl F' (insK st ⟨t.toArray⟩ x) (tailP 44 (skipB bl l2)) = R ∧ (tailP 44 (skipB bl l2)).length < F' := by
  cases F with
  | zero => omega
  | succ F => rw [entriesR, if_pos h1, h2] at h; simp only [h3, if_true, h4, h5, Bool.false_eq_true, if_false, h6, h7] at h; exact ⟨F, h, by omega⟩
theorem er_comma (h : entriesR f bl F st l = R) (hF : l.length < F) (h1 : takesP 34 (skipB bl l) = true) (h2 : strR (tailP 34 (skipB bl l)) [] = some (t, l1)) (h3 : takesP 58 (skipB bl l1) = true) (h4 : f (tailP 58 (skipB bl l1)) = some (x, l2)) (h5 : hasK ⟨t.toArray⟩ st.1 = false) (h6 : takesP 125 (skipB bl l2) = false) (h7 : takesP 44 (skipB bl l2) = false) : R = none := by
  cases F with
  | zero => omega
  | succ F => rw [entriesR, if_pos h1, h2] at h; simp only [h3, if_true, h4, h5, Bool.false_eq_true, if_false, h6, h7] at h; exact h.symm
end
end Go.Proofs.YtcbcfcokfjfffaaDoor
