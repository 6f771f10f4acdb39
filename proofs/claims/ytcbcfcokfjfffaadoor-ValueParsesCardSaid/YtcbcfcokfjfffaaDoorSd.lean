/- The specification's reader: where the reading of a list stands. -/
import Derived.Test.YtcbcfcokfjfffaaDoorSc
import Derived.Test.YtcbcfcokfjfffaaDoorRx
namespace Go.Proofs.YtcbcfcokfjfffaaDoor
open Go.RowKit

/-- Where the reading of a list stands: the box of what is answered, the box of the list, the row of its items. -/
structure LS (w : World) (G g : Nat) (s : ByteArray) (bl : Bool) (k : Nat) (bd : Bool) (acc : List V) (rI : Value) (css : List (List Value)) (W : World) : Prop where
  went : RWent g s k bl bd w W
  far : w.heap.size + 1 ≤ G
  b0 : BlockIs W w.heap.size 25 zeroF
  bG : BlockIs W G 25 #[.int .i64 4, .int .i64 0, .string ⟨#[]⟩, rI, .slice none 0 0]
  items : W.ownsRow (G + 1) 25 5 rI acc.length css.flatten
  rows : RowsIn (Out (G + 1) [rI.ownBlock] W) W acc css
section
variable {w W W' w1 : World} {G g k k' : Nat} {s : ByteArray} {bl bd bd' : Bool} {acc : List V} {rI : Value} {css : List (List Value)}
theorem LS.step (h : LS w G g s bl k bd acc rI css W) (hg : g < w.heap.size) (hw : RWent g s k' bl bd' W W') : LS w G g s bl k' bd' acc rI css W' := by
  obtain ⟨h1, h2, h3, h4, h5, h6⟩ := h
  have hf := @out_far (G + 1) g [rI.ownBlock] W W' (by omega) hw.1
  exact ⟨h1.trans hw, h2, h3.grown hw.1 (by simp; omega), h4.grown hw.1 (by simp; omega), own_far h5 (by omega) hw.1, h6.keep hf.1 hf.2⟩
/-- Behind an item. -/
theorem LS.item {x : V} {A K : Option Addr} {c q g' cap : Nat} {W2 : World} (h : LS w G g s bl k bd acc rI css W) (hg : g < w.heap.size) (hw : RWent g s k' bl bd' W W') (hx : LiesIn (Fresh W W') W' x A c K q)
    (hal : W'.grownBy W2 none) (hgrow : W2.grownBy w1 rI.ownBlock) (hat : rI.ownBlock = some g' ∨ g' = W2.heap.size)
    (hown : w1.ownsRow (G + 1) 25 5 (.slice (some ⟨g', 0, none⟩) (acc.length + 1) cap) (acc.length + 1) (css.flatten ++ fieldsL x A c K q)) :
    LS w G g s bl k' bd' (acc ++ [x]) (.slice (some ⟨g', 0, none⟩) (acc.length + 1) cap) (css ++ [fieldsL x A c K q]) (w1.setCell ⟨G, 3, none⟩ (.slice (some ⟨g', 0, none⟩) (acc.length + 1) cap)) := by
  have hr0 := fun b hb => World.ownsRow.lt h.items b hb
  have hGW : G < W.heap.size := h.bG.lt
  have h2 := h.step hg hw
  obtain ⟨e1, e2, e3, e4, e5, e6⟩ := h2
  have hsz := hw.1.size
  have hs1 := hgrow.size
  have hs2 : W'.heap.size ≤ W2.heap.size := hal.size
  have hGr : some G ≠ rI.ownBlock := fun e => by have := (hr0 G e.symm).1; omega
  have hGg : ¬ G = g' := row_apart hat hGr (by omega)
  have hold : ∀ b, b < W'.heap.size → b ≠ G → some b ≠ rI.ownBlock → (w1.setCell ⟨G, 3, none⟩ (.slice (some ⟨g', 0, none⟩) (acc.length + 1) cap)).heap[b]? = W'.heap[b]? := by
    intro b hb h1 h2
    rw [Below.heap_setCell _ _ _ _ h1, hgrow.block b (by omega) h2, hal.block b hb (by simp)]
  have hsz3 : (w1.setCell ⟨G, 3, none⟩ (.slice (some ⟨g', 0, none⟩) (acc.length + 1) cap)).heap.size = w1.heap.size := by simp [World.setCell]
  have hlow : ∀ b, b < G + 1 → some b ≠ rI.ownBlock := fun b hb e => by have := (hr0 _ e.symm).1; omega
  have hkeep : ∀ b, G + 1 ≤ b → b < W'.heap.size → some b ≠ rI.ownBlock → Out (G + 1) [(Value.slice (some ⟨g', 0, none⟩) (acc.length + 1) cap).ownBlock] (w1.setCell ⟨G, 3, none⟩ (.slice (some ⟨g', 0, none⟩) (acc.length + 1) cap)) b ∧ ∀ o, (w1.setCell ⟨G, 3, none⟩ (.slice (some ⟨g', 0, none⟩) (acc.length + 1) cap)).cell? ⟨b, o, none⟩ = W'.cell? ⟨b, o, none⟩ := by
    intro b h1 h2 h3
    refine ⟨⟨h1, by rw [hsz3]; omega, fun f hf => ?_⟩, fun o => World.cell?_of_block (hold b h2 (by omega) h3)⟩
    rw [List.mem_singleton.1 hf]
    have := row_apart hat h3 (show b < W2.heap.size by omega)
    simpa [Value.ownBlock] using this
  have hfr : ∀ b, Fresh W W' b → G + 1 ≤ b ∧ b < W'.heap.size ∧ some b ≠ rI.ownBlock := fun b hb => ⟨by have := hb.1; omega, hb.2, fun e => by have := (hr0 b e.symm).2; have := hb.1; omega⟩
  have hR1 := e6.keep (P' := Out (G + 1) [(Value.slice (some ⟨g', 0, none⟩) (acc.length + 1) cap).ownBlock] (w1.setCell ⟨G, 3, none⟩ (.slice (some ⟨g', 0, none⟩) (acc.length + 1) cap))) (w' := w1.setCell ⟨G, 3, none⟩ (.slice (some ⟨g', 0, none⟩) (acc.length + 1) cap))
    (fun b o hb => (hkeep b hb.1 hb.2.1 (hb.2.2 _ (List.mem_singleton.2 rfl))).2 o) (fun b hb => (hkeep b hb.1 hb.2.1 (hb.2.2 _ (List.mem_singleton.2 rfl))).1)
  have hL' := LiesIn.keep (P' := Out (G + 1) [(Value.slice (some ⟨g', 0, none⟩) (acc.length + 1) cap).ownBlock] (w1.setCell ⟨G, 3, none⟩ (.slice (some ⟨g', 0, none⟩) (acc.length + 1) cap))) (w' := w1.setCell ⟨G, 3, none⟩ (.slice (some ⟨g', 0, none⟩) (acc.length + 1) cap))
    (fun b o hb => (hkeep b (hfr b hb).1 (hfr b hb).2.1 (hfr b hb).2.2).2 o) (fun b hb => (hkeep b (hfr b hb).1 (hfr b hb).2.1 (hfr b hb).2.2).1) x hx
  have hsw := e1.1.size
  refine ⟨⟨⟨?_, ?_, ?_, by rw [hsz3]; omega, fun b hb hne => ?_⟩, ?_⟩, e2, ?_, ?_, ?_, ?_⟩
  · exact (show (w1.setCell ⟨G, 3, none⟩ (.slice (some ⟨g', 0, none⟩) (acc.length + 1) cap)).os = w1.os by simp [World.setCell]).trans (hgrow.os.trans (hal.os.trans e1.1.os))
  · exact (show (w1.setCell ⟨G, 3, none⟩ (.slice (some ⟨g', 0, none⟩) (acc.length + 1) cap)).tape = w1.tape by simp [World.setCell]).trans (hgrow.tape.trans (hal.tape.trans e1.1.tape))
  · exact (show (w1.setCell ⟨G, 3, none⟩ (.slice (some ⟨g', 0, none⟩) (acc.length + 1) cap)).output = w1.output by simp [World.setCell]).trans (hgrow.output.trans (hal.output.trans e1.1.output))
  · rw [hold b (by omega) (by omega) (hlow b (by omega))]
    exact e1.1.block b hb hne
  · exact (hold g (by omega) (by omega) (hlow g (by omega))).trans e1.2
  · exact (hold _ (by omega) (by omega) (hlow _ (by omega))).trans e3
  · have h5 : BlockIs w1 G 25 #[.int .i64 4, .int .i64 0, .string ⟨#[]⟩, rI, .slice none 0 0] := (e4.grown hal (by simp)).grown hgrow hGr
    simpa using h5.set_ 3 (.slice (some ⟨g', 0, none⟩) (acc.length + 1) cap)
  · have := own_set_far hown ⟨G, 3, none⟩ (.slice (some ⟨g', 0, none⟩) (acc.length + 1) cap) (by simpa [Value.ownBlock] using hGg)
    rw [List.length_append, List.flatten_append]; simpa [fieldsL] using this
  · exact RowsIn.append (ys := [x]) (dss := [fieldsL x A c K q]) ⟨⟨A, c, K, q, rfl, hL'⟩, trivial⟩ hR1
/-- What is answered, where the list is. -/
theorem LS.done (h : LS w G g s bl k bd acc rI css W) (hg : g < w.heap.size) : ∃ A c, rI = .slice A acc.length c ∧ ∀ u0 u1 u2 u3 u4, LiesIn (Fresh w (put5 W w.heap.size 0 u0 u1 u2 u3 u4)) (put5 W w.heap.size 0 u0 u1 u2 u3 u4) (V.mk 4 0 ⟨#[]⟩ acc []) A c none 0 ∧ RWent g s k bl bd w (put5 W w.heap.size 0 u0 u1 u2 u3 u4) := by
  obtain ⟨h1, h2, h3, h4, h5, h6⟩ := h
  have hr : RowsIn (fun b => G + 1 ≤ b ∧ b < W.heap.size) W acc css := h6.keep (fun _ _ _ => rfl) (fun b hb => ⟨hb.1, hb.2.1⟩)
  obtain ⟨A, c, rfl, hc1, hc2, hA⟩ := rows_lie hr h5 (fun b hb => World.ownsRow.lt h5 b hb)
  have hL : LiesIn (fun b => G + 1 ≤ b ∧ b < W.heap.size) W (V.mk 4 0 ⟨#[]⟩ acc []) A c none 0 := by
    rw [LiesIn]
    exact ⟨by decide, hc1, hc2, ⟨Nat.le_refl _, by simp [maxLen], .inl rfl⟩, hA⟩
  refine ⟨A, c, rfl, fun u0 u1 u2 u3 u4 => ⟨?_, ?_⟩⟩
  · have hs := put5_size W w.heap.size 0 u0 u1 u2 u3 u4
    exact LiesIn.keep (fun b o hb => World.cell?_of_block (put5_heap W w.heap.size 0 u0 u1 u2 u3 u4 (by have := hb.1; show b ≠ w.heap.size; omega))) (fun b hb => ⟨by have := hb.1; omega, by rw [hs]; exact hb.2⟩) _ hL
  · exact ((((h1.set hg _ _ (by simp)).set hg _ _ (by simp)).set hg _ _ (by simp)).set hg _ _ (by simp)).set hg _ _ (by simp)
end
end Go.Proofs.YtcbcfcokfjfffaaDoor
