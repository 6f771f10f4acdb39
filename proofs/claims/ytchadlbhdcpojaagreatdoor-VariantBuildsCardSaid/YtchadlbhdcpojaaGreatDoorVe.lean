/- A value copied: its keys appended onto nothing. -/
import Derived.Test.YtchadlbhdcpojaaGreatDoorVc
import Derived.Deep.Upon
import Derived.Deep.AppendLies
namespace Go.Proofs.YtchadlbhdcpojaaGreatDoor
open Go.RowKit

/-- Where the copying of a value stands: the box of the copy, the box of what is answered, what hangs on the copy. -/
structure CS (w : World) (x : V) (K' : Option Addr) (d' : Nat) (acc : List V) (rI : Value) (css : List (List Value)) (W : World) : Prop where
  old : Below w.heap.size w W
  bv : BlockIs W w.heap.size 27 #[.int .i64 x.kind, .int .i64 x.int, .string x.text, rI, .slice K' x.keys.length d']
  br : BlockIs W (w.heap.size + 1) 27 zeroF
  items : W.ownsRow (w.heap.size + 2) 27 5 rI acc.length css.flatten
  rows : RowsIn (Out (w.heap.size + 2) [rI.ownBlock] W) W acc css
  keys : StrsIn (Out (w.heap.size + 2) [rI.ownBlock] W) W K' d' x.keys
section
variable {w W W' Wb w1 w5 : World} {x y : V} {K' A K : Option Addr} {d' c q g' cap : Nat} {acc : List V} {rI : Value} {css : List (List Value)}
theorem CS.below (h : CS w x K' d' acc rI css W) (hb : Below W.heap.size W W') : CS w x K' d' acc rI css W' := by
  obtain ⟨h1, h2, h3, h4, h5, h6⟩ := h
  have hw := grown_none hb
  have ho : ∀ b, Out (w.heap.size + 2) [rI.ownBlock] W b → Out (w.heap.size + 2) [rI.ownBlock] W' b := fun b h => h.mono hb.size
  have hc : ∀ b o, Out (w.heap.size + 2) [rI.ownBlock] W b → W'.cell? ⟨b, o, none⟩ = W.cell? ⟨b, o, none⟩ := fun b o h => bcell hb b o h.2.1
  refine ⟨below_on h1 hb, h2.below hb h2.lt, h3.below hb h3.lt, World.ownsRow.kept h4 hw ?_, h5.keep hc ho, h6.keep hc ho⟩
  cases rI.ownBlock
  · exact .inl rfl
  · exact .inr (by simp)
/-- Behind an item. -/
theorem CS.item (h0 : CS w x K' d' acc rI css W) (hb : Below W.heap.size W w1) (hy : LiesIn (Fresh W w1) w1 y A c K q)
    (hal : w1.grownBy Wb none) (hgrow : Wb.grownBy w5 rI.ownBlock) (hat : rI.ownBlock = some g' ∨ g' = Wb.heap.size)
    (hown : w5.ownsRow (w.heap.size + 2) 27 5 (.slice (some ⟨g', 0, none⟩) (acc.length + 1) cap) (acc.length + 1) (css.flatten ++ fieldsL y A c K q)) :
    CS w x K' d' (acc ++ [y]) (.slice (some ⟨g', 0, none⟩) (acc.length + 1) cap) (css ++ [fieldsL y A c K q]) (w5.setCell ⟨w.heap.size, 3, none⟩ (.slice (some ⟨g', 0, none⟩) (acc.length + 1) cap)) := by
  have hr0 := fun b hb => World.ownsRow.lt h0.items b hb
  have hGW : w.heap.size + 1 < W.heap.size := h0.br.lt
  have h := h0.below hb
  obtain ⟨e1, e3, e4, e5, e6, e7⟩ := h
  have hsz := hb.size
  have hs1 := hgrow.size
  have hs2 : w1.heap.size ≤ Wb.heap.size := hal.size
  have hGr : some w.heap.size ≠ rI.ownBlock := fun e => by have := (hr0 w.heap.size e.symm).1; omega
  have hGg : ¬ w.heap.size = g' := row_apart hat hGr (by omega)
  have hold : ∀ b, b < w1.heap.size → b ≠ w.heap.size → some b ≠ rI.ownBlock → (w5.setCell ⟨w.heap.size, 3, none⟩ (.slice (some ⟨g', 0, none⟩) (acc.length + 1) cap)).heap[b]? = w1.heap[b]? := by
    intro b hb h1 h2
    rw [Below.heap_setCell _ _ _ _ h1, hgrow.block b (by omega) h2, hal.block b hb (by simp)]
  have hsz3 : (w5.setCell ⟨w.heap.size, 3, none⟩ (.slice (some ⟨g', 0, none⟩) (acc.length + 1) cap)).heap.size = w5.heap.size := by simp [World.setCell]
  have hlow : ∀ b, b < w.heap.size + 2 → some b ≠ rI.ownBlock := fun b hb e => by have := (hr0 _ e.symm).1; omega
  have hkeep : ∀ b, w.heap.size + 2 ≤ b → b < w1.heap.size → some b ≠ rI.ownBlock → Out (w.heap.size + 2) [(Value.slice (some ⟨g', 0, none⟩) (acc.length + 1) cap).ownBlock] (w5.setCell ⟨w.heap.size, 3, none⟩ (.slice (some ⟨g', 0, none⟩) (acc.length + 1) cap)) b ∧ ∀ o, (w5.setCell ⟨w.heap.size, 3, none⟩ (.slice (some ⟨g', 0, none⟩) (acc.length + 1) cap)).cell? ⟨b, o, none⟩ = w1.cell? ⟨b, o, none⟩ := by
    intro b h1 h2 h3
    refine ⟨⟨h1, by rw [hsz3]; omega, fun f hf => ?_⟩, fun o => World.cell?_of_block (hold b h2 (by omega) h3)⟩
    rw [List.mem_singleton.1 hf]
    have := row_apart hat h3 (show b < Wb.heap.size by omega)
    simpa [Value.ownBlock] using this
  have hfr : ∀ b, Fresh W w1 b → w.heap.size + 2 ≤ b ∧ b < w1.heap.size ∧ some b ≠ rI.ownBlock := fun b hb => ⟨by have := hb.1; omega, hb.2, fun e => by have := (hr0 b e.symm).2; have := hb.1; omega⟩
  have hO : ∀ b, Out (w.heap.size + 2) [rI.ownBlock] w1 b → Out (w.heap.size + 2) [(Value.slice (some ⟨g', 0, none⟩) (acc.length + 1) cap).ownBlock] (w5.setCell ⟨w.heap.size, 3, none⟩ (.slice (some ⟨g', 0, none⟩) (acc.length + 1) cap)) b ∧ ∀ o, (w5.setCell ⟨w.heap.size, 3, none⟩ (.slice (some ⟨g', 0, none⟩) (acc.length + 1) cap)).cell? ⟨b, o, none⟩ = w1.cell? ⟨b, o, none⟩ :=
    fun b hb => hkeep b hb.1 hb.2.1 (hb.2.2 _ (List.mem_singleton.2 rfl))
  have hR1 := e6.keep (P' := Out (w.heap.size + 2) [(Value.slice (some ⟨g', 0, none⟩) (acc.length + 1) cap).ownBlock] (w5.setCell ⟨w.heap.size, 3, none⟩ (.slice (some ⟨g', 0, none⟩) (acc.length + 1) cap))) (fun b o hb => (hO b hb).2 o) (fun b hb => (hO b hb).1)
  have hK1 := e7.keep (P' := Out (w.heap.size + 2) [(Value.slice (some ⟨g', 0, none⟩) (acc.length + 1) cap).ownBlock] (w5.setCell ⟨w.heap.size, 3, none⟩ (.slice (some ⟨g', 0, none⟩) (acc.length + 1) cap))) (fun b o hb => (hO b hb).2 o) (fun b hb => (hO b hb).1)
  have hL' := LiesIn.keep (P' := Out (w.heap.size + 2) [(Value.slice (some ⟨g', 0, none⟩) (acc.length + 1) cap).ownBlock] (w5.setCell ⟨w.heap.size, 3, none⟩ (.slice (some ⟨g', 0, none⟩) (acc.length + 1) cap))) (w' := w5.setCell ⟨w.heap.size, 3, none⟩ (.slice (some ⟨g', 0, none⟩) (acc.length + 1) cap))
    (fun b o hb => (hkeep b (hfr b hb).1 (hfr b hb).2.1 (hfr b hb).2.2).2 o) (fun b hb => (hkeep b (hfr b hb).1 (hfr b hb).2.1 (hfr b hb).2.2).1) y hy
  have hsw := e1.size
  refine ⟨⟨?_, ?_, ?_, by rw [hsz3]; omega, fun b hb => ?_⟩, ?_, ?_, ?_, ?_, hK1⟩
  · exact (show (w5.setCell ⟨w.heap.size, 3, none⟩ (.slice (some ⟨g', 0, none⟩) (acc.length + 1) cap)).os = w5.os by simp [World.setCell]).trans (hgrow.os.trans (hal.os.trans e1.os))
  · exact (show (w5.setCell ⟨w.heap.size, 3, none⟩ (.slice (some ⟨g', 0, none⟩) (acc.length + 1) cap)).tape = w5.tape by simp [World.setCell]).trans (hgrow.tape.trans (hal.tape.trans e1.tape))
  · exact (show (w5.setCell ⟨w.heap.size, 3, none⟩ (.slice (some ⟨g', 0, none⟩) (acc.length + 1) cap)).output = w5.output by simp [World.setCell]).trans (hgrow.output.trans (hal.output.trans e1.output))
  · rw [hold b (by omega) (by omega) (hlow b (by omega))]
    exact e1.block b hb
  · have h5 : BlockIs w5 w.heap.size 27 #[.int .i64 x.kind, .int .i64 x.int, .string x.text, rI, .slice K' x.keys.length d'] := (e3.grown hal (by simp)).grown hgrow hGr
    simpa using h5.set_ 3 (.slice (some ⟨g', 0, none⟩) (acc.length + 1) cap)
  · exact (hold _ (by omega) (by omega) (hlow _ (by omega))).trans e4
  · have := own_set_far hown ⟨w.heap.size, 3, none⟩ (.slice (some ⟨g', 0, none⟩) (acc.length + 1) cap) (by simpa [Value.ownBlock] using hGg)
    rw [List.length_append, List.flatten_append]; simpa [fieldsL] using this
  · exact RowsIn.append (ys := [y]) (dss := [fieldsL y A c K q]) ⟨⟨A, c, K, q, rfl, hL'⟩, trivial⟩ hR1
/-- What is answered. -/
theorem CS.done (h : CS w x K' d' acc rI css W) (ha : acc = x.items) (ht : x.text.size ≤ maxLen) : ∃ A c, rI = .slice A x.items.length c ∧ ∀ u0 u1 u2 u3 u4, LiesIn (Fresh w (put5 W (w.heap.size + 1) 0 u0 u1 u2 u3 u4)) (put5 W (w.heap.size + 1) 0 u0 u1 u2 u3 u4) x A c K' d' ∧ Below w.heap.size w (put5 W (w.heap.size + 1) 0 u0 u1 u2 u3 u4) := by
  subst ha
  obtain ⟨h1, h2, h3, h4, h5, h6⟩ := h
  have hr : RowsIn (fun b => w.heap.size + 2 ≤ b ∧ b < W.heap.size) W x.items css := h5.keep (fun _ _ _ => rfl) (fun b hb => ⟨hb.1, hb.2.1⟩)
  obtain ⟨A, c, rfl, hc1, hc2, hA⟩ := rows_lie hr h4 (fun b hb => World.ownsRow.lt h4 b hb)
  have hL : LiesIn (fun b => w.heap.size + 2 ≤ b ∧ b < W.heap.size) W x A c K' d' := by
    obtain ⟨k, i, t, l, ks⟩ := x
    rw [LiesIn]
    exact ⟨ht, hc1, hc2, h6.keep (fun _ _ _ => rfl) (fun b hb => ⟨hb.1, hb.2.1⟩), hA⟩
  refine ⟨A, c, rfl, fun u0 u1 u2 u3 u4 => ⟨?_, ?_⟩⟩
  · have hs := put5_size W (w.heap.size + 1) 0 u0 u1 u2 u3 u4
    exact LiesIn.keep (fun b o hb => World.cell?_of_block (put5_heap W (w.heap.size + 1) 0 u0 u1 u2 u3 u4 (by have := hb.1; show b ≠ w.heap.size + 1; omega))) (fun b hb => ⟨by have := hb.1; omega, by rw [hs]; exact hb.2⟩) _ hL
  · exact ((((h1.setCell (by simp) _).setCell (by simp) _).setCell (by simp) _).setCell (by simp) _).setCell (by simp) _
end
end Go.Proofs.YtchadlbhdcpojaaGreatDoor
