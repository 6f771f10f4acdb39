/- An item taken out of a value: plain; and out of a node. -/
import Derived.Test.YtchadlbhdcpojaaDoorTg
namespace Go.Proofs.YtchadlbhdcpojaaDoor
open Go.RowKit

/-- A value without the item of a step. -/
def delV (x : V) (s : Stp) : V := .mk x.kind x.int x.text (x.items.take (whereV x s) ++ x.items.drop (whereV x s + 1)) (if x.kind = 5 then x.keys.take (whereV x s) ++ x.keys.drop (whereV x s + 1) else x.keys)
/-- A value without what is at a path; whether there was anything. -/
def removeV : V → List Stp → V × Bool
  | x, [] => (x, false)
  | x, s :: r => if (findV x s).2 = true then (if r = [] then (delV x s, true) else (setIt x (whereV x s) (removeV (x.items.getD (whereV x s) nullV) r).1, (removeV (x.items.getD (whereV x s) nullV) r).2)) else (x, false)
theorem cut_ins {α : Type} {l : List α} {n : Nat} (h : n ≤ l.length) (a : α) : (l.take n ++ a :: l.drop n).take n ++ (l.take n ++ a :: l.drop n).drop (n + 1) = l := by
  have h1 : (l.take n).length = n := by rw [List.length_take]; omega
  have h2 : (l.take n ++ a :: l.drop n).drop (n + 1) = l.drop n := by
    rw [List.drop_append, List.drop_eq_nil_of_le (by omega), h1, show n + 1 - n = 1 by omega]
    rfl
  rw [List.take_left' h1, h2, List.take_append_drop]
theorem mk_eta (x : V) : V.mk x.kind x.int x.text x.items x.keys = x := by cases x; rfl
section
variable {W W' : World} {N g i : Nat} {t : TypeId} {pre post : List Value} {x : V} {vI vK v' : Value} {D : Nat → Prop}
theorem flat_del5 {L : List (List Value)} (h : ∀ cs ∈ L, cs.length = 5) (i : Nat) : (L.take i ++ L.drop (i + 1)).flatten = L.flatten.take (i * 5) ++ L.flatten.drop ((i + 1) * 5) := by
  rw [List.flatten_append, (flat_take5 i h).1, (flat_take5 (i + 1) h).2]
/-- A node whose items were laid anew without one. -/
theorem Node.delI (h : Node W N g t pre post x vI vK D) (hi : i < x.items.length) {css : List (List Value)} (htr : Trees W N x.items css (fun b => D b ∧ vI.ownBlock ≠ some b ∧ vK.ownBlock ≠ some b))
    (hown : W'.ownsRow W.heap.size 25 5 v' (x.items.length - 1) (css.flatten.take (i * 5) ++ css.flatten.drop ((i + 1) * 5))) (hb : Below W.heap.size W W') :
    Node (W'.setCell ⟨g, pre.length + 3, none⟩ v') N g t pre post (.mk x.kind x.int x.text (x.items.take i ++ x.items.drop (i + 1)) x.keys) v' vK (fun b => D b ∨ (W.heap.size ≤ b ∧ b < W'.heap.size)) ∧ Fr W (W'.setCell ⟨g, pre.length + 3, none⟩ v') g D := by
  obtain ⟨-, -, -, hk, hI, hK, htx, hks⟩ := h.rows
  have hgW := h.row.lt
  have hNW : N ≤ W.heap.size := by have := h.base; omega
  have hsz := hb.size
  have hv' := fun b hb' => World.ownsRow.lt hown b hb'
  have hstay : ∀ b, b < W.heap.size → b ≠ g → (W'.setCell ⟨g, pre.length + 3, none⟩ v').heap[b]? = W.heap[b]? := fun b hlt hbg => by
    rw [Below.heap_setCell _ _ _ _ hbg, hb.block b hlt]
  have hss : (W'.setCell ⟨g, pre.length + 3, none⟩ v').heap.size = W'.heap.size := by simp [World.setCell]
  have hng : ∀ b, D b → b ≠ g := fun b hd e => h.far (by rw [← e]; exact hd)
  refine ⟨⟨?_, ?_, ?_, ?_, h.base⟩, ⟨hb.os, hb.tape, hb.output, by rw [hss]; exact hsz, fun b hlt hbg _ => hstay b hlt hbg⟩⟩
  · have := block_set (h.row.below hb hgW) 3 (by simp [five]) v'
    simpa [five, mkK, mkN, mkT] using this
  · refine ⟨htx, hks, own_stays hk (fun b hb' => hstay b (h.low b (hK b hb').1).2 (hng b (hK b hb').1)), fun b hb' => .inr (hv' b hb'), fun b hb' => ⟨.inl (hK b hb').1, fun e => by have := (hv' b e).1; have := (h.low b (hK b hb').1).2; omega⟩, css.take i ++ css.drop (i + 1), ?_, ?_⟩
    · rw [flat_del5 htr.five, show (x.items.take i ++ x.items.drop (i + 1)).length = x.items.length - 1 by rw [List.length_append, List.length_take, List.length_drop]; omega]
      exact own_base (own_stays hown (fun b hb' => Below.heap_setCell _ _ _ _ (show b ≠ g by have := (hv' b hb').1; omega))) hNW
    · obtain ⟨E1, E2, h1, h2, h3, h4⟩ := htr.split i
      have hE : ∀ b, D b ∧ vI.ownBlock ≠ some b ∧ vK.ownBlock ≠ some b → (W'.setCell ⟨g, pre.length + 3, none⟩ v').heap[b]? = W.heap[b]? := fun b hb' => hstay b (h.low b hb'.1).2 (hng b hb'.1)
      have hnew : ∀ b, D b ∧ vI.ownBlock ≠ some b ∧ vK.ownBlock ≠ some b → (D b ∨ (W.heap.size ≤ b ∧ b < W'.heap.size)) ∧ v'.ownBlock ≠ some b ∧ vK.ownBlock ≠ some b := fun b hb' => ⟨.inl hb'.1, fun e => by have := (hv' b e).1; have := (h.low b hb'.1).2; omega, hb'.2.2⟩
      obtain ⟨F1, F2, f1, f2, f3, f4⟩ := h2.split 1
      rw [List.drop_drop, List.drop_drop] at f2
      exact Trees.append (f2.keep _ (fun b hb' => hE b (h4 b (f4 b hb'))) fun _ h => h) (h1.keep _ (fun b hb' => hE b (h3 b hb').1) fun _ h => h) (fun b hb' => ⟨hnew b (h3 b hb').1, fun e => (h3 b hb').2 (f4 b e)⟩) (fun b hb' => hnew b (h4 b (f4 b hb')))
  · rintro (hd | hd)
    · exact h.far hd
    · omega
  · rintro b (hd | hd)
    · exact ⟨(h.low b hd).1, by rw [hss]; have := (h.low b hd).2; omega⟩
    · exact ⟨by omega, by rw [hss]; exact hd.2⟩
/-- A node whose keys were laid anew without one. -/
theorem Node.delK (h : Node W N g t pre post x vI vK D) (hi : i < x.keys.length)
    (hown : W'.ownsRow W.heap.size 9 1 v' (x.keys.length - 1) ((x.keys.map Value.string).take (i * 1) ++ (x.keys.map Value.string).drop ((i + 1) * 1))) (hb : Below W.heap.size W W') :
    Node (W'.setCell ⟨g, pre.length + 4, none⟩ v') N g t pre post (.mk x.kind x.int x.text x.items (x.keys.take i ++ x.keys.drop (i + 1))) vI v' (fun b => D b ∨ (W.heap.size ≤ b ∧ b < W'.heap.size)) ∧ Fr W (W'.setCell ⟨g, pre.length + 4, none⟩ v') g D := by
  obtain ⟨css, hcs, htr, hk, hI, hK, htx, hks⟩ := h.rows
  have hgW := h.row.lt
  have hNW : N ≤ W.heap.size := by have := h.base; omega
  have hsz := hb.size
  have hv' := fun b hb' => World.ownsRow.lt hown b hb'
  have hstay : ∀ b, b < W.heap.size → b ≠ g → (W'.setCell ⟨g, pre.length + 4, none⟩ v').heap[b]? = W.heap[b]? := fun b hlt hbg => by
    rw [Below.heap_setCell _ _ _ _ hbg, hb.block b hlt]
  have hss : (W'.setCell ⟨g, pre.length + 4, none⟩ v').heap.size = W'.heap.size := by simp [World.setCell]
  have hng : ∀ b, D b → b ≠ g := fun b hd e => h.far (by rw [← e]; exact hd)
  refine ⟨⟨?_, ?_, ?_, ?_, h.base⟩, ⟨hb.os, hb.tape, hb.output, by rw [hss]; exact hsz, fun b hlt hbg _ => hstay b hlt hbg⟩⟩
  · have := block_set (h.row.below hb hgW) 4 (by simp [five]) v'
    simpa [five, mkK, mkN, mkT] using this
  · refine ⟨htx, fun q hq => ?_, ?_, fun b hb' => .inl (hI b hb'), fun b hb' => ⟨.inr (hv' b hb'), fun e => by have := (hv' b hb').1; have := (h.low b (hI b e)).2; omega⟩, css, own_stays hcs (fun b hb' => hstay b (h.low b (hI b hb')).2 (hng b (hI b hb'))), htr.keep _ (fun b hb' => hstay b (h.low b hb'.1).2 (hng b hb'.1)) (fun b hb' => ⟨.inl hb'.1, hb'.2.1, fun e => by have := (hv' b e).1; have := (h.low b hb'.1).2; omega⟩)⟩
    · rcases List.mem_append.1 hq with hq | hq
      · exact hks q (List.mem_of_mem_take hq)
      · exact hks q (List.mem_of_mem_drop hq)
    · have e1 : (x.keys.take i ++ x.keys.drop (i + 1)).length = x.keys.length - 1 := by rw [List.length_append, List.length_take, List.length_drop]; omega
      have e2 : (x.keys.take i ++ x.keys.drop (i + 1)).map Value.string = (x.keys.map Value.string).take (i * 1) ++ (x.keys.map Value.string).drop ((i + 1) * 1) := by simp [List.map_take, List.map_drop]
      rw [e1, e2]
      exact own_base (own_stays hown (fun b hb' => Below.heap_setCell _ _ _ _ (show b ≠ g by have := (hv' b hb').1; omega))) hNW
  · rintro (hd | hd)
    · exact h.far hd
    · omega
  · rintro b (hd | hd)
    · exact ⟨(h.low b hd).1, by rw [hss]; have := (h.low b hd).2; omega⟩
    · exact ⟨by omega, by rw [hss]; exact hd.2⟩
end
end Go.Proofs.YtchadlbhdcpojaaDoor
