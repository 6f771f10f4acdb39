/- Reading: an object: how far it is read. -/
import Derived.Test.YtoddlacfbeckiaaDoorWu
import Derived.Test.YtoddlacfbeckiaaDoorWq
namespace Go.Proofs.YtoddlacfbeckiaaDoor
open Go.RowKit

theorem rows_one {P : Nat → Prop} {w : World} : ∀ {xs : List V} {css : List (List Value)}, RowsIn P w xs css → ∀ u ∈ css.flatten, u.oneCell' = true
  | [], [], _, u, h => by simp at h
  | _ :: _, _ :: _, h, u, hu => by
    obtain ⟨⟨A, c, K, d, rfl, _⟩, h2⟩ := h
    rw [List.flatten_cons, List.mem_append] at hu
    rcases hu with hu | hu
    · simp only [fieldsL, List.mem_cons, List.not_mem_nil, or_false] at hu
      rcases hu with rfl | rfl | rfl | rfl | rfl <;> rfl
    · exact rows_one h2 u hu
  | [], _ :: _, h, _, _ => h.elim
  | _ :: _, [], h, _, _ => h.elim
/-- Behind an insertion and the store of the new slice. -/
theorem put_done {w3 w1 : World} {N vb j size n i : Nat} {e t : TypeId} {v v' : Value} {xs cs : List Value} {cells : Array Value} (hp : Put w3 N e size v n i xs cs (.returned v') w1) (hv : ∀ b, v.ownBlock = some b → N ≤ b) (hb : Blk w3 vb t cells) (hvb : vb < N) (hN : N ≤ w3.heap.size) :
    (w1.setCell ⟨vb, j, none⟩ v').ownsRow N e size v' (n + 1) (xs.take (i * size) ++ cs ++ xs.drop (i * size)) ∧ Blk (w1.setCell ⟨vb, j, none⟩ v') vb t (cells.setIfInBounds j v') ∧
      (∀ b, b < w3.heap.size → b ≠ vb → some b ≠ v.ownBlock → (w1.setCell ⟨vb, j, none⟩ v').heap[b]? = w3.heap[b]?) ∧ w3.heap.size ≤ (w1.setCell ⟨vb, j, none⟩ v').heap.size ∧ (w1.setCell ⟨vb, j, none⟩ v').os = w3.os ∧ (w1.setCell ⟨vb, j, none⟩ v').tape = w3.tape ∧ (w1.setCell ⟨vb, j, none⟩ v').output = w3.output ∧
      (∀ b, b < w3.heap.size → some b ≠ v.ownBlock → some b ≠ v'.ownBlock) := by
  obtain ⟨v'', he, hown, hg, hwh⟩ := hp
  cases he
  have hne : some vb ≠ v.ownBlock := fun e => by have := hv _ e.symm; omega
  have hne' : some vb ≠ v'.ownBlock := fun e => by have := (World.ownsRow.lt hown _ e.symm).1; omega
  refine ⟨own_set_far hown _ _ hne', (hb.grown hg hne).set_ j v', fun b h1 h2 h3 => ?_, ?_, hg.os, hg.tape, hg.output, fun b h1 h2 => row_where hwh h2 h1⟩
  · rw [Below.heap_setCell _ _ _ _ h2]; exact hg.block b h1 h3
  · simpa [World.setCell] using hg.size
theorem own_apart {w : World} {N N' e e' size size' n n' : Nat} {v v' : Value} {xs xs' : List Value} (h : w.ownsRow N e size v n xs) (h' : w.ownsRow N' e' size' v' n' xs') (he : e ≠ e') {b : Nat} (hb : v.ownBlock = some b) : some b ≠ v'.ownBlock := by
  obtain ⟨_, ⟨rfl, _⟩ | ⟨g, cap, cur, rfl, _, hg, _⟩⟩ := h
  · cases hb
  · obtain ⟨_, ⟨rfl, _⟩ | ⟨g', cap', cur', rfl, _, hg', _⟩⟩ := h'
    · simp [Value.ownBlock]
    · intro e1
      simp only [Value.ownBlock, Option.some.injEq] at hb e1
      subst hb
      subst e1
      rw [hg] at hg'
      injection hg' with hg'
      injection hg' with _ ht
      exact he ht

def OInvR (w : World) (g : Nat) (d : Int) (st : List ByteArray × List V) (n : Nat) (rowK rowI : Value) (css : List (List Value)) (W : World) : Prop :=
  w.grownBy W (some g) ∧ w.heap.size + 4 ≤ W.heap.size ∧ Blk W w.heap.size 63 #[.pointer (some ⟨g, 0, none⟩)] ∧ Blk W (w.heap.size + 1) 3 #[.int .i64 d] ∧ Blk W (w.heap.size + 2) 25 zeroF ∧ (st.2.length ≤ n ∧ st.1.length = st.2.length ∧ Rising st.1 ∧ ∀ k ∈ st.1, k.size ≤ maxLen) ∧
    Blk W (w.heap.size + 3) 25 #[.int .i64 5, .int .i64 0, .string ⟨#[]⟩, rowI, rowK] ∧ W.ownsRow (w.heap.size + 4) 9 1 rowK st.1.length (st.1.map .string) ∧ W.ownsRow (w.heap.size + 4) 25 5 rowI st.2.length css.flatten ∧ RowsIn (Out (w.heap.size + 4) [rowK.ownBlock, rowI.ownBlock] W) W st.2 css
def OInv (w : World) (g : Nat) (d : Int) (st : List ByteArray × List V) (n : Nat) (W : World) : Prop := ∃ rowK rowI css, OInvR w g d st n rowK rowI css W
theorem OInvR.keep {w : World} {g : Nat} {d : Int} {st : List ByteArray × List V} {n n' : Nat} {rowK rowI : Value} {css : List (List Value)} {W W' : World} (h : OInvR w g d st n rowK rowI css W) (hg : g < w.heap.size) (hw : W.grownBy W' (some g)) (hn : n ≤ n') : OInvR w g d st n' rowK rowI css W' := by
  obtain ⟨h1, h2, h3, h4, h5, h6, h7, h8, h9, h10⟩ := h
  have hf := @out_far (w.heap.size + 4) g [rowK.ownBlock, rowI.ownBlock] W W' (by omega) hw
  exact ⟨grow_trans h1 hw, Nat.le_trans h2 hw.size, h3.grown hw (by simp; omega), h4.grown hw (by simp; omega), h5.grown hw (by simp; omega), ⟨Nat.le_trans h6.1 hn, h6.2⟩, h7.grown hw (by simp; omega), own_far h8 (by omega) hw, own_far h9 (by omega) hw, h10.keep hf.1 hf.2⟩
theorem OInv.keep {w : World} {g : Nat} {d : Int} {st : List ByteArray × List V} {n n' : Nat} {W W' : World} (h : OInv w g d st n W) (hg : g < w.heap.size) (hw : W.grownBy W' (some g)) (hn : n ≤ n') : OInv w g d st n' W' := by
  obtain ⟨rowK, rowI, css, h⟩ := h
  exact ⟨rowK, rowI, css, h.keep hg hw hn⟩
theorem ins_len {α : Type} (l : List α) (i : Nat) (x : α) (h : i ≤ l.length) : (l.take i ++ x :: l.drop i).length = l.length + 1 := by
  simp; omega
/-- Behind an item of an object. -/
theorem obj_end {w W0 W3 W4 W5 W6 W8 W9 : World} {g : Nat} {d : Int} {st : List ByteArray × List V} {n n' k' : Nat} {s : ByteArray} {rowK rowI rowK' rowI' : Value} {css : List (List Value)} {x : V} {A K : Option Addr} {c q : Nat} {key : ByteArray} (hg : g < w.heap.size) (hI : OInvR w g d st n rowK rowI css W0) (hn : n < n')
    (h4 : W0.grownBy W4 (some g)) (hP : PAt W4 g s k' n') (hs3 : W0.heap.size ≤ W3.heap.size) (hL : LiesIn (Fresh W3 W4) W4 x A c K q) (hkey : ¬ key ∈ st.1) (hks : key.size ≤ maxLen)
    (h5 : W4.grownBy W5 none) (hp6 : Put W5 (w.heap.size + 4) 9 1 rowK st.1.length (posK key st.1) (st.1.map .string) [.string key] (.returned rowK') W6)
    (h8 : (W6.setCell ⟨w.heap.size + 3, 4, none⟩ rowK').grownBy W8 none) (hp9 : Put W8 (w.heap.size + 4) 25 5 rowI st.2.length (posK key st.1) css.flatten (fieldsL x A c K q) (.returned rowI') W9) :
    OInv w g d (insK st key x) n' (W9.setCell ⟨w.heap.size + 3, 3, none⟩ rowI') ∧ PAt (W9.setCell ⟨w.heap.size + 3, 3, none⟩ rowI') g s k' n' := by
  have hI4 := hI.keep hg h4 (Nat.le_of_lt hn)
  have hrK : ∀ b, rowK.ownBlock = some b → w.heap.size + 4 ≤ b ∧ b < W0.heap.size := fun b hb => World.ownsRow.lt hI.2.2.2.2.2.2.2.1 b hb
  have hrI : ∀ b, rowI.ownBlock = some b → w.heap.size + 4 ≤ b ∧ b < W0.heap.size := fun b hb => World.ownsRow.lt hI.2.2.2.2.2.2.2.2.1 b hb
  have hIs := hI.2.2.2.2.2.1
  have hs0 := hI.2.1
  clear hI
  obtain ⟨e1, e2, e3, e4, e5, e6, e7, e8, e9, e10⟩ := hI4
  have s5 := h5.size
  have b5 := e7.grown h5 (by simp)
  obtain ⟨o1, o2, o3, o4, o5, o6, o7, o8⟩ := put_done (j := 4) hp6 (fun b hb => (hrK b hb).1) b5 (by omega) (by omega)
  have s8 := h8.size
  have b8 : Blk W8 (w.heap.size + 3) 25 #[.int .i64 5, .int .i64 0, .string ⟨#[]⟩, rowI, rowK'] := by
    have := o2.grown h8 (by simp)
    simpa using this
  obtain ⟨q1, q2, q3, q4, q5, q6, q7, q8⟩ := put_done (j := 3) hp9 (fun b hb => (hrI b hb).1) b8 (by omega) (by omega)
  have hs4 := h4.size
  -- what was there behind the value is there at the end
  have hold : ∀ b, b < W4.heap.size → b ≠ w.heap.size + 3 → some b ≠ rowK.ownBlock → some b ≠ rowI.ownBlock → (W9.setCell ⟨w.heap.size + 3, 3, none⟩ rowI').heap[b]? = W4.heap[b]? := by
    intro b hb h1 h2 h3
    rw [q3 b (by omega) h1 h3, h8.block b (by omega) (by simp), o3 b (by omega) h1 h2, h5.block b hb (by simp)]
  have hlowK : ∀ b, b < w.heap.size + 4 → some b ≠ rowK.ownBlock := fun b hb e => by have := (hrK _ e.symm).1; omega
  have hlowI : ∀ b, b < w.heap.size + 4 → some b ≠ rowI.ownBlock := fun b hb e => by have := (hrI _ e.symm).1; omega
  have hG : w.grownBy (W9.setCell ⟨w.heap.size + 3, 3, none⟩ rowI') (some g) := by
    refine ⟨q5.trans (h8.os.trans (o5.trans (h5.os.trans e1.os))), q6.trans (h8.tape.trans (o6.trans (h5.tape.trans e1.tape))), q7.trans (h8.output.trans (o7.trans (h5.output.trans e1.output))), by omega, fun b hb hne => ?_⟩
    rw [hold b (by omega) (by omega) (hlowK b (by omega)) (hlowI b (by omega))]
    exact e1.block b hb hne
  have hKI : ∀ b, rowI.ownBlock = some b → some b ≠ rowK'.ownBlock := fun b hb => o8 b (by have := (hrI b hb).2; omega) (own_apart e9 e8 (by decide) hb)
  have hne9 : rowK'.ownBlock = none ∨ rowK'.ownBlock ≠ rowI.ownBlock := by
    rcases hk : rowK'.ownBlock with _ | b
    · exact .inl rfl
    · exact .inr fun e => (hKI b e.symm) hk.symm
  have hlowK' : some (w.heap.size + 3) ≠ rowK'.ownBlock := fun e => by have := (World.ownsRow.lt o1 _ e.symm).1; omega
  have hK9 : (W9.setCell ⟨w.heap.size + 3, 3, none⟩ rowI').ownsRow (w.heap.size + 4) 9 1 rowK' (st.1.length + 1) ((st.1.map .string).take (posK key st.1 * 1) ++ [.string key] ++ (st.1.map .string).drop (posK key st.1 * 1)) := by
    have o1' := o1.kept h8 (by cases rowK'.ownBlock <;> simp)
    obtain ⟨v'', _, _, hg9, _⟩ := hp9
    exact own_set_far (o1'.kept hg9 hne9) _ _ hlowK'
  have hkeep : ∀ b, w.heap.size + 4 ≤ b → b < W4.heap.size → some b ≠ rowK.ownBlock → some b ≠ rowI.ownBlock → Out (w.heap.size + 4) [rowK'.ownBlock, rowI'.ownBlock] (W9.setCell ⟨w.heap.size + 3, 3, none⟩ rowI') b ∧ ∀ o, (W9.setCell ⟨w.heap.size + 3, 3, none⟩ rowI').cell? ⟨b, o, none⟩ = W4.cell? ⟨b, o, none⟩ := by
    intro b h1 h2 h3 h4'
    refine ⟨⟨h1, by omega, fun f hf => ?_⟩, fun o => World.cell?_of_block (hold b h2 (by omega) h3 h4')⟩
    rcases List.mem_cons.1 hf with rfl | hf
    · exact o8 b (by omega) h3
    · rw [List.mem_singleton.1 hf]; exact q8 b (by omega) h4'
  have hout : ∀ b, Out (w.heap.size + 4) [rowK.ownBlock, rowI.ownBlock] W4 b → w.heap.size + 4 ≤ b ∧ b < W4.heap.size ∧ some b ≠ rowK.ownBlock ∧ some b ≠ rowI.ownBlock := fun b hb => ⟨hb.1, hb.2.1, hb.2.2 _ (by simp), hb.2.2 _ (by simp)⟩
  have hR1 : RowsIn (Out (w.heap.size + 4) [rowK'.ownBlock, rowI'.ownBlock] (W9.setCell ⟨w.heap.size + 3, 3, none⟩ rowI')) (W9.setCell ⟨w.heap.size + 3, 3, none⟩ rowI') st.2 css :=
    e10.keep (fun b o hb => (hkeep b (hout b hb).1 (hout b hb).2.1 (hout b hb).2.2.1 (hout b hb).2.2.2).2 o) (fun b hb => (hkeep b (hout b hb).1 (hout b hb).2.1 (hout b hb).2.2.1 (hout b hb).2.2.2).1)
  have hfr : ∀ b, Fresh W3 W4 b → w.heap.size + 4 ≤ b ∧ b < W4.heap.size ∧ some b ≠ rowK.ownBlock ∧ some b ≠ rowI.ownBlock := fun b hb => ⟨by have := hb.1; omega, hb.2, fun e => by have := (hrK b e.symm).2; have := hb.1; omega, fun e => by have := (hrI b e.symm).2; have := hb.1; omega⟩
  have hL' := LiesIn.keep (P' := Out (w.heap.size + 4) [rowK'.ownBlock, rowI'.ownBlock] (W9.setCell ⟨w.heap.size + 3, 3, none⟩ rowI')) (w' := W9.setCell ⟨w.heap.size + 3, 3, none⟩ rowI') (fun b o hb => (hkeep b (hfr b hb).1 (hfr b hb).2.1 (hfr b hb).2.2.1 (hfr b hb).2.2.2).2 o) (fun b hb => (hkeep b (hfr b hb).1 (hfr b hb).2.1 (hfr b hb).2.2.1 (hfr b hb).2.2.2).1) x hL
  have hpos : posK key st.1 ≤ st.1.length := posK_le _ _
  have hlK : (insK st key x).1.length = st.1.length + 1 := ins_len _ _ _ hpos
  have hlI : (insK st key x).2.length = st.2.length + 1 := ins_len _ _ _ (by omega)
  have hat : ∀ b, b < w.heap.size + 3 → (W9.setCell ⟨w.heap.size + 3, 3, none⟩ rowI').heap[b]? = W4.heap[b]? := fun b hb => hold b (by omega) (by omega) (hlowK b (by omega)) (hlowI b (by omega))
  refine ⟨⟨rowK', rowI', css.take (posK key st.1) ++ fieldsL x A c K q :: css.drop (posK key st.1), hG, by omega, (hat _ (by omega)).trans e3, (hat _ (by omega)).trans e4, (hat _ (by omega)).trans e5, ⟨?_, ?_, rising_ins hIs.2.2.1 hkey, ?_⟩, ?_, ?_, ?_, ?_⟩, (hat g (by omega)).trans hP⟩
  · rw [hlI]; omega
  · rw [hlK, hlI]; omega
  · intro k hk
    rcases List.mem_append.1 hk with hk | hk
    · exact hIs.2.2.2 k (List.mem_of_mem_take hk)
    · rcases List.mem_cons.1 hk with rfl | hk
      · exact hks
      · exact hIs.2.2.2 k (List.mem_of_mem_drop hk)
  · simpa using q2
  · rw [hlK, show (insK st key x).1.map Value.string = (st.1.map .string).take (posK key st.1 * 1) ++ [.string key] ++ (st.1.map .string).drop (posK key st.1 * 1) by simp [insK, List.map_take, List.map_drop]]
    exact hK9
  · rw [hlI, e10.flat_ins]
    exact q1
  · exact hR1.ins (posK key st.1) ⟨A, c, K, q, rfl, hL'⟩
end Go.Proofs.YtoddlacfbeckiaaDoor
