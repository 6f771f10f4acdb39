/- Reading: a list. -/
import Derived.Test.YtoddlacfbeckiaaDoorWn
import Derived.Test.YtoddlacfbeckiaaDoorPv
import Derived.Test.YtoddlacfbeckiaaDoorMc
import Derived.Deep.AppendLies
import Derived.Deep.RegionHeld3
import Derived.Deep.DrawnRows
namespace Go.Proofs.YtoddlacfbeckiaaDoor
open Go.RowKit

def zeroF : Array Value := #[.int .i64 0, .int .i64 0, .string ⟨#[]⟩, .slice none 0 0, .slice none 0 0]
/-- How far a list is read: the blocks of the call, and the items. -/
def LInvR (w : World) (g : Nat) (d : Int) (acc : List V) (n : Nat) (row : Value) (css : List (List Value)) (W : World) : Prop :=
  w.grownBy W (some g) ∧ w.heap.size + 4 ≤ W.heap.size ∧ Blk W w.heap.size 63 #[.pointer (some ⟨g, 0, none⟩)] ∧ Blk W (w.heap.size + 1) 3 #[.int .i64 d] ∧ Blk W (w.heap.size + 2) 25 zeroF ∧ acc.length ≤ n ∧
    Blk W (w.heap.size + 3) 25 #[.int .i64 4, .int .i64 0, .string ⟨#[]⟩, row, .slice none 0 0] ∧ W.ownsRow (w.heap.size + 4) 25 5 row acc.length css.flatten ∧ RowsIn (Out (w.heap.size + 4) [row.ownBlock] W) W acc css
def LInv (w : World) (g : Nat) (d : Int) (acc : List V) (n : Nat) (W : World) : Prop := ∃ row css, LInvR w g d acc n row css W
theorem out_far {N g : Nat} {F : List (Option Nat)} {W W' : World} (hg : g < N) (h : W.grownBy W' (some g)) : (∀ b o, Out N F W b → W'.cell? ⟨b, o, none⟩ = W.cell? ⟨b, o, none⟩) ∧ (∀ b, Out N F W b → Out N F W' b) :=
  ⟨fun b o hb => h.cell_far ⟨b, o, none⟩ hb.2.1 (by have := hb.1; simp; omega), fun b hb => hb.mono h.size⟩
theorem own_far {N g : Nat} {e : TypeId} {size n : Nat} {v : Value} {xs : List Value} {W W' : World} (h : W.ownsRow N e size v n xs) (hg : g < N) (hw : W.grownBy W' (some g)) : W'.ownsRow N e size v n xs := by
  refine h.kept hw ?_
  rcases hb : v.ownBlock with _ | q
  · exact .inl rfl
  · exact .inr (fun e => by rw [Option.some.injEq] at e; have := (World.ownsRow.lt h q hb).1; omega)
theorem LInvR.keep {w : World} {g : Nat} {d : Int} {acc : List V} {n n' : Nat} {row : Value} {css : List (List Value)} {W W' : World} (h : LInvR w g d acc n row css W) (hg : g < w.heap.size) (hw : W.grownBy W' (some g)) (hn : n ≤ n') : LInvR w g d acc n' row css W' := by
  obtain ⟨h1, h2, h3, h4, h5, h6, h7, h8, h9⟩ := h
  have hf := @out_far (w.heap.size + 4) g [row.ownBlock] W W' (by omega) hw
  exact ⟨grow_trans h1 hw, Nat.le_trans h2 hw.size, h3.grown hw (by simp; omega), h4.grown hw (by simp; omega), h5.grown hw (by simp; omega), Nat.le_trans h6 hn, h7.grown hw (by simp; omega), own_far h8 (by omega) hw, h9.keep hf.1 hf.2⟩
theorem LInv.keep {w : World} {g : Nat} {d : Int} {acc : List V} {n n' : Nat} {W W' : World} (h : LInv w g d acc n W) (hg : g < w.heap.size) (hw : W.grownBy W' (some g)) (hn : n ≤ n') : LInv w g d acc n' W' := by
  obtain ⟨row, css, h⟩ := h
  exact ⟨row, css, h.keep hg hw hn⟩
theorem set5_list {L xs z : List Value} {m : Nat} (h : L.take (m + 5) = xs ++ z) (hx : xs.length = m) (hz : z.length = 5) (a b c d e : Value) :
    (((((L.set m a).set (m + 1) b).set (m + 2) c).set (m + 3) d).set (m + 4) e).take (m + 5) = xs ++ [a, b, c, d, e] := by
  match z, hz with
  | [z0, z1, z2, z3, z4], _ =>
    subst hx
    rw [List.take_set, List.take_set, List.take_set, List.take_set, List.take_set, h]
    simp
def put5 (W : World) (g o : Nat) (a b c d e : Value) : World := ((((W.setCell ⟨g, o, none⟩ a).setCell ⟨g, o + 1, none⟩ b).setCell ⟨g, o + 2, none⟩ c).setCell ⟨g, o + 3, none⟩ d).setCell ⟨g, o + 4, none⟩ e
theorem own_put5 {W : World} {base g n cap : Nat} {e : TypeId} {xs z : List Value} (h : W.ownsRow base e 5 (.slice (some ⟨g, 0, none⟩) (n + 1) cap) (n + 1) (xs ++ z)) (hx : xs.length = n * 5) (hz : z.length = 5) (a b c d f : Value) :
    (put5 W g (n * 5) a b c d f).ownsRow base e 5 (.slice (some ⟨g, 0, none⟩) (n + 1) cap) (n + 1) (xs ++ [a, b, c, d, f]) := by
  obtain ⟨hl, ⟨he, _⟩ | ⟨g', cap', cur, he, hbg, hg, hnc, hcm, hcs, ht⟩⟩ := h
  · cases he
  · cases he
    have hB : Blk W g e cur := hg
    have hB' : Blk (put5 W g (n * 5) a b c d f) g e (((((cur.setIfInBounds (n * 5) a).setIfInBounds (n * 5 + 1) b).setIfInBounds (n * 5 + 2) c).setIfInBounds (n * 5 + 3) d).setIfInBounds (n * 5 + 4) f) := ((((hB.set_ (n * 5) a).set_ (n * 5 + 1) b).set_ (n * 5 + 2) c).set_ (n * 5 + 3) d).set_ (n * 5 + 4) f
    obtain ⟨C, hC⟩ : ∃ C, C = ((((cur.setIfInBounds (n * 5) a).setIfInBounds (n * 5 + 1) b).setIfInBounds (n * 5 + 2) c).setIfInBounds (n * 5 + 3) d).setIfInBounds (n * 5 + 4) f := ⟨_, rfl⟩
    rw [← hC] at hB'
    have hs : C.size = cap * 5 := by rw [hC]; simp only [Array.size_setIfInBounds]; exact hcs
    have ht5 : cur.toList.take (n * 5 + 5) = xs ++ z := by rw [show n * 5 + 5 = (n + 1) * 5 by omega]; exact ht
    have h5 := set5_list (m := n * 5) ht5 hx hz a b c d f
    have ht' : C.toList.take ((n + 1) * 5) = xs ++ [a, b, c, d, f] := by
      rw [hC, show (n + 1) * 5 = n * 5 + 5 by omega]
      simp only [Array.toList_setIfInBounds]
      exact h5
    exact ⟨by simp [hx]; omega, .inr ⟨g, cap, C, rfl, hbg, hB', hnc, hcm, hs, ht'⟩⟩

theorem own_form {W : World} {base n size : Nat} {e : TypeId} {v : Value} {xs : List Value} (h : W.ownsRow base e size v n xs) : ∃ A c, v = .slice A n c := by
  obtain ⟨hl, ⟨rfl, h0⟩ | ⟨g, cap, cur, hv, hB, hc, hn, hcap, hcs, ht⟩⟩ := h
  · exact ⟨none, 0, by rw [h0]⟩
  · exact ⟨_, _, hv⟩
theorem own_heap {W W' : World} {base n size : Nat} {e : TypeId} {v : Value} {xs : List Value} (h : W.ownsRow base e size v n xs) (he : W'.heap = W.heap) : W'.ownsRow base e size v n xs := by
  unfold World.ownsRow at *; rw [he]; exact h

/-- The last element of a row that has just grown. -/
theorem own_last5 {W : World} {base g n cap : Nat} {e : TypeId} {xs : List Value} (h : W.ownsRow base e 5 (.slice (some ⟨g, 0, none⟩) (n + 1) cap) (n + 1) (xs ++ zeroF.toList)) (hx : xs.length = n * 5) :
    W.cell? ⟨g, n * 5, none⟩ = some (.int .i64 0) ∧ W.cell? ⟨g, n * 5 + 1, none⟩ = some (.int .i64 0) ∧ W.cell? ⟨g, n * 5 + 2, none⟩ = some (.string ⟨#[]⟩) ∧ W.cell? ⟨g, n * 5 + 3, none⟩ = some (.slice none 0 0) ∧ W.cell? ⟨g, n * 5 + 4, none⟩ = some (.slice none 0 0) ∧
      W.frozen? ⟨g, n * 5, none⟩ = false ∧ W.frozen? ⟨g, n * 5 + 1, none⟩ = false ∧ W.frozen? ⟨g, n * 5 + 2, none⟩ = false ∧ W.frozen? ⟨g, n * 5 + 3, none⟩ = false ∧ W.frozen? ⟨g, n * 5 + 4, none⟩ = false := by
  have hc := World.ownsRow.cells h (g := g) rfl
  have hz : ∀ (j : Nat) (u : Value), zeroF.toList[j]? = some u → W.cell? ⟨g, n * 5 + j, none⟩ = some u := by
    intro j u hj
    have := hc (n * 5 + j) u (by rw [List.getElem?_append_right (by omega), ← hj]; congr 1; omega)
    rw [Addr.add_lit, Nat.zero_add] at this
    exact this
  have hf : ∀ i, W.frozen? ⟨g, i, none⟩ = false := by
    obtain ⟨hl, ⟨he, _⟩ | ⟨g', cap', cur, he, hbg, hg, _⟩⟩ := h
    · cases he
    · cases he
      exact Blk.frozen (cs := cur) hg
  exact ⟨hz 0 _ rfl, hz 1 _ rfl, hz 2 _ rfl, hz 3 _ rfl, hz 4 _ rfl, hf _, hf _, hf _, hf _, hf _⟩
theorem row_apart {v : Value} {g H b : Nat} (h : v.ownBlock = some g ∨ g = H) (h1 : some b ≠ v.ownBlock) (h2 : b < H) : ¬ b = g := by
  rcases h with h | h
  · exact fun e => h1 (by rw [h, e])
  · omega

/-- Behind a store into another block. -/
theorem own_set_far {W : World} {base n size : Nat} {e : TypeId} {v : Value} {xs : List Value} (h : W.ownsRow base e size v n xs) (p : Addr) (u : Value) (hp : some p.block ≠ v.ownBlock) : (W.setCell p u).ownsRow base e size v n xs := by
  refine h.kept (row := some p.block) (World.grownBy.mk rfl rfl rfl (by simp [World.setCell]) (fun k _ hk => Below.heap_setCell _ p u k (fun e => hk (by rw [e])))) ?_
  rcases hv : v.ownBlock with _ | q
  · exact .inl rfl
  · exact .inr (by rw [hv] at hp; exact fun e => hp e.symm)
theorem put5_heap (W : World) (g o : Nat) (a b c d e : Value) {k : Nat} (h : k ≠ g) : (put5 W g o a b c d e).heap[k]? = W.heap[k]? := by
  unfold put5
  rw [Below.heap_setCell _ _ _ _ h, Below.heap_setCell _ _ _ _ h, Below.heap_setCell _ _ _ _ h, Below.heap_setCell _ _ _ _ h, Below.heap_setCell _ _ _ _ h]
theorem put5_size (W : World) (g o : Nat) (a b c d e : Value) : (put5 W g o a b c d e).heap.size = W.heap.size := by simp [put5, World.setCell]
/-- The two orders of the two stores. -/
theorem two_orders {w1 We : World} {base g n cap vb : Nat} {e : TypeId} {xs : List Value} {a b c d f r0 r1 r2 r3 r4 : Value} (hx : xs.length = n * 5) (hvb : ¬ vb = g)
    (hown : w1.ownsRow base e 5 (.slice (some ⟨g, 0, none⟩) (n + 1) cap) (n + 1) (xs ++ zeroF.toList)) (hb : Blk w1 vb e #[r0, r1, r2, r3, r4]) (row : Value)
    (h : We = (put5 w1 g (n * 5) a b c d f).setCell ⟨vb, 3, none⟩ row ∨ We = put5 (w1.setCell ⟨vb, 3, none⟩ row) g (n * 5) a b c d f) :
    We.ownsRow base e 5 (.slice (some ⟨g, 0, none⟩) (n + 1) cap) (n + 1) (xs ++ [a, b, c, d, f]) ∧ Blk We vb e #[r0, r1, r2, row, r4] ∧ (∀ k, k ≠ g → k ≠ vb → We.heap[k]? = w1.heap[k]?) ∧ We.heap.size = w1.heap.size ∧ We.os = w1.os ∧ We.tape = w1.tape ∧ We.output = w1.output := by
  have hne : some vb ≠ (Value.slice (some ⟨g, 0, none⟩) (n + 1) cap).ownBlock := fun e => hvb (by simpa [Value.ownBlock] using e)
  rcases h with rfl | rfl
  · refine ⟨own_set_far (own_put5 hown hx (by simp [zeroF]) a b c d f) _ _ hne, ?_, fun k h1 h2 => ?_, ?_, by simp [put5, World.setCell], by simp [put5, World.setCell], by simp [put5, World.setCell]⟩
    · have h5 : Blk (put5 w1 g (n * 5) a b c d f) vb e #[r0, r1, r2, r3, r4] := (put5_heap w1 g _ a b c d f hvb).trans hb
      simpa using h5.set_ 3 row
    · rw [Below.heap_setCell _ _ _ _ h2, put5_heap _ _ _ _ _ _ _ _ h1]
    · rw [← put5_size w1 g (n * 5) a b c d f]; simp [World.setCell]
  · refine ⟨own_put5 (own_set_far hown _ _ hne) hx (by simp [zeroF]) a b c d f, ?_, fun k h1 h2 => ?_, ?_, by simp [put5, World.setCell], by simp [put5, World.setCell], by simp [put5, World.setCell]⟩
    · have h5 : Blk (w1.setCell ⟨vb, 3, none⟩ row) vb e #[r0, r1, r2, row, r4] := by simpa using hb.set_ 3 row
      exact (put5_heap _ g _ a b c d f hvb).trans h5
    · rw [put5_heap _ _ _ _ _ _ _ _ h1, Below.heap_setCell _ _ _ _ h2]
    · rw [put5_size]; simp [World.setCell]
/-- Behind an item. -/
theorem list_end {w W w2 w3 w1 We : World} {g g' cap : Nat} {d : Int} {acc : List V} {n n' k' : Nat} {s : ByteArray} {row : Value} {css : List (List Value)} {x : V} {A K : Option Addr} {c q : Nat} (hg : g < w.heap.size) (hI : LInvR w g d acc n row css W) (hn : n < n') (hW : Went g s k' n' W w2) (hL : LiesIn (Fresh W w2) w2 x A c K q)
    (h3 : w2.grownBy w3 none) (h3s : w3.heap.size = w2.heap.size + 2) (hgrow : w3.grownBy w1 row.ownBlock) (hat : row.ownBlock = some g' ∨ g' = w2.heap.size + 2)
    (hown : w1.ownsRow (w.heap.size + 4) 25 5 (.slice (some ⟨g', 0, none⟩) (acc.length + 1) cap) (acc.length + 1) (css.flatten ++ zeroF.toList))
    (h : We = (put5 w1 g' (acc.length * 5) (.int .i64 x.kind) (.int .i64 x.int) (.string x.text) (.slice A x.items.length c) (.slice K x.keys.length q)).setCell ⟨w.heap.size + 3, 3, none⟩ (.slice (some ⟨g', 0, none⟩) (acc.length + 1) cap) ∨ We = put5 (w1.setCell ⟨w.heap.size + 3, 3, none⟩ (.slice (some ⟨g', 0, none⟩) (acc.length + 1) cap)) g' (acc.length * 5) (.int .i64 x.kind) (.int .i64 x.int) (.string x.text) (.slice A x.items.length c) (.slice K x.keys.length q)) :
    LInv w g d (acc ++ [x]) n' We ∧ PAt We g s k' n' := by
  have hI2 := hI.keep hg hW.1 (Nat.le_of_lt hn)
  obtain ⟨_, hs0, _, _, _, hI6, _, hr0, _⟩ := hI
  obtain ⟨e1, e2, e3, e4, e5, e6, e7, e8, e9⟩ := hI2
  have hrow : ∀ b, row.ownBlock = some b → w.heap.size + 4 ≤ b ∧ b < W.heap.size := fun b hb => World.ownsRow.lt hr0 b hb
  have hsz := hW.1.size
  have hne3 : some (w.heap.size + 3) ≠ row.ownBlock := fun e => by have := (hrow _ e.symm).1; omega
  have ha3 : ¬ w.heap.size + 3 = g' := row_apart hat hne3 (by omega)
  have hb1 : Blk w1 (w.heap.size + 3) 25 #[.int .i64 4, .int .i64 0, .string ⟨#[]⟩, row, .slice none 0 0] := (e7.grown h3 (by simp)).grown hgrow hne3
  obtain ⟨o1, o2, o3, o4, o5, o6, o7⟩ := two_orders e9.flat ha3 hown hb1 _ h
  have hs1 := hgrow.size
  have hold : ∀ b, b < w2.heap.size → b ≠ w.heap.size + 3 → some b ≠ row.ownBlock → We.heap[b]? = w2.heap[b]? := by
    intro b hb h1 h2
    rw [o3 b (row_apart hat h2 (by omega)) h1, hgrow.block b (by omega) h2, h3.block b hb (by simp)]
  have hlow : ∀ b, b < w.heap.size + 4 → some b ≠ row.ownBlock := fun b hb e => by have := (hrow _ e.symm).1; omega
  have hG : w.grownBy We (some g) := by
    refine ⟨o5.trans (hgrow.os.trans (h3.os.trans e1.os)), o6.trans (hgrow.tape.trans (h3.tape.trans e1.tape)), o7.trans (hgrow.output.trans (h3.output.trans e1.output)), by rw [o4]; omega, fun b hb hne => ?_⟩
    rw [hold b (by omega) (by omega) (hlow b (by omega))]
    exact e1.block b hb hne
  have hkeep : ∀ b, w.heap.size + 4 ≤ b → b < w2.heap.size → some b ≠ row.ownBlock → Out (w.heap.size + 4) [(Value.slice (some ⟨g', 0, none⟩) (acc.length + 1) cap).ownBlock] We b ∧ ∀ o, We.cell? ⟨b, o, none⟩ = w2.cell? ⟨b, o, none⟩ := by
    intro b h1 h2 h3'
    refine ⟨⟨h1, by rw [o4]; omega, fun f hf => ?_⟩, fun o => World.cell?_of_block (hold b h2 (by omega) h3')⟩
    rw [List.mem_singleton.1 hf]
    have := row_apart hat h3' (show b < w2.heap.size + 2 by omega)
    simpa [Value.ownBlock] using this
  have hR1 : RowsIn (Out (w.heap.size + 4) [(Value.slice (some ⟨g', 0, none⟩) (acc.length + 1) cap).ownBlock] We) We acc css :=
    e9.keep (fun b o hb => (hkeep b hb.1 hb.2.1 (hb.2.2 _ (List.mem_singleton.2 rfl))).2 o) (fun b hb => (hkeep b hb.1 hb.2.1 (hb.2.2 _ (List.mem_singleton.2 rfl))).1)
  have hfr : ∀ b, Fresh W w2 b → w.heap.size + 4 ≤ b ∧ b < w2.heap.size ∧ some b ≠ row.ownBlock := fun b hb => ⟨by have := hb.1; omega, hb.2, fun e => by have := (hrow b e.symm).2; have := hb.1; omega⟩
  have hL' := LiesIn.keep (P' := Out (w.heap.size + 4) [(Value.slice (some ⟨g', 0, none⟩) (acc.length + 1) cap).ownBlock] We) (w' := We) (fun b o hb => (hkeep b (hfr b hb).1 (hfr b hb).2.1 (hfr b hb).2.2).2 o) (fun b hb => (hkeep b (hfr b hb).1 (hfr b hb).2.1 (hfr b hb).2.2).1) x hL
  refine ⟨⟨.slice (some ⟨g', 0, none⟩) (acc.length + 1) cap, css ++ [fieldsL x A c K q], hG, by rw [o4]; omega, (hold _ (by omega) (by omega) (hlow _ (by omega))).trans e3, (hold _ (by omega) (by omega) (hlow _ (by omega))).trans e4, (hold _ (by omega) (by omega) (hlow _ (by omega))).trans e5, ?_, o2, ?_, ?_⟩, ?_⟩
  · rw [List.length_append]; simp; have := hI6; omega
  · rw [List.length_append, List.flatten_append]; simpa [fieldsL] using o1
  · exact RowsIn.append (ys := [x]) (dss := [fieldsL x A c K q]) ⟨⟨A, c, K, q, rfl, hL'⟩, trivial⟩ hR1
  · exact (hold g (by omega) (by omega) (hlow g (by omega))).trans hW.2

end Go.Proofs.YtoddlacfbeckiaaDoor
