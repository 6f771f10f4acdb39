/- Reading: a list. -/
import Derived.Test.YtfiiaeomlmckfaaGreatDoorWl
import Derived.Test.YtfiiaeomlmckfaaGreatDoorPv
import Derived.Test.YtfiiaeomlmckfaaGreatDoorMa
import Derived.Deep.AppendLies
import Derived.Deep.RegionHeld3
import Derived.Deep.DrawnRows
namespace Go.Proofs.YtfiiaeomlmckfaaGreatDoor
open Go.RowKit

def zeroF : Array Value := #[.int .i64 0, .int .i64 0, .string ⟨#[]⟩, .slice none 0 0, .slice none 0 0]
/-- How far a list is read: the blocks of the call, and the items. -/
def LInvR (w : World) (g : Nat) (d : Int) (acc : List V) (n : Nat) (row : Value) (css : List (List Value)) (W : World) : Prop :=
  w.grownBy W (some g) ∧ w.heap.size + 4 ≤ W.heap.size ∧ BlockIs W w.heap.size 60 #[.pointer (some ⟨g, 0, none⟩)] ∧ BlockIs W (w.heap.size + 1) 3 #[.int .i64 d] ∧ BlockIs W (w.heap.size + 2) 35 zeroF ∧ acc.length ≤ n ∧
    BlockIs W (w.heap.size + 3) 35 #[.int .i64 4, .int .i64 0, .string ⟨#[]⟩, row, .slice none 0 0] ∧ W.ownsRow (w.heap.size + 4) 35 5 row acc.length css.flatten ∧ RowsIn (Out (w.heap.size + 4) [row.ownBlock] W) W acc css
def LInv (w : World) (g : Nat) (d : Int) (acc : List V) (n : Nat) (W : World) : Prop := ∃ row css, LInvR w g d acc n row css W
theorem out_far {N g : Nat} {F : List (Option Nat)} {W W' : World} (hg : g < N) (h : W.grownBy W' (some g)) : (∀ b o, Out N F W b → W'.cell? ⟨b, o, none⟩ = W.cell? ⟨b, o, none⟩) ∧ (∀ b, Out N F W b → Out N F W' b) :=
  ⟨fun b o hb => h.cell_far ⟨b, o, none⟩ hb.2.1 (by have := hb.1; simp; omega), fun b hb => hb.mono h.size⟩
theorem own_far {N g : Nat} {e : TypeId} {size n : Nat} {v : Value} {xs : List Value} {W W' : World} (h : W.ownsRow N e size v n xs) (hg : g < N) (hw : W.grownBy W' (some g)) : W'.ownsRow N e size v n xs := by
  refine h.kept hw ?_
  rcases hb : v.ownBlock with _ | q
  · exact .inl rfl
  · exact .inr (fun e => by rw [Option.some.injEq] at e; have := (World.ownsRow.lt h q hb).1; omega)
theorem LInvR.keep {w : World} {g : Nat} {d : Int} {acc : List V} {n n' : Nat} {row : Value} {css : List (List Value)} {W W' : World} (h : LInvR w g d acc n row css W) (hg : g < w.heap.size) (hw : W.grownBy W' (some g)) (hn : n ≤ n') : LInvR w g d acc n' row css W' := by
  obtain ⟨h1, h2, h3, h4, h5, h6, h7, h8, h9⟩ := h
  have hf := @out_far (w.heap.size + 4) g [row.ownBlock] W W' (by omega) hw
  exact ⟨grow_trans h1 hw, Nat.le_trans h2 hw.size, h3.grown hw (by simp; omega), h4.grown hw (by simp; omega), h5.grown hw (by simp; omega), Nat.le_trans h6 hn, h7.grown hw (by simp; omega), own_far h8 (by omega) hw, h9.keep hf.1 hf.2⟩
theorem LInv.keep {w : World} {g : Nat} {d : Int} {acc : List V} {n n' : Nat} {W W' : World} (h : LInv w g d acc n W) (hg : g < w.heap.size) (hw : W.grownBy W' (some g)) (hn : n ≤ n') : LInv w g d acc n' W' := by
  obtain ⟨row, css, h⟩ := h
  exact ⟨row, css, h.keep hg hw hn⟩
theorem set5_list {L xs z : List Value} {m : Nat} (h : L.take (m + 5) = xs ++ z) (hx : xs.length = m) (hz : z.length = 5) (a b c d e : Value) :
    (((((L.set m a).set (m + 1) b).set (m + 2) c).set (m + 3) d).set (m + 4) e).take (m + 5) = xs ++ [a, b, c, d, e] := by
  match z, hz with
  | [z0, z1, z2, z3, z4], _ =>
    subst hx
    rw [List.take_set, List.take_set, List.take_set, List.take_set, List.take_set, h]
    simp
def put5 (W : World) (g o : Nat) (a b c d e : Value) : World := ((((W.setCell ⟨g, o, none⟩ a).setCell ⟨g, o + 1, none⟩ b).setCell ⟨g, o + 2, none⟩ c).setCell ⟨g, o + 3, none⟩ d).setCell ⟨g, o + 4, none⟩ e
theorem own_put5 {W : World} {base g n cap : Nat} {e : TypeId} {xs z : List Value} (h : W.ownsRow base e 5 (.slice (some ⟨g, 0, none⟩) (n + 1) cap) (n + 1) (xs ++ z)) (hx : xs.length = n * 5) (hz : z.length = 5) (a b c d f : Value) :
    (put5 W g (n * 5) a b c d f).ownsRow base e 5 (.slice (some ⟨g, 0, none⟩) (n + 1) cap) (n + 1) (xs ++ [a, b, c, d, f]) := by
  obtain ⟨hl, ⟨he, _⟩ | ⟨g', cap', cur, he, hbg, hg, hnc, hcm, hcs, ht⟩⟩ := h
  · cases he
  · cases he
    have hB : BlockIs W g e cur := hg
    have hB' : BlockIs (put5 W g (n * 5) a b c d f) g e (((((cur.setIfInBounds (n * 5) a).setIfInBounds (n * 5 + 1) b).setIfInBounds (n * 5 + 2) c).setIfInBounds (n * 5 + 3) d).setIfInBounds (n * 5 + 4) f) := ((((hB.set_ (n * 5) a).set_ (n * 5 + 1) b).set_ (n * 5 + 2) c).set_ (n * 5 + 3) d).set_ (n * 5 + 4) f
    obtain ⟨C, hC⟩ : ∃ C, C = ((((cur.setIfInBounds (n * 5) a).setIfInBounds (n * 5 + 1) b).setIfInBounds (n * 5 + 2) c).setIfInBounds (n * 5 + 3) d).setIfInBounds (n * 5 + 4) f := ⟨_, rfl⟩
    rw [← hC] at hB'
    have hs : C.size = cap * 5 := by rw [hC]; simp only [Array.size_setIfInBounds]; exact hcs
    have ht5 : cur.toList.take (n * 5 + 5) = xs ++ z := by rw [show n * 5 + 5 = (n + 1) * 5 by omega]; exact ht
    have h5 := set5_list (m := n * 5) ht5 hx hz a b c d f
    have ht' : C.toList.take ((n + 1) * 5) = xs ++ [a, b, c, d, f] := by
      rw [hC, show (n + 1) * 5 = n * 5 + 5 by omega]
      simp only [Array.toList_setIfInBounds]
      exact h5
    exact ⟨by simp [hx]; omega, .inr ⟨g, cap, C, rfl, hbg, hB', hnc, hcm, hs, ht'⟩⟩

theorem own_form {W : World} {base n size : Nat} {e : TypeId} {v : Value} {xs : List Value} (h : W.ownsRow base e size v n xs) : ∃ A c, v = .slice A n c := by
  obtain ⟨hl, ⟨rfl, h0⟩ | ⟨g, cap, cur, hv, hB, hc, hn, hcap, hcs, ht⟩⟩ := h
  · exact ⟨none, 0, by rw [h0]⟩
  · exact ⟨_, _, hv⟩
theorem own_heap {W W' : World} {base n size : Nat} {e : TypeId} {v : Value} {xs : List Value} (h : W.ownsRow base e size v n xs) (he : W'.heap = W.heap) : W'.ownsRow base e size v n xs := by
  unfold World.ownsRow at *; rw [he]; exact h

/-- The last element of a row that has just grown. -/
theorem own_last5 {W : World} {base g n cap : Nat} {e : TypeId} {xs : List Value} (h : W.ownsRow base e 5 (.slice (some ⟨g, 0, none⟩) (n + 1) cap) (n + 1) (xs ++ zeroF.toList)) (hx : xs.length = n * 5) :
    W.cell? ⟨g, n * 5, none⟩ = some (.int .i64 0) ∧ W.cell? ⟨g, n * 5 + 1, none⟩ = some (.int .i64 0) ∧ W.cell? ⟨g, n * 5 + 2, none⟩ = some (.string ⟨#[]⟩) ∧ W.cell? ⟨g, n * 5 + 3, none⟩ = some (.slice none 0 0) ∧ W.cell? ⟨g, n * 5 + 4, none⟩ = some (.slice none 0 0) ∧
      W.frozen? ⟨g, n * 5, none⟩ = false ∧ W.frozen? ⟨g, n * 5 + 1, none⟩ = false ∧ W.frozen? ⟨g, n * 5 + 2, none⟩ = false ∧ W.frozen? ⟨g, n * 5 + 3, none⟩ = false ∧ W.frozen? ⟨g, n * 5 + 4, none⟩ = false := by
  have hc := World.ownsRow.cells h (g := g) rfl
  have hz : ∀ (j : Nat) (u : Value), zeroF.toList[j]? = some u → W.cell? ⟨g, n * 5 + j, none⟩ = some u := by
    intro j u hj
    have := hc (n * 5 + j) u (by rw [List.getElem?_append_right (by omega), ← hj]; congr 1; omega)
    rw [Addr.add_lit, Nat.zero_add] at this
    exact this
  have hf : ∀ i, W.frozen? ⟨g, i, none⟩ = false := by
    obtain ⟨hl, ⟨he, _⟩ | ⟨g', cap', cur, he, hbg, hg, _⟩⟩ := h
    · cases he
    · cases he
      exact BlockIs.frozen (cs := cur) hg
  exact ⟨hz 0 _ rfl, hz 1 _ rfl, hz 2 _ rfl, hz 3 _ rfl, hz 4 _ rfl, hf _, hf _, hf _, hf _, hf _⟩
theorem row_apart {v : Value} {g H b : Nat} (h : v.ownBlock = some g ∨ g = H) (h1 : some b ≠ v.ownBlock) (h2 : b < H) : ¬ b = g := by
  rcases h with h | h
  · exact fun e => h1 (by rw [h, e])
  · omega

/-- Behind a store into another block. -/
theorem own_set_far {W : World} {base n size : Nat} {e : TypeId} {v : Value} {xs : List Value} (h : W.ownsRow base e size v n xs) (p : Addr) (u : Value) (hp : some p.block ≠ v.ownBlock) : (W.setCell p u).ownsRow base e size v n xs := by
  refine h.kept (row := some p.block) (World.grownBy.mk rfl rfl rfl (by simp [World.setCell]) (fun k _ hk => Below.heap_setCell _ p u k (fun e => hk (by rw [e])))) ?_
  rcases hv : v.ownBlock with _ | q
  · exact .inl rfl
  · exact .inr (by rw [hv] at hp; exact fun e => hp e.symm)
theorem put5_heap (W : World) (g o : Nat) (a b c d e : Value) {k : Nat} (h : k ≠ g) : (put5 W g o a b c d e).heap[k]? = W.heap[k]? := by
  unfold put5
  rw [Below.heap_setCell _ _ _ _ h, Below.heap_setCell _ _ _ _ h, Below.heap_setCell _ _ _ _ h, Below.heap_setCell _ _ _ _ h, Below.heap_setCell _ _ _ _ h]
theorem put5_size (W : World) (g o : Nat) (a b c d e : Value) : (put5 W g o a b c d e).heap.size = W.heap.size := by simp [put5, World.setCell]
/-- The two orders of the two stores. -/
theorem two_orders {w1 We : World} {base g n cap vb : Nat} {e : TypeId} {xs : List Value} {a b c d f r0 r1 r2 r3 r4 : Value} (hx : xs.length = n * 5) (hvb : ¬ vb = g)
    (hown : w1.ownsRow base e 5 (.slice (some ⟨g, 0, none⟩) (n + 1) cap) (n + 1) (xs ++ zeroF.toList)) (hb : BlockIs w1 vb e #[r0, r1, r2, r3, r4]) (row : Value)
    (h : We = (put5 w1 g (n * 5) a b c d f).setCell ⟨vb, 3, none⟩ row ∨ We = put5 (w1.setCell ⟨vb, 3, none⟩ row) g (n * 5) a b c d f) :
    We.ownsRow base e 5 (.slice (some ⟨g, 0, none⟩) (n + 1) cap) (n + 1) (xs ++ [a, b, c, d, f]) ∧ BlockIs We vb e #[r0, r1, r2, row, r4] ∧ (∀ k, k ≠ g → k ≠ vb → We.heap[k]? = w1.heap[k]?) ∧ We.heap.size = w1.heap.size ∧ We.os = w1.os ∧ We.tape = w1.tape ∧ We.output = w1.output := by
  have hne : some vb ≠ (Value.slice (some ⟨g, 0, none⟩) (n + 1) cap).ownBlock := fun e => hvb (by simpa [Value.ownBlock] using e)
  rcases h with rfl | rfl
  · refine ⟨own_set_far (own_put5 hown hx (by simp [zeroF]) a b c d f) _ _ hne, ?_, fun k h1 h2 => ?_, ?_, by simp [put5, World.setCell], by simp [put5, World.setCell], by simp [put5, World.setCell]⟩
    · have h5 : BlockIs (put5 w1 g (n * 5) a b c d f) vb e #[r0, r1, r2, r3, r4] := (put5_heap w1 g _ a b c d f hvb).trans hb
      simpa using h5.set_ 3 row
    · rw [Below.heap_setCell _ _ _ _ h2, put5_heap _ _ _ _ _ _ _ _ h1]
    · rw [← put5_size w1 g (n * 5) a b c d f]; simp [World.setCell]
  · refine ⟨own_put5 (own_set_far hown _ _ hne) hx (by simp [zeroF]) a b c d f, ?_, fun k h1 h2 => ?_, ?_, by simp [put5, World.setCell], by simp [put5, World.setCell], by simp [put5, World.setCell]⟩
    · have h5 : BlockIs (w1.setCell ⟨vb, 3, none⟩ row) vb e #[r0, r1, r2, row, r4] := by simpa using hb.set_ 3 row
      exact (put5_heap _ g _ a b c d f hvb).trans h5
    · rw [put5_heap _ _ _ _ _ _ _ _ h1, Below.heap_setCell _ _ _ _ h2]
    · rw [put5_size]; simp [World.setCell]
/-- Behind an item. -/
theorem list_end {w W w2 w3 w1 We : World} {g g' cap : Nat} {d : Int} {acc : List V} {n n' k' : Nat} {s : ByteArray} {row : Value} {css : List (List Value)} {x : V} {A K : Option Addr} {c q : Nat} (hg : g < w.heap.size) (hI : LInvR w g d acc n row css W) (hn : n < n') (hW : Went g s k' n' W w2) (hL : LiesIn (Fresh W w2) w2 x A c K q)
    (h3 : w2.grownBy w3 none) (h3s : w3.heap.size = w2.heap.size + 2) (hgrow : w3.grownBy w1 row.ownBlock) (hat : row.ownBlock = some g' ∨ g' = w2.heap.size + 2)
    (hown : w1.ownsRow (w.heap.size + 4) 35 5 (.slice (some ⟨g', 0, none⟩) (acc.length + 1) cap) (acc.length + 1) (css.flatten ++ zeroF.toList))
    (h : We = (put5 w1 g' (acc.length * 5) (.int .i64 x.kind) (.int .i64 x.int) (.string x.text) (.slice A x.items.length c) (.slice K x.keys.length q)).setCell ⟨w.heap.size + 3, 3, none⟩ (.slice (some ⟨g', 0, none⟩) (acc.length + 1) cap) ∨ We = put5 (w1.setCell ⟨w.heap.size + 3, 3, none⟩ (.slice (some ⟨g', 0, none⟩) (acc.length + 1) cap)) g' (acc.length * 5) (.int .i64 x.kind) (.int .i64 x.int) (.string x.text) (.slice A x.items.length c) (.slice K x.keys.length q)) :
    LInv w g d (acc ++ [x]) n' We ∧ PAt We g s k' n' := by
  have hI2 := hI.keep hg hW.1 (Nat.le_of_lt hn)
  obtain ⟨_, hs0, _, _, _, hI6, _, hr0, _⟩ := hI
  obtain ⟨e1, e2, e3, e4, e5, e6, e7, e8, e9⟩ := hI2
  have hrow : ∀ b, row.ownBlock = some b → w.heap.size + 4 ≤ b ∧ b < W.heap.size := fun b hb => World.ownsRow.lt hr0 b hb
  have hsz := hW.1.size
  have hne3 : some (w.heap.size + 3) ≠ row.ownBlock := fun e => by have := (hrow _ e.symm).1; omega
  have ha3 : ¬ w.heap.size + 3 = g' := row_apart hat hne3 (by omega)
  have hb1 : BlockIs w1 (w.heap.size + 3) 35 #[.int .i64 4, .int .i64 0, .string ⟨#[]⟩, row, .slice none 0 0] := (e7.grown h3 (by simp)).grown hgrow hne3
  obtain ⟨o1, o2, o3, o4, o5, o6, o7⟩ := two_orders e9.flat ha3 hown hb1 _ h
  have hs1 := hgrow.size
  have hold : ∀ b, b < w2.heap.size → b ≠ w.heap.size + 3 → some b ≠ row.ownBlock → We.heap[b]? = w2.heap[b]? := by
    intro b hb h1 h2
    rw [o3 b (row_apart hat h2 (by omega)) h1, hgrow.block b (by omega) h2, h3.block b hb (by simp)]
  have hlow : ∀ b, b < w.heap.size + 4 → some b ≠ row.ownBlock := fun b hb e => by have := (hrow _ e.symm).1; omega
  have hG : w.grownBy We (some g) := by
    refine ⟨o5.trans (hgrow.os.trans (h3.os.trans e1.os)), o6.trans (hgrow.tape.trans (h3.tape.trans e1.tape)), o7.trans (hgrow.output.trans (h3.output.trans e1.output)), by rw [o4]; omega, fun b hb hne => ?_⟩
    rw [hold b (by omega) (by omega) (hlow b (by omega))]
    exact e1.block b hb hne
  have hkeep : ∀ b, w.heap.size + 4 ≤ b → b < w2.heap.size → some b ≠ row.ownBlock → Out (w.heap.size + 4) [(Value.slice (some ⟨g', 0, none⟩) (acc.length + 1) cap).ownBlock] We b ∧ ∀ o, We.cell? ⟨b, o, none⟩ = w2.cell? ⟨b, o, none⟩ := by
    intro b h1 h2 h3'
    refine ⟨⟨h1, by rw [o4]; omega, fun f hf => ?_⟩, fun o => World.cell?_of_block (hold b h2 (by omega) h3')⟩
    rw [List.mem_singleton.1 hf]
    have := row_apart hat h3' (show b < w2.heap.size + 2 by omega)
    simpa [Value.ownBlock] using this
  have hR1 : RowsIn (Out (w.heap.size + 4) [(Value.slice (some ⟨g', 0, none⟩) (acc.length + 1) cap).ownBlock] We) We acc css :=
    e9.keep (fun b o hb => (hkeep b hb.1 hb.2.1 (hb.2.2 _ (List.mem_singleton.2 rfl))).2 o) (fun b hb => (hkeep b hb.1 hb.2.1 (hb.2.2 _ (List.mem_singleton.2 rfl))).1)
  have hfr : ∀ b, Fresh W w2 b → w.heap.size + 4 ≤ b ∧ b < w2.heap.size ∧ some b ≠ row.ownBlock := fun b hb => ⟨by have := hb.1; omega, hb.2, fun e => by have := (hrow b e.symm).2; have := hb.1; omega⟩
  have hL' := LiesIn.keep (P' := Out (w.heap.size + 4) [(Value.slice (some ⟨g', 0, none⟩) (acc.length + 1) cap).ownBlock] We) (w' := We) (fun b o hb => (hkeep b (hfr b hb).1 (hfr b hb).2.1 (hfr b hb).2.2).2 o) (fun b hb => (hkeep b (hfr b hb).1 (hfr b hb).2.1 (hfr b hb).2.2).1) x hL
  refine ⟨⟨.slice (some ⟨g', 0, none⟩) (acc.length + 1) cap, css ++ [fieldsL x A c K q], hG, by rw [o4]; omega, (hold _ (by omega) (by omega) (hlow _ (by omega))).trans e3, (hold _ (by omega) (by omega) (hlow _ (by omega))).trans e4, (hold _ (by omega) (by omega) (hlow _ (by omega))).trans e5, ?_, o2, ?_, ?_⟩, ?_⟩
  · rw [List.length_append]; simp; have := hI6; omega
  · rw [List.length_append, List.flatten_append]; simpa [fieldsL] using o1
  · exact RowsIn.append (ys := [x]) (dss := [fieldsL x A c K q]) ⟨⟨A, c, K, q, rfl, hL'⟩, trivial⟩ hR1
  · exact (hold g (by omega) (by omega) (hlow g (by omega))).trans hW.2

end Go.Proofs.YtfiiaeomlmckfaaGreatDoor
/- Reading: a list, walked. -/
namespace Go.Proofs.YtfiiaeomlmckfaaGreatDoor
open Go.RowKit

theorem spost_some {St : Type} {Inv : St → Nat → World → Prop} {Bad : World → Prop} {g : Nat} {s : ByteArray} {st : St} {l : List UInt8} {n k : Nat} {W : World} (h : Inv st n W ∧ PAt W g s k n) (hk : k ≤ s.size) (hl : sfx s k = l) : SPost Inv Bad g s (some (st, l, n)) (.returned (.tuple #[])) W := ⟨rfl, h.1, k, hk, hl, h.2⟩
attribute [local go_sem ↓] Go.wp_at_zero Go.wp_at_succ
set_option maxRecDepth 100000 in
set_option maxHeartbeats 4000000 in
theorem item_list (g : Nat) (s : ByteArray) (d : Nat) (hd : d ≤ 6) (f : Nat → List UInt8 → Option (V × List UInt8 × Nat)) (w : World) (hg : g < w.heap.size) (hmore : ∀ n l x l' n', f n l = some (x, l', n') → n < n')
    (hval : ∀ (k n : Nat) (W : World), PAt W g s k n → k ≤ s.size → n ≤ 60 → Calls Tryz.prog 35 #[.pointer (some ⟨g, 0, none⟩), .int .i64 ((d : Int) + 1)] W (VPost g s W (f n (sfx s k))))
    (acc : List V) (k n : Nat) (W : World) (hI : LInv w g d acc n W) (hP : PAt W g s k n) (hk : k ≤ s.size) (hn : n ≤ 60) :
    Calls Tryz.prog 77 #[.pointer (some ⟨w.heap.size, 0, none⟩), .pointer (some ⟨w.heap.size + 1, 0, none⟩), .pointer (some ⟨w.heap.size + 3, 0, none⟩)] W (SPost (LInv w g d) (fun W' => w.grownBy W' (some g)) g s (stepL f acc n (sfx s k))) := by
  have HV := Lib.hid hval
  have HM := Lib.hid hmore
  have HP := Lib.hid hP
  obtain ⟨row, css, hI⟩ := hI
  have HI := Lib.hid hI
  have p0 : W.cell? ⟨w.heap.size, 0, none⟩ = some (.pointer (some ⟨g, 0, none⟩)) := by simpa using hI.2.2.1.cell 0
  have p1 : W.cell? ⟨w.heap.size + 1, 0, none⟩ = some (.int .i64 d) := by simpa using hI.2.2.2.1.cell 0
  clear hval hmore hI hP
  go_enter Tryz.func77, Tryz.ntmps77
  go_wp2_with fail
  refine (HV.out k n _ HP.out hk hn).mono ?_
  intro e w2 hp
  rcases hst : f n (sfx s k) with _ | ⟨x, l, n'⟩
  · rw [hst] at hp
    obtain ⟨rfl, hp⟩ := hp
    refine ⟨rfl, ?_⟩
    rw [stepL, hst]
    exact ⟨rfl, grow_trans HI.out.1 hp⟩
  rw [hst] at hp
  obtain ⟨A, c, K, q, k', rfl, hL, hk', hsk, hW⟩ := hp
  have hn' := HM.out _ _ _ _ _ hst
  have HL := Lib.hid hL
  have HW := Lib.hid hW
  have HI2 := Lib.hid (HI.out.keep hg hW.1 (Nat.le_of_lt hn'))
  clear hL hW p0 p1
  obtain ⟨hI1, hI2, hI3, hI4, hI5, hI6, hI7, hI8, hI9⟩ := HI2.out
  obtain ⟨RA, rc, rfl⟩ : ∃ RA rc, row = .slice RA acc.length rc := own_form hI8
  have q0 : w2.cell? ⟨w.heap.size + 3, 3, none⟩ = some (.slice RA acc.length rc) := by simpa using hI7.cell 3
  have hlt3 : w.heap.size + 3 < w2.heap.size := by omega
  have HO := Lib.hid hI8
  have HR := Lib.hid hI9
  have hlen : acc.length ≤ 60 := by have := HI.out.2.2.2.2.2.1; omega
  have hne3 : some (w.heap.size + 3) ≠ (Value.slice RA acc.length rc).ownBlock := fun e => by have := (World.ownsRow.lt hI8 _ e.symm).1; omega
  have hneT : some w2.heap.size ≠ (Value.slice RA acc.length rc).ownBlock := fun e => by have := (World.ownsRow.lt hI8 _ e.symm).2; omega
  have HE := Lib.hid (And.intro hne3 hneT)
  have HF := hI9.flat
  have hb0 : (0 : Int) ≤ (acc.length : Int) := by omega
  have hb1 : (acc.length : Int) < (acc.length : Int) + 1 := by omega
  have f3 : w2.frozen? ⟨w.heap.size + 3, 3, none⟩ = false := hI7.frozen 3
  obtain ⟨i0, hi0, hz0, hz1, hz2⟩ := info_parts (P := Tryz.prog) (e := 35) (z := .agg zeroF) (size := 5) (bytes := 80) (by kernel_rfl)
  obtain ⟨W3, hW3⟩ : ∃ W3, W3 = (w2.alloc (.cells #[.int .i64 x.kind, .int .i64 x.int, .string x.text, .slice A x.items.length c, .slice K x.keys.length q] 35)).alloc (.cells zeroF 35) := ⟨_, rfl⟩
  have HZ := Lib.hid (show W3.heap[w2.heap.size + 1]? = some (.cells zeroF 35 (0, 0)) by rw [hW3]; exact BlockIs.newAt _ _ _ (by simp))
  have HO3 := Lib.hid (show W3.ownsRow (w.heap.size + 4) 35 5 (.slice RA acc.length rc) acc.length css.flatten by rw [hW3]; exact World.ownsRow.alloc (World.ownsRow.alloc HO.out _) _)
  have HQ := Lib.hid (show W3.cell? ⟨w.heap.size + 3, 3, none⟩ = some (.slice RA acc.length rc) ∧ W3.frozen? ⟨w.heap.size + 3, 3, none⟩ = false ∧ w.heap.size + 3 < W3.heap.size by rw [hW3]; exact ⟨((hI7.alloc _).alloc _).cell 3, ((hI7.alloc _).alloc _).frozen 3, by simp; omega⟩)
  subst hW3
  clear hI1 hI2 hI3 hI4 hI5 hI6 hI7 hI8 hI9 hne3 hneT
  unfold cellsOf
  go_wp2_with fail
  go_region_law (refine step_append_lies _ (by rfl) _ _ 22 (by rfl) (w.heap.size + 4) 35 i0 (.agg zeroF) 5 80 Tryz.underlying22 hi0 hz0 hz1 hz2 (by rfl) (by omega) (.slice RA acc.length rc) acc.length css.flatten (by rfl) (own_heap HO3.out rfl) ⟨w2.heap.size + 1, 0, none⟩ 1 1 zeroF.toList (by rfl) (by rfl) (World.news_of_block (fr := (0, 0)) (t := 35) (cs := zeroF) HZ.out) (by decide) (by omega) (by unfold maxLen; omega) (by omega) (by simp; omega) (w2.heap.size + 2) (by simp) ?_; intro g' cap w1 hown1 hgrow hat hlt; have ha3 := row_apart hat HE.out.1 (by omega); have ha3' := fun e => ha3 (Eq.symm e); have q1 := (hgrow.cell_far ⟨w.heap.size + 3, 3, none⟩ HQ.out.2.2 HE.out.1).trans HQ.out.1; have f31 := (hgrow.frozen_far ⟨w.heap.size + 3, 3, none⟩ HQ.out.2.2 HE.out.1).trans HQ.out.2.1; obtain ⟨l0, l1, l2, l3, l4, f0, f1, f2, f3, f4⟩ := own_last5 hown1 HF)
  all_goals
    have hE := fun We h => list_end (We := We) hg HI.out hn' HW.out HL.out (grow_drew (grow_alloc (grow_alloc (grow_refl w2 none) _) _)) (by simp) hgrow hat hown1 h
    clear l0 l1 l2 l3 l4 f0 f1 f2 f3 f4 q1 f31 ha3 ha3' hlt hown1 hgrow hat HQ HO3 HZ HE HF HR HO HI2
    refine bodyPost_end (v := .tuple #[]) (by simp [results, Tryz.results77, go_sem]) rfl ?_
    rw [stepL, hst]
    refine spost_some (hE _ ?_) hk' hsk
    unfold put5
    first | (left; with_reducible rfl) | (right; with_reducible rfl)
end Go.Proofs.YtfiiaeomlmckfaaGreatDoor
/- Reading: a list, whole. -/
namespace Go.Proofs.YtfiiaeomlmckfaaGreatDoor
open Go.RowKit

theorem list_result {w W : World} {g : Nat} {d : Int} {acc : List V} {n : Nat} {row : Value} {css : List (List Value)} (h : LInvR w g d acc n row css W) :
    ∃ A c, row = .slice A acc.length c ∧ ∀ W', (∀ b, w.heap.size + 4 ≤ b → b < W.heap.size → W'.heap[b]? = W.heap[b]?) → W.heap.size ≤ W'.heap.size → LiesIn (Fresh w W') W' (V.mk 4 0 ⟨#[]⟩ acc []) A c none 0 := by
  obtain ⟨h1, h2, h3, h4, h5, h6, h7, h8, h9⟩ := h
  have hr : RowsIn (fun b => w.heap.size + 4 ≤ b ∧ b < W.heap.size) W acc css := h9.keep (fun _ _ _ => rfl) (fun b hb => ⟨hb.1, hb.2.1⟩)
  obtain ⟨A, c, rfl, hc1, hc2, hA⟩ := rows_lie hr h8 (fun b hb => World.ownsRow.lt h8 b hb)
  refine ⟨A, c, rfl, fun W' hW hs => ?_⟩
  rw [LiesIn]
  refine ⟨by decide, hc1, hc2, ⟨Nat.le_refl _, by simp [maxLen], .inl rfl⟩, hA.imp id ?_⟩
  rintro ⟨b, o, hAe, hb, hf⟩
  exact ⟨b, o, hAe, ⟨by have := hb.1; omega, by have := hb.2; omega⟩, LiesFromIn.keep (fun b' o' hb' => World.cell?_of_block (hW b' hb'.1 hb'.2)) (fun b' hb' => ⟨by have := hb'.1; omega, by have := hb'.2; omega⟩) acc hb hf⟩
theorem list_start (w : World) (g : Nat) (d : Int) (n : Nat) :
    LInv w g d [] n ((((w.alloc (.cells #[.pointer (some ⟨g, 0, none⟩)] 60)).alloc (.cells #[.int .i64 d] 3)).alloc (.cells zeroF 35)).alloc (.cells #[.int .i64 4, .int .i64 0, .string ⟨#[]⟩, .slice none 0 0, .slice none 0 0] 35)) := by
  refine ⟨.slice none 0 0, [], grow_alloc (grow_alloc (grow_alloc (grow_alloc (grow_refl w _) _) _) _) _, by simp, ?_, ?_, ?_, Nat.zero_le _, ?_, World.ownsRow_nil _ _ _ _, trivial⟩
  · exact (((BlockIs.new w _ _).alloc _).alloc _).alloc _
  · exact ((BlockIs.newAt _ _ _ (by simp)).alloc _).alloc _
  · exact (BlockIs.newAt _ _ _ (by simp)).alloc _
  · exact BlockIs.newAt _ _ _ (by simp)
theorem PAt.alloc {w : World} {g : Nat} {s : ByteArray} {k n : Nat} (h : PAt w g s k n) (o : Obj) : PAt (w.alloc o) g s k n := BlockIs.alloc h o

set_option maxRecDepth 100000 in
set_option maxHeartbeats 4000000 in
theorem list_any (g : Nat) (s : ByteArray) (hs : s.size ≤ 1000000) (d : Nat) (hd : d ≤ 6) (f : Nat → List UInt8 → Option (V × List UInt8 × Nat)) (hmore : ∀ n l x l' n', f n l = some (x, l', n') → n < n') (hok : ∀ n l x l' n', f n l = some (x, l', n') → l'.length ≤ l.length ∧ n' ≤ 60)
    (hval : ∀ (k n : Nat) (W : World), PAt W g s k n → k ≤ s.size → n ≤ 60 → Calls Tryz.prog 35 #[.pointer (some ⟨g, 0, none⟩), .int .i64 ((d : Int) + 1)] W (VPost g s W (f n (sfx s k))))
    (k n : Nat) (w : World) (hP : PAt w g s k n) (hk : k ≤ s.size) (hn : n ≤ 60) :
    Calls Tryz.prog 52 #[.pointer (some ⟨g, 0, none⟩), .int .i64 d] w (VPost g s w ((seriesP (stepL f) 93 91 [] n (sfx s k)).map fun q => (V.mk 4 0 ⟨#[]⟩ q.1 [], q.2))) := by
  have hg := hP.lt
  have HP := Lib.hid hP
  have HN := Lib.hid (show ∀ (args : Array Value) (W : World), (callFunc 77 args).run Tryz.prog W = .ok (.enter 77 args) W from enters_of Tryz.func77 (by kernel_rfl) rfl)
  have HS := Lib.hid fun (W : World) (hW : PAt W g s k n) (hI : LInv w g d [] n W) => series_any (stepL f) 91 93 91 93 rfl rfl (LInv w g d) (fun W' => w.grownBy W' (some g)) g s 77 (some ⟨w.heap.size, 0, none⟩) (some ⟨w.heap.size + 1, 0, none⟩) (some ⟨w.heap.size + 3, 0, none⟩) HN.out
    (fun st k n W W' hI hW => hI.keep hg hW.1 (Nat.le_refl _)) (fun st n W W' hI hW => by obtain ⟨row, css, hI⟩ := hI; exact grow_trans hI.1 hW) (stepL_ok hok)
    (fun st k n W hI hP hk hn => item_list g s d hd f w hg hmore hval st k n W hI hP hk hn) hs [] k n W hW hk hn hI
  clear hP hval hok
  have hmf : ∀ (fn : Fn) (first cap : Array Value) (w : World), (Instr.makeFunc fn first cap).run Tryz.prog w = .ok (.func fn first cap) w := fun _ _ _ _ => rfl
  go_enter Tryz.func52, Tryz.ntmps52
  go_wp2_with fail
  refine (HS.out _ ((((PAt.alloc HP.out _).alloc _).alloc _).alloc _) (list_start w g d n)).mono ?_
  intro e w2 hp
  rcases hst : seriesP (stepL f) 93 91 [] n (sfx s k) with _ | ⟨acc, l, n'⟩
  · rw [hst] at hp
    obtain ⟨rfl, hp⟩ := hp
    refine ⟨rfl, ?_⟩
    rw [hst]
    exact ⟨rfl, hp⟩
  rw [hst] at hp
  obtain ⟨rfl, ⟨row, css, hI⟩, k', hk', hsk, hP'⟩ := hp
  obtain ⟨A, c, rfl, hres⟩ := list_result hI
  obtain ⟨hI1, hI2, hI3, hI4, hI5, hI6, hI7, hI8, hI9⟩ := hI
  have v0 : w2.cell? ⟨w.heap.size + 1 + 1 + 1, 0, none⟩ = some (.int .i64 4) := by simpa using hI7.cell 0
  have v1 : w2.cell? ⟨w.heap.size + 1 + 1 + 1, 1, none⟩ = some (.int .i64 0) := by simpa using hI7.cell 1
  have v2 : w2.cell? ⟨w.heap.size + 1 + 1 + 1, 2, none⟩ = some (.string ⟨#[]⟩) := by simpa using hI7.cell 2
  have v3 : w2.cell? ⟨w.heap.size + 1 + 1 + 1, 3, none⟩ = some (.slice A acc.length c) := by simpa using hI7.cell 3
  have v4 : w2.cell? ⟨w.heap.size + 1 + 1 + 1, 4, none⟩ = some (.slice none 0 0) := by simpa using hI7.cell 4
  have z0 : w2.cell? ⟨w.heap.size + 1 + 1, 0, none⟩ = some (.int .i64 0) := by simpa [zeroF] using hI5.cell 0
  have z1 : w2.cell? ⟨w.heap.size + 1 + 1, 1, none⟩ = some (.int .i64 0) := by simpa [zeroF] using hI5.cell 1
  have z2 : w2.cell? ⟨w.heap.size + 1 + 1, 2, none⟩ = some (.string ⟨#[]⟩) := by simpa [zeroF] using hI5.cell 2
  have z3 : w2.cell? ⟨w.heap.size + 1 + 1, 3, none⟩ = some (.slice none 0 0) := by simpa [zeroF] using hI5.cell 3
  have z4 : w2.cell? ⟨w.heap.size + 1 + 1, 4, none⟩ = some (.slice none 0 0) := by simpa [zeroF] using hI5.cell 4
  have fz : ∀ i, w2.frozen? ⟨w.heap.size + 1 + 1, i, none⟩ = false := fun i => hI5.frozen i
  have g0 := fz 0
  have g1 := fz 1
  have g2 := fz 2
  have g3 := fz 3
  have g4 := fz 4
  have HR := Lib.hid hres
  have HW := Lib.hid (show Went g s k' n' w w2 from ⟨hI1, hP'⟩)
  clear hres hI1 hI2 hI3 hI4 hI5 hI6 hI7 hI8 hI9 hP' fz
  go_wp2_with fail
  refine bodyPost_ret (v := cellsOf (V.mk 4 0 ⟨#[]⟩ acc []) A c none 0) (by simp [results, Tryz.results52, go_sem, cellsOf, V.kind, V.int, V.text, V.items, V.keys, z0, z1, z2, z3, z4]) rfl ?_
  rw [hst]
  refine ⟨A, c, none, 0, k', rfl, HR.out _ (fun b h1 h2 => put5_heap w2 (w.heap.size + 1 + 1) 0 _ _ _ _ _ (by omega)) (Nat.le_of_eq (put5_size w2 (w.heap.size + 1 + 1) 0 _ _ _ _ _).symm), hk', hsk, ?_⟩
  exact ((((HW.out.set hg _ _ (by simp; omega)).set hg _ _ (by simp; omega)).set hg _ _ (by simp; omega)).set hg _ _ (by simp; omega)).set hg _ _ (by simp; omega)
end Go.Proofs.YtfiiaeomlmckfaaGreatDoor
