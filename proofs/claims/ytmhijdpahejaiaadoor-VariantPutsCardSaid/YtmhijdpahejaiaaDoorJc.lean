/- What was put where nothing was, taken out again: plain. -/
import Derived.Test.YtmhijdpahejaiaaDoorTm
import Derived.Test.YtmhijdpahejaiaaDoorKa
import Derived.Deep.CutRange
import Derived.Test.YtmhijdpahejaiaaDoorJb
import Derived.Test.YtmhijdpahejaiaaDoorJg
namespace Go.Proofs.YtmhijdpahejaiaaDoor
open Go.RowKit
theorem item_find {x y : V} {s : Stp} (h : itemV x s = some y) : (findV x s).2 = true ∧ x.items[whereV x s]? = some y := by
  obtain ⟨i, k⟩ := s
  unfold itemV at h
  by_cases h0 : 0 ≤ i
  · rw [if_pos h0] at h
    split at h
    · rename_i h4
      have hlt := (List.getElem?_eq_some_iff.1 h).1
      refine ⟨by simp [findV, h0, h4]; simp only at hlt; omega, ?_⟩
      simp [whereV, findV, h0]
      exact h
    · cases h
  · rw [if_neg h0] at h
    split at h
    · rename_i hh
      refine ⟨by simp [findV, h0]; exact hh, ?_⟩
      simp [whereV, findV, h0]
      exact h
    · cases h
theorem item_none {x : V} {s : Stp} (hok : x.ok = true) (h : itemV x s = none) : (findV x s).2 = false := by
  cases h2 : (findV x s).2 with
  | false => rfl
  | true =>
    obtain ⟨_, _, _, _, h3⟩ := find_item hok h2
    rw [h] at h3
    cases h3
theorem find_set (x y : V) (n : Nat) (s : Stp) : findV (setIt x n y) s = findV x s := by
  simp [findV, setIt_kind, setIt_items, setIt_keys]
  rfl
theorem kind_of {x : V} {s : Stp} (h : ¬ x.kind = 0) : kindV x s = x := by unfold kindV; rw [if_neg h]
theorem put_last {x z : V} {s : Stp} (hok : x.ok = true) (h45 : x.kind = 4 ∨ x.kind = 5) (hn : itemV x s = none) (hp : (putV x [s] z).2 = 0) : removeV (putV x [s] z).1 [s] = (x, true) := by
  have h0 : ¬ x.kind = 0 := by omega
  have hf := fit_of hok
  have hfn := item_none hok hn
  rw [putV, kind_of h0] at hp ⊢
  split at hp
  · simp at hp
  · rename_i hk
    split at hp
    · simp at hp
    · rename_i hl
      rw [if_neg hk, if_neg hl]
      have hk' : x.kind = holderS s := by simpa using hk
      have hle := where_le hf hk' hl
      have hr : roomV x s = .mk x.kind x.int x.text (x.items.take (whereV x s) ++ nullV :: x.items.drop (whereV x s)) (if x.kind = 5 then x.keys.take (whereV x s) ++ s.2 :: x.keys.drop (whereV x s) else x.keys) := by rw [roomV, if_neg (by simp [hfn])]
      have hl1 : (x.items.take (whereV x s)).length = whereV x s := by rw [List.length_take]; omega
      have hX : setIt (roomV x s) (whereV x s) (putV ((roomV x s).items.getD (whereV x s) nullV) [] z).1 = .mk x.kind x.int x.text (x.items.take (whereV x s) ++ z :: x.items.drop (whereV x s)) (if x.kind = 5 then x.keys.take (whereV x s) ++ s.2 :: x.keys.drop (whereV x s) else x.keys) := by
        rw [hr]
        simp only [setIt, mkK, mkN, mkT, mkI, mkY, putV]
        rw [List.set_append]
        simp [hl1]
      show removeV (setIt (roomV x s) (whereV x s) (putV ((roomV x s).items.getD (whereV x s) nullV) [] z).1) [s] = _
      rw [hX]
      have hw : findV (.mk x.kind x.int x.text (x.items.take (whereV x s) ++ z :: x.items.drop (whereV x s)) (if x.kind = 5 then x.keys.take (whereV x s) ++ s.2 :: x.keys.drop (whereV x s) else x.keys)) s = (((whereV x s : Nat) : Int), true) := by
        obtain ⟨i, k⟩ := s
        by_cases hi : 0 ≤ i
        · have h4 : x.kind = 4 := by rw [hk', holderS, if_neg (by simp only; omega)]
          have hwi : whereV x (i, k) = i.toNat := by simp [whereV, findV, hi]
          unfold findV
          rw [if_pos hi]
          simp only [mkK, mkI, h4, List.length_append, List.length_cons, List.length_take, List.length_drop, hwi] at *
          simp
          omega
        · have h5 : x.kind = 5 := by rw [hk', holderS, if_pos (by simp only; omega)]
          have hwk : whereV x (i, k) = posK k x.keys := by simp [whereV, findV, hi]
          have hnm : ¬ k ∈ x.keys := fun e => by simp [findV, hi, (hasK_iff _ _).2 e] at hfn
          have hle2 := posK_le k x.keys
          unfold findV
          rw [if_neg hi]
          simp only [mkY, if_pos h5, hwk]
          have hat : (x.keys.take (posK k x.keys) ++ k :: x.keys.drop (posK k x.keys))[posK k x.keys]? = some k := by
            rw [List.getElem?_append_right (by rw [List.length_take]; omega), List.length_take, Nat.min_eq_left hle2, Nat.sub_self]
            rfl
          rw [posK_at (rising_ins hf.rise hnm) hat, (hasK_iff _ _).2 (List.mem_of_getElem? hat)]
      rw [removeV, hw, if_pos rfl, if_pos rfl, delV]
      have hw2 : whereV (.mk x.kind x.int x.text (x.items.take (whereV x s) ++ z :: x.items.drop (whereV x s)) (if x.kind = 5 then x.keys.take (whereV x s) ++ s.2 :: x.keys.drop (whereV x s) else x.keys)) s = whereV x s := by
        show (findV _ s).1.toNat = whereV x s
        rw [hw]; rfl
      rw [hw2]
      simp only [mkK, mkN, mkT, mkI, mkY]
      rw [cut_ins hle]
      have hkeys : (if x.kind = 5 then (if x.kind = 5 then x.keys.take (whereV x s) ++ s.2 :: x.keys.drop (whereV x s) else x.keys).take (whereV x s) ++ (if x.kind = 5 then x.keys.take (whereV x s) ++ s.2 :: x.keys.drop (whereV x s) else x.keys).drop (whereV x s + 1) else (if x.kind = 5 then x.keys.take (whereV x s) ++ s.2 :: x.keys.drop (whereV x s) else x.keys)) = x.keys := by
        by_cases h5 : x.kind = 5
        · simp only [if_pos h5]
          exact cut_ins (by rw [hf.five h5]; exact hle) _
        · simp only [if_neg h5]
      have hend : ∀ ks, ks = x.keys → (V.mk x.kind x.int x.text x.items ks, true) = (x, true) := fun ks e => by rw [e, mk_eta]
      exact hend _ hkeys
theorem put_remove (s : Stp) (z : V) : ∀ (q : List Stp) (x y : V), x.ok = true → atV x q = some y → (y.kind = 4 ∨ y.kind = 5) → itemV y s = none → (putV x (q ++ [s]) z).2 = 0 → removeV (putV x (q ++ [s]) z).1 (q ++ [s]) = (x, true)
  | [], x, y, hok, hy, h45, hn, h0 => by
    obtain rfl : x = y := Option.some.inj hy
    exact put_last hok h45 hn h0
  | a :: q, x, y, hok, hy, h45, hn, h0 => by
    rw [atV] at hy
    cases hi : itemV x a with
    | none => rw [hi] at hy; cases hy
    | some y1 =>
      rw [hi] at hy
      obtain ⟨hft, hiw⟩ := item_find hi
      have hf := fit_of hok
      have hk : x.kind = holderS a := by
        obtain ⟨i, k⟩ := a
        by_cases hi0 : 0 ≤ i
        · simp [findV, hi0] at hft
          rw [holderS, if_neg (by simp only; omega)]; exact hft.1
        · rw [holderS, if_pos (by simp only; omega)]
          simp [findV, hi0] at hft
          have hm := (hasK_iff _ _).1 hft
          by_cases h5 : x.kind = 5
          · exact h5
          · rw [hf.none h5] at hm; cases hm
      have hk0 : ¬ x.kind = 0 := by rw [hk, holderS]; split <;> omega
      have hroom : roomV x a = x := by rw [roomV, if_pos hft]
      have hget : x.items.getD (whereV x a) nullV = y1 := by rw [List.getD_eq_getElem?_getD, hiw]; rfl
      have hlt : whereV x a < x.items.length := (List.getElem?_eq_some_iff.1 hiw).1
      rw [List.cons_append] at h0 ⊢
      rw [putV, kind_of hk0] at h0 ⊢
      split at h0
      · simp at h0
      · rename_i hk2
        split at h0
        · simp at h0
        · rename_i hl
          rw [if_neg hk2, if_neg hl]
          rw [hroom, hget] at h0 ⊢
          have ih := put_remove s z q y1 y (okItems hok y1 (item_mem hi)) hy h45 hn h0
          show removeV (setIt x (whereV x a) (putV y1 (q ++ [s]) z).1) (a :: (q ++ [s])) = _
          have hws : whereV (setIt x (whereV x a) (putV y1 (q ++ [s]) z).1) a = whereV x a := by unfold whereV; rw [find_set]
          rw [removeV, find_set, if_pos hft, if_neg (by simp), hws]
          have hg2 : (setIt x (whereV x a) (putV y1 (q ++ [s]) z).1).items.getD (whereV x a) nullV = (putV y1 (q ++ [s]) z).1 := by
            rw [setIt_items, List.getD_eq_getElem?_getD, List.getElem?_set_self hlt]; rfl
          rw [hg2, ih]
          have : setIt (setIt x (whereV x a) (putV y1 (q ++ [s]) z).1) (whereV x a) y1 = x := by
            unfold setIt
            simp only [mkK, mkN, mkT, mkI, mkY]
            rw [List.set_set]
            have e : x.items.set (whereV x a) y1 = x.items := by
              rw [List.getElem?_eq_some_iff] at hiw
              obtain ⟨h1, h2⟩ := hiw
              rw [← h2]
              exact List.set_getElem_self h1
            rw [e, mk_eta]
          rw [this]
open Go.RowKit
/-- A part of a row appended to an owned row, and where the new row lies. -/
theorem appendW (ty : TypeId) (W : World) (B : Nat) (v : Value) (k : Nat) (xs : List Value) (hown : W.ownsRow B 25 5 v k xs) (a : Addr) (m c : Nat) (news : List Value) (hl : news.length = m * 5) (hA : ∀ j u, news[j]? = some u → W.cell? (a.add j) = some u) (h1 : ∀ u ∈ news, u.oneCell' = true) (hk : k + m ≤ 100000) (hB : B ≤ W.heap.size) (hm : 0 < m) :
    ∃ v' W', (Builtin.append_ #[22, 22] ty #[v, .slice (some a) m c]).run Tryd.prog W = .ok v' W' ∧ W'.ownsRow B 25 5 v' (k + m) (xs ++ news) ∧ W.grownBy W' v.ownBlock ∧ (v'.ownBlock = v.ownBlock ∨ ∃ n c, v' = .slice (some ⟨W.heap.size, 0, none⟩) n c) := by
  obtain ⟨i0, hi, hz0, hz1, hz2⟩ := info_parts (P := Tryd.prog) (e := 25) (z := (.agg zeroF)) (size := 5) (bytes := 80) (by kernel_rfl)
  exact append_where (P := Tryd.prog) W B 22 ty 25 i0 (.agg zeroF) 5 80 Tryd.underlying22 hi hz0 hz1 hz2 rfl (by omega) v k xs hown a m c news hl hA h1 (by unfold maxLen; omega) (by omega) hB hm
theorem appendKW (ty : TypeId) (W : World) (B : Nat) (v : Value) (k : Nat) (xs : List Value) (hown : W.ownsRow B 9 1 v k xs) (a : Addr) (m c : Nat) (news : List Value) (hl : news.length = m * 1) (hA : ∀ j u, news[j]? = some u → W.cell? (a.add j) = some u) (h1 : ∀ u ∈ news, u.oneCell' = true) (hk : k + m ≤ 100000) (hB : B ≤ W.heap.size) (hm : 0 < m) :
    ∃ v' W', (Builtin.append_ #[23, 23] ty #[v, .slice (some a) m c]).run Tryd.prog W = .ok v' W' ∧ W'.ownsRow B 9 1 v' (k + m) (xs ++ news) ∧ W.grownBy W' v.ownBlock ∧ (v'.ownBlock = v.ownBlock ∨ ∃ n c, v' = .slice (some ⟨W.heap.size, 0, none⟩) n c) := by
  obtain ⟨i0, hi, hz0, hz1, hz2⟩ := info_parts (P := Tryd.prog) (e := 9) (z := (.string ⟨#[]⟩)) (size := 1) (bytes := 16) (by kernel_rfl)
  exact append_where (P := Tryd.prog) W B 23 ty 9 i0 (.string ⟨#[]⟩) 1 16 Tryd.underlying23 hi hz0 hz1 hz2 rfl (by omega) v k xs hown a m c news hl hA h1 (by unfold maxLen; omega) (by omega) hB hm
/-- The blocks that what was collected hangs on: elder ones, and the call's own, but the rows'. -/
def PO (w : World) (B : Nat) (rI rK : Value) (W : World) (b : Nat) : Prop := b < B ∨ (w.heap.size + 3 ≤ b ∧ b < W.heap.size ∧ some b ≠ rI.ownBlock ∧ some b ≠ rK.ownBlock)
/-- How far a value is copied. -/
structure WO (w : World) (B : Nat) (vc : Array Value) (kd : Int) (accI : List V) (accK : List ByteArray) (rI rK : Value) (css : List (List Value)) (W : World) : Prop where
  old : Below w.heap.size w W
  bv : BlockIs W w.heap.size 25 vc
  br : BlockIs W (w.heap.size + 1) 25 zeroF
  bo : BlockIs W (w.heap.size + 2) 25 #[.int .i64 kd, .int .i64 0, .string ⟨#[]⟩, rI, rK]
  items : W.ownsRow (w.heap.size + 3) 25 5 rI accI.length css.flatten
  keys : W.ownsRow (w.heap.size + 3) 9 1 rK accK.length (accK.map Value.string)
  rows : RowsIn (PO w B rI rK W) W accI css
  sizes : ∀ k ∈ accK, k.size ≤ maxLen
section
variable {w W W' w1 : World} {B : Nat} {vc : Array Value} {kd : Int} {accI : List V} {accK : List ByteArray} {rI rK v' : Value} {css : List (List Value)} {y : V} {A K : Option Addr} {c d : Nat} {u0 u1 u2 u3 u4 : Value}
theorem WO.start (w : World) (B : Nat) (vc : Array Value) (kd : Int) : WO w B vc kd [] [] (.slice none 0 0) (.slice none 0 0) [] (((w.alloc (.cells vc 25)).alloc (.cells zeroF 25)).alloc (.cells #[.int .i64 kd, .int .i64 0, .string ⟨#[]⟩, .slice none 0 0, .slice none 0 0] 25)) :=
  ⟨below_al (below_al (below_al (Below.refl _ w) _) _) _, ((BlockIs.new w _ _).alloc _).alloc _, (BlockIs.newAt _ _ _ (by simp)).alloc _, BlockIs.newAt _ _ _ (by simp), World.ownsRow_nil _ _ _ _, World.ownsRow_nil _ _ _ _, trivial, by simp⟩
theorem WO.lt (h : WO w B vc kd accI accK rI rK css W) : w.heap.size + 3 ≤ W.heap.size := by have := h.bo.lt; omega
theorem PO.lt (h : WO w B vc kd accI accK rI rK css W) (hB : B ≤ w.heap.size) {b : Nat} (hb : PO w B rI rK W b) : b < W.heap.size := by
  have := h.lt
  rcases hb with h | h
  · omega
  · exact h.2.1
theorem WO.below (h : WO w B vc kd accI accK rI rK css W) (hB : B ≤ w.heap.size) (hb : Below W.heap.size W W') : WO w B vc kd accI accK rI rK css W' := by
  have hs := hb.size
  have hk : ∀ v : Value, v.ownBlock = none ∨ v.ownBlock ≠ (none : Option Nat) := fun v => by cases v.ownBlock <;> simp
  refine ⟨below_on h.old hb, h.bv.below hb h.bv.lt, h.br.below hb h.br.lt, h.bo.below hb h.bo.lt, h.items.kept (grown_none hb) (hk _), h.keys.kept (grown_none hb) (hk _), h.rows.keep (fun b o hx => bcell hb b o (PO.lt h hB hx)) (fun b hx => hx.imp id fun hx => ⟨hx.1, by omega, hx.2.2⟩), h.sizes⟩
/-- An item more. -/
theorem WO.item (h : WO w B vc kd accI accK rI rK css W) (hB : B ≤ w.heap.size) (hy : LiesIn (PO w B rI rK W) W y A c K d) (hlen : accI.length ≤ 10000) :
    ∃ v' W1, (Builtin.append_ #[22, 22] 22 #[rI, .slice (some ⟨W.heap.size, 0, none⟩) 1 1]).run Tryd.prog (W.alloc (.cells #[.int .i64 y.kind, .int .i64 y.int, .string y.text, .slice A y.items.length c, .slice K y.keys.length d] 25)) = .ok v' W1 ∧
      (∃ A c, v' = .slice A (accI.length + 1) c) ∧ (∀ o, W1.cell? ⟨w.heap.size + 2, o, none⟩ = W.cell? ⟨w.heap.size + 2, o, none⟩) ∧ W1.frozen? ⟨w.heap.size + 2, 3, none⟩ = false ∧ w.heap.size + 2 < W1.heap.size ∧ WO w B vc kd (accI ++ [y]) accK v' rK (css ++ [fieldsL y A c K d]) (W1.setCell ⟨w.heap.size + 2, 3, none⟩ v') := by
  have hlt := h.lt
  have hb1a := below_al (Below.refl _ W) (.cells #[.int .i64 y.kind, .int .i64 y.int, .string y.text, .slice A y.items.length c, .slice K y.keys.length d] 25)
  have ha := h.below hB hb1a
  have hnew := BlockIs.new W 25 #[.int .i64 y.kind, .int .i64 y.int, .string y.text, .slice A y.items.length c, .slice K y.keys.length d]
  have hz : (W.alloc (.cells #[.int .i64 y.kind, .int .i64 y.int, .string y.text, .slice A y.items.length c, .slice K y.keys.length d] 25)).heap.size = W.heap.size + 1 := by simp
  obtain ⟨v', W1, hr, ho, hg, hw⟩ := appendW 22 _ (w.heap.size + 3) rI accI.length _ ha.items ⟨W.heap.size, 0, none⟩ 1 1 (fieldsL y A c K d) rfl (fun j u hj => by
    rw [Addr.add_lit, Nat.zero_add, hnew.cell j, ← hj]
    simp [fieldsL]) (fun u hu => by simp only [fieldsL, List.mem_cons, List.not_mem_nil, or_false] at hu; rcases hu with rfl | rfl | rfl | rfl | rfl <;> rfl) (by omega) (by omega) (by omega)
  have hge : ∀ g, g < w.heap.size + 3 → some g ≠ rI.ownBlock := fun g hg => own_ge ha.items hg
  have hs1 := hg.size
  have hB1 : Below w.heap.size w W1 := ha.old.trans (below_grow hg ha.old.size (fun r e => by have := (World.ownsRow.lt ha.items r e).1; omega))
  have hB2 : Below w.heap.size w (W1.setCell ⟨w.heap.size + 2, 3, none⟩ v') := hB1.setCell (by simp) _
  have hapart : v'.ownBlock = none ∨ v'.ownBlock ≠ rK.ownBlock := two_apart ho (ha.keys.kept hg (two_apart ha.keys ha.items (by decide))) (by decide)
  have hold : ∀ b, b < W.heap.size → b ≠ w.heap.size + 2 → some b ≠ rI.ownBlock → (W1.setCell ⟨w.heap.size + 2, 3, none⟩ v').heap[b]? = W.heap[b]? := fun b h1 h2 h3 => by
    rw [Below.heap_setCell _ _ _ _ h2, hg.block b (by omega) h3, Below.heap_alloc _ _ _ h1]
  have hP : ∀ b, PO w B rI rK W b → PO w B v' rK (W1.setCell ⟨w.heap.size + 2, 3, none⟩ v') b := fun b hb => hb.imp id fun hb => ⟨hb.1, by simp; have := hb.2.1; omega, row_where hw hb.2.2.1 (by have := hb.2.1; omega), hb.2.2.2⟩
  have hcell : ∀ b o, PO w B rI rK W b → (W1.setCell ⟨w.heap.size + 2, 3, none⟩ v').cell? ⟨b, o, none⟩ = W.cell? ⟨b, o, none⟩ := fun b o hb => World.cell?_of_block (by
    rcases hb with hb | hb
    · exact hold b (by omega) (by omega) (hge b (by omega))
    · exact hold b hb.2.1 (by have := hb.1; omega) hb.2.2.1)
  refine ⟨v', W1, hr, own_form ho, fun o => ?_, ?_, by omega, hB2, (ha.bv.grown hg (hge _ (by omega))).far (by simp) _, (ha.br.grown hg (hge _ (by omega))).far (by simp) _, ?_, ?_, ?_, ?_, h.sizes⟩
  · exact World.cell?_of_block (show W1.heap[w.heap.size + 2]? = W.heap[w.heap.size + 2]? by rw [hg.block _ (by omega) (hge _ (by omega)), Below.heap_alloc _ _ _ (by omega)])
  · exact (ha.bo.grown hg (hge _ (by omega))).frozen 3
  · have := (ha.bo.grown hg (hge _ (by omega))).set_ 3 v'
    simpa using this
  · have := own_set_far ho ⟨w.heap.size + 2, 3, none⟩ v' (own_ge ho (by simp))
    simpa [List.flatten_append] using this
  · exact own_set_far (ha.keys.kept hg (two_apart ha.keys ha.items (by decide))) _ _ (own_ge ha.keys (by simp))
  · exact RowsIn.append (ys := [y]) (dss := [fieldsL y A c K d]) ⟨⟨A, c, K, d, rfl, LiesIn.keep hcell hP y hy⟩, trivial⟩ (h.rows.keep hcell hP)
/-- A key more. -/
theorem WO.key (h : WO w B vc kd accI accK rI rK css W) (hB : B ≤ w.heap.size) {k : ByteArray} (hks : k.size ≤ maxLen) (hlen : accK.length ≤ 10000) :
    ∃ v' W1, (Builtin.append_ #[23, 23] 23 #[rK, .slice (some ⟨W.heap.size, 0, none⟩) 1 1]).run Tryd.prog (W.alloc (.cells #[.string k] 9)) = .ok v' W1 ∧
      (∃ A c, v' = .slice A (accK.length + 1) c) ∧ W1.frozen? ⟨w.heap.size + 2, 4, none⟩ = false ∧ w.heap.size + 2 < W1.heap.size ∧ (∀ o, W1.cell? ⟨w.heap.size + 2, o, none⟩ = W.cell? ⟨w.heap.size + 2, o, none⟩) ∧ WO w B vc kd accI (accK ++ [k]) rI v' css (W1.setCell ⟨w.heap.size + 2, 4, none⟩ v') := by
  have hlt := h.lt
  have hb1a := below_al (Below.refl _ W) (.cells #[.string k] 9)
  have ha := h.below hB hb1a
  have hnew := BlockIs.new W 9 #[.string k]
  have hz : (W.alloc (.cells #[.string k] 9)).heap.size = W.heap.size + 1 := by simp
  obtain ⟨v', W1, hr, ho, hg, hw⟩ := appendKW 23 _ (w.heap.size + 3) rK accK.length _ ha.keys ⟨W.heap.size, 0, none⟩ 1 1 [.string k] rfl (fun j u hj => by
    rw [Addr.add_lit, Nat.zero_add, hnew.cell j, ← hj]
    simp) (fun u hu => by simp only [List.mem_cons, List.not_mem_nil, or_false] at hu; rw [hu]; rfl) (by omega) (by omega) (by omega)
  have hge : ∀ g, g < w.heap.size + 3 → some g ≠ rK.ownBlock := fun g hg => own_ge ha.keys hg
  have hs1 := hg.size
  have hB1 : Below w.heap.size w W1 := ha.old.trans (below_grow hg ha.old.size (fun r e => by have := (World.ownsRow.lt ha.keys r e).1; omega))
  have hB2 : Below w.heap.size w (W1.setCell ⟨w.heap.size + 2, 4, none⟩ v') := hB1.setCell (by simp) _
  have hold : ∀ b, b < W.heap.size → b ≠ w.heap.size + 2 → some b ≠ rK.ownBlock → (W1.setCell ⟨w.heap.size + 2, 4, none⟩ v').heap[b]? = W.heap[b]? := fun b h1 h2 h3 => by
    rw [Below.heap_setCell _ _ _ _ h2, hg.block b (by omega) h3, Below.heap_alloc _ _ _ h1]
  have hP : ∀ b, PO w B rI rK W b → PO w B rI v' (W1.setCell ⟨w.heap.size + 2, 4, none⟩ v') b := fun b hb => hb.imp id fun hb => ⟨hb.1, by simp; have := hb.2.1; omega, hb.2.2.1, row_where hw hb.2.2.2 (by have := hb.2.1; omega)⟩
  have hcell : ∀ b o, PO w B rI rK W b → (W1.setCell ⟨w.heap.size + 2, 4, none⟩ v').cell? ⟨b, o, none⟩ = W.cell? ⟨b, o, none⟩ := fun b o hb => World.cell?_of_block (by
    rcases hb with hb | hb
    · exact hold b (by omega) (by omega) (hge b (by omega))
    · exact hold b hb.2.1 (by have := hb.1; omega) hb.2.2.2)
  refine ⟨v', W1, hr, own_form ho, (ha.bo.grown hg (hge _ (by omega))).frozen 4, by omega, fun o => ?_, hB2, (ha.bv.grown hg (hge _ (by omega))).far (by simp) _, (ha.br.grown hg (hge _ (by omega))).far (by simp) _, ?_, ?_, ?_, h.rows.keep hcell hP, ?_⟩
  · exact World.cell?_of_block (show W1.heap[w.heap.size + 2]? = W.heap[w.heap.size + 2]? by rw [hg.block _ (by omega) (hge _ (by omega)), Below.heap_alloc _ _ _ (by omega)])
  · have := (ha.bo.grown hg (hge _ (by omega))).set_ 4 v'
    simpa using this
  · exact own_set_far (ha.items.kept hg (two_apart ha.items ha.keys (by decide))) _ _ (own_ge ha.items (by simp))
  · have := own_set_far ho ⟨w.heap.size + 2, 4, none⟩ v' (own_ge ho (by simp))
    simpa using this
  · intro q hq
    rcases List.mem_append.1 hq with hq | hq
    · exact h.sizes q hq
    · rw [List.mem_singleton.1 hq]; exact hks
/-- What was collected, answered. -/
theorem WO.done (h : WO w B vc kd accI accK rI rK css W) (hB : B ≤ w.heap.size) :
    ∃ A c K d, rI = .slice A accI.length c ∧ rK = .slice K accK.length d ∧ LiesIn (fun b => b < B ∨ Fresh w (put5 W (w.heap.size + 1) 0 u0 u1 u2 u3 u4) b) (put5 W (w.heap.size + 1) 0 u0 u1 u2 u3 u4) (.mk kd 0 ⟨#[]⟩ accI accK) A c K d ∧ Below w.heap.size w (put5 W (w.heap.size + 1) 0 u0 u1 u2 u3 u4) := by
  have hlt := h.lt
  have hr : RowsIn (fun b => b < B ∨ (w.heap.size + 3 ≤ b ∧ b < W.heap.size)) W accI css := h.rows.keep (fun _ _ _ => rfl) (fun b hb => hb.imp id fun hb => ⟨hb.1, hb.2.1⟩)
  obtain ⟨A, c, rfl, hc1, hc2, hA⟩ := rows_lie hr h.items (fun b hb => .inr (World.ownsRow.lt h.items b hb))
  have hcK := fun g hg => World.ownsRow.cells h.keys (g := g) hg
  have h8 := h.keys
  obtain ⟨K, q, rfl, hq1, hq2, hK⟩ : ∃ K q, rK = .slice K accK.length q ∧ accK.length ≤ q ∧ q ≤ maxLen ∧ (accK = [] ∨ ∃ b, K = some ⟨b, 0, none⟩ ∧ (w.heap.size + 3 ≤ b ∧ b < W.heap.size) ∧ StrsFrom W accK b 0) := by
    have hlt := fun b hb => World.ownsRow.lt h8 b hb
    obtain ⟨hl, ⟨rfl, h0⟩ | ⟨g', cap, cur, rfl, hB, hb, hn, hm, hs, ht⟩⟩ := h8
    · exact ⟨none, 0, by rw [h0], by omega, by simp [maxLen], .inl (List.length_eq_zero_iff.1 h0)⟩
    · refine ⟨_, _, rfl, hn, hm, .inr ⟨g', rfl, hlt g' rfl, keys_from h.sizes fun j v hj => ?_⟩⟩
      have := hcK g' rfl j v hj
      rw [Addr.add_lit] at this
      exact this
  have hL : LiesIn (fun b => b < B ∨ (w.heap.size + 3 ≤ b ∧ b < W.heap.size)) W (V.mk kd 0 ⟨#[]⟩ accI accK) A c K q := by
    rw [LiesIn]
    exact ⟨by decide, hc1, hc2, ⟨hq1, hq2, hK.imp id fun ⟨b, hKe, hb, hfr⟩ => ⟨b, 0, hKe, .inr hb, hfr⟩⟩, hA⟩
  have hs := put5_size W (w.heap.size + 1) 0 u0 u1 u2 u3 u4
  refine ⟨A, c, K, q, rfl, rfl, LiesIn.keep (fun b o hb => World.cell?_of_block (put5_heap W (w.heap.size + 1) 0 u0 u1 u2 u3 u4 ?_)) (fun b hb => hb.imp id fun hb => ⟨by omega, by rw [hs]; exact hb.2⟩) _ hL, ((((h.old.setCell (by simp) _).setCell (by simp) _).setCell (by simp) _).setCell (by simp) _).setCell (by simp) _⟩
  show b ≠ w.heap.size + 1
  rcases (show b < B ∨ (w.heap.size + 3 ≤ b ∧ b < W.heap.size) from hb) with hb | hb
  · omega
  · have := hb.1; omega
/-- Behind the inner call: its answer laid in the item's box. -/
theorem WO.inner {wr wc w6 : World} {a0 a1 a2 a3 a4 : Value} (h : WO w B vc kd accI accK rI rK css wr) (hB : B ≤ w.heap.size) (hb : Below wr.heap.size wr wc) (hbox : BlockIs wc wr.heap.size 25 #[a0, a1, a2, a3, a4]) (h6 : Below wc.drew.heap.size wc.drew w6) (hl : LiesIn (fun b => b < B ∨ Fresh wc.drew w6 b) w6 y A c K d) :
    WO w B vc kd accI accK rI rK css (put5 w6 wr.heap.size 0 (.int .i64 y.kind) (.int .i64 y.int) (.string y.text) (.slice A y.items.length c) (.slice K y.keys.length d)) ∧ BlockIs (put5 w6 wr.heap.size 0 (.int .i64 y.kind) (.int .i64 y.int) (.string y.text) (.slice A y.items.length c) (.slice K y.keys.length d)) wr.heap.size 25 #[.int .i64 y.kind, .int .i64 y.int, .string y.text, .slice A y.items.length c, .slice K y.keys.length d] ∧
      LiesIn (PO w B rI rK (put5 w6 wr.heap.size 0 (.int .i64 y.kind) (.int .i64 y.int) (.string y.text) (.slice A y.items.length c) (.slice K y.keys.length d))) (put5 w6 wr.heap.size 0 (.int .i64 y.kind) (.int .i64 y.int) (.string y.text) (.slice A y.items.length c) (.slice K y.keys.length d)) y A c K d := by
  have hlt := h.lt
  have hg := hbox.lt
  have hc6 : Below wc.heap.size wc w6 := ⟨h6.os, h6.tape, h6.output, h6.size, h6.block⟩
  have hb6 : Below wr.heap.size wr w6 := hb.trans (hc6.mono hb.size)
  have hp := below_put5 (g := wr.heap.size) hb6 (Nat.le_refl _) (.int .i64 y.kind) (.int .i64 y.int) (.string y.text) (.slice A y.items.length c) (.slice K y.keys.length d)
  have hs := put5_size w6 wr.heap.size 0 (.int .i64 y.kind) (.int .i64 y.int) (.string y.text) (.slice A y.items.length c) (.slice K y.keys.length d)
  have hf : ∀ b, Fresh wc.drew w6 b → wc.heap.size ≤ b ∧ b < w6.heap.size := fun b hb => hb
  refine ⟨h.below hB hp, ?_, LiesIn.keep (fun b o hb => World.cell?_of_block (put5_heap _ _ _ _ _ _ _ _ ?_)) (fun b hb => hb.imp id fun hb => ⟨by have := (hf b hb).1; omega, by rw [hs]; exact hb.2, fun e => ?_, fun e => ?_⟩) _ hl⟩
  · have := (((((hbox.below hc6 hg).set_ 0 (.int .i64 y.kind)).set_ 1 (.int .i64 y.int)).set_ 2 (.string y.text)).set_ 3 (.slice A y.items.length c)).set_ 4 (.slice K y.keys.length d)
    simpa [put5] using this
  · show b ≠ wr.heap.size
    rcases (show b < B ∨ Fresh wc.drew w6 b from hb) with h | h
    · omega
    · have := (hf b h).1; omega
  · have := (World.ownsRow.lt h.items b e.symm).2; have := (hf b hb).1; omega
  · have := (World.ownsRow.lt h.keys b e.symm).2; have := (hf b hb).1; omega
/-- An elder value hangs on elder blocks. -/
theorem WO.elder (h : WO w B vc kd accI accK rI rK css W) (hl : Lies w B y A c K d) (hB : B ≤ w.heap.size) : LiesIn (PO w B rI rK W) W y A c K d :=
  lies_inn (fun b hb => .inl hb) y (hl.keep (fun b o hlt => bcell h.old b o (by omega)) (Nat.le_refl _) y)
end
open Go.RowKit
/-- The keys that stay. -/
def keyCut (kd : Int) (b : Bool) (n : Nat) (k : ByteArray) (l : List ByteArray) : List ByteArray := if kd = 5 then cutL b n k l else []
/-- What the specification's taking out leaves. -/
def OutP (B : Nat) (y : V) (w : World) (e : Ending) (w' : World) : Prop :=
  ∃ A c K d, e = .returned (aggOf y A c K d) ∧ LiesIn (fun b => b < B ∨ Fresh w w' b) w' y A c K d ∧ Below w.heap.size w w'
theorem cutL_len {α : Type} {b : Bool} {n : Nat} {y : α} {l : List α} : (cutL b n y l).length ≤ l.length := by
  cases b
  · simp [cutL]
  · simp only [cutL, if_true]; exact List.length_eraseIdx_le l n
theorem keyCut_more {kd : Int} {r : List Stp} {n0 j : Nat} {k kk : ByteArray} {ks : List ByteArray} (h5 : kd = 5) (hkk : ks[j]? = some kk) (h1 : j = n0 → kd = 5 → ks[j]? = some k) (h2 : j = n0 → ¬ r = []) :
    keyCut kd (decide (r = [])) n0 k (ks.take (j + 1)) = keyCut kd (decide (r = [])) n0 k (ks.take j) ++ [kk] := by
  unfold keyCut
  rw [if_pos h5, if_pos h5]
  by_cases hj : j = n0
  · have := h1 hj h5
    rw [hkk] at this
    rw [Option.some.inj this, decide_eq_false (h2 hj), hj]
    exact cutL_put (by rw [← hj]; exact hkk)
  · exact cutL_keep hkk hj
theorem keyCut_len {kd : Int} {b : Bool} {n0 : Nat} {k : ByteArray} {l : List ByteArray} : (keyCut kd b n0 k l).length ≤ l.length := by
  unfold keyCut
  split
  · exact cutL_len
  · simp
theorem WO.skip {w W : World} {B : Nat} {vc : Array Value} {kd : Int} {l : List V} {ks : List ByteArray} {r : List Stp} {n0 j : Nat} {yo y : V} {k : ByteArray} {rI rK : Value} {css : List (List Value)}
    (h : WO w B vc kd (cutL (decide (r = [])) n0 yo (l.take j)) (keyCut kd (decide (r = [])) n0 k (ks.take j)) rI rK css W) (hr : r = []) (hj : j = n0) (hy : l[j]? = some y) (hk : kd = 5 → ks[j]? = some k) :
    WO w B vc kd (cutL (decide (r = [])) n0 yo (l.take (j + 1))) (keyCut kd (decide (r = [])) n0 k (ks.take (j + 1))) rI rK css W := by
  subst hr hj
  have e1 : cutL (decide (([] : List Stp) = [])) j yo (l.take (j + 1)) = cutL (decide (([] : List Stp) = [])) j yo (l.take j) := cutL_skip hy
  have e2 : keyCut kd (decide (([] : List Stp) = [])) j k (ks.take (j + 1)) = keyCut kd (decide (([] : List Stp) = [])) j k (ks.take j) := by
    unfold keyCut
    by_cases h5 : kd = 5
    · rw [if_pos h5, if_pos h5]; exact cutL_skip (hk h5)
    · rw [if_neg h5, if_neg h5]
  rw [e1, e2]
  exact h
set_option maxRecDepth 100000 in
set_option maxHeartbeats 4000000 in
theorem out_step (B : Nat) (x : V) (i : Int) (k : ByteArray) (r : List Stp) (yo : V) (n0 : Nat) (w : World) (A K : Option Addr) (c d : Nat) (Ap : Option Addr) (cp : Nat)
    (hB : B ≤ w.heap.size) (hx : Lies w B x A c K d) (hp : PLies w w.heap.size Ap cp ((i, k) :: r)) (hok : x.ok = true) (hn : x.nodes ≤ 10000) (hs : stepB (i, k) = true)
    (hkind : x.kind = holderS (i, k)) (hn0 : n0 = whereV x (i, k)) (hlt : n0 < x.items.length) (hkey : x.kind = 5 → x.keys[n0]? = some k)
    (ih : ¬ r = [] → ∀ (y : V), x.items[n0]? = some y → ∀ (w : World) (A K : Option Addr) (c d : Nat) (Ap : Option Addr) (cp : Nat), B ≤ w.heap.size → Lies w B y A c K d → PLies w w.heap.size Ap cp r →
      Calls Tryd.prog 44 #[.agg #[.int .i64 y.kind, .int .i64 y.int, .string y.text, .slice A y.items.length c, .slice K y.keys.length d], .slice Ap r.length cp] w (OutP B yo w)) :
    Calls Tryd.prog 44 #[.agg #[.int .i64 x.kind, .int .i64 x.int, .string x.text, .slice A x.items.length c, .slice K x.keys.length d], .slice Ap (r.length + 1) cp] w
      (OutP B (.mk x.kind 0 ⟨#[]⟩ (cutL (decide (r = [])) n0 yo x.items) (keyCut x.kind (decide (r = [])) n0 k x.keys)) w) := by
  obtain ⟨R, hR⟩ : ∃ R, R = V.mk x.kind 0 ⟨#[]⟩ (cutL (decide (r = [])) n0 yo x.items) (keyCut x.kind (decide (r = [])) n0 k x.keys) := ⟨_, rfl⟩
  rw [← hR]
  have HR := Lib.hid hR
  clear hR
  obtain ⟨hp1, hp2, hp3⟩ := hp
  obtain ⟨b, o, rfl, hb, hf⟩ : ∃ b o, Ap = some ⟨b, o, none⟩ ∧ b < w.heap.size ∧ StepsFrom w ((i, k) :: r) b o := by
    rcases hp3 with h | h
    · simp at h
    · exact h
  have hcp : r.length + 1 ≤ cp := by simpa using hp1
  unfold maxLen at hp2
  obtain ⟨e0, e1, hks, hrest⟩ := hf
  have HP := Lib.hid fun W (hW : Below w.heap.size w W) => show PLies W W.heap.size (some ⟨b, o + 2, none⟩) (cp - 1) r from ⟨by omega, by unfold maxLen; omega, .inr ⟨b, o + 2, rfl, by have := hW.size; omega, hrest.keep fun o => bcell hW b o hb⟩⟩
  have HX := Lib.hid fun W (hW : Below w.heap.size w W) => show Lies W B x A c K d from hx.keep (fun b o hlt => bcell hW b o (by omega)) (Nat.le_refl _) x
  have HE := Lib.hid fun W (hW : Below w.heap.size w W) => (show W.cell? ⟨b, o, none⟩ = some (.int .i64 i) ∧ W.cell? ⟨b, o + 1, none⟩ = some (.string k) from ⟨(bcell hW b o hb).trans e0, (bcell hW b (o + 1) hb).trans e1⟩)
  have HB := Lib.hid hB
  have HIH := Lib.hid ih
  obtain ⟨hr, hk1, hk2⟩ := okk hok
  have HLEN := Lib.hid (show x.items.length ≤ 10000 by have := nodes_items x; have := length_le_nodesL x.items; omega)
  obtain ⟨n, hnn⟩ : ∃ n, n = x.items.length := ⟨_, rfl⟩
  obtain ⟨m, hmm⟩ : ∃ m, m = x.keys.length := ⟨_, rfl⟩
  have HN := Lib.hid (And.intro hnn hmm)
  have HW0 := Lib.hid (WO.start w B #[.int .i64 x.kind, .int .i64 x.int, .string x.text, .slice A n c, .slice K m d] x.kind)
  -- which item is meant
  have HSEL := Lib.hid (show ∀ j : Nat, j < n → (0 ≤ i → ((i = j) ↔ j = n0)) ∧ (i < 0 → ∀ kk, x.keys[j]? = some kk → (kk = k ↔ j = n0)) from fun j hj => ⟨fun h0 => by
    rw [hn0, show whereV x (i, k) = i.toNat by simp [whereV, findV, h0]]
    omega, fun h0 kk hkk => by
    have h5 : x.kind = 5 := by rw [hkind, holderS, if_pos h0]
    constructor
    · intro e
      subst e
      have := posK_at hr hkk
      rw [hn0, ← this]; simp [whereV, findV, show ¬ 0 ≤ i by omega]
    · intro e
      rw [e, hkey h5] at hkk
      exact (Option.some.inj hkk).symm⟩)
  have HKIND := Lib.hid (show (i < 0 → x.kind = 5) ∧ (¬ i < 0 → x.kind = 4) from ⟨fun h => by rw [hkind, holderS, if_pos h], fun h => by rw [hkind, holderS, if_neg h]⟩)
  have HI := Lib.hid (show i < 0 → i = -1 from fun h => by
    unfold stepB at hs
    by_cases e : i = -1
    · exact e
    · rw [if_neg (by simpa using e)] at hs; simp at hs; omega)
  have HKL := Lib.hid hk2
  have HN0 := Lib.hid (And.intro hlt hkey)
  have HKS := Lib.hid hks
  rw [← hnn, ← hmm]
  clear hx hp1 hp3 hok hn hs hkind hn0 hlt hkey ih hB hks hrest hr hk1 hk2 hnn hmm e0 e1
  have hr0 : (0 : Int) < (r.length : Int) + 1 := by omega
  have hr1 : (1 : Int) ≤ (r.length : Int) + 1 := by omega
  have hr2 : (r.length : Int) + 1 ≤ cp := by omega
  have hr3 : (1 : Int) ≤ cp := by omega
  go_enter Tryd.func44, Tryd.ntmps44
  go_upto_region 2 with (fail)
  obtain ⟨W0, hW0⟩ : ∃ W0, W0 = ((w.alloc (.cells #[.int .i64 x.kind, .int .i64 x.int, .string x.text, .slice A n c, .slice K m d] 25)).alloc (.cells zeroF 25)).alloc (.cells #[.int .i64 x.kind, .int .i64 0, .string ⟨#[]⟩, .slice none 0 0, .slice none 0 0] 25) := ⟨_, rfl⟩
  rw [← hW0] at HW0
  rw [show zeroF = #[.int .i64 0, .int .i64 0, .string ⟨#[]⟩, .slice none 0 0, .slice none 0 0] from rfl] at hW0
  rw [← hW0]
  clear hW0
  go_wp2_with fail
  go_loopw [6] (fun iv wr => ∃ (j : Nat) (rI rK : Value) (css : List (List Value)), iv = .int .i64 j ∧ j ≤ n ∧
      Hid (WO w B #[.int .i64 x.kind, .int .i64 x.int, .string x.text, .slice A n c, .slice K m d] x.kind (cutL (decide (r = [])) n0 yo (x.items.take j)) (keyCut x.kind (decide (r = [])) n0 k (x.keys.take j)) rI rK css wr)) (fun iv _ => n - (intOf iv).toNat)
  case atStart => exact ⟨0, _, _, [], rfl, Nat.zero_le _, Lib.hid (by
    have := HW0.out
    simpa [cutL, keyCut] using this)⟩
  case round =>
    obtain ⟨j, rI, rK, css, rfl, hj, HW⟩ := hrel
    have hwl := HW.out.lt
    have hnb : n ≤ 10000 := by have := HLEN.out; have := HN.out.1; omega
    obtain ⟨v0, v1, v2, v3, v4⟩ := five_of HW.out.bv
    have vl := HW.out.bv.lt
    by_cases hlt : j < n
    · have hjn : (j : Int) < n := by omega
      have hj0 : (0 : Int) ≤ j := by omega
      have hji : j < x.items.length := by have := HN.out.1; omega
      obtain ⟨y, hy⟩ : ∃ y, x.items[j]? = some y := ⟨_, List.getElem?_eq_getElem hji⟩
      have hxw := HX.out wr HW.out.old
      obtain ⟨b2, o2, rfl, hb2, hfrom⟩ := (lies_items hxw).at_ hji
      obtain ⟨Ay, cy, Ky, dy, y0, y1, y2, y3, y4, hly⟩ := hfrom.at_ hy
      have HY := Lib.hid hy
      have HLY := Lib.hid hly
      clear hfrom hly hy hji
      go_upto_region 6 with (fail)
      obtain ⟨wb, hwb⟩ : ∃ wb, wb = wr.alloc (.cells #[.int .i64 y.kind, .int .i64 y.int, .string y.text, .slice Ay y.items.length cy, .slice Ky y.keys.length dy] 25) := ⟨_, rfl⟩
      have hbb : Below wr.heap.size wr wb := by rw [hwb]; exact below_al (Below.refl _ wr) _
      have HWb := Lib.hid (HW.out.below HB.out hbb)
      have HXb := Lib.hid (show BlockIs wb wr.heap.size 25 #[.int .i64 y.kind, .int .i64 y.int, .string y.text, .slice Ay y.items.length cy, .slice Ky y.keys.length dy] by rw [hwb]; exact BlockIs.new wr _ _)
      have HLb := Lib.hid (show Lies wb B y Ay cy Ky dy from HLY.out.keep (fun b o hlt => bcell hbb b o (by have := HB.out; omega)) (Nat.le_refl _) y)
      rw [← hwb]
      have HBB := Lib.hid hbb
      clear hwb hbb y0 y1 y2 y3 y4 v0 v1 v2 v3 v4 HLY
      go_cut [47] from 11 to 73 (fun bq wx => bq = .bool (decide (j = n0)) ∧ ∃ q, wx = wb.drewN q)
      case first =>
        obtain ⟨e0, e1⟩ := HE.out wb HWb.out.old
        have hbl : b < wb.heap.size := by have := HWb.out.old.size; omega
        obtain ⟨v0, v1, v2, v3, v4⟩ := five_of HWb.out.bv
        have vl := HWb.out.bv.lt
        have hjb : (j : Int) ≤ 9223372036854775807 := by have := HLEN.out; have := HN.out.1; omega
        by_cases hi : i < 0
        · have hi2 : decide (i < 0) = true := by simp [hi]
          have hij : (i == (j : Int)) = false := by rw [beq_eq_false_iff_ne]; omega
          have h5 := HKIND.out.1 hi
          have hm : j < x.keys.length := by have := HKL.out h5; have := HN.out.1; omega
          have hmi : (j : Int) < m := by have := HN.out.2; omega
          obtain ⟨kb, ko, rfl, hkb, hkf⟩ := (lies_keys (HX.out wb HWb.out.old)).at_ hm
          obtain ⟨kk, hkk⟩ : ∃ kk, x.keys[j]? = some kk := ⟨_, List.getElem?_eq_getElem hm⟩
          have hkc := (hkf j kk hkk).1
          have hsel := ((HSEL.out j hlt).2 hi kk hkk)
          clear hkf hkk hm h5 hxw
          by_cases hjn0 : j = n0
          · have hkq : (kk.toList == k.toList) = true := by rw [hsel.2 hjn0]; simp
            have HJ0 := Lib.hid (show decide (j = n0) = true by simp [hjn0])
            clear hjn0 hsel
            go_quiet (fail)
            go_wp2_with fail
            go_meet
            exact ⟨by rw [HJ0.out], nq, rfl⟩
          · have hkq : (kk.toList == k.toList) = false := by
              rw [beq_eq_false_iff_ne]
              intro e
              exact hjn0 (hsel.1 (eqT (by rw [e]; simp)))
            have HJ0 := Lib.hid (show decide (j = n0) = false by simp [hjn0])
            clear hjn0 hsel
            go_quiet (fail)
            go_wp2_with fail
            go_meet
            exact ⟨by rw [HJ0.out], nq, rfl⟩
        · have hi2 : decide (i < 0) = false := by simp; omega
          have hsel := (HSEL.out j hlt).1 (by omega)
          clear hxw
          by_cases hjn0 : j = n0
          · have hij : (i == (j : Int)) = true := by rw [beq_iff_eq]; exact hsel.2 hjn0
            have HJ0 := Lib.hid (show decide (j = n0) = true by simp [hjn0])
            clear hjn0 hsel
            go_quiet (fail)
            go_wp2_with fail
            go_meet
            exact ⟨by rw [HJ0.out], nq, rfl⟩
          · have hij : (i == (j : Int)) = false := by rw [beq_eq_false_iff_ne]; exact fun e => hjn0 (hsel.1 e)
            have HJ0 := Lib.hid (show decide (j = n0) = false by simp [hjn0])
            clear hjn0 hsel
            go_quiet (fail)
            go_wp2_with fail
            go_meet
            exact ⟨by rw [HJ0.out], nq, rfl⟩
      case rest =>
        obtain ⟨rfl, q, hwq⟩ := hcut
        have HKEY := Lib.hid (show j = n0 → x.kind = 5 → x.keys[j]? = some k from fun e h => by rw [e]; exact HN0.out.2 h)
        have HWc := Lib.hid (show WO w B _ _ _ _ rI rK css wc by rw [hwq]; exact HWb.out.below HB.out (below_drewN (Below.refl _ wb) q))
        have HXc := Lib.hid (show BlockIs wc wr.heap.size 25 #[.int .i64 y.kind, .int .i64 y.int, .string y.text, .slice Ay y.items.length cy, .slice Ky y.keys.length dy] by rw [hwq]; exact HXb.out.drewN q)
        have HLc := Lib.hid (show Lies wc B y Ay cy Ky dy by rw [hwq]; exact Lies.keep (w := wb) (w' := wb.drewN q) (fun _ _ _ => rfl) (Nat.le_refl _) y HLb.out)
        have HBc := Lib.hid (show Below wr.heap.size wr wc by rw [hwq]; exact HBB.out.trans ((below_drewN (Below.refl _ wb) q).mono HBB.out.size))
        clear hwq HWb HXb HLb HSEL HKIND HI HN0 hxw HBB
        obtain ⟨bq, hbq⟩ : ∃ bq, decide (j = n0) = bq := ⟨_, rfl⟩
        rw [hbq]
        have HBQ := Lib.hid hbq
        clear hbq
        go_upto_if 47 with (fail)
        go_cut [] from 11 to 73 (fun wx => ∃ (y' : V) (A' K' : Option Addr) (c' d' : Nat), Hid (WO w B #[.int .i64 x.kind, .int .i64 x.int, .string x.text, .slice (some ⟨b2, o2, none⟩) n c, .slice K m d] x.kind (cutL (decide (r = [])) n0 yo (x.items.take j)) (keyCut x.kind (decide (r = [])) n0 k (x.keys.take j)) rI rK css wx) ∧ Hid (BlockIs wx wr.heap.size 25 #[.int .i64 y'.kind, .int .i64 y'.int, .string y'.text, .slice A' y'.items.length c', .slice K' y'.keys.length d']) ∧ Hid (LiesIn (PO w B rI rK wx) wx y' A' c' K' d') ∧ Hid (cutL (decide (r = [])) n0 yo (x.items.take (j + 1)) = cutL (decide (r = [])) n0 yo (x.items.take j) ++ [y'] ∧ (j = n0 → ¬ r = [])))
        case first =>
          cases bq
          case true =>
            have HJ0 := Lib.hid (of_decide_eq_true HBQ.out)
            clear HBQ
            by_cases hr : r = []
            · have hr4 : ((r.length : Int) + 1 == 1) = true := by rw [hr]; rfl
              have HR0 := Lib.hid hr
              clear hr
              go_wp2_with fail
              go_roundw
              case rel => exact ⟨j + 1, rI, rK, css, by go_num, by omega, Lib.hid (WO.skip HWc.out HR0.out HJ0.out HY.out (HKEY.out HJ0.out))⟩
              case measure => simp [intOf]; omega
            · have hr4 : ((r.length : Int) + 1 == 1) = false := by
                have : r.length ≠ 0 := fun e => hr (List.length_eq_zero_iff.1 e)
                rw [beq_eq_false_iff_ne]; omega
              have HR0 := Lib.hid hr
              clear hr
              have hcp2 : ¬ cp = 1 := by
                have : r.length ≠ 0 := fun e => HR0.out (List.length_eq_zero_iff.1 e)
                omega
              have HIC := Lib.hid (HIH.out HR0.out y (by rw [← HJ0.out]; exact HY.out) wc.drew Ay Ky cy dy (some ⟨b, o + 2, none⟩) (cp - 1) (by have := HB.out; have := HWc.out.old.size; have e : wc.drew.heap.size = wc.heap.size := rfl; omega) (Lies.keep (w := wc) (w' := wc.drew) (fun _ _ _ => rfl) (Nat.le_refl _) y HLc.out) (HP.out wc.drew (below_on HWc.out.old (Below.refl _ wc).drew)))
              obtain ⟨x0, x1, x2, x3, x4⟩ := five_of HXc.out
              have xl := HXc.out.lt
              go_upto_region 8 with (fail)
              go_region_with (go_at_call 44; refine HIC.out.mono ?_; rintro e w6 ⟨A6, c6, K6, d6, rfl, hl6, h6⟩; have hx6 := (show BlockIs w6 wr.heap.size 25 #[.int .i64 y.kind, .int .i64 y.int, .string y.text, .slice Ay y.items.length cy, .slice Ky y.keys.length dy] from (show BlockIs wc.drew wr.heap.size _ _ from HXc.out).below h6 HXc.out.lt); obtain ⟨z0, z1, z2, z3, z4⟩ := five_of hx6; have zl := BlockIs.lt hx6; have zf0 := BlockIs.frozen hx6 0; have zf1 := BlockIs.frozen hx6 1; have zf2 := BlockIs.frozen hx6 2; have zf3 := BlockIs.frozen hx6 3; have zf4 := BlockIs.frozen hx6 4; have HM6 := Lib.hid (And.intro h6 hl6); clear h6 hl6 hx6; unfold aggOf)
              all_goals
                go_wp2_with fail
                go_meet
                have hin := WO.inner HW.out HB.out HBc.out HXc.out HM6.out.1 HM6.out.2
                exact ⟨yo, A6, K6, c6, d6, Lib.hid hin.1, Lib.hid hin.2.1, Lib.hid hin.2.2, Lib.hid ⟨by rw [show decide (r = []) = false from decide_eq_false HR0.out, HJ0.out]; exact cutL_put (by rw [← HJ0.out]; exact HY.out), fun _ => HR0.out⟩⟩
          case false =>
            have HJN := Lib.hid (of_decide_eq_false HBQ.out)
            clear HBQ
            go_wp2_with fail
            go_meet
            exact ⟨y, _, _, _, _, HWc, HXc, Lib.hid (lies_inn (fun b hb => .inl hb) y HLc.out), Lib.hid ⟨cutL_keep HY.out HJN.out, fun e => absurd e HJN.out⟩⟩
        case rest =>
          obtain ⟨y', A', K', c', d', HWd, HXd, HLd, HCUT⟩ := hcut
          have HKL2 := Lib.hid (show x.kind = 5 → ∀ kk, x.keys[j]? = some kk → keyCut x.kind (decide (r = [])) n0 k (x.keys.take (j + 1)) = keyCut x.kind (decide (r = [])) n0 k (x.keys.take j) ++ [kk] from fun h5 kk hkk => keyCut_more h5 hkk HKEY.out HCUT.out.2)
          have HKN := Lib.hid (show ¬ x.kind = 5 → keyCut x.kind (decide (r = [])) n0 k (x.keys.take (j + 1)) = keyCut x.kind (decide (r = [])) n0 k (x.keys.take j) from fun h5 => by unfold keyCut; rw [if_neg h5, if_neg h5])
          have HIN := Lib.hid HCUT.out.1
          have HLE := Lib.hid (And.intro (show (cutL (decide (r = [])) n0 yo (x.items.take j)).length ≤ 10000 from Nat.le_trans cutL_len (by rw [List.length_take]; omega)) (show (keyCut x.kind (decide (r = [])) n0 k (x.keys.take j)).length ≤ 10000 from Nat.le_trans keyCut_len (by rw [List.length_take]; omega)))
          obtain ⟨aI, haI⟩ : ∃ aI, aI = cutL (decide (r = [])) n0 yo (x.items.take j) := ⟨_, rfl⟩
          obtain ⟨aK, haK⟩ : ∃ aK, aK = keyCut x.kind (decide (r = [])) n0 k (x.keys.take j) := ⟨_, rfl⟩
          rw [← haI, ← haK] at HWd HLE
          rw [← haI] at HIN
          rw [← haK] at HKL2 HKN
          clear haI haK HCUT HKEY HXc HLc HWc HY HIH HP HE HW
          obtain ⟨rA, rc, rfl⟩ := own_form HWd.out.items
          obtain ⟨rB, rd, rfl⟩ := own_form HWd.out.keys
          obtain ⟨va, Wa, hra, ⟨va1, va2, rfl⟩, hca, hfa, hla, hwa⟩ := WO.item HWd.out HB.out HLd.out HLE.out.1
          have HRA := Lib.hid hra
          have HWA := Lib.hid hwa
          obtain ⟨p0, p1, p2, p3, p4⟩ := five_of HWd.out.bo
          obtain ⟨q0, q1, q2, q3, q4⟩ := five_of HXd.out
          have pl := HWd.out.bo.lt
          have ql := HXd.out.lt
          have hc3 := (hca 3).trans p3
          clear hra hwa hca
          go_upto_region 10 with (at_builtin; refine Lib.wpList_append_run _ rfl _ _ _ _ rfl _ _ rfl rfl _ _ HRA.out ?_)
          obtain ⟨W2, hW2⟩ : ∃ W2, W2 = Wa.setCell ⟨w.heap.size + 2, 3, none⟩ (.slice va1 (aI.length + 1) va2) := ⟨_, rfl⟩
          rw [← hW2] at HWA ⊢
          clear hW2 hc3 hfa hla p0 p1 p2 p3 p4 q0 q1 q2 q3 q4 pl ql HRA HWd HXd HLd
          obtain ⟨v0, v1, v2, v3, v4⟩ := five_of HWA.out.bv
          have vl := HWA.out.bv.lt
          by_cases h5 : x.kind = 5
          · have h5b : (x.kind == 5) = true := by rw [beq_iff_eq]; exact h5
            have hm : j < x.keys.length := by have := HKL.out h5; have := HN.out.1; omega
            have hmi : (j : Int) < m := by have := HN.out.2; omega
            obtain ⟨kb, ko, rfl, hkb, hkf⟩ := (lies_keys (HX.out W2 HWA.out.old)).at_ hm
            obtain ⟨kk, hkk⟩ : ∃ kk, x.keys[j]? = some kk := ⟨_, List.getElem?_eq_getElem hm⟩
            have hkc := (hkf j kk hkk).1
            have hkbl : kb < W2.heap.size := by have := HB.out; have := HWA.out.lt; omega
            have HK5 := Lib.hid (HKL2.out h5 kk hkk)
            have HWD := Lib.hid (show WO w B _ _ _ _ _ _ _ W2.drew from HWA.out.below HB.out (Below.refl _ W2).drew)
            obtain ⟨vb, Wb, hrb, ⟨vb1, vb2, rfl⟩, hfb, hlb, hcb, hwb2⟩ := WO.key HWD.out HB.out (hkf j kk hkk).2 HLE.out.2
            have HRB := Lib.hid hrb
            have HWB := Lib.hid hwb2
            obtain ⟨p0, p1, p2, p3, p4⟩ := five_of HWA.out.bo
            have pl := HWA.out.bo.lt
            have hc4 := (hcb 4).trans p4
            clear hrb hwb2 hcb hkf hkk hm h5 HKN HKL2
            go_upto_region 11 with (fail)
            go_region_law (refine step_append_run (by rfl) _ _ _ _ (by rfl) _ _ (by rfl) (by rfl) _ _ HRB.out ?_)
            all_goals
              go_wp2_with fail
              go_roundw
              case rel => exact ⟨j + 1, _, _, _, by go_num, by omega, Lib.hid (by rw [HIN.out, HK5.out]; exact HWB.out)⟩
              case measure => simp [intOf]; omega
          · have h5b : (x.kind == 5) = false := by rw [beq_eq_false_iff_ne]; exact h5
            have HK5 := Lib.hid (HKN.out h5)
            clear h5
            go_wp2_with fail
            go_roundw
            case rel => exact ⟨j + 1, _, _, _, by go_num, by omega, Lib.hid (by rw [HIN.out, HK5.out]; exact HWA.out)⟩
            case measure => simp [intOf]; omega
    · have hjn : ¬ ((j : Int) < n) := by omega
      have HD := Lib.hid (show R = V.mk x.kind 0 ⟨#[]⟩ (cutL (decide (r = [])) n0 yo (x.items.take j)) (keyCut x.kind (decide (r = [])) n0 k (x.keys.take j)) by
        rw [HR.out]
        have h1 : x.items.take j = x.items := List.take_of_length_le (by have := HN.out.1; omega)
        rw [h1]
        congr 1
        unfold keyCut
        by_cases h5 : x.kind = 5
        · rw [if_pos h5, if_pos h5, List.take_of_length_le (by have := HKL.out h5; have := HN.out.1; omega)]
        · rw [if_neg h5, if_neg h5])
      obtain ⟨aI, haI⟩ : ∃ aI, aI = cutL (decide (r = [])) n0 yo (x.items.take j) := ⟨_, rfl⟩
      obtain ⟨aK, haK⟩ : ∃ aK, aK = keyCut x.kind (decide (r = [])) n0 k (x.keys.take j) := ⟨_, rfl⟩
      rw [← haI, ← haK] at HW HD
      clear haI haK HR HSEL HKIND HI HKL HN0 HIH HP HE HX
      have hdone := fun u0 u1 u2 u3 u4 => WO.done (u0 := u0) (u1 := u1) (u2 := u2) (u3 := u3) (u4 := u4) HW.out HB.out
      obtain ⟨rA, rc, rB, rd, rfl, rfl, -, -⟩ := hdone (.int .i64 0) (.int .i64 0) (.int .i64 0) (.int .i64 0) (.int .i64 0)
      have HDN := Lib.hid (show ∀ u0 u1 u2 u3 u4, OutP B R w (.returned (aggOf R rA rc rB rd)) (put5 wr (w.heap.size + 1) 0 u0 u1 u2 u3 u4) from fun u0 u1 u2 u3 u4 => by
        obtain ⟨A, c, K, d, e1, e2, h1, h2⟩ := hdone u0 u1 u2 u3 u4
        cases e1
        cases e2
        rw [HD.out]
        exact ⟨_, _, _, _, rfl, h1, h2⟩)
      clear hdone
      obtain ⟨p0, p1, p2, p3, p4⟩ := five_of HW.out.bo
      obtain ⟨r0, r1, r2, r3, r4⟩ := five_of (show BlockIs wr (w.heap.size + 1) 25 #[.int .i64 0, .int .i64 0, .string ⟨#[]⟩, .slice none 0 0, .slice none 0 0] from HW.out.br)
      have f0 := HW.out.br.frozen 0
      have f1 := HW.out.br.frozen 1
      have f2 := HW.out.br.frozen 2
      have f3 := HW.out.br.frozen 3
      have f4 := HW.out.br.frozen 4
      have rl := HW.out.br.lt
      have pl := HW.out.bo.lt
      go_wp2_with fail
      refine bodyPost_ret (v := .agg #[.int .i64 x.kind, .int .i64 0, .string ⟨#[]⟩, .slice rA aI.length rc, .slice rB aK.length rd]) (by simp [results, Tryd.results44, go_sem, r0, r1, r2, r3, r4]) rfl ?_
      have hfin := HDN.out (.int .i64 x.kind) (.int .i64 0) (.string ⟨#[]⟩) (.slice rA aI.length rc) (.slice rB aK.length rd)
      rw [show aggOf R rA rc rB rd = .agg #[.int .i64 x.kind, .int .i64 0, .string ⟨#[]⟩, .slice rA aI.length rc, .slice rB aK.length rd] by rw [HD.out]; rfl] at hfin
      exact hfin
open Go.RowKit
theorem where_here {x y : V} {s : Stp} (hok : x.ok = true) (h : itemV x s = some y) : (findV x s).2 = true ∧ x.items[whereV x s]? = some y ∧ x.kind = holderS s ∧ (x.kind = 5 → x.keys[whereV x s]? = some s.2) := by
  obtain ⟨h1, h2⟩ := item_find h
  refine ⟨h1, h2, find_kind (fit_of hok) h1, fun h5 => ?_⟩
  have hk := find_kind (fit_of hok) h1
  obtain ⟨i, k⟩ := s
  have h0 : ¬ 0 ≤ i := fun e => by rw [h5, holderS, if_neg (by simp only; omega)] at hk; omega
  simp [findV, h0] at h1
  rw [show whereV x (i, k) = posK k x.keys by simp [whereV, findV, h0]]
  exact (posK_here k (okk hok).1).1 ((hasK_iff _ _).1 h1)
theorem rem_cons {x y : V} {s : Stp} {r : List Stp} (hok : x.ok = true) (h : itemV x s = some y) (hd : atV y r ≠ none) :
    (removeV x (s :: r)).1 = .mk x.kind 0 ⟨#[]⟩ (cutL (decide (r = [])) (whereV x s) (removeV y r).1 x.items) (keyCut x.kind (decide (r = [])) (whereV x s) s.2 x.keys) := by
  obtain ⟨h1, h2, h3, h4⟩ := where_here hok h
  have h45 : x.kind = 4 ∨ x.kind = 5 := by rw [h3, holderS]; split; exact .inr rfl; exact .inl rfl
  cases r with
  | nil => exact rem_is_last hok h1 h45 _ _
  | cons s' r' => exact rem_is_on hok h1 h45 h2 h4
/-- An item taken out of a value at a path, as the specification says it. -/
theorem refOut_any (B : Nat) : ∀ (p : List Stp), ¬ p = [] → p.all stepB = true → ∀ (x : V), x.ok = true → x.nodes ≤ 10000 → ¬ atV x p = none → ∀ (w : World) (A K : Option Addr) (c d : Nat) (Ap : Option Addr) (cp : Nat), B ≤ w.heap.size → Lies w B x A c K d → PLies w w.heap.size Ap cp p →
    Calls Tryd.prog 44 #[.agg #[.int .i64 x.kind, .int .i64 x.int, .string x.text, .slice A x.items.length c, .slice K x.keys.length d], .slice Ap p.length cp] w (OutP B (removeV x p).1 w)
  | [], h0, _, _, _, _, _, _, _, _, _, _, _, _, _, _, _ => absurd rfl h0
  | (i, k) :: r, _, hp, x, hok, hn, hat, w, A, K, c, d, Ap, cp, hB, hx, hl => by
    rw [List.all_cons, Bool.and_eq_true] at hp
    cases hi : itemV x (i, k) with
    | none => exact absurd (by rw [atV, hi]) hat
    | some y =>
      rw [atV, hi] at hat
      obtain ⟨h1, h2, h3, h4⟩ := where_here hok hi
      rw [rem_cons hok hi hat]
      refine out_step B x i k r (removeV y r).1 (whereV x (i, k)) w A K c d Ap cp hB hx hl hok hn hp.1 h3 rfl (List.getElem?_eq_some_iff.1 h2).1 h4 fun hr y' hy' w A K c d Ap cp hB' hx' hl' => ?_
      obtain rfl : y' = y := Option.some.inj (hy'.symm.trans h2)
      exact refOut_any B r hr hp.2 y' (okItems hok y' (List.mem_of_getElem? h2)) (by have := V.nodes_mem (List.mem_of_getElem? h2); have := nodes_items x; omega) hat w A K c d Ap cp hB' hx' hl'
theorem rem_at : ∀ (p : List Stp), ¬ p = [] → ∀ (x : V), x.ok = true → ((removeV x p).2 = true ↔ ¬ atV x p = none)
  | [], h0, _, _ => absurd rfl h0
  | s :: r, _, x, hok => by
    cases hi : itemV x s with
    | none =>
      rw [rem_gone (item_none hok hi), atV, hi]
      simp
    | some y =>
      obtain ⟨h1, h2, -, -⟩ := where_here hok hi
      rw [atV, hi]
      cases r with
      | nil => rw [rem_last h1]; simp [atV]
      | cons s' r' =>
        rw [rem_on h1 h2]
        exact rem_at (s' :: r') (by simp) y (okItems hok y (List.mem_of_getElem? h2))
section
variable {w W W' : World} {c0 : Array Value} {y : V} {A K : Option Addr} {c d : Nat} {u0 u1 u2 u3 u4 : Value}
theorem RB.good2 (h : RB w c0 W) (hl : LiesIn (fun b => b < w.heap.size ∨ (w.heap.size + 2 ≤ b ∧ b < W.heap.size)) W y A c K d) : PutAns (y, 0) w (.returned (.tuple #[aggOf y A c K d, .int .i64 0])) (put5 W (w.heap.size + 1) 0 u0 u1 u2 u3 u4) := by
  have hs := put5_size W (w.heap.size + 1) 0 u0 u1 u2 u3 u4
  have hw := h.old.size
  refine ⟨A, c, K, d, rfl, LiesIn.lies (P := fun b => b < W.heap.size) (fun b hb => by rw [hs]; exact hb) _ (LiesIn.keep (fun b o hb => World.cell?_of_block (put5_heap W (w.heap.size + 1) 0 u0 u1 u2 u3 u4 ?_)) (fun b hb => ?_) _ hl), h.ends⟩
  · show b ≠ w.heap.size + 1
    rcases (show b < w.heap.size ∨ _ from hb) with hb | hb
    · omega
    · have := hb.1; omega
  · rcases hb with hb | hb
    · omega
    · exact hb.2
end
set_option maxRecDepth 100000 in
set_option maxHeartbeats 4000000 in
theorem refRemove_any (x : V) (p : List Stp) (w : World) (A0 K0 : Option Addr) (c0 d0 : Nat) (Ap : Option Addr) (cp : Nat) (hx : Lies w w.heap.size x A0 c0 K0 d0) (hp : PLies w w.heap.size Ap cp p) :
    Calls Tryd.prog 17 #[.agg #[.int .i64 x.kind, .int .i64 x.int, .string x.text, .slice A0 x.items.length c0, .slice K0 x.keys.length d0], .slice Ap p.length cp] w (PutAns (remOut x p) w) := by
  have HB0 := Lib.hid (RB.start w #[.int .i64 x.kind, .int .i64 x.int, .string x.text, .slice A0 x.items.length c0, .slice K0 x.keys.length d0])
  obtain ⟨n, hn⟩ : ∃ n, n = p.length := ⟨_, rfl⟩
  obtain ⟨bx, hbx⟩ : ∃ b, x.valid = b := ⟨_, rfl⟩
  obtain ⟨bp, hbp⟩ : ∃ b, pathB p = b := ⟨_, rfl⟩
  have HPV := Lib.hid fun W (hW : Below w.heap.size w W) => show Calls Tryd.prog 24 #[.slice Ap n cp] W fun e w' => e = .returned (.bool bp) ∧ Below W.heap.size W w' from by
    have := refPathValid_any p W Ap cp (hp.on hW)
    rw [hbp, ← hn] at this
    exact this.mono (by rintro e w' ⟨rfl, rfl⟩; exact ⟨rfl, Below.refl _ _⟩)
  have HV := Lib.hid fun W (hW : Below w.heap.size w W) => (refValid_any x W A0 K0 c0 d0 (lies_on hx hW)).mono (R' := fun e w' => e = .returned (.bool bx) ∧ Below W.heap.size W w') fun e w' h' => by rw [hbx] at h'; exact h'
  have HAT := Lib.hid fun (h : bx = true) W (hW : Below w.heap.size w W) => show Calls Tryd.prog 34 #[.agg #[.int .i64 x.kind, .int .i64 x.int, .string x.text, .slice A0 x.items.length c0, .slice K0 x.keys.length d0], .slice Ap n cp] W (fun e w' => ∃ y A c K d, e = .returned (.tuple #[aggOf y A c K d, .bool (decide (¬ atV x p = none))]) ∧ Below W.heap.size W w') from by
    rw [hn]
    refine (refAt_any W.heap.size x p W A0 K0 c0 d0 Ap cp (Nat.le_refl _) (lies_on hx hW) (valid_nodes (hbx.trans h)).1 (valid_nodes (hbx.trans h)).2 (hp.on hW)).mono ?_
    rintro e w' ⟨hb, he⟩
    cases ha : atV x p with
    | none => rw [ha] at he; exact ⟨_, _, _, _, _, by simpa using he, hb⟩
    | some y => rw [ha] at he; obtain ⟨A, c, K, d, he, -⟩ := he; exact ⟨_, _, _, _, _, by simpa using he, hb⟩
  have HOT := Lib.hid fun (h : bx = true) (hb : bp = true) (h0 : ¬ n = 0) (ha : ¬ atV x p = none) W (hW : Below w.heap.size w W) => show Calls Tryd.prog 44 #[.agg #[.int .i64 x.kind, .int .i64 x.int, .string x.text, .slice A0 x.items.length c0, .slice K0 x.keys.length d0], .slice Ap n cp] W (OutP w.heap.size (removeV x p).1 W) from by
    rw [hn]
    exact refOut_any w.heap.size p (fun e => h0 (by rw [hn, e]; rfl)) (by have := hbp.trans hb; unfold pathB at this; rw [Bool.and_eq_true] at this; exact this.2) x (valid_nodes (hbx.trans h)).1 (by have := (valid_nodes (hbx.trans h)).2; omega) ha W A0 K0 c0 d0 Ap cp hW.size (hx.below hW) (hp.on hW)
  have HOUT := Lib.hid (show remOut x p = if (bx && bp) = true then (if n = 0 then (nullV, 3) else if ¬ atV x p = none then ((removeV x p).1, 0) else (nullV, 6)) else (nullV, 1) by
    unfold remOut
    rw [hbx, hbp]
    cases bx
    · simp
    · cases bp
      · simp
      · by_cases h0 : p = []
        · have h0' : n = 0 := by rw [hn, h0]; rfl
          simp [h0, h0']
        · have h0' : ¬ n = 0 := fun e => h0 (List.length_eq_zero_iff.1 (hn.symm.trans e))
          have := rem_at p h0 x (valid_nodes hbx).1
          by_cases ha : atV x p = none
          · have h2 : ¬ (removeV x p).2 = true := fun e => (this.1 e) ha
            simp [h0, h0', ha, h2]
          · have h2 := this.2 ha
            simp [h0, h0', ha, h2])
  obtain ⟨out, hout⟩ : ∃ out, out = remOut x p := ⟨_, rfl⟩
  obtain ⟨y, hy⟩ : ∃ y, y = (removeV x p).1 := ⟨_, rfl⟩
  obtain ⟨ba, hba⟩ : ∃ ba, decide (¬ atV x p = none) = ba := ⟨_, rfl⟩
  rw [← hout, ← hy] at HOUT
  rw [← hy] at HOT
  rw [hba] at HAT
  have HBA := Lib.hid hba
  rw [← hn, ← hout]
  clear hn hbx hbp hx hp hout hy hba
  go_enter Tryd.func17, Tryd.ntmps17
  go_wp2_with fail
  refine (HV.out _ HB0.out.old).mono ?_
  rintro e w1 ⟨rfl, h1⟩
  have HB1 := Lib.hid (HB0.out.below h1)
  clear h1 HB0
  cases bx
  case false =>
    obtain ⟨z0, z1, z2, z3, z4⟩ := five_of (show BlockIs w1 (w.heap.size + 1) 25 #[.int .i64 0, .int .i64 0, .string ⟨#[]⟩, .slice none 0 0, .slice none 0 0] from HB1.out.br)
    have y0 := HB1.out.br.frozen 0
    have y1 := HB1.out.br.frozen 1
    have y2 := HB1.out.br.frozen 2
    have y3 := HB1.out.br.frozen 3
    have y4 := HB1.out.br.frozen 4
    have zl := HB1.out.br.lt
    go_wp2_with fail
    refine bodyPost_ret (v := .tuple #[aggOf (leaf 0 0 ⟨#[]⟩) none 0 none 0, .int .i64 1]) (by simp [results, Tryd.results17, go_sem, aggOf, leaf, V.kind, V.int, V.text, V.items, V.keys, z0, z1, z2, z3, z4]) rfl ?_
    rw [HOUT.out, if_neg (by simp)]
    exact RB.bad 1 HB1.out
  obtain ⟨b0, b1, b2, b3, b4⟩ := five_of HB1.out.bv
  go_wp2_with fail
  refine (HPV.out _ HB1.out.old).mono ?_
  rintro e w2 ⟨rfl, h2⟩
  have HB2 := Lib.hid (HB1.out.below h2)
  clear h2 b0 b1 b2 b3 b4 HB1
  cases bp
  case false =>
    obtain ⟨z0, z1, z2, z3, z4⟩ := five_of (show BlockIs w2 (w.heap.size + 1) 25 #[.int .i64 0, .int .i64 0, .string ⟨#[]⟩, .slice none 0 0, .slice none 0 0] from HB2.out.br)
    have y0 := HB2.out.br.frozen 0
    have y1 := HB2.out.br.frozen 1
    have y2 := HB2.out.br.frozen 2
    have y3 := HB2.out.br.frozen 3
    have y4 := HB2.out.br.frozen 4
    have zl := HB2.out.br.lt
    go_wp2_with fail
    refine bodyPost_ret (v := .tuple #[aggOf (leaf 0 0 ⟨#[]⟩) none 0 none 0, .int .i64 1]) (by simp [results, Tryd.results17, go_sem, aggOf, leaf, V.kind, V.int, V.text, V.items, V.keys, z0, z1, z2, z3, z4]) rfl ?_
    rw [HOUT.out, if_neg (by simp)]
    exact RB.bad 1 HB2.out
  by_cases h0 : n = 0
  · have HA := Lib.hid (show out = (nullV, 3) by rw [HOUT.out, if_pos (by rfl), if_pos h0])
    have h0b : ((n : Int) == 0) = true := by rw [h0]; rfl
    clear h0
    obtain ⟨z0, z1, z2, z3, z4⟩ := five_of (show BlockIs w2 (w.heap.size + 1) 25 #[.int .i64 0, .int .i64 0, .string ⟨#[]⟩, .slice none 0 0, .slice none 0 0] from HB2.out.br)
    have y0 := HB2.out.br.frozen 0
    have y1 := HB2.out.br.frozen 1
    have y2 := HB2.out.br.frozen 2
    have y3 := HB2.out.br.frozen 3
    have y4 := HB2.out.br.frozen 4
    have zl := HB2.out.br.lt
    go_wp2_with fail
    refine bodyPost_ret (v := .tuple #[aggOf (leaf 0 0 ⟨#[]⟩) none 0 none 0, .int .i64 3]) (by simp [results, Tryd.results17, go_sem, aggOf, leaf, V.kind, V.int, V.text, V.items, V.keys, z0, z1, z2, z3, z4]) rfl ?_
    rw [HA.out]
    exact RB.bad 3 HB2.out
  have h0b : ((n : Int) == 0) = false := by rw [beq_eq_false_iff_ne]; omega
  have HN0 := Lib.hid h0
  clear h0
  obtain ⟨b0, b1, b2, b3, b4⟩ := five_of HB2.out.bv
  have bl := HB2.out.bv.lt
  go_wp2_with fail
  refine (HAT.out (by trivial) _ HB2.out.old).mono ?_
  rintro e w3 ⟨ya, Aa, ca, Ka, da, rfl, h3⟩
  have HB3 := Lib.hid ((HB2.out.below h3).below (below_al (Below.refl _ w3) (.cells #[.int .i64 ya.kind, .int .i64 ya.int, .string ya.text, .slice Aa ya.items.length ca, .slice Ka ya.keys.length da] 25)))
  clear h3 b0 b1 b2 b3 b4 HB2 bl
  unfold aggOf
  go_upto_region 6 with (fail)
  obtain ⟨Wa, hWa⟩ : ∃ Wa, Wa = w3.alloc (.cells #[.int .i64 ya.kind, .int .i64 ya.int, .string ya.text, .slice Aa ya.items.length ca, .slice Ka ya.keys.length da] 25) := ⟨_, rfl⟩
  rw [← hWa] at HB3 ⊢
  clear hWa
  cases ba
  case false =>
    have HA := Lib.hid (show out = (nullV, 6) by
      have := of_decide_eq_false HBA.out
      rw [HOUT.out, if_pos (by rfl), if_neg HN0.out, if_neg this])
    obtain ⟨z0, z1, z2, z3, z4⟩ := five_of (show BlockIs Wa (w.heap.size + 1) 25 #[.int .i64 0, .int .i64 0, .string ⟨#[]⟩, .slice none 0 0, .slice none 0 0] from HB3.out.br)
    have y0 := HB3.out.br.frozen 0
    have y1 := HB3.out.br.frozen 1
    have y2 := HB3.out.br.frozen 2
    have y3 := HB3.out.br.frozen 3
    have y4 := HB3.out.br.frozen 4
    have zl := HB3.out.br.lt
    go_wp2_with fail
    refine bodyPost_ret (v := .tuple #[aggOf (leaf 0 0 ⟨#[]⟩) none 0 none 0, .int .i64 6]) (by simp [results, Tryd.results17, go_sem, aggOf, leaf, V.kind, V.int, V.text, V.items, V.keys, z0, z1, z2, z3, z4]) rfl ?_
    rw [HA.out]
    exact RB.bad 6 HB3.out
  have HA := Lib.hid (show out = (y, 0) by
    have := of_decide_eq_true HBA.out
    rw [HOUT.out, if_pos (by rfl), if_neg HN0.out, if_pos this])
  obtain ⟨b0, b1, b2, b3, b4⟩ := five_of HB3.out.bv
  have bl := HB3.out.bv.lt
  go_wp2_with fail
  refine (HOT.out (by trivial) (by trivial) HN0.out (of_decide_eq_true HBA.out) _ HB3.out.old).mono ?_
  rintro e w4 ⟨A, c, K, d, rfl, hl4, h4⟩
  have HB4 := Lib.hid (HB3.out.below h4)
  have HL4 := Lib.hid (show LiesIn (fun b => b < w.heap.size ∨ (w.heap.size + 2 ≤ b ∧ b < w4.heap.size)) w4 y A c K d from LiesIn.keep (fun _ _ _ => rfl) (fun b hb => hb.imp id fun h => ⟨by have := h.1; have := HB3.out.br.lt; omega, h.2⟩) _ hl4)
  clear h4 hl4 b0 b1 b2 b3 b4 HB3 bl
  obtain ⟨z0, z1, z2, z3, z4⟩ := five_of (show BlockIs w4 (w.heap.size + 1) 25 #[.int .i64 0, .int .i64 0, .string ⟨#[]⟩, .slice none 0 0, .slice none 0 0] from HB4.out.br)
  have y0 := HB4.out.br.frozen 0
  have y1 := HB4.out.br.frozen 1
  have y2 := HB4.out.br.frozen 2
  have y3 := HB4.out.br.frozen 3
  have y4 := HB4.out.br.frozen 4
  have zl := HB4.out.br.lt
  unfold aggOf
  go_wp2_with fail
  refine bodyPost_ret (v := .tuple #[aggOf y A c K d, .int .i64 0]) (by simp [results, Tryd.results17, go_sem, aggOf, z0, z1, z2, z3, z4]) rfl ?_
  rw [HA.out]
  exact HB4.out.good2 HL4.out
end Go.Proofs.YtmhijdpahejaiaaDoor
