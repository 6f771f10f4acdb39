/- The specification's look for an item, walked: what it answers hangs on what the value hangs on. -/
import Derived.Test.YtchadlbhdcpojaaDoorVc
import Derived.Test.YtchadlbhdcpojaaDoorRy
import Derived.Test.YtchadlbhdcpojaaDoorJc
namespace Go.Proofs.YtchadlbhdcpojaaDoor
open Go.RowKit
theorem inn_items {P : Nat → Prop} {w : World} : ∀ {x : V} {A c K d}, LiesIn P w x A c K d → x.items.length ≤ c ∧ c ≤ maxLen ∧ (x.items = [] ∨ ∃ b o, A = some ⟨b, o, none⟩ ∧ P b ∧ LiesFromIn P w x.items b o)
  | .mk _ _ _ _ _, _, _, _, _, h => by rw [LiesIn] at h; exact ⟨h.2.1, h.2.2.1, h.2.2.2.2⟩
theorem inn_keys {P : Nat → Prop} {w : World} : ∀ {x : V} {A c K d}, LiesIn P w x A c K d → x.keys.length ≤ d ∧ d ≤ maxLen ∧ (x.keys = [] ∨ ∃ b o, K = some ⟨b, o, none⟩ ∧ P b ∧ StrsFrom w x.keys b o)
  | .mk _ _ _ _ _, _, _, _, _, h => by rw [LiesIn] at h; exact h.2.2.2.1
/-- What the look answers. -/
def InPost (P : Nat → Prop) (r : Option V) (w : World) (e : Ending) (w' : World) : Prop :=
  Below w.heap.size w w' ∧ match r with
    | none => e = .returned (.tuple #[aggOf (leaf 0 0 ⟨#[]⟩) none 0 none 0, .bool false])
    | some y => ∃ A c K d, e = .returned (.tuple #[aggOf y A c K d, .bool true]) ∧ LiesIn P w' y A c K d
/-- The three boxes of that look. -/
structure JBox (w : World) (P : Nat → Prop) (x : V) (A : Option Addr) (c : Nat) (K : Option Addr) (d : Nat) (i : Int) (t : ByteArray) (W : World) : Prop where
  old : Below w.heap.size w W
  bx : BlockIs W w.heap.size 25 #[.int .i64 x.kind, .int .i64 x.int, .string x.text, .slice A x.items.length c, .slice K x.keys.length d]
  bs : BlockIs W (w.heap.size + 1) 42 #[.int .i64 i, .string t]
  br : BlockIs W (w.heap.size + 2) 25 zeroF
  lies : LiesIn P W x A c K d
theorem JBox.start (w : World) (P : Nat → Prop) (hB : ∀ b, P b → b < w.heap.size) (x : V) (A : Option Addr) (c : Nat) (K : Option Addr) (d : Nat) (i : Int) (t : ByteArray) (h : LiesIn P w x A c K d) :
    JBox w P x A c K d i t (((w.alloc (.cells #[.int .i64 x.kind, .int .i64 x.int, .string x.text, .slice A x.items.length c, .slice K x.keys.length d] 25)).alloc (.cells #[.int .i64 i, .string t] 42)).alloc (.cells zeroF 25)) := by
  have hb : Below w.heap.size w (((w.alloc (.cells #[.int .i64 x.kind, .int .i64 x.int, .string x.text, .slice A x.items.length c, .slice K x.keys.length d] 25)).alloc (.cells #[.int .i64 i, .string t] 42)).alloc (.cells zeroF 25)) := below_al (below_al (below_al (Below.refl _ w) _) _) _
  exact ⟨hb, ((BlockIs.new w _ _).alloc _).alloc _, (BlockIs.newAt _ _ _ (by simp)).alloc _, BlockIs.newAt _ _ _ (by simp), LiesIn.keep (fun b o hb' => bcell hb b o (hB b hb')) (fun _ h => h) _ h⟩
theorem JBox.drewN {w W : World} {P : Nat → Prop} {x : V} {A K : Option Addr} {c d : Nat} {i : Int} {t : ByteArray} (h : JBox w P x A c K d i t W) (q : Nat) : JBox w P x A c K d i t (W.drewN q) :=
  ⟨below_drewN h.old q, h.bx, h.bs, h.br, LiesIn.keep (w := W) (w' := W.drewN q) (fun _ _ _ => rfl) (fun _ h => h) _ h.lies⟩
theorem JBox.put5 {w W : World} {P : Nat → Prop} {x : V} {A K : Option Addr} {c d : Nat} {i : Int} {t : ByteArray} (h : JBox w P x A c K d i t W) {u0 u1 u2 u3 u4 : Value} : Below w.heap.size w (Go.Proofs.YtchadlbhdcpojaaDoor.put5 W (w.heap.size + 2) 0 u0 u1 u2 u3 u4) :=
  ((((h.old.setCell (by simp) _).setCell (by simp) _).setCell (by simp) _).setCell (by simp) _).setCell (by simp) _
theorem JBox.item {w W : World} {P : Nat → Prop} {x y : V} {A K Ay Ky : Option Addr} {c d cy dy : Nat} {i : Int} {t : ByteArray} (_h : JBox w P x A c K d i t W) {u0 u1 u2 u3 u4 : Value} (hB : ∀ b, P b → b < w.heap.size) (hy : LiesIn P W y Ay cy Ky dy) :
    LiesIn P (Go.Proofs.YtchadlbhdcpojaaDoor.put5 W (w.heap.size + 2) 0 u0 u1 u2 u3 u4) y Ay cy Ky dy := by
  exact LiesIn.keep (fun b o hb => World.cell?_of_block (put5_heap W (w.heap.size + 2) 0 u0 u1 u2 u3 u4 (show b ≠ w.heap.size + 2 by have := hB b hb; omega))) (fun _ h => h) _ hy
open Go.RowKit
/-- The blocks that what was collected hangs on: elder ones, and the call's own, but the rows'. -/
def PQ (w : World) (P : Nat → Prop) (rI rK : Value) (W : World) (b : Nat) : Prop := P b ∨ (w.heap.size + 3 ≤ b ∧ b < W.heap.size ∧ some b ≠ rI.ownBlock ∧ some b ≠ rK.ownBlock)
/-- How far a value is copied. -/
structure WQ (w : World) (P : Nat → Prop) (vc : Array Value) (kd : Int) (accI : List V) (accK : List ByteArray) (rI rK : Value) (css : List (List Value)) (W : World) : Prop where
  old : Below w.heap.size w W
  bv : BlockIs W w.heap.size 25 vc
  br : BlockIs W (w.heap.size + 1) 25 zeroF
  bo : BlockIs W (w.heap.size + 2) 25 #[.int .i64 kd, .int .i64 0, .string ⟨#[]⟩, rI, rK]
  items : W.ownsRow (w.heap.size + 3) 25 5 rI accI.length css.flatten
  keys : W.ownsRow (w.heap.size + 3) 9 1 rK accK.length (accK.map Value.string)
  rows : RowsIn (PQ w P rI rK W) W accI css
  sizes : ∀ k ∈ accK, k.size ≤ maxLen
section
variable {w W W' w1 : World} {P : Nat → Prop} {vc : Array Value} {kd : Int} {accI : List V} {accK : List ByteArray} {rI rK v' : Value} {css : List (List Value)} {y : V} {A K : Option Addr} {c d : Nat} {u0 u1 u2 u3 u4 : Value}
theorem WQ.start (w : World) (P : Nat → Prop) (vc : Array Value) (kd : Int) : WQ w P vc kd [] [] (.slice none 0 0) (.slice none 0 0) [] (((w.alloc (.cells vc 25)).alloc (.cells zeroF 25)).alloc (.cells #[.int .i64 kd, .int .i64 0, .string ⟨#[]⟩, .slice none 0 0, .slice none 0 0] 25)) :=
  ⟨below_al (below_al (below_al (Below.refl _ w) _) _) _, ((BlockIs.new w _ _).alloc _).alloc _, (BlockIs.newAt _ _ _ (by simp)).alloc _, BlockIs.newAt _ _ _ (by simp), World.ownsRow_nil _ _ _ _, World.ownsRow_nil _ _ _ _, trivial, by simp⟩
theorem WQ.lt (h : WQ w P vc kd accI accK rI rK css W) : w.heap.size + 3 ≤ W.heap.size := by have := h.bo.lt; omega
theorem PQ.lt (h : WQ w P vc kd accI accK rI rK css W) (hB : ∀ b, P b → b < w.heap.size) {b : Nat} (hb : PQ w P rI rK W b) : b < W.heap.size := by
  have := h.lt
  rcases hb with h | h
  · have := hB b h; omega
  · exact h.2.1
theorem WQ.below (h : WQ w P vc kd accI accK rI rK css W) (hB : ∀ b, P b → b < w.heap.size) (hb : Below W.heap.size W W') : WQ w P vc kd accI accK rI rK css W' := by
  have hs := hb.size
  have hk : ∀ v : Value, v.ownBlock = none ∨ v.ownBlock ≠ (none : Option Nat) := fun v => by cases v.ownBlock <;> simp
  refine ⟨below_on h.old hb, h.bv.below hb h.bv.lt, h.br.below hb h.br.lt, h.bo.below hb h.bo.lt, h.items.kept (grown_none hb) (hk _), h.keys.kept (grown_none hb) (hk _), h.rows.keep (fun b o hx => bcell hb b o (PQ.lt h hB hx)) (fun b hx => hx.imp id fun hx => ⟨hx.1, by omega, hx.2.2⟩), h.sizes⟩
/-- An item more. -/
theorem WQ.item (h : WQ w P vc kd accI accK rI rK css W) (hB : ∀ b, P b → b < w.heap.size) (hy : LiesIn (PQ w P rI rK W) W y A c K d) (hlen : accI.length ≤ 10000) :
    ∃ v' W1, (Builtin.append_ #[22, 22] 22 #[rI, .slice (some ⟨W.heap.size, 0, none⟩) 1 1]).run Tryd.prog (W.alloc (.cells #[.int .i64 y.kind, .int .i64 y.int, .string y.text, .slice A y.items.length c, .slice K y.keys.length d] 25)) = .ok v' W1 ∧
      (∃ A c, v' = .slice A (accI.length + 1) c) ∧ (∀ o, W1.cell? ⟨w.heap.size + 2, o, none⟩ = W.cell? ⟨w.heap.size + 2, o, none⟩) ∧ W1.frozen? ⟨w.heap.size + 2, 3, none⟩ = false ∧ w.heap.size + 2 < W1.heap.size ∧ WQ w P vc kd (accI ++ [y]) accK v' rK (css ++ [fieldsL y A c K d]) (W1.setCell ⟨w.heap.size + 2, 3, none⟩ v') := by
  have hlt := h.lt
  have hb1a := below_al (Below.refl _ W) (.cells #[.int .i64 y.kind, .int .i64 y.int, .string y.text, .slice A y.items.length c, .slice K y.keys.length d] 25)
  have ha := h.below hB hb1a
  have hnew := BlockIs.new W 25 #[.int .i64 y.kind, .int .i64 y.int, .string y.text, .slice A y.items.length c, .slice K y.keys.length d]
  have hz : (W.alloc (.cells #[.int .i64 y.kind, .int .i64 y.int, .string y.text, .slice A y.items.length c, .slice K y.keys.length d] 25)).heap.size = W.heap.size + 1 := by simp
  obtain ⟨v', W1, hr, ho, hg, hw⟩ := appendW 22 _ (w.heap.size + 3) rI accI.length _ ha.items ⟨W.heap.size, 0, none⟩ 1 1 (fieldsL y A c K d) rfl (fun j u hj => by
    rw [Addr.add_lit, Nat.zero_add, hnew.cell j, ← hj]
    simp [fieldsL]) (fun u hu => by simp only [fieldsL, List.mem_cons, List.not_mem_nil, or_false] at hu; rcases hu with rfl | rfl | rfl | rfl | rfl <;> rfl) (by omega) (by omega) (by omega)
  have hge : ∀ g, g < w.heap.size + 3 → some g ≠ rI.ownBlock := fun g hg => own_ge ha.items hg
  have hs1 := hg.size
  have hB1 : Below w.heap.size w W1 := ha.old.trans (below_grow hg ha.old.size (fun r e => by have := (World.ownsRow.lt ha.items r e).1; omega))
  have hB2 : Below w.heap.size w (W1.setCell ⟨w.heap.size + 2, 3, none⟩ v') := hB1.setCell (by simp) _
  have hapart : v'.ownBlock = none ∨ v'.ownBlock ≠ rK.ownBlock := two_apart ho (ha.keys.kept hg (two_apart ha.keys ha.items (by decide))) (by decide)
  have hold : ∀ b, b < W.heap.size → b ≠ w.heap.size + 2 → some b ≠ rI.ownBlock → (W1.setCell ⟨w.heap.size + 2, 3, none⟩ v').heap[b]? = W.heap[b]? := fun b h1 h2 h3 => by
    rw [Below.heap_setCell _ _ _ _ h2, hg.block b (by omega) h3, Below.heap_alloc _ _ _ h1]
  have hP : ∀ b, PQ w P rI rK W b → PQ w P v' rK (W1.setCell ⟨w.heap.size + 2, 3, none⟩ v') b := fun b hb => hb.imp id fun hb => ⟨hb.1, by simp; have := hb.2.1; omega, row_where hw hb.2.2.1 (by have := hb.2.1; omega), hb.2.2.2⟩
  have hcell : ∀ b o, PQ w P rI rK W b → (W1.setCell ⟨w.heap.size + 2, 3, none⟩ v').cell? ⟨b, o, none⟩ = W.cell? ⟨b, o, none⟩ := fun b o hb => World.cell?_of_block (by
    rcases hb with hb | hb
    · have := hB b hb
      exact hold b (by omega) (by omega) (hge b (by omega))
    · exact hold b hb.2.1 (by have := hb.1; omega) hb.2.2.1)
  refine ⟨v', W1, hr, own_form ho, fun o => ?_, ?_, by omega, hB2, (ha.bv.grown hg (hge _ (by omega))).far (by simp) _, (ha.br.grown hg (hge _ (by omega))).far (by simp) _, ?_, ?_, ?_, ?_, h.sizes⟩
  · exact World.cell?_of_block (show W1.heap[w.heap.size + 2]? = W.heap[w.heap.size + 2]? by rw [hg.block _ (by omega) (hge _ (by omega)), Below.heap_alloc _ _ _ (by omega)])
  · exact (ha.bo.grown hg (hge _ (by omega))).frozen 3
  · have := (ha.bo.grown hg (hge _ (by omega))).set_ 3 v'
    simpa using this
  · have := own_set_far ho ⟨w.heap.size + 2, 3, none⟩ v' (own_ge ho (by simp))
    simpa [List.flatten_append] using this
  · exact own_set_far (ha.keys.kept hg (two_apart ha.keys ha.items (by decide))) _ _ (own_ge ha.keys (by simp))
  · exact RowsIn.append (ys := [y]) (dss := [fieldsL y A c K d]) ⟨⟨A, c, K, d, rfl, LiesIn.keep hcell hP y hy⟩, trivial⟩ (h.rows.keep hcell hP)
/-- A key more. -/
theorem WQ.key (h : WQ w P vc kd accI accK rI rK css W) (hB : ∀ b, P b → b < w.heap.size) {k : ByteArray} (hks : k.size ≤ maxLen) (hlen : accK.length ≤ 10000) :
    ∃ v' W1, (Builtin.append_ #[23, 23] 23 #[rK, .slice (some ⟨W.heap.size, 0, none⟩) 1 1]).run Tryd.prog (W.alloc (.cells #[.string k] 9)) = .ok v' W1 ∧
      (∃ A c, v' = .slice A (accK.length + 1) c) ∧ W1.frozen? ⟨w.heap.size + 2, 4, none⟩ = false ∧ w.heap.size + 2 < W1.heap.size ∧ (∀ o, W1.cell? ⟨w.heap.size + 2, o, none⟩ = W.cell? ⟨w.heap.size + 2, o, none⟩) ∧ WQ w P vc kd accI (accK ++ [k]) rI v' css (W1.setCell ⟨w.heap.size + 2, 4, none⟩ v') := by
  have hlt := h.lt
  have hb1a := below_al (Below.refl _ W) (.cells #[.string k] 9)
  have ha := h.below hB hb1a
  have hnew := BlockIs.new W 9 #[.string k]
  have hz : (W.alloc (.cells #[.string k] 9)).heap.size = W.heap.size + 1 := by simp
  obtain ⟨v', W1, hr, ho, hg, hw⟩ := appendKW 23 _ (w.heap.size + 3) rK accK.length _ ha.keys ⟨W.heap.size, 0, none⟩ 1 1 [.string k] rfl (fun j u hj => by
    rw [Addr.add_lit, Nat.zero_add, hnew.cell j, ← hj]
    simp) (fun u hu => by simp only [List.mem_cons, List.not_mem_nil, or_false] at hu; rw [hu]; rfl) (by omega) (by omega) (by omega)
  have hge : ∀ g, g < w.heap.size + 3 → some g ≠ rK.ownBlock := fun g hg => own_ge ha.keys hg
  have hs1 := hg.size
  have hB1 : Below w.heap.size w W1 := ha.old.trans (below_grow hg ha.old.size (fun r e => by have := (World.ownsRow.lt ha.keys r e).1; omega))
  have hB2 : Below w.heap.size w (W1.setCell ⟨w.heap.size + 2, 4, none⟩ v') := hB1.setCell (by simp) _
  have hold : ∀ b, b < W.heap.size → b ≠ w.heap.size + 2 → some b ≠ rK.ownBlock → (W1.setCell ⟨w.heap.size + 2, 4, none⟩ v').heap[b]? = W.heap[b]? := fun b h1 h2 h3 => by
    rw [Below.heap_setCell _ _ _ _ h2, hg.block b (by omega) h3, Below.heap_alloc _ _ _ h1]
  have hP : ∀ b, PQ w P rI rK W b → PQ w P rI v' (W1.setCell ⟨w.heap.size + 2, 4, none⟩ v') b := fun b hb => hb.imp id fun hb => ⟨hb.1, by simp; have := hb.2.1; omega, hb.2.2.1, row_where hw hb.2.2.2 (by have := hb.2.1; omega)⟩
  have hcell : ∀ b o, PQ w P rI rK W b → (W1.setCell ⟨w.heap.size + 2, 4, none⟩ v').cell? ⟨b, o, none⟩ = W.cell? ⟨b, o, none⟩ := fun b o hb => World.cell?_of_block (by
    rcases hb with hb | hb
    · have := hB b hb
      exact hold b (by omega) (by omega) (hge b (by omega))
    · exact hold b hb.2.1 (by have := hb.1; omega) hb.2.2.2)
  refine ⟨v', W1, hr, own_form ho, (ha.bo.grown hg (hge _ (by omega))).frozen 4, by omega, fun o => ?_, hB2, (ha.bv.grown hg (hge _ (by omega))).far (by simp) _, (ha.br.grown hg (hge _ (by omega))).far (by simp) _, ?_, ?_, ?_, h.rows.keep hcell hP, ?_⟩
  · exact World.cell?_of_block (show W1.heap[w.heap.size + 2]? = W.heap[w.heap.size + 2]? by rw [hg.block _ (by omega) (hge _ (by omega)), Below.heap_alloc _ _ _ (by omega)])
  · have := (ha.bo.grown hg (hge _ (by omega))).set_ 4 v'
    simpa using this
  · exact own_set_far (ha.items.kept hg (two_apart ha.items ha.keys (by decide))) _ _ (own_ge ha.items (by simp))
  · have := own_set_far ho ⟨w.heap.size + 2, 4, none⟩ v' (own_ge ho (by simp))
    simpa using this
  · intro q hq
    rcases List.mem_append.1 hq with hq | hq
    · exact h.sizes q hq
    · rw [List.mem_singleton.1 hq]; exact hks
/-- What was collected, answered. -/
theorem WQ.done (h : WQ w P vc kd accI accK rI rK css W) (hB : ∀ b, P b → b < w.heap.size) :
    ∃ A c K d, rI = .slice A accI.length c ∧ rK = .slice K accK.length d ∧ LiesIn (fun b => P b ∨ Fresh w (put5 W (w.heap.size + 1) 0 u0 u1 u2 u3 u4) b) (put5 W (w.heap.size + 1) 0 u0 u1 u2 u3 u4) (.mk kd 0 ⟨#[]⟩ accI accK) A c K d ∧ Below w.heap.size w (put5 W (w.heap.size + 1) 0 u0 u1 u2 u3 u4) := by
  have hlt := h.lt
  have hr : RowsIn (fun b => P b ∨ (w.heap.size + 3 ≤ b ∧ b < W.heap.size)) W accI css := h.rows.keep (fun _ _ _ => rfl) (fun b hb => hb.imp id fun hb => ⟨hb.1, hb.2.1⟩)
  obtain ⟨A, c, rfl, hc1, hc2, hA⟩ := rows_lie hr h.items (fun b hb => .inr (World.ownsRow.lt h.items b hb))
  have hcK := fun g hg => World.ownsRow.cells h.keys (g := g) hg
  have h8 := h.keys
  obtain ⟨K, q, rfl, hq1, hq2, hK⟩ : ∃ K q, rK = .slice K accK.length q ∧ accK.length ≤ q ∧ q ≤ maxLen ∧ (accK = [] ∨ ∃ b, K = some ⟨b, 0, none⟩ ∧ (w.heap.size + 3 ≤ b ∧ b < W.heap.size) ∧ StrsFrom W accK b 0) := by
    have hlt := fun b hb => World.ownsRow.lt h8 b hb
    obtain ⟨hl, ⟨rfl, h0⟩ | ⟨g', cap, cur, rfl, hB, hb, hn, hm, hs, ht⟩⟩ := h8
    · exact ⟨none, 0, by rw [h0], by omega, by simp [maxLen], .inl (List.length_eq_zero_iff.1 h0)⟩
    · refine ⟨_, _, rfl, hn, hm, .inr ⟨g', rfl, hlt g' rfl, keys_from h.sizes fun j v hj => ?_⟩⟩
      have := hcK g' rfl j v hj
      rw [Addr.add_lit] at this
      exact this
  have hL : LiesIn (fun b => P b ∨ (w.heap.size + 3 ≤ b ∧ b < W.heap.size)) W (V.mk kd 0 ⟨#[]⟩ accI accK) A c K q := by
    rw [LiesIn]
    exact ⟨by decide, hc1, hc2, ⟨hq1, hq2, hK.imp id fun ⟨b, hKe, hb, hfr⟩ => ⟨b, 0, hKe, .inr hb, hfr⟩⟩, hA⟩
  have hs := put5_size W (w.heap.size + 1) 0 u0 u1 u2 u3 u4
  refine ⟨A, c, K, q, rfl, rfl, LiesIn.keep (fun b o hb => World.cell?_of_block (put5_heap W (w.heap.size + 1) 0 u0 u1 u2 u3 u4 ?_)) (fun b hb => hb.imp id fun hb => ⟨by have := hb.1; omega, by rw [hs]; exact hb.2⟩) _ hL, ((((h.old.setCell (by simp) _).setCell (by simp) _).setCell (by simp) _).setCell (by simp) _).setCell (by simp) _⟩
  show b ≠ w.heap.size + 1
  rcases (show P b ∨ (w.heap.size + 3 ≤ b ∧ b < W.heap.size) from hb) with hb | hb
  · have := hB b hb; omega
  · have := hb.1; omega
end
theorem inn_at {P : Nat → Prop} {w : World} {x : V} {A K : Option Addr} {c d j : Nat} (h : LiesIn P w x A c K d) (hj : j < x.items.length) : ∃ b o, A = some ⟨b, o, none⟩ ∧ P b ∧ LiesFromIn P w x.items b o :=
  (inn_items h).2.2.resolve_left fun e => by rw [e] at hj; simp at hj
theorem inn_key_at {P : Nat → Prop} {w : World} {x : V} {A K : Option Addr} {c d j : Nat} (h : LiesIn P w x A c K d) (hj : j < x.keys.length) : ∃ b o, K = some ⟨b, o, none⟩ ∧ P b ∧ ∀ j k, x.keys[j]? = some k → w.cell? ⟨b, o + j, none⟩ = some (.string k) ∧ k.size ≤ maxLen := by
  obtain ⟨b, o, e, hb, hf⟩ := (inn_keys h).2.2.resolve_left fun e => by rw [e] at hj; simp at hj
  exact ⟨b, o, e, hb, fun j k hk => hf.at_ hk⟩
open Go.RowKit
/-- What that taking out leaves. -/
def OutQ (P : Nat → Prop) (y : V) (w : World) (e : Ending) (w' : World) : Prop :=
  ∃ A c K d, e = .returned (aggOf y A c K d) ∧ LiesIn (fun b => P b ∨ Fresh w w' b) w' y A c K d ∧ Below w.heap.size w w'
theorem WQ.skip {w W : World} {P : Nat → Prop} {vc : Array Value} {kd : Int} {l : List V} {ks : List ByteArray} {r : List Stp} {n0 j : Nat} {yo y : V} {k : ByteArray} {rI rK : Value} {css : List (List Value)}
    (h : WQ w P vc kd (cutL (decide (r = [])) n0 yo (l.take j)) (keyCut kd (decide (r = [])) n0 k (ks.take j)) rI rK css W) (hr : r = []) (hj : j = n0) (hy : l[j]? = some y) (hk : kd = 5 → ks[j]? = some k) :
    WQ w P vc kd (cutL (decide (r = [])) n0 yo (l.take (j + 1))) (keyCut kd (decide (r = [])) n0 k (ks.take (j + 1))) rI rK css W := by
  subst hr hj
  have e1 : cutL (decide (([] : List Stp) = [])) j yo (l.take (j + 1)) = cutL (decide (([] : List Stp) = [])) j yo (l.take j) := cutL_skip hy
  have e2 : keyCut kd (decide (([] : List Stp) = [])) j k (ks.take (j + 1)) = keyCut kd (decide (([] : List Stp) = [])) j k (ks.take j) := by
    unfold keyCut
    by_cases h5 : kd = 5
    · rw [if_pos h5, if_pos h5]; exact cutL_skip (hk h5)
    · rw [if_neg h5, if_neg h5]
  rw [e1, e2]
  exact h
end Go.Proofs.YtchadlbhdcpojaaDoor
