/- An entry more, as the specification lays it: what is known of memory while it is laid. -/
import Derived.Test.YtchadlbhdcpojaaGreatDoorXc
import Derived.Test.YtchadlbhdcpojaaGreatDoorPv
import Derived.Deep.RegionWith
namespace Go.Proofs.YtchadlbhdcpojaaGreatDoor
open Go.RowKit

/-- The keys and the items of an object with an entry more, or another one of its key. -/
def withK (k : ByteArray) (x : V) : Bool → List ByteArray → List V → List ByteArray × List V
  | d, kk :: ks, y :: l =>
    if d = false ∧ ltB kk k = false then
      (if kk = k then (k :: (withK k x true ks l).1, x :: (withK k x true ks l).2) else (k :: kk :: (withK k x true ks l).1, x :: y :: (withK k x true ks l).2))
    else (if kk = k then withK k x d ks l else (kk :: (withK k x d ks l).1, y :: (withK k x d ks l).2))
  | d, _, _ => if d = true then ([], []) else ([k], [x])
theorem withK_done (k : ByteArray) (x : V) : ∀ (ks : List ByteArray) (l : List V), ks.length = l.length → ¬ k ∈ ks → withK k x true ks l = (ks, l)
  | [], [], _, _ => by simp [withK]
  | [], _ :: _, h, _ => by simp at h
  | _ :: _, [], h, _ => by simp at h
  | kk :: ks, y :: l, h, hk => by
    have h1 : ¬ kk = k := fun e => hk (by simp [e])
    have ih := withK_done k x ks l (by simpa using h) (fun e => hk (by simp [e]))
    rw [withK, if_neg (by simp), if_neg h1, ih]
theorem withK_ins (k : ByteArray) (x : V) : ∀ (ks : List ByteArray) (l : List V), ks.length = l.length → ¬ k ∈ ks → withK k x false ks l = insK (ks, l) k x
  | [], [], _, _ => by simp [withK, insK, posK]
  | [], _ :: _, h, _ => by simp at h
  | _ :: _, [], h, _ => by simp at h
  | kk :: ks, y :: l, h, hk => by
    have h1 : ¬ kk = k := fun e => hk (by simp [e])
    have h2 : ¬ k ∈ ks := fun e => hk (by simp [e])
    have hl : ks.length = l.length := by simpa using h
    unfold insK
    rw [withK, posK]
    cases hb : ltB kk k
    · rw [if_pos ⟨rfl, rfl⟩, if_neg h1, withK_done k x ks l hl h2]
      simp
    · rw [if_neg (by simp), if_neg h1, withK_ins k x ks l hl h2]
      simp [insK]
theorem five_cells {w : World} {g : Nat} {t : TypeId} {a b c d e : Value} (h : BlockIs w g t #[a, b, c, d, e]) : w.cell? ⟨g, 0, none⟩ = some a ∧ w.cell? ⟨g, 1, none⟩ = some b ∧ w.cell? ⟨g, 2, none⟩ = some c ∧ w.cell? ⟨g, 3, none⟩ = some d ∧ w.cell? ⟨g, 4, none⟩ = some e :=
  ⟨h.cell 0, h.cell 1, h.cell 2, h.cell 3, h.cell 4⟩
theorem LiesFromIn.at_ {P : Nat → Prop} {w : World} {l : List V} {b o : Nat} (h : LiesFromIn P w l b o) {k : Nat} {x : V} (hx : l[k]? = some x) :
    ∃ A c K d, (w.cell? ⟨b, o + k * 5, none⟩ = some (.int .i64 x.kind) ∧ w.cell? ⟨b, o + k * 5 + 1, none⟩ = some (.int .i64 x.int) ∧ w.cell? ⟨b, o + k * 5 + 2, none⟩ = some (.string x.text) ∧
      w.cell? ⟨b, o + k * 5 + 3, none⟩ = some (.slice A x.items.length c) ∧ w.cell? ⟨b, o + k * 5 + 4, none⟩ = some (.slice K x.keys.length d)) ∧ LiesIn P w x A c K d := by
  induction l generalizing o k with
  | nil => simp at hx
  | cons y r ih =>
    rw [LiesFromIn] at h
    cases k with
    | zero =>
      simp at hx
      subst hx
      obtain ⟨⟨A, c, K, d, h0, h1, h2, h3, h4, h5⟩, _⟩ := h
      exact ⟨A, c, K, d, by simpa using ⟨h0, h1, h2, h3, h4⟩, h5⟩
    | succ k => simp at hx; have := ih h.2 hx; rw [show o + (k + 1) * 5 = o + 5 + k * 5 by omega]; exact this
theorem LiesIn.item_at {P : Nat → Prop} {w : World} {kd i : Int} {t : ByteArray} {l : List V} {ks : List ByteArray} {A K : Option Addr} {c d : Nat} (h : LiesIn P w (.mk kd i t l ks) A c K d) {j : Nat} {x : V} (hx : l[j]? = some x) :
    ∃ b o, A = some ⟨b, o, none⟩ ∧ P b ∧ ∃ A' c' K' d', (w.cell? ⟨b, o + j * 5, none⟩ = some (.int .i64 x.kind) ∧ w.cell? ⟨b, o + j * 5 + 1, none⟩ = some (.int .i64 x.int) ∧ w.cell? ⟨b, o + j * 5 + 2, none⟩ = some (.string x.text) ∧
      w.cell? ⟨b, o + j * 5 + 3, none⟩ = some (.slice A' x.items.length c') ∧ w.cell? ⟨b, o + j * 5 + 4, none⟩ = some (.slice K' x.keys.length d')) ∧ LiesIn P w x A' c' K' d' := by
  rw [LiesIn] at h
  rcases h.2.2.2.2 with rfl | ⟨b, o, hA, hb, hf⟩
  · simp at hx
  · exact ⟨b, o, hA, hb, hf.at_ hx⟩
theorem LiesIn.key_at {P : Nat → Prop} {w : World} {kd i : Int} {t : ByteArray} {l : List V} {ks : List ByteArray} {A K : Option Addr} {c d : Nat} (h : LiesIn P w (.mk kd i t l ks) A c K d) {j : Nat} {k : ByteArray} (hk : ks[j]? = some k) :
    ∃ b o, K = some ⟨b, o, none⟩ ∧ P b ∧ w.cell? ⟨b, o + j, none⟩ = some (.string k) ∧ k.size ≤ maxLen := by
  rw [LiesIn] at h
  rcases h.2.2.2.1.2.2 with rfl | ⟨b, o, hA, hb, hf⟩
  · simp at hk
  · obtain ⟨h1, h2⟩ := hf.at_ hk
    exact ⟨b, o, hA, hb, h1, h2⟩
/-- Rows of elements of two types lie apart. -/
theorem two_apart {w : World} {b1 b2 e1 e2 s1 s2 n1 n2 : Nat} {v1 v2 : Value} {xs1 xs2 : List Value} (h1 : w.ownsRow b1 e1 s1 v1 n1 xs1) (h2 : w.ownsRow b2 e2 s2 v2 n2 xs2) (he : e1 ≠ e2) : v1.ownBlock = none ∨ v1.ownBlock ≠ v2.ownBlock := by
  obtain ⟨_, ⟨rfl, _⟩ | ⟨g1, c1, r1, rfl, _, hg1, _⟩⟩ := h1
  · exact .inl rfl
  · obtain ⟨_, ⟨rfl, _⟩ | ⟨g2, c2, r2, rfl, _, hg2, _⟩⟩ := h2
    · right; simp [Value.ownBlock]
    · right
      intro e
      simp only [Value.ownBlock, Option.some.injEq] at e
      subst e
      rw [hg1] at hg2
      simp only [Option.some.injEq, Obj.cells.injEq] at hg2
      exact he hg2.2.1
/-- Where the laying of an entry stands: the boxes of what came in, and the two rows that are laid. -/
structure WInv (w : World) (G : Nat) (vc xc : Array Value) (P : Nat → Prop) (oks : List ByteArray) (ol : List V) (rI rK : Value) (css : List (List Value)) (W : World) : Prop where
  old : Below w.heap.size w W
  far : w.heap.size + 3 ≤ G
  b0 : BlockIs W w.heap.size 27 vc
  b1 : BlockIs W (w.heap.size + 1) 27 xc
  b2 : BlockIs W (w.heap.size + 2) 27 zeroF
  bG : BlockIs W G 27 #[.int .i64 5, .int .i64 0, .string ⟨#[]⟩, rI, rK]
  items : W.ownsRow (G + 1) 27 5 rI ol.length css.flatten
  keys : W.ownsRow (G + 1) 9 1 rK oks.length (oks.map Value.string)
  rows : RowsIn P W ol css
  olds : ∀ b, P b → b < w.heap.size
  sizes : ∀ k ∈ oks, k.size ≤ maxLen
section
variable {w W w1 : World} {G : Nat} {vc xc : Array Value} {P : Nat → Prop} {oks : List ByteArray} {ol : List V} {rI rK v' : Value} {css : List (List Value)}
theorem own_ge {b e s n : Nat} {v : Value} {xs : List Value} (h : W.ownsRow b e s v n xs) {g : Nat} (hg : g < b) : some g ≠ v.ownBlock := fun q => by have := (World.ownsRow.lt h g q.symm).1; omega
theorem WInv.key (h : WInv w G vc xc P oks ol rI rK css W) {key : ByteArray} (hk : key.size ≤ maxLen) (hw : W.grownBy w1 rK.ownBlock) (hown : w1.ownsRow (G + 1) 9 1 v' (oks.length + 1) (oks.map Value.string ++ [.string key])) :
    WInv w G vc xc P (oks ++ [key]) ol rI v' css (w1.setCell ⟨G, 4, none⟩ v') := by
  have hge : ∀ g, g < G + 1 → some g ≠ rK.ownBlock := fun g hg => own_ge h.keys hg
  have hf := h.far
  have hB : Below w.heap.size w w1 := h.old.trans (below_grow hw h.old.size (fun r e => by have := (World.ownsRow.lt h.keys r e).1; omega))
  have hB2 : Below w.heap.size w (w1.setCell ⟨G, 4, none⟩ v') := hB.setCell (by simp; omega) _
  have hcell : ∀ b o, P b → (w1.setCell ⟨G, 4, none⟩ v').cell? ⟨b, o, none⟩ = W.cell? ⟨b, o, none⟩ := fun b o hb => (bcell hB2 b o (h.olds b hb)).trans (bcell h.old b o (h.olds b hb)).symm
  refine ⟨hB2, hf, ?_, ?_, ?_, ?_, ?_, ?_, h.rows.keep hcell (fun b hb => hb), h.olds, ?_⟩
  · exact (h.b0.grown hw (hge _ (by omega))).far (by simp; omega) _
  · exact (h.b1.grown hw (hge _ (by omega))).far (by simp; omega) _
  · exact (h.b2.grown hw (hge _ (by omega))).far (by simp; omega) _
  · have := (h.bG.grown hw (hge _ (by omega))).set_ 4 v'
    simpa using this
  · exact own_set_far (h.items.kept hw (two_apart h.items h.keys (by decide))) _ _ (own_ge h.items (by simp))
  · have := own_set_far hown ⟨G, 4, none⟩ v' (own_ge hown (by simp))
    simpa using this
  · intro k hk'
    rcases List.mem_append.1 hk' with hk' | hk'
    · exact h.sizes k hk'
    · rw [List.mem_singleton.1 hk']; exact hk
theorem WInv.item (h : WInv w G vc xc P oks ol rI rK css W) {y : V} {A K : Option Addr} {c d : Nat} (hy : LiesIn P w y A c K d) (hw : W.grownBy w1 rI.ownBlock) (hown : w1.ownsRow (G + 1) 27 5 v' (ol.length + 1) (css.flatten ++ fieldsL y A c K d)) :
    WInv w G vc xc P oks (ol ++ [y]) v' rK (css ++ [fieldsL y A c K d]) (w1.setCell ⟨G, 3, none⟩ v') := by
  have hge : ∀ g, g < G + 1 → some g ≠ rI.ownBlock := fun g hg => own_ge h.items hg
  have hf := h.far
  have hB : Below w.heap.size w w1 := h.old.trans (below_grow hw h.old.size (fun r e => by have := (World.ownsRow.lt h.items r e).1; omega))
  have hB2 : Below w.heap.size w (w1.setCell ⟨G, 3, none⟩ v') := hB.setCell (by simp; omega) _
  have hcell : ∀ b o, P b → (w1.setCell ⟨G, 3, none⟩ v').cell? ⟨b, o, none⟩ = W.cell? ⟨b, o, none⟩ := fun b o hb => (bcell hB2 b o (h.olds b hb)).trans (bcell h.old b o (h.olds b hb)).symm
  refine ⟨hB2, hf, ?_, ?_, ?_, ?_, ?_, ?_, ?_, h.olds, h.sizes⟩
  · exact (h.b0.grown hw (hge _ (by omega))).far (by simp; omega) _
  · exact (h.b1.grown hw (hge _ (by omega))).far (by simp; omega) _
  · exact (h.b2.grown hw (hge _ (by omega))).far (by simp; omega) _
  · have := (h.bG.grown hw (hge _ (by omega))).set_ 3 v'
    simpa using this
  · have := own_set_far hown ⟨G, 3, none⟩ v' (own_ge hown (by simp))
    simpa [List.flatten_append] using this
  · exact own_set_far (h.keys.kept hw (two_apart h.keys h.items (by decide))) _ _ (own_ge h.keys (by simp))
  · exact RowsIn.append (ys := [y]) (dss := [fieldsL y A c K d]) ⟨⟨A, c, K, d, rfl, LiesIn.keep (fun b o hb => bcell hB2 b o (h.olds b hb)) (fun b hb => hb) y hy⟩, trivial⟩ (h.rows.keep hcell (fun b hb => hb))
theorem WInv.facts (h : WInv w G vc xc P oks ol rI rK css W) : (W.cell? ⟨G, 3, none⟩ = some rI ∧ W.cell? ⟨G, 4, none⟩ = some rK ∧ W.frozen? ⟨G, 3, none⟩ = false ∧ W.frozen? ⟨G, 4, none⟩ = false) ∧ G < W.heap.size := by
  have c3 := BlockIs.cell h.bG 3
  have c4 := BlockIs.cell h.bG 4
  exact ⟨⟨c3, c4, BlockIs.frozen h.bG 3, BlockIs.frozen h.bG 4⟩, BlockIs.lt h.bG⟩
end
end Go.Proofs.YtchadlbhdcpojaaGreatDoor
