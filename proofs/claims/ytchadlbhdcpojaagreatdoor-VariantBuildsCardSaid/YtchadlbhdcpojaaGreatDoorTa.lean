/- A value that a call owns: its rows, block by block. -/
import Derived.Test.YtchadlbhdcpojaaGreatDoorMb
import Derived.Test.YtchadlbhdcpojaaGreatDoorWu
namespace Go.Proofs.YtchadlbhdcpojaaGreatDoor
open Go.RowKit

mutual
/-- A value whose rows are the call's own, in blocks of D, no block twice. -/
def Tree (w : World) (N : Nat) : V → Value → Value → (Nat → Prop) → Prop
  | .mk _ _ t items keys, vI, vK, D => t.size ≤ maxLen ∧ (∀ k ∈ keys, k.size ≤ maxLen) ∧ w.ownsRow N 9 1 vK keys.length (keys.map Value.string) ∧ (∀ b, vI.ownBlock = some b → D b) ∧ (∀ b, vK.ownBlock = some b → D b ∧ vI.ownBlock ≠ some b) ∧
      ∃ css, w.ownsRow N 27 5 vI items.length css.flatten ∧ Trees w N items css (fun b => D b ∧ vI.ownBlock ≠ some b ∧ vK.ownBlock ≠ some b)
def Trees (w : World) (N : Nat) : List V → List (List Value) → (Nat → Prop) → Prop
  | [], [], _ => True
  | x :: r, cs :: t, D => (∃ D1 D2 : Nat → Prop, (∀ b, D1 b → D b) ∧ (∀ b, D2 b → D b ∧ ¬ D1 b) ∧ (∃ vI vK, cs = [.int .i64 x.kind, .int .i64 x.int, .string x.text, vI, vK] ∧ Tree w N x vI vK D1) ∧ Trees w N r t D2)
  | [], _ :: _, _ => False
  | _ :: _, [], _ => False
end
/-- A row stays where its block stays. -/
theorem own_stays {w w' : World} {N size n : Nat} {e : TypeId} {v : Value} {xs : List Value} (h : w.ownsRow N e size v n xs) (hk : ∀ b, v.ownBlock = some b → w'.heap[b]? = w.heap[b]?) : w'.ownsRow N e size v n xs := by
  obtain ⟨h1, ⟨rfl, h0⟩ | ⟨g, cap, cur, rfl, hB, hb, hn, hm, hs, ht⟩⟩ := h
  · exact ⟨h1, .inl ⟨rfl, h0⟩⟩
  · exact ⟨h1, .inr ⟨g, cap, cur, rfl, hB, (hk g rfl).trans hb, hn, hm, hs, ht⟩⟩
mutual
theorem Tree.keep {w w' : World} {N : Nat} : ∀ (x : V) {vI vK : Value} {D D' : Nat → Prop}, Tree w N x vI vK D → (∀ b, D b → w'.heap[b]? = w.heap[b]?) → (∀ b, D b → D' b) → Tree w' N x vI vK D'
  | .mk _ _ _ items _, _, _, _, _, h, hk, hD => by
    obtain ⟨h1, h2, h3, h4, h5, css, h6, h7⟩ := h
    exact ⟨h1, h2, own_stays h3 (fun b hb => hk b (h5 b hb).1), fun b hb => hD b (h4 b hb), fun b hb => ⟨hD b (h5 b hb).1, (h5 b hb).2⟩, css, own_stays h6 (fun b hb => hk b (h4 b hb)), Trees.keep items h7 (fun b hb => hk b hb.1) (fun b hb => ⟨hD b hb.1, hb.2⟩)⟩
theorem Trees.keep {w w' : World} {N : Nat} : ∀ (l : List V) {css : List (List Value)} {D D' : Nat → Prop}, Trees w N l css D → (∀ b, D b → w'.heap[b]? = w.heap[b]?) → (∀ b, D b → D' b) → Trees w' N l css D'
  | [], [], _, _, _, _, _ => trivial
  | x :: r, cs :: t, _, _, h, hk, hD => by
    obtain ⟨D1, D2, h1, h2, ⟨vI, vK, e, hx⟩, hr⟩ := h
    exact ⟨D1, D2, fun b hb => hD b (h1 b hb), fun b hb => ⟨hD b (h2 b hb).1, (h2 b hb).2⟩, ⟨vI, vK, e, Tree.keep x hx (fun b hb => hk b (h1 b hb)) fun _ h => h⟩, Trees.keep r hr (fun b hb => hk b (h2 b hb).1) fun _ h => h⟩
  | [], _ :: _, _, _, h, _, _ => h.elim
  | _ :: _, [], _, _, h, _, _ => h.elim
end
theorem Trees.length {w : World} {N : Nat} : ∀ {l : List V} {css : List (List Value)} {D : Nat → Prop}, Trees w N l css D → css.length = l.length
  | [], [], _, _ => rfl
  | _ :: _, _ :: _, _, h => by obtain ⟨D1, D2, _, _, _, hr⟩ := h; simp [Trees.length hr]
  | [], _ :: _, _, h => h.elim
  | _ :: _, [], _, h => h.elim
theorem Trees.five {w : World} {N : Nat} : ∀ {l : List V} {css : List (List Value)} {D : Nat → Prop}, Trees w N l css D → ∀ cs ∈ css, cs.length = 5
  | [], [], _, _, cs, hc => by cases hc
  | _ :: _, _ :: _, _, h, cs, hc => by
    obtain ⟨D1, D2, _, _, ⟨vI, vK, e, _⟩, hr⟩ := h
    rcases List.mem_cons.1 hc with rfl | hc
    · rw [e]; rfl
    · exact Trees.five hr cs hc
  | [], _ :: _, _, h, _, _ => h.elim
  | _ :: _, [], _, h, _, _ => h.elim
theorem Trees.append {w : World} {N : Nat} {ys : List V} {dss : List (List Value)} {D2 : Nat → Prop} (h2 : Trees w N ys dss D2) : ∀ {xs : List V} {css : List (List Value)} {D1 D : Nat → Prop}, Trees w N xs css D1 → (∀ b, D1 b → D b ∧ ¬ D2 b) → (∀ b, D2 b → D b) → Trees w N (xs ++ ys) (css ++ dss) D
  | [], [], _, _, _, _, h4 => Trees.keep _ h2 (fun _ _ => rfl) h4
  | x :: r, cs :: t, D1, D, h, h3, h4 => by
    obtain ⟨E1, E2, e1, e2, hx, hr⟩ := h
    refine ⟨E1, fun b => E2 b ∨ D2 b, fun b hb => (h3 b (e1 b hb)).1, fun b hb => ?_, hx, Trees.append h2 hr (fun b hb => ⟨.inl hb, (h3 b (e2 b hb).1).2⟩) (fun b hb => .inr hb)⟩
    rcases hb with hb | hb
    · exact ⟨(h3 b (e2 b hb).1).1, (e2 b hb).2⟩
    · exact ⟨h4 b hb, fun he => (h3 b (e1 b he)).2 hb⟩
  | [], _ :: _, _, _, h, _, _ => h.elim
  | _ :: _, [], _, _, h, _, _ => h.elim
theorem Trees.split {w : World} {N : Nat} : ∀ (i : Nat) {xs : List V} {css : List (List Value)} {D : Nat → Prop}, Trees w N xs css D → ∃ D1 D2 : Nat → Prop, Trees w N (xs.take i) (css.take i) D1 ∧ Trees w N (xs.drop i) (css.drop i) D2 ∧ (∀ b, D1 b → D b ∧ ¬ D2 b) ∧ (∀ b, D2 b → D b)
  | 0, _, _, D, h => ⟨fun _ => False, D, by simp [Trees], by simpa using h, fun _ h => h.elim, fun _ h => h⟩
  | i + 1, [], [], D, h => ⟨fun _ => False, D, by simp [Trees], by simp [Trees], fun _ h => h.elim, fun _ h => h⟩
  | i + 1, x :: r, cs :: t, D, h => by
    obtain ⟨E1, E2, e1, e2, hx, hr⟩ := h
    obtain ⟨D1, D2, h1, h2, h3, h4⟩ := Trees.split i hr
    refine ⟨fun b => E1 b ∨ D1 b, D2, ⟨E1, D1, fun _ h => .inl h, fun b hb => ⟨.inr hb, (e2 b (h3 b hb).1).2⟩, hx, h1⟩, h2, fun b hb => ?_, fun b hb => (e2 b (h4 b hb)).1⟩
    rcases hb with hb | hb
    · exact ⟨e1 b hb, fun h => (e2 b (h4 b h)).2 hb⟩
    · exact ⟨(e2 b (h3 b hb).1).1, (h3 b hb).2⟩
  | _ + 1, [], _ :: _, _, h => h.elim
  | _ + 1, _ :: _, [], _, h => h.elim
/-- One item, those before it, those behind it. -/
theorem Trees.at_ {w : World} {N : Nat} {xs : List V} {css : List (List Value)} {D : Nat → Prop} (h : Trees w N xs css D) {i : Nat} {x : V} (hx : xs[i]? = some x) :
    ∃ D1 D0 D2 : Nat → Prop, ∃ vI vK, css[i]? = some [.int .i64 x.kind, .int .i64 x.int, .string x.text, vI, vK] ∧ Trees w N (xs.take i) (css.take i) D1 ∧ Tree w N x vI vK D0 ∧ Trees w N (xs.drop (i + 1)) (css.drop (i + 1)) D2 ∧
      (∀ b, D1 b → D b ∧ ¬ D0 b ∧ ¬ D2 b) ∧ (∀ b, D0 b → D b ∧ ¬ D2 b) ∧ (∀ b, D2 b → D b) := by
  obtain ⟨D1, E, h1, h2, h3, h4⟩ := h.split i
  have hl := h.length
  have hi : i < xs.length := (List.getElem?_eq_some_iff.1 hx).1
  obtain ⟨cs, hcs⟩ : ∃ cs, css[i]? = some cs := ⟨_, List.getElem?_eq_getElem (by omega)⟩
  rw [drop_at hx, drop_at hcs] at h2
  obtain ⟨D0, D2, e1, e2, ⟨vI, vK, rfl, ht⟩, hr⟩ := h2
  exact ⟨D1, D0, D2, vI, vK, hcs, h1, ht, hr, fun b hb => ⟨(h3 b hb).1, fun h => (h3 b hb).2 (e1 b h), fun h => (h3 b hb).2 (e2 b h).1⟩, fun b hb => ⟨h4 b (e1 b hb), fun h => (e2 b h).2 hb⟩, fun b hb => h4 b (e2 b hb).1⟩
/-- An item put between two parts. -/
theorem Trees.join {w : World} {N : Nat} {l r : List V} {lc rc : List (List Value)} {D1 D0 D2 D : Nat → Prop} {x : V} {vI vK : Value} (h1 : Trees w N l lc D1) (h0 : Tree w N x vI vK D0) (h2 : Trees w N r rc D2)
    (d1 : ∀ b, D1 b → D b ∧ ¬ D0 b ∧ ¬ D2 b) (d0 : ∀ b, D0 b → D b ∧ ¬ D2 b) (d2 : ∀ b, D2 b → D b) : Trees w N (l ++ x :: r) (lc ++ [.int .i64 x.kind, .int .i64 x.int, .string x.text, vI, vK] :: rc) D := by
  refine Trees.append (D2 := fun b => D0 b ∨ D2 b) (show Trees w N (x :: r) ([.int .i64 x.kind, .int .i64 x.int, .string x.text, vI, vK] :: rc) (fun b => D0 b ∨ D2 b) from ⟨D0, D2, fun _ h => .inl h, fun b hb => ⟨.inr hb, fun h => (d0 b h).2 hb⟩, ⟨vI, vK, rfl, h0⟩, h2⟩) h1 (fun b hb => ⟨(d1 b hb).1, fun h => h.elim (d1 b hb).2.1 (d1 b hb).2.2⟩) (fun b hb => hb.elim (fun h => (d0 b h).1) (d2 b))
/-- What has no rows owns nothing. -/
theorem tree_leaf (w : World) (N : Nat) (k i : Int) {t : ByteArray} (ht : t.size ≤ maxLen) (D : Nat → Prop) : Tree w N (leaf k i t) (.slice none 0 0) (.slice none 0 0) D :=
  ⟨ht, (fun k hk => by cases hk), World.ownsRow_nil _ _ _ _, (fun b hb => by simp [Value.ownBlock] at hb), (fun b hb => by simp [Value.ownBlock] at hb), [], World.ownsRow_nil _ _ _ _, trivial⟩
mutual
theorem Tree.lies {w : World} {N B : Nat} : ∀ (x : V) {vI vK : Value} {D : Nat → Prop}, Tree w N x vI vK D → (∀ b, D b → b < B) → ∃ A c K d, vI = .slice A x.items.length c ∧ vK = .slice K x.keys.length d ∧ Lies w B x A c K d
  | .mk _ _ _ items keys, vI, vK, D, h, hD => by
    obtain ⟨h1, h2, h3, h4, h5, css, h6, h7⟩ := h
    have hcI := fun g hg => World.ownsRow.cells h6 (g := g) hg
    have hcK := fun g hg => World.ownsRow.cells h3 (g := g) hg
    obtain ⟨K, d, rfl, k1, k2, k3⟩ : ∃ K d, vK = Value.slice K keys.length d ∧ keys.length ≤ d ∧ d ≤ maxLen ∧ (keys = [] ∨ ∃ b o, K = some ⟨b, o, none⟩ ∧ b < B ∧ StrsFrom w keys b o) := by
      obtain ⟨hl, ⟨rfl, h0⟩ | ⟨g, cap, cur, rfl, hB, hb, hn, hm, hs, ht⟩⟩ := h3
      · exact ⟨none, 0, (by rw [h0]), by omega, by simp [maxLen], .inl (List.length_eq_zero_iff.1 h0)⟩
      · refine ⟨_, _, rfl, hn, hm, .inr ⟨g, 0, rfl, hD g (h5 g rfl).1, keys_from h2 fun j v hj => ?_⟩⟩
        have := hcK g rfl j v hj
        rw [Addr.add_lit] at this
        exact this
    obtain ⟨A, c, rfl, i1, i2, i3⟩ : ∃ A c, vI = Value.slice A items.length c ∧ items.length ≤ c ∧ c ≤ maxLen ∧ (items = [] ∨ ∃ b o, A = some ⟨b, o, none⟩ ∧ b < B ∧ LiesFrom w B items b o) := by
      obtain ⟨hl, ⟨rfl, h0⟩ | ⟨g, cap, cur, rfl, hB, hb, hn, hm, hs, ht⟩⟩ := h6
      · exact ⟨none, 0, by rw [h0], by omega, by simp [maxLen], .inl (List.length_eq_zero_iff.1 h0)⟩
      · refine ⟨_, _, rfl, hn, hm, .inr ⟨g, 0, rfl, hD g (h4 g rfl), Trees.lies items h7 (fun b hb => hD b hb.1) fun j v hj => ?_⟩⟩
        have := hcI g rfl j v hj
        rw [Addr.add_lit] at this
        exact this
    exact ⟨A, c, K, d, rfl, rfl, h1, i1, i2, ⟨k1, k2, k3⟩, i3⟩
theorem Trees.lies {w : World} {N B b : Nat} : ∀ (l : List V) {css : List (List Value)} {D : Nat → Prop} {o : Nat}, Trees w N l css D → (∀ b, D b → b < B) → (∀ (j : Nat) (v : Value), css.flatten[j]? = some v → w.cell? ⟨b, o + j, none⟩ = some v) → LiesFrom w B l b o
  | [], [], _, _, _, _, _ => trivial
  | x :: r, cs :: t, _, o, h, hD, hc => by
    obtain ⟨D1, D2, h1, h2, ⟨vI, vK, rfl, hx⟩, hr⟩ := h
    obtain ⟨A, c, K, d, rfl, rfl, hl⟩ := Tree.lies x hx (fun b hb => hD b (h1 b hb))
    refine ⟨⟨A, c, K, d, hc 0 _ rfl, hc 1 _ rfl, hc 2 _ rfl, hc 3 _ rfl, hc 4 _ rfl, hl⟩, Trees.lies r hr (fun b hb => hD b (h2 b hb).1) fun j v hj => ?_⟩
    have := hc (j + 5) v (by rw [List.flatten_cons, List.getElem?_append_right (by simp)]; simpa using hj)
    rw [show o + 5 + j = o + (j + 5) by omega]
    exact this
  | [], _ :: _, _, _, h, _, _ => h.elim
  | _ :: _, [], _, _, h, _, _ => h.elim
end
end Go.Proofs.YtchadlbhdcpojaaGreatDoor
