/- Reading: a list. -/
import Derived.Test.YtchadlbhdcpojaaDoorWl
import Derived.Test.YtchadlbhdcpojaaDoorPv
import Derived.Test.YtchadlbhdcpojaaDoorMa
import Derived.Deep.AppendLies
import Derived.Deep.RegionHeld3
import Derived.Deep.DrawnRows
namespace Go.Proofs.YtchadlbhdcpojaaDoor
open Go.RowKit

def zeroF : Array Value := #[.int .i64 0, .int .i64 0, .string ⟨#[]⟩, .slice none 0 0, .slice none 0 0]
theorem out_far {N g : Nat} {F : List (Option Nat)} {W W' : World} (hg : g < N) (h : W.grownBy W' (some g)) : (∀ b o, Out N F W b → W'.cell? ⟨b, o, none⟩ = W.cell? ⟨b, o, none⟩) ∧ (∀ b, Out N F W b → Out N F W' b) :=
  ⟨fun b o hb => h.cell_far ⟨b, o, none⟩ hb.2.1 (by have := hb.1; simp; omega), fun b hb => hb.mono h.size⟩
theorem own_far {N g : Nat} {e : TypeId} {size n : Nat} {v : Value} {xs : List Value} {W W' : World} (h : W.ownsRow N e size v n xs) (hg : g < N) (hw : W.grownBy W' (some g)) : W'.ownsRow N e size v n xs := by
  refine h.kept hw ?_
  rcases hb : v.ownBlock with _ | q
  · exact .inl rfl
  · exact .inr (fun e => by rw [Option.some.injEq] at e; have := (World.ownsRow.lt h q hb).1; omega)
theorem set5_list {L xs z : List Value} {m : Nat} (h : L.take (m + 5) = xs ++ z) (hx : xs.length = m) (hz : z.length = 5) (a b c d e : Value) :
    (((((L.set m a).set (m + 1) b).set (m + 2) c).set (m + 3) d).set (m + 4) e).take (m + 5) = xs ++ [a, b, c, d, e] := by
  match z, hz with
  | [z0, z1, z2, z3, z4], _ =>
    subst hx
    rw [List.take_set, List.take_set, List.take_set, List.take_set, List.take_set, h]
    simp
def put5 (W : World) (g o : Nat) (a b c d e : Value) : World := ((((W.setCell ⟨g, o, none⟩ a).setCell ⟨g, o + 1, none⟩ b).setCell ⟨g, o + 2, none⟩ c).setCell ⟨g, o + 3, none⟩ d).setCell ⟨g, o + 4, none⟩ e
theorem own_put5 {W : World} {base g n cap : Nat} {e : TypeId} {xs z : List Value} (h : W.ownsRow base e 5 (.slice (some ⟨g, 0, none⟩) (n + 1) cap) (n + 1) (xs ++ z)) (hx : xs.length = n * 5) (hz : z.length = 5) (a b c d f : Value) :
    (put5 W g (n * 5) a b c d f).ownsRow base e 5 (.slice (some ⟨g, 0, none⟩) (n + 1) cap) (n + 1) (xs ++ [a, b, c, d, f]) := by
  obtain ⟨hl, ⟨he, _⟩ | ⟨g', cap', cur, he, hbg, hg, hnc, hcm, hcs, ht⟩⟩ := h
  · cases he
  · cases he
    have hB : BlockIs W g e cur := hg
    have hB' : BlockIs (put5 W g (n * 5) a b c d f) g e (((((cur.setIfInBounds (n * 5) a).setIfInBounds (n * 5 + 1) b).setIfInBounds (n * 5 + 2) c).setIfInBounds (n * 5 + 3) d).setIfInBounds (n * 5 + 4) f) := ((((hB.set_ (n * 5) a).set_ (n * 5 + 1) b).set_ (n * 5 + 2) c).set_ (n * 5 + 3) d).set_ (n * 5 + 4) f
    obtain ⟨C, hC⟩ : ∃ C, C = ((((cur.setIfInBounds (n * 5) a).setIfInBounds (n * 5 + 1) b).setIfInBounds (n * 5 + 2) c).setIfInBounds (n * 5 + 3) d).setIfInBounds (n * 5 + 4) f := ⟨_, rfl⟩
    rw [← hC] at hB'
    have hs : C.size = cap * 5 := by rw [hC]; simp only [Array.size_setIfInBounds]; exact hcs
    have ht5 : cur.toList.take (n * 5 + 5) = xs ++ z := by rw [show n * 5 + 5 = (n + 1) * 5 by omega]; exact ht
    have h5 := set5_list (m := n * 5) ht5 hx hz a b c d f
    have ht' : C.toList.take ((n + 1) * 5) = xs ++ [a, b, c, d, f] := by
      rw [hC, show (n + 1) * 5 = n * 5 + 5 by omega]
      simp only [Array.toList_setIfInBounds]
      exact h5
    exact ⟨by simp [hx]; omega, .inr ⟨g, cap, C, rfl, hbg, hB', hnc, hcm, hs, ht'⟩⟩

theorem own_form {W : World} {base n size : Nat} {e : TypeId} {v : Value} {xs : List Value} (h : W.ownsRow base e size v n xs) : ∃ A c, v = .slice A n c := by
  obtain ⟨hl, ⟨rfl, h0⟩ | ⟨g, cap, cur, hv, hB, hc, hn, hcap, hcs, ht⟩⟩ := h
  · exact ⟨none, 0, by rw [h0]⟩
  · exact ⟨_, _, hv⟩
theorem own_heap {W W' : World} {base n size : Nat} {e : TypeId} {v : Value} {xs : List Value} (h : W.ownsRow base e size v n xs) (he : W'.heap = W.heap) : W'.ownsRow base e size v n xs := by
  unfold World.ownsRow at *; rw [he]; exact h

/-- The last element of a row that has just grown. -/
theorem own_last5 {W : World} {base g n cap : Nat} {e : TypeId} {xs : List Value} (h : W.ownsRow base e 5 (.slice (some ⟨g, 0, none⟩) (n + 1) cap) (n + 1) (xs ++ zeroF.toList)) (hx : xs.length = n * 5) :
    W.cell? ⟨g, n * 5, none⟩ = some (.int .i64 0) ∧ W.cell? ⟨g, n * 5 + 1, none⟩ = some (.int .i64 0) ∧ W.cell? ⟨g, n * 5 + 2, none⟩ = some (.string ⟨#[]⟩) ∧ W.cell? ⟨g, n * 5 + 3, none⟩ = some (.slice none 0 0) ∧ W.cell? ⟨g, n * 5 + 4, none⟩ = some (.slice none 0 0) ∧
      W.frozen? ⟨g, n * 5, none⟩ = false ∧ W.frozen? ⟨g, n * 5 + 1, none⟩ = false ∧ W.frozen? ⟨g, n * 5 + 2, none⟩ = false ∧ W.frozen? ⟨g, n * 5 + 3, none⟩ = false ∧ W.frozen? ⟨g, n * 5 + 4, none⟩ = false := by
  have hc := World.ownsRow.cells h (g := g) rfl
  have hz : ∀ (j : Nat) (u : Value), zeroF.toList[j]? = some u → W.cell? ⟨g, n * 5 + j, none⟩ = some u := by
    intro j u hj
    have := hc (n * 5 + j) u (by rw [List.getElem?_append_right (by omega), ← hj]; congr 1; omega)
    rw [Addr.add_lit, Nat.zero_add] at this
    exact this
  have hf : ∀ i, W.frozen? ⟨g, i, none⟩ = false := by
    obtain ⟨hl, ⟨he, _⟩ | ⟨g', cap', cur, he, hbg, hg, _⟩⟩ := h
    · cases he
    · cases he
      exact BlockIs.frozen (cs := cur) hg
  exact ⟨hz 0 _ rfl, hz 1 _ rfl, hz 2 _ rfl, hz 3 _ rfl, hz 4 _ rfl, hf _, hf _, hf _, hf _, hf _⟩
theorem row_apart {v : Value} {g H b : Nat} (h : v.ownBlock = some g ∨ g = H) (h1 : some b ≠ v.ownBlock) (h2 : b < H) : ¬ b = g := by
  rcases h with h | h
  · exact fun e => h1 (by rw [h, e])
  · omega

/-- Behind a store into another block. -/
theorem own_set_far {W : World} {base n size : Nat} {e : TypeId} {v : Value} {xs : List Value} (h : W.ownsRow base e size v n xs) (p : Addr) (u : Value) (hp : some p.block ≠ v.ownBlock) : (W.setCell p u).ownsRow base e size v n xs := by
  refine h.kept (row := some p.block) (World.grownBy.mk rfl rfl rfl (by simp [World.setCell]) (fun k _ hk => Below.heap_setCell _ p u k (fun e => hk (by rw [e])))) ?_
  rcases hv : v.ownBlock with _ | q
  · exact .inl rfl
  · exact .inr (by rw [hv] at hp; exact fun e => hp e.symm)
theorem put5_heap (W : World) (g o : Nat) (a b c d e : Value) {k : Nat} (h : k ≠ g) : (put5 W g o a b c d e).heap[k]? = W.heap[k]? := by
  unfold put5
  rw [Below.heap_setCell _ _ _ _ h, Below.heap_setCell _ _ _ _ h, Below.heap_setCell _ _ _ _ h, Below.heap_setCell _ _ _ _ h, Below.heap_setCell _ _ _ _ h]
theorem put5_size (W : World) (g o : Nat) (a b c d e : Value) : (put5 W g o a b c d e).heap.size = W.heap.size := by simp [put5, World.setCell]
/-- The two orders of the two stores. -/
theorem two_orders {w1 We : World} {base g n cap vb : Nat} {e : TypeId} {xs : List Value} {a b c d f r0 r1 r2 r3 r4 : Value} (hx : xs.length = n * 5) (hvb : ¬ vb = g)
    (hown : w1.ownsRow base e 5 (.slice (some ⟨g, 0, none⟩) (n + 1) cap) (n + 1) (xs ++ zeroF.toList)) (hb : BlockIs w1 vb e #[r0, r1, r2, r3, r4]) (row : Value)
    (h : We = (put5 w1 g (n * 5) a b c d f).setCell ⟨vb, 3, none⟩ row ∨ We = put5 (w1.setCell ⟨vb, 3, none⟩ row) g (n * 5) a b c d f) :
    We.ownsRow base e 5 (.slice (some ⟨g, 0, none⟩) (n + 1) cap) (n + 1) (xs ++ [a, b, c, d, f]) ∧ BlockIs We vb e #[r0, r1, r2, row, r4] ∧ (∀ k, k ≠ g → k ≠ vb → We.heap[k]? = w1.heap[k]?) ∧ We.heap.size = w1.heap.size ∧ We.os = w1.os ∧ We.tape = w1.tape ∧ We.output = w1.output := by
  have hne : some vb ≠ (Value.slice (some ⟨g, 0, none⟩) (n + 1) cap).ownBlock := fun e => hvb (by simpa [Value.ownBlock] using e)
  rcases h with rfl | rfl
  · refine ⟨own_set_far (own_put5 hown hx (by simp [zeroF]) a b c d f) _ _ hne, ?_, fun k h1 h2 => ?_, ?_, by simp [put5, World.setCell], by simp [put5, World.setCell], by simp [put5, World.setCell]⟩
    · have h5 : BlockIs (put5 w1 g (n * 5) a b c d f) vb e #[r0, r1, r2, r3, r4] := (put5_heap w1 g _ a b c d f hvb).trans hb
      simpa using h5.set_ 3 row
    · rw [Below.heap_setCell _ _ _ _ h2, put5_heap _ _ _ _ _ _ _ _ h1]
    · rw [← put5_size w1 g (n * 5) a b c d f]; simp [World.setCell]
  · refine ⟨own_put5 (own_set_far hown _ _ hne) hx (by simp [zeroF]) a b c d f, ?_, fun k h1 h2 => ?_, ?_, by simp [put5, World.setCell], by simp [put5, World.setCell], by simp [put5, World.setCell]⟩
    · have h5 : BlockIs (w1.setCell ⟨vb, 3, none⟩ row) vb e #[r0, r1, r2, row, r4] := by simpa using hb.set_ 3 row
      exact (put5_heap _ g _ a b c d f hvb).trans h5
    · rw [put5_heap _ _ _ _ _ _ _ _ h1, Below.heap_setCell _ _ _ _ h2]
    · rw [put5_size]; simp [World.setCell]
end Go.Proofs.YtchadlbhdcpojaaDoor
/- Reading: a list, walked. -/
namespace Go.Proofs.YtchadlbhdcpojaaDoor
open Go.RowKit

attribute [local go_sem ↓] Go.wp_at_zero Go.wp_at_succ
end Go.Proofs.YtchadlbhdcpojaaDoor
/- Reading: a list, whole. -/
namespace Go.Proofs.YtchadlbhdcpojaaDoor
open Go.RowKit

end Go.Proofs.YtchadlbhdcpojaaDoor
