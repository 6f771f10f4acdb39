/- An item taken out of a value at a path, walked: the last step. -/
import Derived.Test.YtdlmphbaolejcaaDoorTm
import Derived.Test.YtdlmphbaolejcaaDoorTl
import Derived.Test.YtdlmphbaolejcaaDoorTe
namespace Go.Proofs.YtdlmphbaolejcaaDoor
open Go.RowKit

theorem find_kind {x : V} {s : Stp} (hf : Fit x) (h : (findV x s).2 = true) : x.kind = holderS s := by
  obtain ⟨i, k⟩ := s
  by_cases h0 : 0 ≤ i
  · simp [findV, h0] at h
    rw [holderS, if_neg (by simp only; omega)]; exact h.1
  · rw [holderS, if_pos (by simp only; omega)]
    simp [findV, h0] at h
    have hm := (hasK_iff _ _).1 h
    by_cases h5 : x.kind = 5
    · exact h5
    · rw [hf.none h5] at hm; cases hm
/-- What remove leaves. -/
def RemP (q : V × Bool) (N g : Nat) (t : TypeId) (pre post : List Value) (D : Nat → Prop) (W : World) (e : Ending) (W' : World) : Prop :=
  e = .returned (.bool q.2) ∧ Fr W W' g D ∧ (q.2 = true → ∃ vI' vK' D', Node W' N g t pre post q.1 vI' vK' D' ∧ ∀ b, D' b → D b ∨ W.heap.size ≤ b)
section
variable {W W' W1 : World} {N g n m c gI cp : Nat} {t : TypeId} {pre post : List Value} {x y : V} {vI vK : Value} {D D1 : Nat → Prop} {q : V × Bool} {e : Ending}
theorem RemP.trans (h : RemP q N g t pre post D1 W1 e W') (hF : Fr W W1 g D) (hD : ∀ b, D1 b → D b ∨ W.heap.size ≤ b) : RemP q N g t pre post D W e W' := by
  obtain ⟨h1, h2, h3⟩ := h
  refine ⟨h1, hF.trans h2 hD, fun h0 => ?_⟩
  obtain ⟨vI', vK', D', hN, hD'⟩ := h3 h0
  refine ⟨vI', vK', D', hN, fun b hb => ?_⟩
  rcases hD' b hb with h | h
  · exact hD b h
  · exact .inr (Nat.le_trans hF.size h)
theorem rem_inner {r : List Stp} {A : Option Addr} (hN : Node W N g t pre post x (.slice (some ⟨gI, 0, none⟩) m c) vK D) (hy : x.items[n]? = some y) (hp : PLies W N A cp r)
    (ih : ∀ (W : World) (g : Nat) (t : TypeId) (pre post : List Value) (vI vK : Value) (D : Nat → Prop) (A : Option Addr) (cp : Nat), Node W N g t pre post y vI vK D → PLies W N A cp r →
      Calls Tryd.prog 43 #[.pointer (some ⟨g, pre.length, none⟩), .slice A r.length cp] W (RemP q N g t pre post D W)) :
    Calls Tryd.prog 43 #[.pointer (some ⟨gI, n * 5, none⟩), .slice A r.length cp] W (RemP (setIt x n q.1, q.2) N g t pre post D W) := by
  obtain ⟨gJ, cJ, pre', post', yI, yK, D0, eJ, hpre, hNy, hD0, hDg, hup⟩ := hN.down hy
  have eg : gI = gJ := by
    have := eJ
    simp at this
    exact this.1
  subst eg
  rw [← hpre]
  refine (ih W gI _ pre' post' yI yK D0 A cp hNy hp).mono ?_
  rintro e w' ⟨h1, h2, h3⟩
  refine ⟨h1, h2.up hD0 hDg, fun h0 => ?_⟩
  obtain ⟨vI', vK', D', hN', hD'⟩ := h3 h0
  refine ⟨_, _, _, hup (fun _ => False) w' q.1 vI' vK' D' (fun b hb => hb.elim) hN' (fun b hb => (hD' b hb).elim .inl (fun h => .inr (.inr h))) h2, fun b hb => ?_⟩
  rcases hb with h | h | h
  · exact .inl h
  · exact h.elim
  · exact .inr h.1
/-- What without leaves, of the items of a node. -/
theorem Node.withoutI (h : Node W N g t pre post x vI vK D) (hi : n < x.items.length) (h60 : x.items.length ≤ 100) :
    Calls Tryd.prog 64 #[vI, .int .i64 n] W fun e W2 => ∃ A c, e = .returned (.slice A (x.items.length - 1) c) ∧
      Node (W2.setCell ⟨g, pre.length + 3, none⟩ (.slice A (x.items.length - 1) c)) N g t pre post (.mk x.kind x.int x.text (x.items.take n ++ x.items.drop (n + 1)) x.keys) (.slice A (x.items.length - 1) c) vK (fun b => D b ∨ (W.heap.size ≤ b ∧ b < W2.heap.size)) ∧ Fr W (W2.setCell ⟨g, pre.length + 3, none⟩ (.slice A (x.items.length - 1) c)) g D ∧ BlockIs W2 g t (pre ++ (five x vI vK ++ post)).toArray ∧ Below W.heap.size W W2 := by
  obtain ⟨css, hcs, htr, hk, hI, hK, htx, hks⟩ := h.rows
  obtain ⟨gI, c, rfl⟩ := h.slot hi
  have hnc : x.items.length ≤ c := by
    obtain ⟨hl, ⟨he, h0⟩ | ⟨g, cap, cur, he, hB, hb, hnc, hmx, hs, ht⟩⟩ := hcs
    · cases he
    · cases he; exact hnc
  have e1 : x.items.length = n + 1 + (x.items.length - (n + 1)) := by omega
  have e2 : c = n + 1 + (x.items.length - (n + 1)) + (c - x.items.length) := by omega
  have hcs' := hcs
  rw [e1, e2] at hcs'
  have := withoutV W N gI n (x.items.length - (n + 1)) (c - x.items.length) css.flatten hcs' (by omega) htr.one
  rw [← e2, ← e1] at this
  refine this.mono ?_
  rintro e W2 ⟨v', rfl, hown, hb⟩
  rw [show n + (x.items.length - (n + 1)) = x.items.length - 1 by omega] at hown
  obtain ⟨A, c', rfl⟩ := own_form hown
  obtain ⟨h1, h2⟩ := h.delI hi htr hown hb
  exact ⟨A, c', rfl, h1, h2, h.row.below hb h.row.lt, hb⟩
theorem Node.withoutK (h : Node W N g t pre post x vI vK D) (hi : n < x.keys.length) (h60 : x.keys.length ≤ 100) :
    Calls Tryd.prog 65 #[vK, .int .i64 n] W fun e W2 => ∃ A c, e = .returned (.slice A (x.keys.length - 1) c) ∧
      Node (W2.setCell ⟨g, pre.length + 4, none⟩ (.slice A (x.keys.length - 1) c)) N g t pre post (.mk x.kind x.int x.text x.items (x.keys.take n ++ x.keys.drop (n + 1))) vI (.slice A (x.keys.length - 1) c) (fun b => D b ∨ (W.heap.size ≤ b ∧ b < W2.heap.size)) ∧ Fr W (W2.setCell ⟨g, pre.length + 4, none⟩ (.slice A (x.keys.length - 1) c)) g D ∧ BlockIs W2 g t (pre ++ (five x vI vK ++ post)).toArray ∧ Below W.heap.size W W2 := by
  obtain ⟨css, hcs, htr, hk, hI, hK, htx, hks⟩ := h.rows
  obtain ⟨gI, c, rfl, hnc⟩ : ∃ gI c, vK = .slice (some ⟨gI, 0, none⟩) x.keys.length c ∧ x.keys.length ≤ c := by
    obtain ⟨hl, ⟨he, h0⟩ | ⟨gI, cap, cur, he, hB, hb, hnc, hmx, hs, ht⟩⟩ := hk
    · omega
    · exact ⟨gI, cap, he, hnc⟩
  have e1 : x.keys.length = n + 1 + (x.keys.length - (n + 1)) := by omega
  have e2 : c = n + 1 + (x.keys.length - (n + 1)) + (c - x.keys.length) := by omega
  have hk' := hk
  rw [e1, e2] at hk'
  have := withoutS W N gI n (x.keys.length - (n + 1)) (c - x.keys.length) (x.keys.map Value.string) hk' (by omega) (fun u hu => by obtain ⟨q, -, rfl⟩ := List.mem_map.1 hu; rfl)
  rw [← e2, ← e1] at this
  refine this.mono ?_
  rintro e W2 ⟨v', rfl, hown, hb⟩
  rw [show n + (x.keys.length - (n + 1)) = x.keys.length - 1 by omega] at hown
  obtain ⟨A, c', rfl⟩ := own_form hown
  obtain ⟨h1, h2⟩ := h.delK hi hown hb
  exact ⟨A, c', rfl, h1, h2, h.row.below hb h.row.lt, hb⟩
end
end Go.Proofs.YtdlmphbaolejcaaDoor
