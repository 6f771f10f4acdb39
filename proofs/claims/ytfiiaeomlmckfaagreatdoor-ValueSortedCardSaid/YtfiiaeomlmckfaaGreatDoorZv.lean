/- Arguments that are lists of values: what they read as, and where they lie. -/
import Derived.Test.YtfiiaeomlmckfaaGreatDoorZc
namespace Go.Proofs.YtfiiaeomlmckfaaGreatDoor
open Go.RowKit Go.ChangeShapes Go.WideShapes Go.Deep

section
variable {H : Type} {enc : TypeId × Value → H} {W : World}
set_option maxRecDepth 100000 in
theorem open_list {base : Nat} {v : Value} {d : DataW H} {p : List MemPlace} (hv : Value.okWide Tryz.prog W .any base 22 v) (h : DataW.Trod enc Tryz.prog W 0 (fun _ => true) true 22 v d p) :
    ∃ (x : List V) (A : Option Addr) (c : Nat), v = .slice A x.length c ∧ LiesL W W.heap.size A c x := by
  obtain ⟨a0, len0, cap0, rfl⟩ := okWide_slice Tryz.underlying22 hv
  obtain ⟨fuel, hf⟩ := h
  rcases DataW.trod_slice Tryz.underlying22 hf with ⟨hc, _⟩ | ⟨a, len, cap, elems, rest, m, _, hc, _, _, hl, hm, hel, hat, _, _⟩
  · have hc' : Value.slice a0 len0 cap0 = .slice none 0 0 := by have hc2 : [Value.slice a0 len0 cap0] = [Value.slice none 0 0] := hc; simpa using hc2
    exact ⟨[], none, 0, hc', Nat.le_refl _, by simp [maxLen], .inl rfl⟩
  · have hc' : Value.slice a0 len0 cap0 = .slice (some a) len cap := by have hc2 : [Value.slice a0 len0 cap0] = [Value.slice (some a) len cap] := hc; simpa using hc2
    obtain ⟨b, off, sp⟩ := a
    have hs : ∀ i, i < len → ∃ (v : V) (A : Option Addr) (c : Nat) (K : Option Addr) (d : Nat), (∀ (j : Nat) (u : Value), [Value.int .i64 v.kind, .int .i64 v.int, .string v.text, .slice A v.items.length c, .slice K v.keys.length d][j]? = some u → W.cell? (((⟨b, off, sp⟩ : Addr).add (i * 5)).add j) = some u) ∧ Lies W W.heap.size v A c K d := by
      intro i hi
      have h1 := hat i hi
      rw [List.getElem?_eq_getElem (by omega), cV] at h1
      obtain ⟨cs', h2, h3⟩ := Option.bind_eq_some_iff.1 h1
      obtain ⟨v, A, c, K, d, rfl, hL⟩ := open_value _ cs' _ h3
      obtain ⟨_, _, hcell⟩ := World.cells?_some h2
      refine ⟨v, A, c, K, d, fun j u hj => ?_, hL⟩
      have hj5 : j < 5 := by
        rcases Nat.lt_or_ge j 5 with h | h
        · exact h
        · rw [List.getElem?_eq_none (by simpa using h)] at hj; cases hj
      rw [hcell j hj5]
      exact hj
    rcases Nat.eq_zero_or_pos len with h0 | hpos
    · subst h0
      exact ⟨[], _, cap, hc', by simp, hm, .inl rfl⟩
    · have hsp : sp = none := by
        obtain ⟨v, A, c, K, d, h1, _⟩ := hs 0 hpos
        have := World.cell?_spot (h1 0 _ rfl)
        simpa [Addr.add] using this
      subst hsp
      obtain ⟨l, h1, h2⟩ := vals_list (W := W) (b := b) len off (fun i hi => by
        obtain ⟨v, A, c, K, d, h1, hL⟩ := hs i hi
        simp only [Addr.add_lit] at h1
        exact ⟨v, A, c, K, d, by simpa using h1 0 _ rfl, h1 1 _ rfl, h1 2 _ rfl, h1 3 _ rfl, h1 4 _ rfl, hL⟩)
      obtain ⟨v, A, c, K, d, h3, _⟩ := hs 0 hpos
      have h4 := h3 0 _ rfl
      exact ⟨l, _, cap, by rw [hc', h1], by omega, hm, .inr ⟨b, off, rfl, World.block_lt_of_cell? W _ h4, h2⟩⟩
set_option maxRecDepth 100000 in
theorem list_stays {W' : World} {sp : Nat → Bool} {v : Value} {d : DataW H} {p : List MemPlace} (h : DataW.Trod enc Tryz.prog W 0 (fun _ => true) true 22 v d p) (hb : Below W.heap.size W W') (hlt : ∀ x ∈ p, x.block < W.heap.size) (hs : ∀ x ∈ p, sp x.block = true) :
    DataW.Trod enc Tryz.prog W' 0 sp true 22 v d p :=
  WideElems.Trod_stays laidOutP (by kernel_rfl) (of_decide_eq_true (by kernel_rfl)) h (fun x hx => hb.same (hlt x hx)) hs
end
end Go.Proofs.YtfiiaeomlmckfaaGreatDoor
