/- A row without one of its elements, walked. -/
import Derived.Test.YtchadlbhdcpojaaDoorTd
import Derived.Lib.AppendZeros
import Derived.Deep.RegionLaw
import Derived.Test.YtchadlbhdcpojaaDoorRy
import Derived.Deep.AppendLies
namespace Go.Proofs.YtchadlbhdcpojaaDoor
open Go.RowKit
theorem step_append_run {P : Program} {ops : Array Oper} {o : Oper} {a : Act} {w : World} {K : Act → World → Prop} {Q : Exit → Act → World → Prop} {E : Prop} (hgd : o.guard = none) (s x : Operand) (t tn : TypeId)
    (ho : o.op = .call { callee := .builtin .append, args := #[s, x], argTypes := #[t, tn] }) (vs vx : Value) (hs : a.eval s = vs) (hx : a.eval x = vx) (v' : Value) (w' : World)
    (hr : (Builtin.append_ #[t, tn] o.type #[vs, vx]).run P w = .ok v' w') (hK : K (a.put o.dst v') w') : if Region.wanted o (yielded ops a.tmps) = true then Oper.wp P o a w K Q else E := by
  have hw : Region.wanted o (yielded ops a.tmps) = true := by simp [Region.wanted, hgd]
  rw [if_pos hw]
  exact Lib.wp_append_run w s x t tn ho vs vx hs hx v' w' hr hK
/-- A part of a row appended to an owned row. -/
theorem appendV (ty : TypeId) (W : World) (B : Nat) (v : Value) (k : Nat) (xs : List Value) (hown : W.ownsRow B 25 5 v k xs) (a : Addr) (m c : Nat) (news : List Value) (hl : news.length = m * 5) (hnews : ∀ j u, news[j]? = some u → W.cell? (a.add j) = some u) (h1 : ∀ u ∈ news, u.oneCell' = true) (hk : k + m ≤ 100000) (hB : B ≤ W.heap.size) :
    ∃ v' W', (Builtin.append_ #[22, 22] ty #[v, .slice (some a) m c]).run Tryd.prog W = .ok v' W' ∧ W'.ownsRow B 25 5 v' (k + m) (xs ++ news) ∧ W.grownBy W' v.ownBlock := by
  obtain ⟨i0, hi, hz0, hz1, hz2⟩ := info_parts (P := Tryd.prog) (e := 25) (z := (.agg zeroF)) (size := 5) (bytes := 80) (by kernel_rfl)
  rcases Nat.eq_zero_or_pos m with rfl | hm
  · obtain rfl : news = [] := List.length_eq_zero_iff.1 (by omega)
    obtain ⟨a0, cap, rfl⟩ := own_form hown
    have hcap : k ≤ cap := by
      obtain ⟨_, ⟨he, h0⟩ | ⟨g, cap', cur, he, _, _, h1, _⟩⟩ := hown
      · simp only [Value.slice.injEq] at he; omega
      · simp only [Value.slice.injEq] at he; omega
    have hs : Src Tryd.prog i0.size 22 (.slice (some a) 0 c) 0 [] W := Src.ofSlice W Tryd.underlying22 a 0 c [] (by simp) (fun j u hj => by simp at hj) (fun u hu => by cases hu)
    exact ⟨_, W, run_append_nothing (P := Tryd.prog) W 22 22 ty 25 i0 Tryd.underlying22 hi a0 k cap hcap _ hs, by simpa using hown, ⟨rfl, rfl, rfl, Nat.le_refl _, fun _ _ _ => rfl⟩⟩
  · obtain ⟨v', W', hr, h2, h3, -⟩ := append_where (P := Tryd.prog) W B 22 ty 25 i0 (.agg zeroF) 5 80 Tryd.underlying22 hi hz0 hz1 hz2 rfl (by omega) v k xs hown a m c news hl hnews h1 (by unfold maxLen; omega) (by omega) hB hm
    exact ⟨v', W', hr, h2, h3⟩
/-- A row without one of its elements: the two appends. -/
theorem twoV (ty ty' : TypeId) (W : World) (N g i m d : Nat) (xs : List Value) (hown : W.ownsRow N 25 5 (.slice (some ⟨g, 0, none⟩) (i + 1 + m) (i + 1 + m + d)) (i + 1 + m) xs) (hn : i + 1 + m ≤ 10000) (h1 : ∀ u ∈ xs, u.oneCell' = true) (a : Addr) (ha : m = 0 ∨ a = ⟨g, (i + 1) * 5, none⟩) :
    ∃ v1 W1 v2 W2, (Builtin.append_ #[22, 22] ty #[.slice none 0 0, .slice (some ⟨g, 0, none⟩) i (i + 1 + m + d)]).run Tryd.prog W = .ok v1 W1 ∧ (Builtin.append_ #[22, 22] ty' #[v1, .slice (some a) m (m + d)]).run Tryd.prog W1 = .ok v2 W2 ∧
      W2.ownsRow W.heap.size 25 5 v2 (i + m) (xs.take (i * 5) ++ xs.drop ((i + 1) * 5)) ∧ Below W.heap.size W W2 := by
  have hl := hown.1
  have hc := fun j u (hj : xs[j]? = some u) => World.ownsRow.cells hown (g := g) rfl j u hj
  have hg := (World.ownsRow.lt hown g rfl).2
  obtain ⟨v1, W1, hr1, ho1, hg1⟩ := appendV ty W W.heap.size (.slice none 0 0) 0 [] (World.ownsRow_nil _ _ _ _) ⟨g, 0, none⟩ i (i + 1 + m + d) (xs.take (i * 5)) (by rw [List.length_take]; omega) (fun j u hj => by
    have hlt := (List.getElem?_eq_some_iff.1 hj).1
    rw [List.length_take] at hlt
    rw [List.getElem?_take_of_lt (by omega)] at hj
    exact hc j u hj) (fun u hu => h1 u (List.mem_of_mem_take hu)) (by omega) (Nat.le_refl _)
  rw [Nat.zero_add, List.nil_append] at ho1
  have hb1 := below_none hg1
  obtain ⟨v2, W2, hr2, ho2, hg2⟩ := appendV ty' W1 W.heap.size v1 i (xs.take (i * 5)) ho1 a m (m + d) (xs.drop ((i + 1) * 5)) (by rw [List.length_drop]; omega) (fun j u hj => by
    rcases ha with rfl | rfl
    · rw [List.drop_eq_nil_of_le (by omega)] at hj; simp at hj
    · rw [List.getElem?_drop] at hj
      have := hc _ u hj
      rw [Addr.add_lit] at this ⊢
      rw [Nat.zero_add] at this
      rw [bcell hb1 _ _ hg]
      exact this) (fun u hu => h1 u (List.mem_of_mem_drop hu)) (by omega) hb1.size
  exact ⟨v1, W1, v2, W2, hr1, hr2, ho2, hb1.grown hg2 hb1.size (fun j hj => (World.ownsRow.lt ho1 j hj).1)⟩
/-- A part of a row appended to an owned row. -/
theorem appendS (ty : TypeId) (W : World) (B : Nat) (v : Value) (k : Nat) (xs : List Value) (hown : W.ownsRow B 9 1 v k xs) (a : Addr) (m c : Nat) (news : List Value) (hl : news.length = m * 1) (hnews : ∀ j u, news[j]? = some u → W.cell? (a.add j) = some u) (h1 : ∀ u ∈ news, u.oneCell' = true) (hk : k + m ≤ 100000) (hB : B ≤ W.heap.size) :
    ∃ v' W', (Builtin.append_ #[23, 23] ty #[v, .slice (some a) m c]).run Tryd.prog W = .ok v' W' ∧ W'.ownsRow B 9 1 v' (k + m) (xs ++ news) ∧ W.grownBy W' v.ownBlock := by
  obtain ⟨i0, hi, hz0, hz1, hz2⟩ := info_parts (P := Tryd.prog) (e := 9) (z := (.string ⟨#[]⟩)) (size := 1) (bytes := 16) (by kernel_rfl)
  rcases Nat.eq_zero_or_pos m with rfl | hm
  · obtain rfl : news = [] := List.length_eq_zero_iff.1 (by omega)
    obtain ⟨a0, cap, rfl⟩ := own_form hown
    have hcap : k ≤ cap := by
      obtain ⟨_, ⟨he, h0⟩ | ⟨g, cap', cur, he, _, _, h1, _⟩⟩ := hown
      · simp only [Value.slice.injEq] at he; omega
      · simp only [Value.slice.injEq] at he; omega
    have hs : Src Tryd.prog i0.size 23 (.slice (some a) 0 c) 0 [] W := Src.ofSlice W Tryd.underlying23 a 0 c [] (by simp) (fun j u hj => by simp at hj) (fun u hu => by cases hu)
    exact ⟨_, W, run_append_nothing (P := Tryd.prog) W 23 23 ty 9 i0 Tryd.underlying23 hi a0 k cap hcap _ hs, by simpa using hown, ⟨rfl, rfl, rfl, Nat.le_refl _, fun _ _ _ => rfl⟩⟩
  · obtain ⟨v', W', hr, h2, h3, -⟩ := append_where (P := Tryd.prog) W B 23 ty 9 i0 (.string ⟨#[]⟩) 1 16 Tryd.underlying23 hi hz0 hz1 hz2 rfl (by omega) v k xs hown a m c news hl hnews h1 (by unfold maxLen; omega) (by omega) hB hm
    exact ⟨v', W', hr, h2, h3⟩
/-- A row without one of its elements: the two appends. -/
theorem twoS (ty ty' : TypeId) (W : World) (N g i m d : Nat) (xs : List Value) (hown : W.ownsRow N 9 1 (.slice (some ⟨g, 0, none⟩) (i + 1 + m) (i + 1 + m + d)) (i + 1 + m) xs) (hn : i + 1 + m ≤ 10000) (h1 : ∀ u ∈ xs, u.oneCell' = true) (a : Addr) (ha : m = 0 ∨ a = ⟨g, (i + 1) * 1, none⟩) :
    ∃ v1 W1 v2 W2, (Builtin.append_ #[23, 23] ty #[.slice none 0 0, .slice (some ⟨g, 0, none⟩) i (i + 1 + m + d)]).run Tryd.prog W = .ok v1 W1 ∧ (Builtin.append_ #[23, 23] ty' #[v1, .slice (some a) m (m + d)]).run Tryd.prog W1 = .ok v2 W2 ∧
      W2.ownsRow W.heap.size 9 1 v2 (i + m) (xs.take (i * 1) ++ xs.drop ((i + 1) * 1)) ∧ Below W.heap.size W W2 := by
  have hl := hown.1
  have hc := fun j u (hj : xs[j]? = some u) => World.ownsRow.cells hown (g := g) rfl j u hj
  have hg := (World.ownsRow.lt hown g rfl).2
  obtain ⟨v1, W1, hr1, ho1, hg1⟩ := appendS ty W W.heap.size (.slice none 0 0) 0 [] (World.ownsRow_nil _ _ _ _) ⟨g, 0, none⟩ i (i + 1 + m + d) (xs.take (i * 1)) (by rw [List.length_take]; omega) (fun j u hj => by
    have hlt := (List.getElem?_eq_some_iff.1 hj).1
    rw [List.length_take] at hlt
    rw [List.getElem?_take_of_lt (by omega)] at hj
    exact hc j u hj) (fun u hu => h1 u (List.mem_of_mem_take hu)) (by omega) (Nat.le_refl _)
  rw [Nat.zero_add, List.nil_append] at ho1
  have hb1 := below_none hg1
  obtain ⟨v2, W2, hr2, ho2, hg2⟩ := appendS ty' W1 W.heap.size v1 i (xs.take (i * 1)) ho1 a m (m + d) (xs.drop ((i + 1) * 1)) (by rw [List.length_drop]; omega) (fun j u hj => by
    rcases ha with rfl | rfl
    · rw [List.drop_eq_nil_of_le (by omega)] at hj; simp at hj
    · rw [List.getElem?_drop] at hj
      have := hc _ u hj
      rw [Addr.add_lit] at this ⊢
      rw [Nat.zero_add] at this
      rw [bcell hb1 _ _ hg]
      exact this) (fun u hu => h1 u (List.mem_of_mem_drop hu)) (by omega) hb1.size
  exact ⟨v1, W1, v2, W2, hr1, hr2, ho2, hb1.grown hg2 hb1.size (fun j hj => (World.ownsRow.lt ho1 j hj).1)⟩
open Go.RowKit
section
variable {key kk : ByteArray} {x y : V} {ks oks o2 o3 : List ByteArray} {l ol p2 p3 : List V} {R : List ByteArray × List V}
theorem way_ne {a b : ByteArray} (h : (a.toList == b.toList) = false) : ¬ a = b := fun e => by rw [e] at h; simp at h
theorem way_eq {a b : ByteArray} (h : (a.toList == b.toList) = true) : a = b := by
  rw [beq_iff_eq, ByteArray.toList_eq, ByteArray.toList_eq] at h
  exact ByteArray.ext (Array.ext' h)
theorem way_ie (h : oks ++ (withK key x false (kk :: ks) (y :: l)).1 = R.1 ∧ ol ++ (withK key x false (kk :: ks) (y :: l)).2 = R.2) (hb : ltB kk key = false) (he : kk = key) (h1 : o2 = oks ++ [key]) (h2 : p2 = ol ++ [x]) :
    o2 ++ (withK key x true ks l).1 = R.1 ∧ p2 ++ (withK key x true ks l).2 = R.2 := by
  rw [withK, if_pos ⟨rfl, hb⟩, if_pos he] at h
  subst h1 h2
  simpa using h
theorem way_in (h : oks ++ (withK key x false (kk :: ks) (y :: l)).1 = R.1 ∧ ol ++ (withK key x false (kk :: ks) (y :: l)).2 = R.2) (hb : ltB kk key = false) (he : ¬ kk = key) (h1 : o2 = oks ++ [key]) (h2 : p2 = ol ++ [x]) (h3 : o3 = o2 ++ [kk]) (h4 : p3 = p2 ++ [y]) :
    o3 ++ (withK key x true ks l).1 = R.1 ∧ p3 ++ (withK key x true ks l).2 = R.2 := by
  rw [withK, if_pos ⟨rfl, hb⟩, if_neg he] at h
  subst h1 h2 h3 h4
  simpa using h
theorem way_ne' {dn : Bool} (h : oks ++ (withK key x dn (kk :: ks) (y :: l)).1 = R.1 ∧ ol ++ (withK key x dn (kk :: ks) (y :: l)).2 = R.2) (hb : ¬ (dn = false ∧ ltB kk key = false)) (he : ¬ kk = key) (h3 : o3 = oks ++ [kk]) (h4 : p3 = ol ++ [y]) :
    o3 ++ (withK key x dn ks l).1 = R.1 ∧ p3 ++ (withK key x dn ks l).2 = R.2 := by
  rw [withK, if_neg hb, if_neg he] at h
  subst h3 h4
  simpa using h
theorem way_skip {dn : Bool} (h : oks ++ (withK key x dn (kk :: ks) (y :: l)).1 = R.1 ∧ ol ++ (withK key x dn (kk :: ks) (y :: l)).2 = R.2) (hb : ¬ (dn = false ∧ ltB kk key = false)) (he : kk = key) :
    oks ++ (withK key x dn ks l).1 = R.1 ∧ ol ++ (withK key x dn ks l).2 = R.2 := by
  rw [withK, if_neg hb, if_pos he] at h
  exact h
theorem way_over (h : oks ++ (withK key x true [] []).1 = R.1 ∧ ol ++ (withK key x true [] []).2 = R.2) : oks = R.1 ∧ ol = R.2 := by
  simpa [withK] using h
theorem way_last (h : oks ++ (withK key x false [] []).1 = R.1 ∧ ol ++ (withK key x false [] []).2 = R.2) (h1 : o2 = oks ++ [key]) (h2 : p2 = ol ++ [x]) : o2 = R.1 ∧ p2 = R.2 := by
  subst h1 h2
  simpa [withK] using h
end
theorem WInv.slot {w W : World} {G : Nat} {vc xc : Array Value} {P : Nat → Prop} {oks : List ByteArray} {ol : List V} {rI rK : Value} {css : List (List Value)} (h : WInv w G vc xc P oks ol rI rK css W) :
    (W.cell? ⟨w.heap.size + 1 + 1, 0, none⟩ = some (.int .i64 0) ∧ W.cell? ⟨w.heap.size + 1 + 1, 1, none⟩ = some (.int .i64 0) ∧ W.cell? ⟨w.heap.size + 1 + 1, 2, none⟩ = some (.string ⟨#[]⟩) ∧ W.cell? ⟨w.heap.size + 1 + 1, 3, none⟩ = some (.slice none 0 0) ∧ W.cell? ⟨w.heap.size + 1 + 1, 4, none⟩ = some (.slice none 0 0)) ∧
    (W.frozen? ⟨w.heap.size + 1 + 1, 0, none⟩ = false ∧ W.frozen? ⟨w.heap.size + 1 + 1, 1, none⟩ = false ∧ W.frozen? ⟨w.heap.size + 1 + 1, 2, none⟩ = false ∧ W.frozen? ⟨w.heap.size + 1 + 1, 3, none⟩ = false ∧ W.frozen? ⟨w.heap.size + 1 + 1, 4, none⟩ = false) ∧ w.heap.size + 1 + 1 < W.heap.size :=
  ⟨⟨h.b2.cell 0, h.b2.cell 1, h.b2.cell 2, h.b2.cell 3, h.b2.cell 4⟩, ⟨h.b2.frozen 0, h.b2.frozen 1, h.b2.frozen 2, h.b2.frozen 3, h.b2.frozen 4⟩, h.b2.lt⟩
theorem with_end {w W : World} {G : Nat} {vc xc : Array Value} {P : Nat → Prop} {oks : List ByteArray} {ol : List V} {rI rK : Value} {css : List (List Value)} {R : List ByteArray × List V} (h : WInv w G vc xc P oks ol rI rK css W) (hR : oks = R.1 ∧ ol = R.2) :
    ∃ A c K q, rI = .slice A R.2.length c ∧ rK = .slice K R.1.length q ∧ ∀ u0 u1 u2 u3 u4, LiesIn (fun b => P b ∨ Fresh w (put5 W (w.heap.size + 1 + 1) 0 u0 u1 u2 u3 u4) b) (put5 W (w.heap.size + 1 + 1) 0 u0 u1 u2 u3 u4) (V.mk 5 0 ⟨#[]⟩ R.2 R.1) A c K q ∧ Below w.heap.size w (put5 W (w.heap.size + 1 + 1) 0 u0 u1 u2 u3 u4) := by
  obtain ⟨rfl, rfl⟩ := hR
  obtain ⟨h1, h2, -, -, -, -, h9, h8, h10, h11, h6⟩ := h
  have hz := h1.size
  have hr : RowsIn (fun b => P b ∨ (G + 1 ≤ b ∧ b < W.heap.size)) W R.2 css := h10.keep (fun _ _ _ => rfl) (fun b hb => .inl hb)
  obtain ⟨A, c, rfl, hc1, hc2, hA⟩ := rows_lie hr h9 (fun b hb => .inr (World.ownsRow.lt h9 b hb))
  have hcK := fun g hg => World.ownsRow.cells h8 (g := g) hg
  obtain ⟨K, q, rfl, hq1, hq2, hK⟩ : ∃ K q, rK = .slice K R.1.length q ∧ R.1.length ≤ q ∧ q ≤ maxLen ∧ (R.1 = [] ∨ ∃ b, K = some ⟨b, 0, none⟩ ∧ (G + 1 ≤ b ∧ b < W.heap.size) ∧ StrsFrom W R.1 b 0) := by
    have hlt := fun b hb => World.ownsRow.lt h8 b hb
    obtain ⟨hl, ⟨rfl, h0⟩ | ⟨g', cap, cur, rfl, hB, hb, hn, hm, hs, ht⟩⟩ := h8
    · exact ⟨none, 0, by rw [h0], by omega, by simp [maxLen], .inl (List.length_eq_zero_iff.1 h0)⟩
    · refine ⟨_, _, rfl, hn, hm, .inr ⟨g', rfl, hlt g' rfl, keys_from h6 fun j v hj => ?_⟩⟩
      have := hcK g' rfl j v hj
      rw [Addr.add_lit] at this
      exact this
  have hL : LiesIn (fun b => P b ∨ (G + 1 ≤ b ∧ b < W.heap.size)) W (V.mk 5 0 ⟨#[]⟩ R.2 R.1) A c K q := by
    rw [LiesIn]
    exact ⟨by decide, hc1, hc2, ⟨hq1, hq2, hK.imp id fun ⟨b, hKe, hb, hfr⟩ => ⟨b, 0, hKe, .inr hb, hfr⟩⟩, hA⟩
  refine ⟨A, c, K, q, rfl, rfl, fun u0 u1 u2 u3 u4 => ⟨?_, ?_⟩⟩
  · have hs := put5_size W (w.heap.size + 1 + 1) 0 u0 u1 u2 u3 u4
    refine LiesIn.keep (fun b o hb => World.cell?_of_block (put5_heap W (w.heap.size + 1 + 1) 0 u0 u1 u2 u3 u4 ?_)) (fun b hb => hb.imp id fun hb => ⟨by have := hb.1; omega, by rw [hs]; exact hb.2⟩) _ hL
    rcases (show P b ∨ (G + 1 ≤ b ∧ b < W.heap.size) from hb) with hb | hb
    · have := h11 b hb; show b ≠ w.heap.size + 1 + 1; omega
    · have := hb.1; show b ≠ w.heap.size + 1 + 1; omega
  · exact ((((h1.setCell (by simp; omega) _).setCell (by simp; omega) _).setCell (by simp; omega) _).setCell (by simp; omega) _).setCell (by simp; omega) _
end Go.Proofs.YtchadlbhdcpojaaDoor
