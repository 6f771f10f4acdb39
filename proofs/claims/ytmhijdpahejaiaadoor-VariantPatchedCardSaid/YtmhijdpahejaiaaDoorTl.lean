/- A row without one of its elements, walked. -/
import Derived.Test.YtmhijdpahejaiaaDoorTd
import Derived.Lib.AppendZeros
import Derived.Deep.RegionLaw
namespace Go.Proofs.YtmhijdpahejaiaaDoor
open Go.RowKit

theorem step_append_run {P : Program} {ops : Array Oper} {o : Oper} {a : Act} {w : World} {K : Act → World → Prop} {Q : Exit → Act → World → Prop} {E : Prop} (hgd : o.guard = none) (s x : Operand) (t tn : TypeId)
    (ho : o.op = .call { callee := .builtin .append, args := #[s, x], argTypes := #[t, tn] }) (vs vx : Value) (hs : a.eval s = vs) (hx : a.eval x = vx) (v' : Value) (w' : World)
    (hr : (Builtin.append_ #[t, tn] o.type #[vs, vx]).run P w = .ok v' w') (hK : K (a.put o.dst v') w') : if Region.wanted o (yielded ops a.tmps) = true then Oper.wp P o a w K Q else E := by
  have hw : Region.wanted o (yielded ops a.tmps) = true := by simp [Region.wanted, hgd]
  rw [if_pos hw]
  exact Lib.wp_append_run w s x t tn ho vs vx hs hx v' w' hr hK

/-- A part of a row appended to an owned row. -/
theorem appendV (ty : TypeId) (W : World) (B : Nat) (v : Value) (k : Nat) (xs : List Value) (hown : W.ownsRow B 25 5 v k xs) (a : Addr) (m c : Nat) (news : List Value) (hl : news.length = m * 5) (hnews : ∀ j u, news[j]? = some u → W.cell? (a.add j) = some u) (h1 : ∀ u ∈ news, u.oneCell' = true) (hk : k + m ≤ 100000) (hB : B ≤ W.heap.size) :
    ∃ v' W', (Builtin.append_ #[22, 22] ty #[v, .slice (some a) m c]).run Tryd.prog W = .ok v' W' ∧ W'.ownsRow B 25 5 v' (k + m) (xs ++ news) ∧ W.grownBy W' v.ownBlock := by
  obtain ⟨i0, hi, hz0, hz1, hz2⟩ := info_parts (P := Tryd.prog) (e := 25) (z := (.agg zeroF)) (size := 5) (bytes := 80) (by kernel_rfl)
  rcases Nat.eq_zero_or_pos m with rfl | hm
  · obtain rfl : news = [] := List.length_eq_zero_iff.1 (by omega)
    obtain ⟨a0, cap, rfl⟩ := own_form hown
    have hcap : k ≤ cap := by
      obtain ⟨_, ⟨he, h0⟩ | ⟨g, cap', cur, he, _, _, h1, _⟩⟩ := hown
      · simp only [Value.slice.injEq] at he; omega
      · simp only [Value.slice.injEq] at he; omega
    have hs : Src Tryd.prog i0.size 22 (.slice (some a) 0 c) 0 [] W := Src.ofSlice W Tryd.underlying22 a 0 c [] (by simp) (fun j u hj => by simp at hj) (fun u hu => by cases hu)
    exact ⟨_, W, run_append_nothing (P := Tryd.prog) W 22 22 ty 25 i0 Tryd.underlying22 hi a0 k cap hcap _ hs, by simpa using hown, ⟨rfl, rfl, rfl, Nat.le_refl _, fun _ _ _ => rfl⟩⟩
  · obtain ⟨v', W', hr, h2, h3, -⟩ := append_where (P := Tryd.prog) W B 22 ty 25 i0 (.agg zeroF) 5 80 Tryd.underlying22 hi hz0 hz1 hz2 rfl (by omega) v k xs hown a m c news hl hnews h1 (by unfold maxLen; omega) (by omega) hB hm
    exact ⟨v', W', hr, h2, h3⟩
/-- A row without one of its elements: the two appends. -/
theorem twoV (ty ty' : TypeId) (W : World) (N g i m d : Nat) (xs : List Value) (hown : W.ownsRow N 25 5 (.slice (some ⟨g, 0, none⟩) (i + 1 + m) (i + 1 + m + d)) (i + 1 + m) xs) (hn : i + 1 + m ≤ 10000) (h1 : ∀ u ∈ xs, u.oneCell' = true) (a : Addr) (ha : m = 0 ∨ a = ⟨g, (i + 1) * 5, none⟩) :
    ∃ v1 W1 v2 W2, (Builtin.append_ #[22, 22] ty #[.slice none 0 0, .slice (some ⟨g, 0, none⟩) i (i + 1 + m + d)]).run Tryd.prog W = .ok v1 W1 ∧ (Builtin.append_ #[22, 22] ty' #[v1, .slice (some a) m (m + d)]).run Tryd.prog W1 = .ok v2 W2 ∧
      W2.ownsRow W.heap.size 25 5 v2 (i + m) (xs.take (i * 5) ++ xs.drop ((i + 1) * 5)) ∧ Below W.heap.size W W2 := by
  have hl := hown.1
  have hc := fun j u (hj : xs[j]? = some u) => World.ownsRow.cells hown (g := g) rfl j u hj
  have hg := (World.ownsRow.lt hown g rfl).2
  obtain ⟨v1, W1, hr1, ho1, hg1⟩ := appendV ty W W.heap.size (.slice none 0 0) 0 [] (World.ownsRow_nil _ _ _ _) ⟨g, 0, none⟩ i (i + 1 + m + d) (xs.take (i * 5)) (by rw [List.length_take]; omega) (fun j u hj => by
    have hlt := (List.getElem?_eq_some_iff.1 hj).1
    rw [List.length_take] at hlt
    rw [List.getElem?_take_of_lt (by omega)] at hj
    exact hc j u hj) (fun u hu => h1 u (List.mem_of_mem_take hu)) (by omega) (Nat.le_refl _)
  rw [Nat.zero_add, List.nil_append] at ho1
  have hb1 := below_none hg1
  obtain ⟨v2, W2, hr2, ho2, hg2⟩ := appendV ty' W1 W.heap.size v1 i (xs.take (i * 5)) ho1 a m (m + d) (xs.drop ((i + 1) * 5)) (by rw [List.length_drop]; omega) (fun j u hj => by
    rcases ha with rfl | rfl
    · rw [List.drop_eq_nil_of_le (by omega)] at hj; simp at hj
    · rw [List.getElem?_drop] at hj
      have := hc _ u hj
      rw [Addr.add_lit] at this ⊢
      rw [Nat.zero_add] at this
      rw [bcell hb1 _ _ hg]
      exact this) (fun u hu => h1 u (List.mem_of_mem_drop hu)) (by omega) hb1.size
  exact ⟨v1, W1, v2, W2, hr1, hr2, ho2, hb1.grown hg2 hb1.size (fun j hj => (World.ownsRow.lt ho1 j hj).1)⟩

set_option maxRecDepth 100000 in
set_option maxHeartbeats 1000000 in
theorem withoutV (W : World) (N g i m d : Nat) (xs : List Value) (hown : W.ownsRow N 25 5 (.slice (some ⟨g, 0, none⟩) (i + 1 + m) (i + 1 + m + d)) (i + 1 + m) xs) (hn : i + 1 + m ≤ 10000) (h1 : ∀ u ∈ xs, u.oneCell' = true) :
    Calls Tryd.prog 64 #[.slice (some ⟨g, 0, none⟩) (i + 1 + m) (i + 1 + m + d), .int .i64 i] W fun e W' => ∃ v', e = .returned v' ∧ W'.ownsRow W.heap.size 25 5 v' (i + m) (xs.take (i * 5) ++ xs.drop ((i + 1) * 5)) ∧ Below W.heap.size W W' := by
  have hm : i + 1 + m + d ≤ maxLen := by
    obtain ⟨hl, ⟨he, h0⟩ | ⟨g, cap, cur, he, hB, hb, hnc, hmx, hs, ht⟩⟩ := hown
    · cases he
    · cases he; exact hmx
  unfold maxLen at hm
  have HT := Lib.hid fun a ha => twoV 22 22 W.drew N g i m d xs (own_heap hown rfl) hn h1 a ha
  clear hown h1
  have k0 : (0 : Int) ≤ i := by omega
  have k1 : (i : Int) ≤ (i : Int) + 1 + m + d := by omega
  have k2 : (i : Int) + 1 ≤ (i : Int) + 1 + m := by omega
  have k3 : (i : Int) + 1 + m ≤ (i : Int) + 1 + m + d := by omega
  have k4 : (0 : Int) ≤ (i : Int) + 1 := by omega
  have hw : IntKind.i64.wrap ((i : Int) + 1) = (i : Int) + 1 := by rw [IntKind.wrap_i64]; omega
  go_enter Tryd.func64, Tryd.ntmps64
  go_wp2_with fail
  have hs : i + 1 + m + d - (i + 1) = m + d := by omega
  by_cases hd : m + d = 0
  · obtain rfl : m = 0 := by omega
    obtain rfl : d = 0 := by omega
    obtain ⟨v1, W1, v2, W2, hr1, hr2, ho2, hb2⟩ := HT.out ⟨g, 0, none⟩ (.inl rfl)
    simp only [Nat.add_zero] at hr1 hr2 ho2
    have HR := Lib.hid (And.intro hr1 hr2)
    have HO := Lib.hid (And.intro ho2 hb2)
    clear hr1 hr2 ho2 hb2 HT hs hd
    have k5 : (i : Int) ≤ (i : Int) + 1 := by omega
    go_region_law (first
      | (refine step_append_run (by rfl) _ _ _ _ (by rfl) _ _ (by rfl) (by rfl) _ _ HR.out.1 ?_)
      | (refine step_append_run (by rfl) _ _ _ _ (by rfl) _ _ (by rfl) (by rfl) _ _ HR.out.2 ?_))
    all_goals
      go_wp2_with fail
      go_ret
      exact ⟨_, rfl, HO.out.1, below_on (Below.refl _ W).drew HO.out.2⟩
  · have hd' : ¬ (i + 1 + m + d = i + 1) := by omega
    obtain ⟨v1, W1, v2, W2, hr1, hr2, ho2, hb2⟩ := HT.out ⟨g, (i + 1) * 5, none⟩ (.inr rfl)
    have HR := Lib.hid (And.intro hr1 hr2)
    have HO := Lib.hid (And.intro ho2 hb2)
    clear hr1 hr2 ho2 hb2 HT
    go_region_law (first
      | (refine step_append_run (by rfl) _ _ _ _ (by rfl) _ _ (by rfl) (by rfl) _ _ HR.out.1 ?_)
      | (refine step_append_run (by rfl) _ _ _ _ (by rfl) _ _ (by rfl) (by rfl) _ _ HR.out.2 ?_))
    all_goals
      go_wp2_with fail
      go_ret
      exact ⟨_, rfl, HO.out.1, below_on (Below.refl _ W).drew HO.out.2⟩

/-- A part of a row appended to an owned row. -/
theorem appendS (ty : TypeId) (W : World) (B : Nat) (v : Value) (k : Nat) (xs : List Value) (hown : W.ownsRow B 9 1 v k xs) (a : Addr) (m c : Nat) (news : List Value) (hl : news.length = m * 1) (hnews : ∀ j u, news[j]? = some u → W.cell? (a.add j) = some u) (h1 : ∀ u ∈ news, u.oneCell' = true) (hk : k + m ≤ 100000) (hB : B ≤ W.heap.size) :
    ∃ v' W', (Builtin.append_ #[23, 23] ty #[v, .slice (some a) m c]).run Tryd.prog W = .ok v' W' ∧ W'.ownsRow B 9 1 v' (k + m) (xs ++ news) ∧ W.grownBy W' v.ownBlock := by
  obtain ⟨i0, hi, hz0, hz1, hz2⟩ := info_parts (P := Tryd.prog) (e := 9) (z := (.string ⟨#[]⟩)) (size := 1) (bytes := 16) (by kernel_rfl)
  rcases Nat.eq_zero_or_pos m with rfl | hm
  · obtain rfl : news = [] := List.length_eq_zero_iff.1 (by omega)
    obtain ⟨a0, cap, rfl⟩ := own_form hown
    have hcap : k ≤ cap := by
      obtain ⟨_, ⟨he, h0⟩ | ⟨g, cap', cur, he, _, _, h1, _⟩⟩ := hown
      · simp only [Value.slice.injEq] at he; omega
      · simp only [Value.slice.injEq] at he; omega
    have hs : Src Tryd.prog i0.size 23 (.slice (some a) 0 c) 0 [] W := Src.ofSlice W Tryd.underlying23 a 0 c [] (by simp) (fun j u hj => by simp at hj) (fun u hu => by cases hu)
    exact ⟨_, W, run_append_nothing (P := Tryd.prog) W 23 23 ty 9 i0 Tryd.underlying23 hi a0 k cap hcap _ hs, by simpa using hown, ⟨rfl, rfl, rfl, Nat.le_refl _, fun _ _ _ => rfl⟩⟩
  · obtain ⟨v', W', hr, h2, h3, -⟩ := append_where (P := Tryd.prog) W B 23 ty 9 i0 (.string ⟨#[]⟩) 1 16 Tryd.underlying23 hi hz0 hz1 hz2 rfl (by omega) v k xs hown a m c news hl hnews h1 (by unfold maxLen; omega) (by omega) hB hm
    exact ⟨v', W', hr, h2, h3⟩
/-- A row without one of its elements: the two appends. -/
theorem twoS (ty ty' : TypeId) (W : World) (N g i m d : Nat) (xs : List Value) (hown : W.ownsRow N 9 1 (.slice (some ⟨g, 0, none⟩) (i + 1 + m) (i + 1 + m + d)) (i + 1 + m) xs) (hn : i + 1 + m ≤ 10000) (h1 : ∀ u ∈ xs, u.oneCell' = true) (a : Addr) (ha : m = 0 ∨ a = ⟨g, (i + 1) * 1, none⟩) :
    ∃ v1 W1 v2 W2, (Builtin.append_ #[23, 23] ty #[.slice none 0 0, .slice (some ⟨g, 0, none⟩) i (i + 1 + m + d)]).run Tryd.prog W = .ok v1 W1 ∧ (Builtin.append_ #[23, 23] ty' #[v1, .slice (some a) m (m + d)]).run Tryd.prog W1 = .ok v2 W2 ∧
      W2.ownsRow W.heap.size 9 1 v2 (i + m) (xs.take (i * 1) ++ xs.drop ((i + 1) * 1)) ∧ Below W.heap.size W W2 := by
  have hl := hown.1
  have hc := fun j u (hj : xs[j]? = some u) => World.ownsRow.cells hown (g := g) rfl j u hj
  have hg := (World.ownsRow.lt hown g rfl).2
  obtain ⟨v1, W1, hr1, ho1, hg1⟩ := appendS ty W W.heap.size (.slice none 0 0) 0 [] (World.ownsRow_nil _ _ _ _) ⟨g, 0, none⟩ i (i + 1 + m + d) (xs.take (i * 1)) (by rw [List.length_take]; omega) (fun j u hj => by
    have hlt := (List.getElem?_eq_some_iff.1 hj).1
    rw [List.length_take] at hlt
    rw [List.getElem?_take_of_lt (by omega)] at hj
    exact hc j u hj) (fun u hu => h1 u (List.mem_of_mem_take hu)) (by omega) (Nat.le_refl _)
  rw [Nat.zero_add, List.nil_append] at ho1
  have hb1 := below_none hg1
  obtain ⟨v2, W2, hr2, ho2, hg2⟩ := appendS ty' W1 W.heap.size v1 i (xs.take (i * 1)) ho1 a m (m + d) (xs.drop ((i + 1) * 1)) (by rw [List.length_drop]; omega) (fun j u hj => by
    rcases ha with rfl | rfl
    · rw [List.drop_eq_nil_of_le (by omega)] at hj; simp at hj
    · rw [List.getElem?_drop] at hj
      have := hc _ u hj
      rw [Addr.add_lit] at this ⊢
      rw [Nat.zero_add] at this
      rw [bcell hb1 _ _ hg]
      exact this) (fun u hu => h1 u (List.mem_of_mem_drop hu)) (by omega) hb1.size
  exact ⟨v1, W1, v2, W2, hr1, hr2, ho2, hb1.grown hg2 hb1.size (fun j hj => (World.ownsRow.lt ho1 j hj).1)⟩

set_option maxRecDepth 100000 in
set_option maxHeartbeats 1000000 in
theorem withoutS (W : World) (N g i m d : Nat) (xs : List Value) (hown : W.ownsRow N 9 1 (.slice (some ⟨g, 0, none⟩) (i + 1 + m) (i + 1 + m + d)) (i + 1 + m) xs) (hn : i + 1 + m ≤ 10000) (h1 : ∀ u ∈ xs, u.oneCell' = true) :
    Calls Tryd.prog 65 #[.slice (some ⟨g, 0, none⟩) (i + 1 + m) (i + 1 + m + d), .int .i64 i] W fun e W' => ∃ v', e = .returned v' ∧ W'.ownsRow W.heap.size 9 1 v' (i + m) (xs.take (i * 1) ++ xs.drop ((i + 1) * 1)) ∧ Below W.heap.size W W' := by
  have hm : i + 1 + m + d ≤ maxLen := by
    obtain ⟨hl, ⟨he, h0⟩ | ⟨g, cap, cur, he, hB, hb, hnc, hmx, hs, ht⟩⟩ := hown
    · cases he
    · cases he; exact hmx
  unfold maxLen at hm
  have HT := Lib.hid fun a ha => twoS 23 23 W.drew N g i m d xs (own_heap hown rfl) hn h1 a ha
  clear hown h1
  have k0 : (0 : Int) ≤ i := by omega
  have k1 : (i : Int) ≤ (i : Int) + 1 + m + d := by omega
  have k2 : (i : Int) + 1 ≤ (i : Int) + 1 + m := by omega
  have k3 : (i : Int) + 1 + m ≤ (i : Int) + 1 + m + d := by omega
  have k4 : (0 : Int) ≤ (i : Int) + 1 := by omega
  have hw : IntKind.i64.wrap ((i : Int) + 1) = (i : Int) + 1 := by rw [IntKind.wrap_i64]; omega
  go_enter Tryd.func65, Tryd.ntmps65
  go_wp2_with fail
  have hs : i + 1 + m + d - (i + 1) = m + d := by omega
  by_cases hd : m + d = 0
  · obtain rfl : m = 0 := by omega
    obtain rfl : d = 0 := by omega
    obtain ⟨v1, W1, v2, W2, hr1, hr2, ho2, hb2⟩ := HT.out ⟨g, 0, none⟩ (.inl rfl)
    simp only [Nat.add_zero] at hr1 hr2 ho2
    have HR := Lib.hid (And.intro hr1 hr2)
    have HO := Lib.hid (And.intro ho2 hb2)
    clear hr1 hr2 ho2 hb2 HT hs hd
    have k5 : (i : Int) ≤ (i : Int) + 1 := by omega
    go_region_law (first
      | (refine step_append_run (by rfl) _ _ _ _ (by rfl) _ _ (by rfl) (by rfl) _ _ HR.out.1 ?_)
      | (refine step_append_run (by rfl) _ _ _ _ (by rfl) _ _ (by rfl) (by rfl) _ _ HR.out.2 ?_))
    all_goals
      go_wp2_with fail
      go_ret
      exact ⟨_, rfl, HO.out.1, below_on (Below.refl _ W).drew HO.out.2⟩
  · have hd' : ¬ (i + 1 + m + d = i + 1) := by omega
    obtain ⟨v1, W1, v2, W2, hr1, hr2, ho2, hb2⟩ := HT.out ⟨g, i + 1, none⟩ (.inr (by simp))
    have HR := Lib.hid (And.intro hr1 hr2)
    have HO := Lib.hid (And.intro ho2 hb2)
    clear hr1 hr2 ho2 hb2 HT
    go_region_law (first
      | (refine step_append_run (by rfl) _ _ _ _ (by rfl) _ _ (by rfl) (by rfl) _ _ HR.out.1 ?_)
      | (refine step_append_run (by rfl) _ _ _ _ (by rfl) _ _ (by rfl) (by rfl) _ _ HR.out.2 ?_))
    all_goals
      go_wp2_with fail
      go_ret
      exact ⟨_, rfl, HO.out.1, below_on (Below.refl _ W).drew HO.out.2⟩
end Go.Proofs.YtmhijdpahejaiaaDoor
