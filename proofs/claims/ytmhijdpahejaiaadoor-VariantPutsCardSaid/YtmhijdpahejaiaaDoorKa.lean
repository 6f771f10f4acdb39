/- A value laid at a path, and an item taken out, as the specification says it: plain. -/
import Derived.Test.YtmhijdpahejaiaaDoorTb
import Derived.Test.YtmhijdpahejaiaaDoorTm
import Derived.Test.YtmhijdpahejaiaaDoorRy
import Derived.Test.YtmhijdpahejaiaaDoorTl
import Derived.Test.YtmhijdpahejaiaaDoorRz
import Derived.Test.YtmhijdpahejaiaaDoorVd
import Derived.Test.YtmhijdpahejaiaaDoorVg
namespace Go.Proofs.YtmhijdpahejaiaaDoor
open Go.RowKit
/-- What the specification's put answers. -/
def putR (x : V) (p : List Stp) (z : V) : V × Int := if (putV x p z).2 = 0 then putV x p z else (nullV, (putV x p z).2)
/-- The value with another item at a step. -/
def newR (x : V) (s : Stp) (y : V) : V :=
  if s.1 < 0 then .mk 5 0 ⟨#[]⟩ (withK s.2 y false (kindV x s).keys (kindV x s).items).2 (withK s.2 y false (kindV x s).keys (kindV x s).items).1
  else .mk 4 0 ⟨#[]⟩ ((kindV x s).items.take s.1.toNat ++ y :: (kindV x s).items.drop (s.1.toNat + 1)) []
theorem withK_set (k : ByteArray) (x : V) : ∀ (ks : List ByteArray) (l : List V), ks.length = l.length → Rising ks → k ∈ ks → withK k x false ks l = (ks, l.set (posK k ks) x)
  | [], _, _, _, h => by simp at h
  | _ :: _, [], h, _, _ => by simp at h
  | kk :: ks, y :: l, h, hr, hk => by
    have hl : ks.length = l.length := by simpa using h
    rw [Rising, List.pairwise_cons] at hr
    rw [withK, posK]
    cases hb : ltB kk k
    · have he : kk = k := by
        rcases List.mem_cons.1 hk with e | e
        · exact e.symm
        · rw [hr.1 k e] at hb; cases hb
      have hn : ¬ k ∈ ks := fun e => by
        have := hr.1 k e
        rw [he, ltB_irrefl] at this
        cases this
      rw [if_pos ⟨rfl, rfl⟩, if_pos he, withK_done k x ks l hl hn]
      simp [he]
    · have he : ¬ kk = k := fun e => by rw [e, ltB_irrefl] at hb; cases hb
      have hk' : k ∈ ks := by
        rcases List.mem_cons.1 hk with e | e
        · exact absurd e.symm he
        · exact e
      rw [if_neg (by simp), if_neg he, withK_set k x ks l hl hr.2 hk']
      simp
theorem empty_ok {t : ByteArray} (e : t.data.toList.isEmpty = true) : t = ⟨#[]⟩ := ByteArray.ext (Array.ext' (by simpa using e))
/-- A valid value of a kind with items says nothing else. -/
theorem bare_ok {x : V} (h : x.ok = true) (h45 : x.kind = 4 ∨ x.kind = 5) : x.int = 0 ∧ x.text = ⟨#[]⟩ := by
  obtain ⟨k, i, t, l, ks⟩ := x
  rw [V.ok, Bool.and_eq_true] at h
  obtain ⟨hs, -⟩ := h
  simp only [V.kind] at h45
  have hh : (i == 0 && t.data.toList.isEmpty) = true := by
    rcases h45 with rfl | rfl
    · rw [V.sound, if_neg (by omega), if_neg (by omega), if_neg (by omega), if_neg (by omega), if_pos rfl, Bool.and_eq_true] at hs
      exact hs.1
    · rw [V.sound, if_neg (by omega), if_neg (by omega), if_neg (by omega), if_neg (by omega), if_neg (by omega), if_pos rfl, Bool.and_eq_true, Bool.and_eq_true] at hs
      exact hs.1.1
  rw [Bool.and_eq_true, beq_iff_eq] at hh
  exact ⟨hh.1, empty_ok hh.2⟩
theorem null_of {x : V} (h : x.ok = true) (h0 : x.kind = 0) : x = nullV := by
  obtain ⟨k, i, t, l, ks⟩ := x
  rw [V.ok, Bool.and_eq_true] at h
  obtain ⟨hs, -⟩ := h
  simp only [V.kind] at h0
  subst h0
  rw [V.sound, if_pos rfl, Bool.and_eq_true, Bool.and_eq_true, Bool.and_eq_true, beq_iff_eq, beq_iff_eq, beq_iff_eq] at hs
  obtain ⟨⟨h1, h2⟩, h3, h4⟩ := hs
  have h2' := empty_ok h2
  have h3' := List.length_eq_zero_iff.1 h3
  have h4' := List.length_eq_zero_iff.1 h4
  subst h1 h2' h3' h4'
  rfl
theorem kindV_bare {x : V} {s : Stp} (h : x.ok = true) (h1 : (kindV x s).kind = holderS s) : (kindV x s).int = 0 ∧ (kindV x s).text = ⟨#[]⟩ := by
  unfold kindV at h1 ⊢
  split
  · rename_i h0
    rw [null_of h h0]
    exact ⟨rfl, rfl⟩
  · rename_i h0
    rw [if_neg h0] at h1
    refine bare_ok h ?_
    rw [h1, holderS]
    split
    · exact .inr rfl
    · exact .inl rfl
theorem newR_is {x y : V} {s : Stp} (hok : x.ok = true) (h1 : (kindV x s).kind = holderS s) (h2 : ¬ s.1 > x.items.length) :
    setIt (roomV (kindV x s) s) (whereV (kindV x s) s) y = newR x s y := by
  have hf := (fit_of hok).kindV s
  obtain ⟨hb1, hb2⟩ := kindV_bare hok h1
  have hi : (kindV x s).items = x.items := by unfold kindV; split <;> rfl
  have h2' : ¬ s.1 > (kindV x s).items.length := by rw [hi]; exact h2
  unfold newR
  clear hi h2 hok
  generalize kindV x s = x' at h1 hf hb1 hb2 h2' ⊢
  obtain ⟨i, k⟩ := s
  by_cases h0 : i < 0
  · have h5 : x'.kind = 5 := by rw [h1, holderS, if_pos h0]
    have hw : whereV x' (i, k) = posK k x'.keys := by simp [whereV, findV, show ¬ 0 ≤ i by omega]
    have hl := hf.five h5
    rw [if_pos h0, hw]
    by_cases hh : hasK k x'.keys = true
    · rw [show roomV x' (i, k) = x' by unfold roomV; rw [if_pos (by simp [findV, show ¬ 0 ≤ i by omega, hh])], withK_set k y x'.keys x'.items hl hf.rise ((hasK_iff _ _).1 hh), setIt, h5, hb1, hb2]
    · have hn : ¬ k ∈ x'.keys := fun e => hh ((hasK_iff _ _).2 e)
      have hle := posK_le k x'.keys
      rw [withK_ins k y x'.keys x'.items hl hn]
      unfold roomV
      rw [if_neg (by simp [findV, show ¬ 0 ≤ i by omega, hh]), if_pos h5, hw, setIt]
      simp only [mkK, mkN, mkT, mkI, mkY, insK]
      rw [h5, hb1, hb2, List.set_append]
      have e : (x'.items.take (posK k x'.keys)).length = posK k x'.keys := by rw [List.length_take]; omega
      simp [e]
  · have h4 : x'.kind = 4 := by rw [h1, holderS, if_neg h0]
    have hw : whereV x' (i, k) = i.toNat := by simp [whereV, findV, show 0 ≤ i by omega]
    have hk := hf.none (by omega)
    simp only at h2' ⊢
    rw [if_neg h0, hw]
    by_cases hlt : i.toNat < x'.items.length
    · rw [show roomV x' (i, k) = x' by unfold roomV; rw [if_pos (by simp [findV, show 0 ≤ i by omega, h4]; omega)], setIt, h4, hb1, hb2, hk, List.set_eq_take_append_cons_drop, if_pos hlt]
    · unfold roomV
      rw [if_neg (by simp [findV, show 0 ≤ i by omega, h4]; omega), if_neg (by omega), hw, setIt]
      simp only [mkK, mkN, mkT, mkI, mkY]
      rw [h4, hb1, hb2, hk, List.set_append]
      have e : (x'.items.take i.toNat).length = i.toNat := by rw [List.length_take]; omega
      rw [List.drop_eq_nil_of_le (show x'.items.length ≤ i.toNat by omega), List.drop_eq_nil_of_le (show x'.items.length ≤ i.toNat + 1 by omega)]
      simp [e]
theorem putR_type {x z : V} {s : Stp} {r : List Stp} (h1 : ¬ (kindV x s).kind = holderS s) : putR x (s :: r) z = (nullV, 8) := by
  have e : putV x (s :: r) z = (nullV, 8) := by rw [putV, if_pos h1]
  unfold putR
  rw [e, if_neg (by decide)]
theorem putR_arg {x z : V} {s : Stp} {r : List Stp} (h1 : (kindV x s).kind = holderS s) (h2 : s.1 > x.items.length) : putR x (s :: r) z = (nullV, 3) := by
  have hi : (kindV x s).items = x.items := by unfold kindV; split <;> rfl
  have e : putV x (s :: r) z = (nullV, 3) := by rw [putV, if_neg (by simpa using h1), if_pos (by rw [hi]; exact h2)]
  unfold putR
  rw [e, if_neg (by decide)]
theorem putR_cons {x z : V} {s : Stp} {r : List Stp} (hok : x.ok = true) (hs : stepB s = true) (h1 : (kindV x s).kind = holderS s) (h2 : ¬ s.1 > x.items.length) :
    putR x (s :: r) z = if (putR ((itemV x s).getD nullV) r z).2 = 0 then (newR x s (putR ((itemV x s).getD nullV) r z).1, 0) else (nullV, (putR ((itemV x s).getD nullV) r z).2) := by
  have hi : (kindV x s).items = x.items := by unfold kindV; split <;> rfl
  have hl : ¬ s.1 > (kindV x s).items.length := by rw [hi]; exact h2
  obtain ⟨-, -, h3, -, -⟩ := room_items ((fit_of hok).kindV s) h1 hs hl nullV
  rw [kindV_item (fit_of hok)] at h3
  have e : putV x (s :: r) z = (newR x s (putV ((itemV x s).getD nullV) r z).1, (putV ((itemV x s).getD nullV) r z).2) := by
    rw [putV, if_neg (by simpa using h1), if_neg hl, h3, newR_is hok h1 h2]
  unfold putR
  rw [e]
  by_cases h0 : (putV ((itemV x s).getD nullV) r z).2 = 0
  · simp [h0]
  · simp [h0]
/-- A list without its n-th, or with another one there. -/
def cutL {α : Type} (last : Bool) (n : Nat) (y : α) (l : List α) : List α := if last = true then l.eraseIdx n else l.set n y
theorem take_more {α : Type} {l : List α} {j : Nat} {a : α} (h : l[j]? = some a) : l.take (j + 1) = l.take j ++ [a] ∧ (l.take j).length = j := by
  have hj := (List.getElem?_eq_some_iff.1 h).1
  exact ⟨by rw [List.take_add_one, h]; rfl, by rw [List.length_take]; omega⟩
theorem cutL_skip {α : Type} {l : List α} {n : Nat} {a y : α} (h : l[n]? = some a) : cutL true n y (l.take (n + 1)) = cutL true n y (l.take n) := by
  obtain ⟨h1, h2⟩ := take_more h
  simp only [cutL, if_true]
  have e : (l.take n).eraseIdx n = l.take n := List.eraseIdx_of_length_le (by omega)
  rw [h1, e, List.eraseIdx_append_of_length_le (by omega), h2, Nat.sub_self]
  simp
theorem cutL_put {α : Type} {l : List α} {n : Nat} {a y : α} (h : l[n]? = some a) : cutL false n y (l.take (n + 1)) = cutL false n y (l.take n) ++ [y] := by
  obtain ⟨h1, h2⟩ := take_more h
  simp only [cutL, if_neg (show ¬ false = true by simp)]
  have e : (l.take n).set n y = l.take n := List.set_eq_of_length_le (by omega)
  rw [h1, e, List.set_append, h2, if_neg (by omega), Nat.sub_self]
  rfl
theorem cutL_keep {α : Type} {l : List α} {n j : Nat} {a y : α} {last : Bool} (h : l[j]? = some a) (hn : ¬ j = n) : cutL last n y (l.take (j + 1)) = cutL last n y (l.take j) ++ [a] := by
  obtain ⟨h1, h2⟩ := take_more h
  cases last
  · simp only [cutL, if_neg (show ¬ false = true by simp)]
    rw [h1, List.set_append, h2]
    split
    · rfl
    · rw [List.set_eq_of_length_le (show ([a] : List α).length ≤ n - j by simp; omega), List.set_eq_of_length_le (by omega)]
  · simp only [cutL, if_true]
    rw [h1]
    by_cases hlt : n < j
    · rw [List.eraseIdx_append_of_lt_length (by omega)]
    · rw [List.eraseIdx_append_of_length_le (by omega), h2, List.eraseIdx_of_length_le (show ([a] : List α).length ≤ n - j by simp; omega), List.eraseIdx_of_length_le (by omega)]
theorem cutL_all {α : Type} {l : List α} {n m : Nat} {y : α} {last : Bool} (h : l.length ≤ m) : cutL last n y (l.take m) = cutL last n y l := by rw [List.take_of_length_le h]
theorem rem_is_last {x : V} {s : Stp} (hok : x.ok = true) (hf : (findV x s).2 = true) (h45 : x.kind = 4 ∨ x.kind = 5) (y : V) (k : ByteArray) :
    (removeV x [s]).1 = .mk x.kind 0 ⟨#[]⟩ (cutL true (whereV x s) y x.items) (if x.kind = 5 then cutL true (whereV x s) k x.keys else []) := by
  obtain ⟨h1, h2⟩ := bare_ok hok h45
  rw [removeV, if_pos hf, if_pos rfl]
  simp only [delV, cutL, if_true, h1, h2, List.eraseIdx_eq_take_drop_succ]
  by_cases h5 : x.kind = 5
  · rw [if_pos h5, if_pos h5]
  · rw [if_neg h5, if_neg h5, (okk hok).2.1 h5]
theorem rem_is_on {x y : V} {s s' : Stp} {r : List Stp} {k : ByteArray} (hok : x.ok = true) (hf : (findV x s).2 = true) (h45 : x.kind = 4 ∨ x.kind = 5) (hy : x.items[whereV x s]? = some y) (hk : x.kind = 5 → x.keys[whereV x s]? = some k) :
    (removeV x (s :: s' :: r)).1 = .mk x.kind 0 ⟨#[]⟩ (cutL false (whereV x s) (removeV y (s' :: r)).1 x.items) (if x.kind = 5 then cutL false (whereV x s) k x.keys else []) := by
  obtain ⟨h1, h2⟩ := bare_ok hok h45
  rw [removeV, if_pos hf, if_neg (by simp), List.getD_eq_getElem?_getD, hy]
  simp only [setIt, cutL, if_neg (show ¬ false = true by simp), h1, h2, Option.getD_some]
  by_cases h5 : x.kind = 5
  · rw [if_pos h5]
    obtain ⟨hlt, hk'⟩ := List.getElem?_eq_some_iff.1 (hk h5)
    rw [← hk', List.set_getElem_self]
  · rw [if_neg h5, (okk hok).2.1 h5]
open Go.RowKit
mutual
theorem lies_inn {w : World} {B : Nat} {P : Nat → Prop} (hP : ∀ b, b < B → P b) : ∀ (x : V) {A c K d}, Lies w B x A c K d → LiesIn P w x A c K d
  | .mk _ _ _ items _, _, _, _, _, h => by
    obtain ⟨h1, h2, h3, h4, h5⟩ := h
    refine ⟨h1, h2, h3, ⟨h4.1, h4.2.1, h4.2.2.imp id fun ⟨b, o, hA, hb, hf⟩ => ⟨b, o, hA, hP b hb, hf⟩⟩, h5.imp id ?_⟩
    rintro ⟨b, o, hA, hb, hf⟩
    exact ⟨b, o, hA, hP b hb, liesFrom_inn hP items hf⟩
theorem liesFrom_inn {w : World} {B : Nat} {P : Nat → Prop} (hP : ∀ b, b < B → P b) : ∀ (l : List V) {b o}, LiesFrom w B l b o → LiesFromIn P w l b o
  | [], _, _, _ => trivial
  | x :: r, b, o, h => by
    obtain ⟨⟨A, c, K, d, e0, e1, e2, e3, e4, hx⟩, hr⟩ := h
    exact ⟨⟨A, c, K, d, e0, e1, e2, e3, e4, lies_inn hP x hx⟩, liesFrom_inn hP r hr⟩
end
/-- The rows of items that lie one behind another. -/
theorem from_rows {P : Nat → Prop} {w : World} : ∀ {l : List V} {b o : Nat}, LiesFromIn P w l b o → ∃ css, RowsIn P w l css ∧ ∀ j u, css.flatten[j]? = some u → w.cell? ⟨b, o + j, none⟩ = some u
  | [], b, o, _ => ⟨[], trivial, fun j u h => by simp at h⟩
  | x :: r, b, o, h => by
    obtain ⟨⟨A, c, K, d, e0, e1, e2, e3, e4, hx⟩, hr⟩ := h
    obtain ⟨css, h1, h2⟩ := from_rows hr
    refine ⟨fieldsL x A c K d :: css, ⟨⟨A, c, K, d, rfl, hx⟩, h1⟩, fun j u hj => ?_⟩
    rw [List.flatten_cons] at hj
    match j, hj with
    | 0, hj => simp [fieldsL] at hj; subst hj; exact e0
    | 1, hj => simp [fieldsL] at hj; subst hj; exact e1
    | 2, hj => simp [fieldsL] at hj; subst hj; exact e2
    | 3, hj => simp [fieldsL] at hj; subst hj; exact e3
    | 4, hj => simp [fieldsL] at hj; subst hj; exact e4
    | j + 5, hj =>
      rw [List.getElem?_append_right (by simp [fieldsL])] at hj
      have := h2 j u (by simpa [fieldsL] using hj)
      rw [show o + (j + 5) = o + 5 + j by omega]; exact this
theorem one_cell {P : Nat → Prop} {w : World} : ∀ {l : List V} {css : List (List Value)}, RowsIn P w l css → ∀ u ∈ css.flatten, u.oneCell' = true
  | [], [], _, u, hu => by simp at hu
  | [], _ :: _, h, _, _ => h.elim
  | _ :: _, [], h, _, _ => h.elim
  | x :: r, cs :: css, h, u, hu => by
    rw [List.flatten_cons, List.mem_append] at hu
    rcases hu with hu | hu
    · obtain ⟨A, c, K, d, rfl, -⟩ := h.1
      simp only [fieldsL, List.mem_cons, List.not_mem_nil, or_false] at hu
      rcases hu with rfl | rfl | rfl | rfl | rfl <;> rfl
    · exact one_cell h.2 u hu
/-- A part of a row, wherever it lies, appended to an owned row. -/
theorem appendR (ty : TypeId) (W : World) (B : Nat) (v : Value) (k : Nat) (xs : List Value) (hown : W.ownsRow B 25 5 v k xs) (A : Option Addr) (m c : Nat) (news : List Value) (hl : news.length = m * 5) (hA : m = 0 ∨ ∃ a, A = some a ∧ ∀ j u, news[j]? = some u → W.cell? (a.add j) = some u) (h1 : ∀ u ∈ news, u.oneCell' = true) (hk : k + m ≤ 100000) (hB : B ≤ W.heap.size) :
    ∃ v' W', (Builtin.append_ #[22, 22] ty #[v, .slice A m c]).run Tryd.prog W = .ok v' W' ∧ W'.ownsRow B 25 5 v' (k + m) (xs ++ news) ∧ W.grownBy W' v.ownBlock := by
  obtain ⟨i0, hi, hz0, hz1, hz2⟩ := info_parts (P := Tryd.prog) (e := 25) (z := (.agg zeroF)) (size := 5) (bytes := 80) (by kernel_rfl)
  rcases Nat.eq_zero_or_pos m with rfl | hm
  · obtain rfl : news = [] := List.length_eq_zero_iff.1 (by omega)
    obtain ⟨a0, cap, rfl⟩ := own_form hown
    have hcap : k ≤ cap := by
      obtain ⟨_, ⟨he, h0⟩ | ⟨g, cap', cur, he, _, _, h1, _⟩⟩ := hown
      · simp only [Value.slice.injEq] at he; omega
      · simp only [Value.slice.injEq] at he; omega
    have hs : Src Tryd.prog i0.size 22 (.slice A 0 c) 0 [] W := by
      cases A with
      | none => exact Src.ofNil _ Tryd.underlying22 c
      | some a => exact Src.ofSlice W Tryd.underlying22 a 0 c [] (by simp) (fun j u hj => by simp at hj) (fun u hu => by cases hu)
    exact ⟨_, W, run_append_nothing (P := Tryd.prog) W 22 22 ty 25 i0 Tryd.underlying22 hi a0 k cap hcap _ hs, by simpa using hown, ⟨rfl, rfl, rfl, Nat.le_refl _, fun _ _ _ => rfl⟩⟩
  · obtain ⟨a, rfl, hnews⟩ : ∃ a, A = some a ∧ ∀ j u, news[j]? = some u → W.cell? (a.add j) = some u := hA.resolve_left (by omega)
    obtain ⟨v', W', hr, h2, h3, -⟩ := append_where (P := Tryd.prog) W B 22 ty 25 i0 (.agg zeroF) 5 80 Tryd.underlying22 hi hz0 hz1 hz2 rfl (by omega) v k xs hown a m c news hl hnews h1 (by unfold maxLen; omega) (by omega) hB hm
    exact ⟨v', W', hr, h2, h3⟩
theorem own_empty (W : World) (B : Nat) (hB : B ≤ W.heap.size) (e : TypeId) : (W.alloc (.cells #[] e)).ownsRow B e 5 (.slice (some ⟨W.heap.size, 0, none⟩) 0 0) 0 [] :=
  ⟨rfl, .inr ⟨W.heap.size, 0, #[], rfl, hB, BlockIs.new W e #[], Nat.le_refl _, by simp [maxLen], rfl, rfl⟩⟩
/-- A list that was made behind a world. -/
def Made (P : Nat → Prop) (W W' : World) (v : Value) (l : List V) : Prop :=
  ∃ A c, v = .slice A l.length c ∧ l.length ≤ c ∧ c ≤ maxLen ∧ (l = [] ∨ ∃ b o, A = some ⟨b, o, none⟩ ∧ (P b ∨ Fresh W W' b) ∧ LiesFromIn (fun b => P b ∨ Fresh W W' b) W' l b o)
theorem Made.of {P : Nat → Prop} {W W' : World} {v : Value} {l : List V} {css : List (List Value)} (ho : W'.ownsRow W.heap.size 25 5 v l.length css.flatten) (hr : RowsIn P W' l css) : Made P W W' v l := by
  obtain ⟨A, c, rfl, h1, h2, h3⟩ := rows_lie (P := fun b => P b ∨ Fresh W W' b) (RowsIn.keep (fun _ _ _ => rfl) (fun b hb => .inl hb) hr) ho (fun b hb => .inr (World.ownsRow.lt ho b hb))
  exact ⟨A, c, rfl, h1, h2, h3⟩
theorem Made.lies {P : Nat → Prop} {W W' : World} {v : Value} {l : List V} (h : Made P W W' v l) : ∃ A c, v = .slice A l.length c ∧ LiesIn (fun b => P b ∨ Fresh W W' b) W' (.mk 4 0 ⟨#[]⟩ l []) A c none 0 := by
  obtain ⟨A, c, rfl, h1, h2, h3⟩ := h
  exact ⟨A, c, rfl, by decide, h1, h2, ⟨Nat.le_refl _, by simp [maxLen], .inl rfl⟩, h3⟩
theorem none_below {W W' : World} {v : Value} (h : W.grownBy W' v.ownBlock) {B : Nat} (hB : B ≤ W.heap.size) (hv : ∀ b, v.ownBlock = some b → B ≤ b) : Below B W W' := below_grow h hB hv
/-- The three appends that lay an item into a list. -/
theorem putL (W : World) (B : Nat) (P : Nat → Prop) (hP : ∀ b, b < B → P b) (hPW : ∀ b, P b → b < W.heap.size) (L : List V) (y : V) (A4 : Option Addr) (c4 : Nat) (A6 K6 : Option Addr) (c6 d6 : Nat) (hL : LiesL W B A4 c4 L) (hy : LiesIn P W y A6 c6 K6 d6) (n : Nat) (hn : n ≤ L.length) (hlen : L.length ≤ 10000) :
    ∃ v1 W1 v2 W2, (Builtin.append_ #[22, 22] 22 #[.slice (some ⟨W.heap.size, 0, none⟩) 0 0, .slice A4 n c4]).run Tryd.prog (W.alloc (.cells #[] 25)) = .ok v1 W1 ∧
      (Builtin.append_ #[22, 22] 22 #[v1, .slice (some ⟨W1.heap.size, 0, none⟩) 1 1]).run Tryd.prog (W1.alloc (.cells #[.int .i64 y.kind, .int .i64 y.int, .string y.text, .slice A6 y.items.length c6, .slice K6 y.keys.length d6] 25)) = .ok v2 W2 ∧
      (∃ A c, v1 = .slice A n c) ∧ (∃ A c, v2 = .slice A (n + 1) c) ∧ Below W.heap.size W W1 ∧ Below W.heap.size W W2 ∧ (n = L.length → Made P W W2 v2 (L.take n ++ y :: L.drop (n + 1))) ∧
      (n < L.length → ∀ a, (L.length - (n + 1) = 0 ∨ ∃ b o, A4 = some ⟨b, o, none⟩ ∧ a = some ⟨b, o + (n + 1) * 5, none⟩) → ∃ v3 W3, (Builtin.append_ #[22, 22] 22 #[v2, .slice a (L.length - (n + 1)) (c4 - (n + 1))]).run Tryd.prog W2 = .ok v3 W3 ∧ (∃ A c, v3 = .slice A L.length c) ∧ Below W.heap.size W W3 ∧ Made P W W3 v3 (L.take n ++ y :: L.drop (n + 1))) := by
  obtain ⟨hL1, hL2, hL3⟩ := hL
  obtain ⟨css, hr, hc⟩ : ∃ css, RowsIn P W L css ∧ (L = [] ∨ ∃ b o, A4 = some ⟨b, o, none⟩ ∧ b < B ∧ ∀ j u, css.flatten[j]? = some u → W.cell? ⟨b, o + j, none⟩ = some u) := by
    rcases hL3 with rfl | ⟨b, o, rfl, hb, hf⟩
    · exact ⟨[], trivial, .inl rfl⟩
    · obtain ⟨css, h1, h2⟩ := from_rows (liesFrom_inn hP L hf)
      exact ⟨css, h1, .inr ⟨b, o, rfl, hb, h2⟩⟩
  have hfl := RowsIn.flat hr
  have hBW : ∀ b, b < B → b < W.heap.size := fun b hb => hPW b (hP b hb)
  have hone := one_cell hr
  obtain ⟨ht1, ht2⟩ := RowsIn.flat_take n hr
  have hcl := hr.length
  -- the first
  have hb0 : Below W.heap.size W (W.alloc (.cells #[] 25)) := below_al (Below.refl _ W) _
  obtain ⟨v1, W1, hr1, ho1, hg1⟩ := appendR 22 (W.alloc (.cells #[] 25)) W.heap.size (.slice (some ⟨W.heap.size, 0, none⟩) 0 0) 0 [] (own_empty W _ (Nat.le_refl _) _) A4 n c4 (css.take n).flatten (by rw [ht1, List.length_take]; omega) (by
    rcases hc with rfl | ⟨b, o, rfl, hb, h⟩
    · exact .inl (by simpa using hn)
    · refine .inr ⟨_, rfl, fun j u hj => ?_⟩
      rw [ht1] at hj
      have hlt := (List.getElem?_eq_some_iff.1 hj).1
      rw [List.length_take] at hlt
      rw [List.getElem?_take_of_lt (by omega)] at hj
      rw [Addr.add_lit]
      exact (bcell hb0 b (o + j) (hBW b hb)).trans (h j u hj)) (fun u hu => hone u (by rw [ht1] at hu; exact List.mem_of_mem_take hu)) (by omega) (by simp)
  rw [Nat.zero_add, List.nil_append] at ho1
  have hb1 : Below W.heap.size W W1 := hb0.trans (below_grow hg1 (by simp) (fun b hb => by simp [Value.ownBlock] at hb; omega))
  have hs1 := hb1.size
  -- the second
  have hb1a := below_al (Below.refl _ W1) (.cells #[.int .i64 y.kind, .int .i64 y.int, .string y.text, .slice A6 y.items.length c6, .slice K6 y.keys.length d6] 25)
  have ho1a := World.ownsRow.kept ho1 (grown_none hb1a) (by cases v1.ownBlock; exact .inl rfl; exact .inr (by simp))
  have hnew := BlockIs.new W1 25 #[.int .i64 y.kind, .int .i64 y.int, .string y.text, .slice A6 y.items.length c6, .slice K6 y.keys.length d6]
  obtain ⟨v2, W2, hr2, ho2, hg2⟩ := appendR 22 _ W.heap.size v1 n _ ho1a (some ⟨W1.heap.size, 0, none⟩) 1 1 (fieldsL y A6 c6 K6 d6) rfl (.inr ⟨_, rfl, fun j u hj => by
    rw [Addr.add_lit, Nat.zero_add, hnew.cell j]
    rw [← hj]; simp [fieldsL]⟩) (fun u hu => by simp only [fieldsL, List.mem_cons, List.not_mem_nil, or_false] at hu; rcases hu with rfl | rfl | rfl | rfl | rfl <;> rfl) (by omega) (by simp; omega)
  have hb2 : Below W.heap.size W W2 := hb1.trans ((hb1a.mono hs1).trans (below_grow hg2 (by simp; omega) (fun b hb => (World.ownsRow.lt ho1 b hb).1)))
  have hkeep : ∀ W', Below W.heap.size W W' → ∀ b o, P b → W'.cell? ⟨b, o, none⟩ = W.cell? ⟨b, o, none⟩ := fun W' h b o hb => bcell h b o (hPW b hb)
  have hyW : ∀ W', Below W.heap.size W W' → RowIn P W' y (fieldsL y A6 c6 K6 d6) := fun W' h => ⟨A6, c6, K6, d6, rfl, LiesIn.keep (hkeep W' h) (fun _ h => h) y hy⟩
  refine ⟨v1, W1, v2, W2, hr1, hr2, own_form ho1, own_form ho2, hb1, hb2, fun e => ?_, fun hlt a ha => ?_⟩
  · have hd : L.drop (n + 1) = [] := List.drop_eq_nil_of_le (by omega)
    rw [hd]
    refine Made.of (css := css.take n ++ [fieldsL y A6 c6 K6 d6]) ?_ ?_
    · rw [List.flatten_append, show (L.take n ++ [y]).length = n + 1 by rw [List.length_append, List.length_take]; simp; omega]
      simpa using ho2
    · exact RowsIn.append (ys := [y]) (dss := [fieldsL y A6 c6 K6 d6]) ⟨hyW W2 hb2, trivial⟩ ((hr.take n).keep (hkeep W2 hb2) fun _ h => h)
  · have hlen2 : (css.drop (n + 1)).flatten.length = (L.length - (n + 1)) * 5 := by
      have := RowsIn.flat (hr.drop (n + 1)); rw [this, List.length_drop]
    obtain ⟨v3, W3, hr3, ho3, hg3⟩ := appendR 22 W2 W.heap.size v2 (n + 1) _ ho2 a (L.length - (n + 1)) (c4 - (n + 1)) (css.drop (n + 1)).flatten hlen2 (by
      rcases ha with ha | ⟨b, o, e1, rfl⟩
      · exact .inl ha
      · refine .inr ⟨_, rfl, fun j u hj => ?_⟩
        rcases hc with rfl | ⟨b', o', e2, hb, h⟩
        · simp at hlt
        · rw [e1] at e2
          simp only [Option.some.injEq, Addr.mk.injEq] at e2
          obtain ⟨rfl, rfl, -⟩ := e2
          rw [(RowsIn.flat_take (n + 1) hr).2, List.getElem?_drop] at hj
          rw [Addr.add_lit, show o + (n + 1) * 5 + j = o + ((n + 1) * 5 + j) by omega]
          exact (bcell hb2 b _ (hBW b hb)).trans (h _ u hj)) (fun u hu => hone u (by rw [(RowsIn.flat_take (n + 1) hr).2] at hu; exact List.mem_of_mem_drop hu)) (by omega) (by have := hb2.size; omega)
    have hb3 : Below W.heap.size W W3 := hb2.trans (below_grow hg3 hb2.size (fun b hb => (World.ownsRow.lt ho2 b hb).1))
    have hall : n + 1 + (L.length - (n + 1)) = L.length := by omega
    rw [hall] at ho3
    refine ⟨v3, W3, hr3, own_form ho3, hb3, Made.of (css := css.take n ++ fieldsL y A6 c6 K6 d6 :: css.drop (n + 1)) ?_ ?_⟩
    · rw [List.flatten_append, List.flatten_cons, show (L.take n ++ y :: L.drop (n + 1)).length = L.length by rw [List.length_append, List.length_cons, List.length_take, List.length_drop]; omega]
      simpa using ho3
    · exact RowsIn.append (ys := y :: L.drop (n + 1)) (dss := fieldsL y A6 c6 K6 d6 :: css.drop (n + 1)) ⟨hyW W3 hb3, (hr.drop (n + 1)).keep (hkeep W3 hb3) fun _ h => h⟩ ((hr.take n).keep (hkeep W3 hb3) fun _ h => h)
/-- What the specification's put leaves: what is answered hangs on what was there and on what is new. -/
def RefP (B : Nat) (q : V × Int) (w : World) (e : Ending) (w' : World) : Prop :=
  ∃ A c K d, e = .returned (.tuple #[aggOf q.1 A c K d, .int .i64 q.2]) ∧ LiesIn (fun b => b < B ∨ Fresh w w' b) w' q.1 A c K d ∧ Below w.heap.size w w'
/-- Its boxes: the value, what is laid, what is answered, the step. -/
structure QB (w : World) (vc xc : Array Value) (i : Int) (k : ByteArray) (W : World) : Prop where
  old : Below w.heap.size w W
  bv : BlockIs W w.heap.size 25 vc
  bx : BlockIs W (w.heap.size + 1) 25 xc
  br : BlockIs W (w.heap.size + 2) 25 zeroF
  bs : BlockIs W (w.heap.size + 3) 51 #[.int .i64 i, .string k]
section
variable {w W W' : World} {vc xc : Array Value} {i : Int} {k : ByteArray} {B : Nat} {a b c d e u0 u1 u2 u3 u4 : Value} {y : V} {A K : Option Addr} {m q : Nat}
theorem QB.start (w : World) (vc xc : Array Value) (i : Int) (k : ByteArray) : QB w vc xc i k ((((w.alloc (.cells vc 25)).alloc (.cells xc 25)).alloc (.cells zeroF 25)).alloc (.cells #[.int .i64 i, .string k] 51)) :=
  ⟨below_al (below_al (below_al (below_al (Below.refl _ w) _) _) _) _, (((BlockIs.new w _ _).alloc _).alloc _).alloc _, ((BlockIs.newAt _ _ _ (by simp)).alloc _).alloc _, (BlockIs.newAt _ _ _ (by simp)).alloc _, BlockIs.newAt _ _ _ (by simp)⟩
theorem QB.on (h : QB w vc xc i k W) (hb : Below W.heap.size W W') : QB w vc xc i k W' := ⟨below_on h.old hb, h.bv.below hb h.bv.lt, h.bx.below hb h.bx.lt, h.br.below hb h.br.lt, h.bs.below hb h.bs.lt⟩
theorem QB.setv (h : QB w #[a, b, c, d, e] xc i k W) : QB w #[u0, u1, u2, u3, u4] xc i k (put5 W w.heap.size 0 u0 u1 u2 u3 u4) := by
  have hh := fun g (hg : g ≠ w.heap.size) => put5_heap W w.heap.size 0 u0 u1 u2 u3 u4 hg
  refine ⟨((((h.old.setCell (by simp) _).setCell (by simp) _).setCell (by simp) _).setCell (by simp) _).setCell (by simp) _, ?_, h.bx.to (hh _ (by omega)), h.br.to (hh _ (by omega)), h.bs.to (hh _ (by omega))⟩
  have := ((((h.bv.set_ 0 u0).set_ 1 u1).set_ 2 u2).set_ 3 u3).set_ 4 u4
  simpa [put5] using this
theorem QB.ends (h : QB w vc xc i k W) : Below w.heap.size w (put5 W (w.heap.size + 2) 0 u0 u1 u2 u3 u4) :=
  ((((h.old.setCell (by simp) _).setCell (by simp) _).setCell (by simp) _).setCell (by simp) _).setCell (by simp) _
theorem QB.size (h : QB w vc xc i k W) : w.heap.size + 4 ≤ W.heap.size := by have := h.bs.lt; omega
theorem QB.bad (h : QB w vc xc i k W) (r : Int) : RefP B (nullV, r) w (.returned (.tuple #[aggOf (leaf 0 0 ⟨#[]⟩) none 0 none 0, .int .i64 r])) (put5 W (w.heap.size + 2) 0 u0 u1 u2 u3 u4) :=
  ⟨none, 0, none, 0, rfl, lies_leaf _ _ 0 0 _ (by decide), h.ends⟩
/-- What was made behind the boxes, answered. -/
theorem QB.good (h : QB w vc xc i k W) (hB : B ≤ w.heap.size) (hl : LiesIn (fun b => b < B ∨ (w.heap.size + 4 ≤ b ∧ b < W.heap.size)) W y A m K q) : RefP B (y, 0) w (.returned (.tuple #[aggOf y A m K q, .int .i64 0])) (put5 W (w.heap.size + 2) 0 u0 u1 u2 u3 u4) := by
  have hs := put5_size W (w.heap.size + 2) 0 u0 u1 u2 u3 u4
  refine ⟨A, m, K, q, rfl, LiesIn.keep (fun b o hb => World.cell?_of_block (put5_heap W (w.heap.size + 2) 0 u0 u1 u2 u3 u4 ?_)) (fun b hb => hb.imp id fun hb => ⟨by omega, by rw [hs]; exact hb.2⟩) _ hl, h.ends⟩
  rcases (show b < B ∨ _ from hb) with hb | hb
  · show b ≠ w.heap.size + 2; omega
  · have := hb.1; show b ≠ w.heap.size + 2; omega
end
/-- Where it stands behind the inner put. -/
structure QC (B : Nat) (w : World) (vc xc : Array Value) (i : Int) (k : ByteArray) (g : Nat) (y : V) (A : Option Addr) (c : Nat) (K : Option Addr) (d : Nat) (y0 : V) (A4 : Option Addr) (c4 : Nat) (K4 : Option Addr) (d4 : Nat) (W : World) : Prop where
  qb : QB w vc xc i k W
  box : BlockIs W g 25 #[.int .i64 y.kind, .int .i64 y.int, .string y.text, .slice A y.items.length c, .slice K y.keys.length d]
  ly : LiesIn (fun b => b < B ∨ (w.heap.size + 4 ≤ b ∧ b < W.heap.size)) W y A c K d
  l0 : Lies W B y0 A4 c4 K4 d4
section
variable {B i' : Nat} {w w6 W5 : World} {vc xc : Array Value} {i : Int} {k : ByteArray} {y y0 : V} {A K A4 K4 : Option Addr} {c d c4 d4 : Nat}
theorem QC.after (h5 : QB w vc xc i k W5) (hB : B ≤ w.heap.size) (h0 : Lies W5 B y0 A4 c4 K4 d4) (h : LiesIn (fun b => b < B ∨ Fresh W5.drew w6 b) w6 y A c K d ∧ Below W5.drew.heap.size W5.drew w6) :
    QC B w vc xc i k w6.heap.size y A c K d y0 A4 c4 K4 d4 (w6.alloc (.cells #[.int .i64 y.kind, .int .i64 y.int, .string y.text, .slice A y.items.length c, .slice K y.keys.length d] 25)) := by
  obtain ⟨hl, h6⟩ := h
  have hb : Below W5.heap.size W5 w6 := ⟨h6.os, h6.tape, h6.output, h6.size, h6.block⟩
  have hs := h5.size
  have h6s := hb.size
  refine ⟨(h5.on hb).on (below_al (Below.refl _ w6) _), BlockIs.new w6 _ _, LiesIn.keep (fun b o hlt => World.cell?_alloc_lt _ _ _ ?_) (fun b hb => hb.imp id fun hb => ⟨?_, ?_⟩) _ hl, h0.keep (fun b o hlt => bcell (below_al hb _) b o (by omega)) (Nat.le_refl _) y0⟩
  · show b < w6.heap.size
    rcases (show b < B ∨ Fresh W5.drew w6 b from hlt) with h | h
    · omega
    · exact h.2
  · have := hb.1; have e : W5.drew.heap.size = W5.heap.size := rfl; omega
  · have := hb.2; simp; omega
theorem QC.ahead (h5 : QB w vc xc i k W5) (hB : B ≤ w.heap.size) (h0 : Lies W5 B y0 A4 c4 K4 d4) (h : LiesIn (fun b => b < B ∨ Fresh (W5.drew.alloc (.cells zeroF 25)) w6 b) w6 y A c K d ∧ Below (W5.drew.alloc (.cells zeroF 25)).heap.size (W5.drew.alloc (.cells zeroF 25)) w6) :
    QC B w vc xc i k W5.heap.size y A c K d y0 A4 c4 K4 d4 (put5 w6 W5.heap.size 0 (.int .i64 y.kind) (.int .i64 y.int) (.string y.text) (.slice A y.items.length c) (.slice K y.keys.length d)) := by
  obtain ⟨hl, h6⟩ := h
  have hb1 : Below W5.heap.size W5 (W5.drew.alloc (.cells zeroF 25)) := below_al (Below.refl _ W5).drew _
  have hz1 : (W5.drew.alloc (.cells zeroF 25)).heap.size = W5.heap.size + 1 := by simp
  have hb : Below W5.heap.size W5 w6 := hb1.trans (h6.mono (by omega))
  have hs := h5.size
  have h6s := h6.size
  have hbox : BlockIs w6 W5.heap.size 25 zeroF := (show BlockIs (W5.drew.alloc (.cells zeroF 25)) W5.heap.size 25 zeroF from BlockIs.new W5.drew _ _).below h6 (by omega)
  have hp : Below W5.heap.size W5 (put5 w6 W5.heap.size 0 (.int .i64 y.kind) (.int .i64 y.int) (.string y.text) (.slice A y.items.length c) (.slice K y.keys.length d)) := below_put5 hb (Nat.le_refl _) _ _ _ _ _
  refine ⟨h5.on hp, ?_, LiesIn.keep (fun b o hlt => World.cell?_of_block (put5_heap _ _ _ _ _ _ _ _ ?_)) (fun b hb => hb.imp id fun hb => ⟨?_, ?_⟩) _ hl, h0.keep (fun b o hlt => bcell hp b o (by omega)) (Nat.le_refl _) y0⟩
  · have := ((((hbox.set_ 0 (.int .i64 y.kind)).set_ 1 (.int .i64 y.int)).set_ 2 (.string y.text)).set_ 3 (.slice A y.items.length c)).set_ 4 (.slice K y.keys.length d)
    simpa [put5, zeroF] using this
  · show b ≠ W5.heap.size
    rcases (show b < B ∨ Fresh _ w6 b from hlt) with h | h
    · omega
    · have := h.1; omega
  · have := hb.1; omega
  · rw [put5_size]; exact hb.2
end
/-- Another error from within. -/
theorem QC.bad {B g : Nat} {w W : World} {vc xc : Array Value} {i : Int} {k : ByteArray} {y y0 : V} {A K A4 K4 : Option Addr} {c d c4 d4 : Nat} {u0 u1 u2 u3 u4 : Value} (h : QC B w vc xc i k g y A c K d y0 A4 c4 K4 d4 W) (r : Int) :
    RefP B (nullV, r) w (.returned (.tuple #[aggOf (leaf 0 0 ⟨#[]⟩) none 0 none 0, .int .i64 r])) (put5 W (w.heap.size + 2) 0 u0 u1 u2 u3 u4) := h.qb.bad r
theorem RefP.end_ {B : Nat} {z : V} {w w' : World} {A K : Option Addr} {c d : Nat} (h : Lies w B z A c K d) (hB : B ≤ w.heap.size) (hb : Below w.heap.size w w') : RefP B (z, 0) w (.returned (.tuple #[aggOf z A c K d, .int .i64 0])) w' :=
  ⟨A, c, K, d, rfl, lies_inn (fun b hb => .inl hb) z (Lies.keep (fun b o hlt => bcell hb b o (by omega)) (Nat.le_refl _) z h), hb⟩
theorem QB.goodL {w W : World} {vc xc : Array Value} {i : Int} {k : ByteArray} {B n m : Nat} {u0 u1 u2 u3 u4 : Value} {l : List V} {A : Option Addr} (h : QB w vc xc i k W) (hB : B ≤ w.heap.size) (hn : l.length = n) (hl : LiesIn (fun b => b < B ∨ (w.heap.size + 4 ≤ b ∧ b < W.heap.size)) W (.mk 4 0 ⟨#[]⟩ l []) A m none 0) :
    RefP B (.mk 4 0 ⟨#[]⟩ l [], 0) w (.returned (.tuple #[.agg #[.int .i64 4, .int .i64 0, .string ⟨#[]⟩, .slice A n m, .slice none 0 0], .int .i64 0])) (put5 W (w.heap.size + 2) 0 u0 u1 u2 u3 u4) := by
  subst hn
  exact h.good hB hl
theorem kindV_ok {x : V} (h : x.ok = true) (s : Stp) (_hs : (kindV x s).kind = holderS s) : (kindV x s).ok = true := by
  unfold kindV
  split
  · rename_i h0
    rw [null_of h h0]
    unfold holderS
    split
    · exact (by decide : (V.mk 5 0 ⟨#[]⟩ [] []).ok = true)
    · exact (by decide : (V.mk 4 0 ⟨#[]⟩ [] []).ok = true)
  · exact h
theorem kindV_null {x : V} (h : x.ok = true) (h0 : x.kind = 0) (s : Stp) : kindV x s = leaf (holderS s) 0 ⟨#[]⟩ := by
  unfold kindV
  rw [if_pos h0, null_of h h0]
  rfl
/-- An item, or null. -/
theorem item_or (B : Nat) (x : V) (s : Stp) (w : World) (A K : Option Addr) (c d : Nat) (hBw : B ≤ w.heap.size) (h : Lies w B x A c K d) (hok : x.ok = true) :
    Calls Tryd.prog 59 #[aggOf x A c K d, stepV s] w fun e w' => ∃ A c K d b, e = .returned (.tuple #[aggOf ((itemV x s).getD nullV) A c K d, .bool b]) ∧ Lies w' B ((itemV x s).getD nullV) A c K d ∧ Below w.heap.size w w' := by
  refine (item_any B x s w A K c d hBw h hok).mono ?_
  rintro e w' ⟨hb, he⟩
  cases hi : itemV x s with
  | none =>
    rw [hi] at he
    exact ⟨none, 0, none, 0, false, he, leaf_lies _ _ 0 0 (by decide), hb⟩
  | some y =>
    rw [hi] at he
    obtain ⟨A, c, K, d, he, hl⟩ := he
    exact ⟨A, c, K, d, true, he, hl, hb⟩
set_option maxRecDepth 100000 in
set_option maxHeartbeats 1000000 in
theorem refPut_end (B : Nat) (x z : V) (w : World) (A K : Option Addr) (c d : Nat) (Ap : Option Addr) (cp : Nat) (Az Kz : Option Addr) (cz dz : Nat) (hB : B ≤ w.heap.size) (hz : Lies w B z Az cz Kz dz) :
    Calls Tryd.prog 63 #[.agg #[.int .i64 x.kind, .int .i64 x.int, .string x.text, .slice A x.items.length c, .slice K x.keys.length d], .slice Ap 0 cp, .agg #[.int .i64 z.kind, .int .i64 z.int, .string z.text, .slice Az z.items.length cz, .slice Kz z.keys.length dz]] w (RefP B (putR x [] z) w) := by
  have HZ := Lib.hid hz
  have HB := Lib.hid hB
  rw [show putR x [] z = (z, 0) by simp [putR, putV]]
  clear hz hB
  go_enter Tryd.func63, Tryd.ntmps63
  go_wp2_with fail
  refine bodyPost_ret (v := .tuple #[aggOf z Az cz Kz dz, .int .i64 0]) (by simp [results, Tryd.results63, go_sem, aggOf]) rfl ?_
  exact RefP.end_ HZ.out HB.out (below_al (below_al (below_al (Below.refl _ w) _) _) _)
end Go.Proofs.YtmhijdpahejaiaaDoor
