/- A value laid at a path, and an item taken out, as the specification says it: plain. -/
import Derived.Test.YtchadlbhdcpojaaGreatDoorTb
import Derived.Test.YtchadlbhdcpojaaGreatDoorTm
import Derived.Test.YtchadlbhdcpojaaGreatDoorRy
namespace Go.Proofs.YtchadlbhdcpojaaGreatDoor
open Go.RowKit

/-- What the specification's put answers. -/
def putR (x : V) (p : List Stp) (z : V) : V × Int := if (putV x p z).2 = 0 then putV x p z else (nullV, (putV x p z).2)
/-- The value with another item at a step. -/
def newR (x : V) (s : Stp) (y : V) : V :=
  if s.1 < 0 then .mk 5 0 ⟨#[]⟩ (withK s.2 y false (kindV x s).keys (kindV x s).items).2 (withK s.2 y false (kindV x s).keys (kindV x s).items).1
  else .mk 4 0 ⟨#[]⟩ ((kindV x s).items.take s.1.toNat ++ y :: (kindV x s).items.drop (s.1.toNat + 1)) []
theorem withK_set (k : ByteArray) (x : V) : ∀ (ks : List ByteArray) (l : List V), ks.length = l.length → Rising ks → k ∈ ks → withK k x false ks l = (ks, l.set (posK k ks) x)
  | [], _, _, _, h => by simp at h
  | _ :: _, [], h, _, _ => by simp at h
  | kk :: ks, y :: l, h, hr, hk => by
    have hl : ks.length = l.length := by simpa using h
    rw [Rising, List.pairwise_cons] at hr
    rw [withK, posK]
    cases hb : ltB kk k
    · have he : kk = k := by
        rcases List.mem_cons.1 hk with e | e
        · exact e.symm
        · rw [hr.1 k e] at hb; cases hb
      have hn : ¬ k ∈ ks := fun e => by
        have := hr.1 k e
        rw [he, ltB_irrefl] at this
        cases this
      rw [if_pos ⟨rfl, rfl⟩, if_pos he, withK_done k x ks l hl hn]
      simp [he]
    · have he : ¬ kk = k := fun e => by rw [e, ltB_irrefl] at hb; cases hb
      have hk' : k ∈ ks := by
        rcases List.mem_cons.1 hk with e | e
        · exact absurd e.symm he
        · exact e
      rw [if_neg (by simp), if_neg he, withK_set k x ks l hl hr.2 hk']
      simp
theorem empty_ok {t : ByteArray} (e : t.data.toList.isEmpty = true) : t = ⟨#[]⟩ := ByteArray.ext (Array.ext' (by simpa using e))
/-- A valid value of a kind with items says nothing else. -/
theorem bare_ok {x : V} (h : x.ok = true) (h45 : x.kind = 4 ∨ x.kind = 5) : x.int = 0 ∧ x.text = ⟨#[]⟩ := by
  obtain ⟨k, i, t, l, ks⟩ := x
  rw [V.ok, Bool.and_eq_true] at h
  obtain ⟨hs, -⟩ := h
  simp only [V.kind] at h45
  have hh : (i == 0 && t.data.toList.isEmpty) = true := by
    rcases h45 with rfl | rfl
    · rw [V.sound, if_neg (by omega), if_neg (by omega), if_neg (by omega), if_neg (by omega), if_pos rfl, Bool.and_eq_true] at hs
      exact hs.1
    · rw [V.sound, if_neg (by omega), if_neg (by omega), if_neg (by omega), if_neg (by omega), if_neg (by omega), if_pos rfl, Bool.and_eq_true, Bool.and_eq_true] at hs
      exact hs.1.1
  rw [Bool.and_eq_true, beq_iff_eq] at hh
  exact ⟨hh.1, empty_ok hh.2⟩
theorem null_of {x : V} (h : x.ok = true) (h0 : x.kind = 0) : x = nullV := by
  obtain ⟨k, i, t, l, ks⟩ := x
  rw [V.ok, Bool.and_eq_true] at h
  obtain ⟨hs, -⟩ := h
  simp only [V.kind] at h0
  subst h0
  rw [V.sound, if_pos rfl, Bool.and_eq_true, Bool.and_eq_true, Bool.and_eq_true, beq_iff_eq, beq_iff_eq, beq_iff_eq] at hs
  obtain ⟨⟨h1, h2⟩, h3, h4⟩ := hs
  have h2' := empty_ok h2
  have h3' := List.length_eq_zero_iff.1 h3
  have h4' := List.length_eq_zero_iff.1 h4
  subst h1 h2' h3' h4'
  rfl
theorem kindV_bare {x : V} {s : Stp} (h : x.ok = true) (h1 : (kindV x s).kind = holderS s) : (kindV x s).int = 0 ∧ (kindV x s).text = ⟨#[]⟩ := by
  unfold kindV at h1 ⊢
  split
  · rename_i h0
    rw [null_of h h0]
    exact ⟨rfl, rfl⟩
  · rename_i h0
    rw [if_neg h0] at h1
    refine bare_ok h ?_
    rw [h1, holderS]
    split
    · exact .inr rfl
    · exact .inl rfl
theorem newR_is {x y : V} {s : Stp} (hok : x.ok = true) (h1 : (kindV x s).kind = holderS s) (h2 : ¬ s.1 > x.items.length) :
    setIt (roomV (kindV x s) s) (whereV (kindV x s) s) y = newR x s y := by
  have hf := (fit_of hok).kindV s
  obtain ⟨hb1, hb2⟩ := kindV_bare hok h1
  have hi : (kindV x s).items = x.items := by unfold kindV; split <;> rfl
  have h2' : ¬ s.1 > (kindV x s).items.length := by rw [hi]; exact h2
  unfold newR
  clear hi h2 hok
  generalize kindV x s = x' at h1 hf hb1 hb2 h2' ⊢
  obtain ⟨i, k⟩ := s
  by_cases h0 : i < 0
  · have h5 : x'.kind = 5 := by rw [h1, holderS, if_pos h0]
    have hw : whereV x' (i, k) = posK k x'.keys := by simp [whereV, findV, show ¬ 0 ≤ i by omega]
    have hl := hf.five h5
    rw [if_pos h0, hw]
    by_cases hh : hasK k x'.keys = true
    · rw [show roomV x' (i, k) = x' by unfold roomV; rw [if_pos (by simp [findV, show ¬ 0 ≤ i by omega, hh])], withK_set k y x'.keys x'.items hl hf.rise ((hasK_iff _ _).1 hh), setIt, h5, hb1, hb2]
    · have hn : ¬ k ∈ x'.keys := fun e => hh ((hasK_iff _ _).2 e)
      have hle := posK_le k x'.keys
      rw [withK_ins k y x'.keys x'.items hl hn]
      unfold roomV
      rw [if_neg (by simp [findV, show ¬ 0 ≤ i by omega, hh]), if_pos h5, hw, setIt]
      simp only [mkK, mkN, mkT, mkI, mkY, insK]
      rw [h5, hb1, hb2, List.set_append]
      have e : (x'.items.take (posK k x'.keys)).length = posK k x'.keys := by rw [List.length_take]; omega
      simp [e]
  · have h4 : x'.kind = 4 := by rw [h1, holderS, if_neg h0]
    have hw : whereV x' (i, k) = i.toNat := by simp [whereV, findV, show 0 ≤ i by omega]
    have hk := hf.none (by omega)
    simp only at h2' ⊢
    rw [if_neg h0, hw]
    by_cases hlt : i.toNat < x'.items.length
    · rw [show roomV x' (i, k) = x' by unfold roomV; rw [if_pos (by simp [findV, show 0 ≤ i by omega, h4]; omega)], setIt, h4, hb1, hb2, hk, List.set_eq_take_append_cons_drop, if_pos hlt]
    · unfold roomV
      rw [if_neg (by simp [findV, show 0 ≤ i by omega, h4]; omega), if_neg (by omega), hw, setIt]
      simp only [mkK, mkN, mkT, mkI, mkY]
      rw [h4, hb1, hb2, hk, List.set_append]
      have e : (x'.items.take i.toNat).length = i.toNat := by rw [List.length_take]; omega
      rw [List.drop_eq_nil_of_le (show x'.items.length ≤ i.toNat by omega), List.drop_eq_nil_of_le (show x'.items.length ≤ i.toNat + 1 by omega)]
      simp [e]
theorem putR_type {x z : V} {s : Stp} {r : List Stp} (h1 : ¬ (kindV x s).kind = holderS s) : putR x (s :: r) z = (nullV, 8) := by
  have e : putV x (s :: r) z = (nullV, 8) := by rw [putV, if_pos h1]
  unfold putR
  rw [e, if_neg (by decide)]
theorem putR_arg {x z : V} {s : Stp} {r : List Stp} (h1 : (kindV x s).kind = holderS s) (h2 : s.1 > x.items.length) : putR x (s :: r) z = (nullV, 3) := by
  have hi : (kindV x s).items = x.items := by unfold kindV; split <;> rfl
  have e : putV x (s :: r) z = (nullV, 3) := by rw [putV, if_neg (by simpa using h1), if_pos (by rw [hi]; exact h2)]
  unfold putR
  rw [e, if_neg (by decide)]
theorem putR_cons {x z : V} {s : Stp} {r : List Stp} (hok : x.ok = true) (hs : stepB s = true) (h1 : (kindV x s).kind = holderS s) (h2 : ¬ s.1 > x.items.length) :
    putR x (s :: r) z = if (putR ((itemV x s).getD nullV) r z).2 = 0 then (newR x s (putR ((itemV x s).getD nullV) r z).1, 0) else (nullV, (putR ((itemV x s).getD nullV) r z).2) := by
  have hi : (kindV x s).items = x.items := by unfold kindV; split <;> rfl
  have hl : ¬ s.1 > (kindV x s).items.length := by rw [hi]; exact h2
  obtain ⟨-, -, h3, -, -⟩ := room_items ((fit_of hok).kindV s) h1 hs hl nullV
  rw [kindV_item (fit_of hok)] at h3
  have e : putV x (s :: r) z = (newR x s (putV ((itemV x s).getD nullV) r z).1, (putV ((itemV x s).getD nullV) r z).2) := by
    rw [putV, if_neg (by simpa using h1), if_neg hl, h3, newR_is hok h1 h2]
  unfold putR
  rw [e]
  by_cases h0 : (putV ((itemV x s).getD nullV) r z).2 = 0
  · simp [h0]
  · simp [h0]
/-- A list without its n-th, or with another one there. -/
def cutL {α : Type} (last : Bool) (n : Nat) (y : α) (l : List α) : List α := if last = true then l.eraseIdx n else l.set n y
theorem take_more {α : Type} {l : List α} {j : Nat} {a : α} (h : l[j]? = some a) : l.take (j + 1) = l.take j ++ [a] ∧ (l.take j).length = j := by
  have hj := (List.getElem?_eq_some_iff.1 h).1
  exact ⟨by rw [List.take_add_one, h]; rfl, by rw [List.length_take]; omega⟩
theorem cutL_skip {α : Type} {l : List α} {n : Nat} {a y : α} (h : l[n]? = some a) : cutL true n y (l.take (n + 1)) = cutL true n y (l.take n) := by
  obtain ⟨h1, h2⟩ := take_more h
  simp only [cutL, if_true]
  have e : (l.take n).eraseIdx n = l.take n := List.eraseIdx_of_length_le (by omega)
  rw [h1, e, List.eraseIdx_append_of_length_le (by omega), h2, Nat.sub_self]
  simp
end Go.Proofs.YtchadlbhdcpojaaGreatDoor
