/- Steps, paths, and what is at a path: plain. -/
import Derived.Test.YtchadlbhdcpojaaGreatDoorPv
import Derived.Test.YtchadlbhdcpojaaGreatDoorMb
namespace Go.Proofs.YtchadlbhdcpojaaGreatDoor
open Go.RowKit

/-- A step: its index and its key. -/
abbrev Stp := Int × ByteArray
/-- Whether a step, a path is valid. -/
def stepB (s : Stp) : Bool := if s.1 = -1 then textB s.2.data.toList else (decide (0 ≤ s.1) && decide (s.1 ≤ 99)) && decide (s.2 = ⟨#[]⟩)
def pathB (p : List Stp) : Bool := decide (p.length ≤ 6) && p.all stepB
/-- Where the item of a step is, and whether it is there. -/
def findV (x : V) (s : Stp) : Int × Bool := if 0 ≤ s.1 then (s.1, decide (x.kind = 4) && decide (s.1 < x.items.length)) else ((posK s.2 x.keys : Nat), hasK s.2 x.keys)
/-- The item of a step. -/
def itemV (x : V) (s : Stp) : Option V := if 0 ≤ s.1 then (if x.kind = 4 then x.items[s.1.toNat]? else none) else if hasK s.2 x.keys = true then x.items[posK s.2 x.keys]? else none
theorem posK_at {keys : List ByteArray} {k : ByteArray} (h : Rising keys) {i : Nat} (hi : keys[i]? = some k) : posK k keys = i := by
  induction keys generalizing i with
  | nil => simp at hi
  | cons y r ih =>
    rw [Rising, List.pairwise_cons] at h
    rw [posK]
    cases i with
    | zero => simp at hi; subst hi; rw [ltB_irrefl]; simp
    | succ i =>
      simp at hi
      rw [h.1 k (List.mem_of_getElem? hi), if_pos rfl, ih h.2 hi]
theorem step_list {x : V} {i : Int} {t : ByteArray} (h0 : 0 ≤ i) (h4 : x.kind = 4) (hl : ¬ (x.items.length : Int) ≤ i) : ∃ y, itemV x (i, t) = some y ∧ x.items[i.toNat]? = some y := by
  have : i.toNat < x.items.length := by omega
  exact ⟨_, by simp [itemV, h0, h4, List.getElem?_eq_getElem this], List.getElem?_eq_getElem this⟩
theorem step_key {x : V} {i : Int} {t : ByteArray} (h0 : ¬ 0 ≤ i) (hr : Rising x.keys) (hl : x.keys.length = x.items.length) {j : Nat} (hj : x.keys[j]? = some t) : ∃ y, itemV x (i, t) = some y ∧ x.items[j]? = some y := by
  have hlt : j < x.items.length := by rw [← hl]; exact (List.getElem?_eq_some_iff.1 hj).1
  refine ⟨_, ?_, List.getElem?_eq_getElem hlt⟩
  unfold itemV
  rw [if_neg h0, if_pos ((hasK_iff _ _).2 (List.mem_of_getElem? hj)), posK_at hr hj]
  exact List.getElem?_eq_getElem hlt
theorem step_nokey {x : V} {i : Int} {t : ByteArray} (h0 : ¬ 0 ≤ i) (hn : ∀ j, j < x.keys.length → x.keys[j]? ≠ some t) : itemV x (i, t) = none := by
  unfold itemV
  rw [if_neg h0, if_neg]
  intro e
  obtain ⟨j, hj, he⟩ := List.getElem_of_mem ((hasK_iff _ _).1 e)
  exact hn j hj (by rw [List.getElem?_eq_getElem hj]; exact congrArg some he)
/-- What is at a path. -/
def atV : V → List Stp → Option V
  | x, [] => some x
  | x, s :: r => match itemV x s with | none => none | some y => atV y r
theorem at_step {y : V} {p : List Stp} {j : Nat} {s : Stp} (h : p[j]? = some s) : atV y (p.drop j) = match itemV y s with | none => none | some z => atV z (p.drop (j + 1)) := by
  obtain ⟨hj, rfl⟩ := List.getElem?_eq_some_iff.1 h
  rw [List.drop_eq_getElem_cons hj]
  rfl
theorem at_end {y : V} {p : List Stp} {j n : Nat} (hn : n = p.length) (hj : ¬ j < n) : atV y (p.drop j) = some y := by
  rw [List.drop_eq_nil_of_le (by omega)]; rfl
theorem item_mem {x y : V} {s : Stp} (h : itemV x s = some y) : y ∈ x.items := by
  unfold itemV at h
  split at h
  · split at h
    · exact List.mem_of_getElem? h
    · cases h
  · split at h
    · exact List.mem_of_getElem? h
    · cases h
theorem find_item {x : V} {s : Stp} (hok : x.ok = true) (h : (findV x s).2 = true) : ∃ (i : Nat) (y : V), (findV x s).1 = i ∧ x.items[i]? = some y ∧ itemV x s = some y := by
  obtain ⟨i, t⟩ := s
  obtain ⟨hr, h1, h2⟩ := okk hok
  by_cases h0 : 0 ≤ i
  · rw [show findV x (i, t) = (i, decide (x.kind = 4) && decide (i < x.items.length)) by simp [findV, h0]] at h ⊢
    simp only [Bool.and_eq_true, decide_eq_true_eq] at h
    obtain ⟨y, hy1, hy2⟩ := step_list (t := t) h0 h.1 (by omega)
    exact ⟨i.toNat, y, by simp only; omega, hy2, hy1⟩
  · rw [show findV x (i, t) = (((posK t x.keys : Nat) : Int), hasK t x.keys) by simp [findV, h0]] at h ⊢
    have hm := (hasK_iff _ _).1 h
    have hk : x.keys[posK t x.keys]? = some t := (posK_here t hr).1 hm
    have h5 : x.kind = 5 := by
      by_cases h5 : x.kind = 5
      · exact h5
      · rw [h1 h5] at hm; cases hm
    obtain ⟨y, hy1, hy2⟩ := step_key h0 hr (h2 h5) hk
    exact ⟨_, y, rfl, hy2, hy1⟩
theorem find_none {x : V} {s : Stp} (h : (findV x s).2 = false) : itemV x s = none := by
  obtain ⟨i, t⟩ := s
  by_cases h0 : 0 ≤ i
  · rw [show findV x (i, t) = (i, decide (x.kind = 4) && decide (i < x.items.length)) by simp [findV, h0]] at h
    unfold itemV
    rw [if_pos h0]
    by_cases h4 : x.kind = 4
    · rw [if_pos h4, List.getElem?_eq_none]
      simp [h4] at h
      omega
    · rw [if_neg h4]
  · rw [show findV x (i, t) = (((posK t x.keys : Nat) : Int), hasK t x.keys) by simp [findV, h0]] at h
    unfold itemV
    rw [if_neg h0, if_neg (by rw [show hasK t x.keys = false from h]; simp)]
end Go.Proofs.YtchadlbhdcpojaaGreatDoor
