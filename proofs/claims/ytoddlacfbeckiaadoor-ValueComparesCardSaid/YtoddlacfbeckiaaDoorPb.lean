/- The order of values, on trees. -/
import Derived.Test.YtoddlacfbeckiaaDoorPa
namespace Go.Proofs.YtoddlacfbeckiaaDoor
open Go

def cmpI (a b : Int) : Int := if a < b then -1 else if b < a then 1 else 0
def cmpS (a b : ByteArray) : Int := if ltB a b then -1 else if a.toList == b.toList then 0 else 1
def sgn (lt eq : Bool) : Int := if eq then 0 else if lt then -1 else 1

mutual
def V.cmp : V → V → Int
  | .mk k i t l ks, .mk k' i' t' l' ks' =>
    if k = k' then
      if k = 1 ∨ k = 2 then cmpI i i' else if k = 3 then cmpS t t' else V.cmpL (k == 5) l ks l' ks'
    else cmpI k k'
def V.cmpL (o : Bool) : List V → List ByteArray → List V → List ByteArray → Int
  | [], _, [], _ => 0
  | [], _, _ :: _, _ => -1
  | _ :: _, _, [], _ => 1
  | x :: r, ks, y :: s, ks' =>
    if o && !((ks.headD ByteArray.empty).toList == (ks'.headD ByteArray.empty).toList) then cmpS (ks.headD ByteArray.empty) (ks'.headD ByteArray.empty)
    else if x.cmp y = 0 then V.cmpL o r ks.tail s ks'.tail else x.cmp y
end

theorem drop_at {α : Type} {l : List α} {k : Nat} {x : α} (h : l[k]? = some x) : l.drop k = x :: l.drop (k + 1) := by
  obtain ⟨hk, e⟩ := List.getElem?_eq_some_iff.1 h
  rw [List.drop_eq_getElem_cons hk, e]
theorem headD_drop {α : Type} {l : List α} {k : Nat} {x : α} (d : α) (h : l[k]? = some x) : (l.drop k).headD d = x := by rw [drop_at h]; rfl
theorem tail_drop' {α : Type} (l : List α) (k : Nat) : (l.drop k).tail = l.drop (k + 1) := by rw [List.tail_drop]

/-- What is left to compare after k items. -/
def cmpAt (o : Bool) (l : List V) (ks : List ByteArray) (l' : List V) (ks' : List ByteArray) (k : Nat) : Int := V.cmpL o (l.drop k) (ks.drop k) (l'.drop k) (ks'.drop k)
theorem cmpAt_key {o : Bool} {l l' : List V} {ks ks' : List ByteArray} {k : Nat} {x y : V} {s s' : ByteArray} (hx : l[k]? = some x) (hy : l'[k]? = some y) (hs : ks[k]? = some s) (hs' : ks'[k]? = some s') (ho : o = true) (hne : (s.toList == s'.toList) = false) :
    cmpAt o l ks l' ks' k = cmpS s s' := by
  unfold cmpAt
  rw [drop_at hx, drop_at hy, V.cmpL, headD_drop _ hs, headD_drop _ hs', ho, hne]
  rfl
theorem cmpAt_next {o : Bool} {l l' : List V} {ks ks' : List ByteArray} {k : Nat} {x y : V} (hx : l[k]? = some x) (hy : l'[k]? = some y)
    (ho : o = true → ∃ s s', ks[k]? = some s ∧ ks'[k]? = some s' ∧ (s.toList == s'.toList) = true) :
    cmpAt o l ks l' ks' k = if x.cmp y = 0 then cmpAt o l ks l' ks' (k + 1) else x.cmp y := by
  unfold cmpAt
  rw [drop_at hx, drop_at hy, V.cmpL, tail_drop', tail_drop']
  have : (o && !(((ks.drop k).headD ByteArray.empty).toList == ((ks'.drop k).headD ByteArray.empty).toList)) = false := by
    cases o
    · rfl
    · obtain ⟨s, s', h1, h2, h3⟩ := ho rfl
      rw [headD_drop _ h1, headD_drop _ h2, h3]; rfl
  rw [this]
  rfl
theorem cmpAt_end {o : Bool} {l l' : List V} {ks ks' : List ByteArray} {k : Nat} (hk : l.length ≤ k ∨ l'.length ≤ k) (h1 : k ≤ l.length) (h2 : k ≤ l'.length) :
    cmpAt o l ks l' ks' k = cmpI l.length l'.length := by
  unfold cmpAt cmpI
  rcases hk with h | h
  · rw [List.drop_of_length_le h]
    by_cases h' : l'.length ≤ k
    · rw [List.drop_of_length_le h', V.cmpL, if_neg (by omega), if_neg (by omega)]
    · obtain ⟨y, hy⟩ : ∃ y, l'[k]? = some y := ⟨_, List.getElem?_eq_getElem (by omega)⟩
      rw [drop_at hy, V.cmpL, if_pos (by omega)]
  · rw [List.drop_of_length_le h]
    by_cases h' : l.length ≤ k
    · rw [List.drop_of_length_le h', V.cmpL, if_neg (by omega), if_neg (by omega)]
    · obtain ⟨y, hy⟩ : ∃ y, l[k]? = some y := ⟨_, List.getElem?_eq_getElem (by omega)⟩
      rw [drop_at hy, V.cmpL, if_neg (by omega), if_pos (by omega)]
theorem cmpAt_zero (o : Bool) (l l' : List V) (ks ks' : List ByteArray) : cmpAt o l ks l' ks' 0 = V.cmpL o l ks l' ks' := rfl

theorem bytesLess_irrefl (l : List UInt8) : Op.bytesLess l l = false := by
  induction l with
  | nil => rfl
  | cons a r ih => rw [Op.bytesLess, ih]; simp
theorem cmpS_eq (a b : ByteArray) : cmpS a b = sgn (Op.bytesLess a.toList b.toList) (a.toList == b.toList) := by
  unfold cmpS sgn ltB
  cases h : a.toList == b.toList
  · simp
  · have e : a.toList = b.toList := by simpa using h
    rw [e, bytesLess_irrefl]; simp
theorem cmpI_eq (a b : Int) : cmpI a b = sgn (decide (a < b)) (a == b) := by
  unfold cmpI sgn
  by_cases h : a = b
  · subst h; simp
  · rcases Int.lt_or_gt_of_ne h with h1 | h1
    · simp [h, h1]
    · simp [h, h1]
theorem ok_keys {k i : Int} {t : ByteArray} {l : List V} {ks : List ByteArray} (h : V.ok (.mk k i t l ks) = true) (h5 : k = 5) : ks.length = l.length := by
  subst h5
  rw [V.ok] at h
  simp [V.sound] at h
  exact h.1.1.2
theorem ok_items {k i : Int} {t : ByteArray} {l : List V} {ks : List ByteArray} (h : V.ok (.mk k i t l ks) = true) : V.okL l = true := by
  rw [V.ok] at h; simp at h; exact h.2
end Go.Proofs.YtoddlacfbeckiaaDoor
