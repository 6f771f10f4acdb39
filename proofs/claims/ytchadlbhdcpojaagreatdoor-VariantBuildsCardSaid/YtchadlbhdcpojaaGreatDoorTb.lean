/- A value laid at a path, as the program lays it: plain. -/
import Derived.Test.YtchadlbhdcpojaaGreatDoorPc
namespace Go.Proofs.YtchadlbhdcpojaaGreatDoor
open Go.RowKit

def nullV : V := leaf 0 0 ⟨#[]⟩
/-- The kind of what has such items. -/
def holderS (s : Stp) : Int := if s.1 < 0 then 5 else 4
def kindV (x : V) (s : Stp) : V := if x.kind = 0 then .mk (holderS s) x.int x.text x.items x.keys else x
def whereV (x : V) (s : Stp) : Nat := (findV x s).1.toNat
def roomV (x : V) (s : Stp) : V := if (findV x s).2 = true then x else .mk x.kind x.int x.text (x.items.take (whereV x s) ++ nullV :: x.items.drop (whereV x s)) (if x.kind = 5 then x.keys.take (whereV x s) ++ s.2 :: x.keys.drop (whereV x s) else x.keys)
def setIt (x : V) (i : Nat) (y : V) : V := .mk x.kind x.int x.text (x.items.set i y) x.keys
theorem mkK (k i : Int) (t : ByteArray) (l : List V) (ks : List ByteArray) : (V.mk k i t l ks).kind = k := rfl
theorem mkN (k i : Int) (t : ByteArray) (l : List V) (ks : List ByteArray) : (V.mk k i t l ks).int = i := rfl
theorem mkT (k i : Int) (t : ByteArray) (l : List V) (ks : List ByteArray) : (V.mk k i t l ks).text = t := rfl
theorem mkI (k i : Int) (t : ByteArray) (l : List V) (ks : List ByteArray) : (V.mk k i t l ks).items = l := rfl
theorem mkY (k i : Int) (t : ByteArray) (l : List V) (ks : List ByteArray) : (V.mk k i t l ks).keys = ks := rfl
theorem setIt_items (x : V) (i : Nat) (y : V) : (setIt x i y).items = x.items.set i y := rfl
theorem setIt_keys (x : V) (i : Nat) (y : V) : (setIt x i y).keys = x.keys := rfl
theorem setIt_kind (x : V) (i : Nat) (y : V) : (setIt x i y).kind = x.kind := rfl
/-- A value laid at a path; 0 or the error. -/
def putV : V → List Stp → V → V × Int
  | _, [], z => (z, 0)
  | x, s :: r, z => if ¬ (kindV x s).kind = holderS s then (nullV, 8) else if s.1 > (kindV x s).items.length then (nullV, 3) else
    (setIt (roomV (kindV x s) s) (whereV (kindV x s) s) (putV ((roomV (kindV x s) s).items.getD (whereV (kindV x s) s) nullV) r z).1, (putV ((roomV (kindV x s) s).items.getD (whereV (kindV x s) s) nullV) r z).2)
/-- What a value is that can be put into: whether an object, a list, by its kind. -/
structure Fit (x : V) : Prop where
  rise : Rising x.keys
  none : ¬ x.kind = 5 → x.keys = []
  five : x.kind = 5 → x.keys.length = x.items.length
  null : x.kind = 0 → x.items = []
theorem fit_of {x : V} (h : x.ok = true) : Fit x := by
  obtain ⟨h1, h2, h3⟩ := okk h
  refine ⟨h1, h2, h3, fun h0 => ?_⟩
  obtain ⟨k, i, t, l, ks⟩ := x
  rw [V.ok, Bool.and_eq_true] at h
  obtain ⟨hs, -⟩ := h
  simp only [V.kind] at h0
  subst h0
  simp only [V.sound] at hs
  simp at hs
  show l = []
  simpa using hs.2.1
theorem Fit.kindV {x : V} (h : Fit x) (s : Stp) : Fit (kindV x s) := by
  unfold Go.Proofs.YtchadlbhdcpojaaGreatDoor.kindV
  split
  · rename_i h0
    have hk := h.none (by omega)
    have hi := h.null h0
    exact ⟨h.rise, fun _ => hk, fun _ => by show x.keys.length = x.items.length; rw [hk, hi]; rfl, fun _ => hi⟩
  · exact h
theorem kindV_item {x : V} (h : Fit x) (s t : Stp) : itemV (kindV x s) t = itemV x t := by
  unfold kindV
  split
  · rename_i h0
    have hk := h.none (by omega)
    have hi := h.null h0
    have e1 : (V.mk (holderS s) x.int x.text x.items x.keys).items = [] := hi
    have e2 : (V.mk (holderS s) x.int x.text x.items x.keys).keys = [] := hk
    unfold itemV
    rw [e1, e2, hi, hk]
    simp [hasK]
  · rfl
/-- Where a key's item is. -/
theorem item_key {x : V} (h : Fit x) (_h5 : x.kind = 5) {t : Stp} (ht : t.1 < 0) {z : V} : itemV x t = some z ↔ ∃ j : Nat, x.keys[j]? = some t.2 ∧ x.items[j]? = some z := by
  obtain ⟨i, k⟩ := t
  simp only at ht
  unfold itemV
  rw [if_neg (by simp only; omega)]
  constructor
  · intro he
    split at he
    · rename_i hh
      exact ⟨_, (posK_here k h.rise).1 ((hasK_iff _ _).1 hh), he⟩
    · cases he
  · rintro ⟨j, hj, hz⟩
    rw [if_pos ((hasK_iff _ _).2 (List.mem_of_getElem? hj)), posK_at h.rise hj]
    exact hz
theorem opt_ext {α : Type} {a b : Option α} (h : ∀ z, a = some z ↔ b = some z) : a = b := by
  cases a with
  | none => cases b with
    | none => rfl
    | some y => exact absurd ((h y).2 rfl) (by simp)
  | some y => exact ((h y).1 rfl).symm
/-- The item, and the others, behind the room that was made for it. -/
theorem room_items {x : V} (h : Fit x) {s : Stp} (hk : x.kind = holderS s) (hs : stepB s = true) (hl : ¬ s.1 > x.items.length) (z : V) :
    itemV (setIt (roomV x s) (whereV x s) z) s = some z ∧ (∀ t : Stp, stepB t = true → t ≠ s → itemV (setIt (roomV x s) (whereV x s) z) t = itemV x t) ∧ (roomV x s).items.getD (whereV x s) nullV = (itemV x s).getD nullV ∧ whereV x s < (roomV x s).items.length ∧ whereV x s ≤ x.items.length := by
  obtain ⟨i, k⟩ := s
  by_cases h0 : 0 ≤ i
  · have h4 : x.kind = 4 := by rw [hk, holderS, if_neg (by simp only; omega)]
    have hw : whereV x (i, k) = i.toNat := by simp [whereV, findV, h0]
    have hle : i.toNat ≤ x.items.length := by simp only at hl; omega
    have hk2 : k = ⟨#[]⟩ := by
      unfold stepB at hs
      rw [if_neg (by simp only; omega)] at hs
      simp at hs
      exact hs.2
    have hr : (roomV x (i, k)).items = if i.toNat < x.items.length then x.items else x.items ++ [nullV] := by
      unfold roomV
      by_cases hlt : i.toNat < x.items.length
      · rw [if_pos (by simp [findV, h0, h4]; omega), if_pos hlt]
      · rw [if_neg (by simp [findV, h0, h4]; omega), if_neg hlt, hw]
        simp only [mkI]
        rw [List.take_of_length_le (by omega), List.drop_eq_nil_of_le (by omega)]
    have hrk : (roomV x (i, k)).kind = 4 := by unfold roomV; split <;> exact h4
    have hlen : i.toNat < (roomV x (i, k)).items.length := by
      rw [hr]; split
      · assumption
      · simp; omega
    have hit : ∀ (y : V) (t : Stp), y.kind = 4 → itemV y t = if 0 ≤ t.1 then y.items[t.1.toNat]? else if hasK t.2 y.keys = true then y.items[posK t.2 y.keys]? else none := fun y t hy => by
      unfold itemV; rw [hy]; simp
    refine ⟨?_, fun t ht hne => ?_, ?_, by rw [hw]; exact hlen, by rw [hw]; exact hle⟩
    · rw [hit _ _ (show (setIt (roomV x (i, k)) _ z).kind = 4 from hrk), if_pos h0, hw]
      simp only [setIt_items]
      rw [List.getElem?_set_self hlen]
    · rw [hit _ _ (show (setIt (roomV x (i, k)) _ z).kind = 4 from hrk), hit _ _ h4]
      have hkeys : (setIt (roomV x (i, k)) (whereV x (i, k)) z).keys = x.keys := by
        simp only [setIt_keys]
        by_cases hf : (findV x (i, k)).2 = true
        · rw [roomV, if_pos hf]
        · rw [roomV, if_neg hf]
          show (if x.kind = 5 then _ else x.keys) = x.keys
          rw [if_neg (by omega)]
      have hnk : x.keys = [] := h.none (by omega)
      by_cases ht0 : 0 ≤ t.1
      · rw [if_pos ht0, if_pos ht0]
        have htk : t.2 = ⟨#[]⟩ := by
          unfold stepB at ht
          rw [if_neg (by omega)] at ht
          simp at ht
          exact ht.2
        have hti : ¬ t.1.toNat = i.toNat := fun e => hne (by
          obtain ⟨t1, t2⟩ := t
          simp only at e htk ht0
          rw [htk, hk2]
          have : t1 = i := by omega
          rw [this])
        simp only [setIt_items, hw]
        rw [List.getElem?_set_ne (fun e => hti e.symm), hr]
        split
        · rfl
        · rw [List.getElem?_append]
          split
          · rfl
          · have : x.items[t.1.toNat]? = none := List.getElem?_eq_none (by omega)
            rw [this, List.getElem?_eq_none]
            simp; omega
      · rw [if_neg ht0, if_neg ht0, hkeys, hnk]
        simp [hasK]
    · rw [hw, hit _ _ h4, if_pos h0, hr]
      split
      · rw [List.getD_eq_getElem?_getD]
      · rename_i hlt
        have hi : i.toNat = x.items.length := by omega
        rw [List.getElem?_eq_none (by simp only; omega), List.getD_eq_getElem?_getD, hi]
        simp
  · have h5 : x.kind = 5 := by rw [hk, holderS, if_pos (by simp only; omega)]
    have hw : whereV x (i, k) = posK k x.keys := by simp [whereV, findV, h0]
    have hle : posK k x.keys ≤ x.items.length := by rw [← h.five h5]; exact posK_le k x.keys
    have hneg : ∀ t : Stp, stepB t = true → ¬ 0 ≤ t.1 → t.1 = -1 := fun t ht hn => by
      unfold stepB at ht
      by_cases e : t.1 = -1
      · exact e
      · rw [if_neg e] at ht
        simp at ht
        omega
    have hi1 := hneg (i, k) hs (by simpa using h0)
    by_cases hh : hasK k x.keys = true
    · have hr : roomV x (i, k) = x := by unfold roomV; rw [if_pos (by simp [findV, h0, hh])]
      have hkk : x.keys[posK k x.keys]? = some k := (posK_here k h.rise).1 ((hasK_iff _ _).1 hh)
      have hlt : posK k x.keys < x.items.length := by rw [← h.five h5]; exact (List.getElem?_eq_some_iff.1 hkk).1
      have hf : Fit (setIt x (posK k x.keys) z) := ⟨h.rise, h.none, fun e => by simp only [setIt_keys, setIt_items, List.length_set]; exact h.five e, fun e => absurd e (by simp only [setIt_kind]; omega)⟩
      rw [hr, hw]
      refine ⟨?_, fun t ht hne => ?_, ?_, hlt, hle⟩
      · exact (item_key hf h5 (by simp only; omega)).2 ⟨posK k x.keys, hkk, List.getElem?_set_self hlt⟩
      · by_cases ht0 : 0 ≤ t.1
        · unfold itemV; rw [if_pos ht0, if_pos ht0, if_neg (by simp only [setIt_kind]; omega), if_neg (by omega)]
        · refine opt_ext fun u => ?_
          rw [item_key hf h5 (by omega), item_key h h5 (by omega)]
          refine exists_congr fun j => ?_
          refine and_congr_right fun hj => ?_
          have hj' : x.keys[j]? = some t.2 := hj
          have hji : ¬ posK k x.keys = j := fun e => by
            rw [← e, hkk] at hj'
            apply hne
            have h1 := hneg t ht ht0
            obtain ⟨t1, t2⟩ := t
            simp only [Option.some.injEq] at hj' h1 hi1
            rw [h1, ← hj', hi1]
          simp only [setIt_items]
          rw [List.getElem?_set_ne hji]
      · rw [(item_key h h5 (by simp only; omega)).2 ⟨_, hkk, List.getElem?_eq_getElem hlt⟩]
        simp [List.getD_eq_getElem?_getD, hlt]
    · have hnm : ¬ k ∈ x.keys := fun e => hh ((hasK_iff _ _).2 e)
      have hr : roomV x (i, k) = .mk 5 x.int x.text (x.items.take (posK k x.keys) ++ nullV :: x.items.drop (posK k x.keys)) (x.keys.take (posK k x.keys) ++ k :: x.keys.drop (posK k x.keys)) := by
        unfold roomV
        rw [if_neg (by simp [findV, h0, hh]), hw, if_pos h5, h5]
      have hkl := h.five h5
      have hpl := posK_le k x.keys
      have hl1 : (x.items.take (posK k x.keys)).length = posK k x.keys := by rw [List.length_take]; omega
      have hl2 : (x.keys.take (posK k x.keys)).length = posK k x.keys := by rw [List.length_take]; omega
      have hset : (x.items.take (posK k x.keys) ++ nullV :: x.items.drop (posK k x.keys)).set (posK k x.keys) z = x.items.take (posK k x.keys) ++ z :: x.items.drop (posK k x.keys) := by
        rw [List.set_append]; simp [hl1]
      have hsi : setIt (roomV x (i, k)) (posK k x.keys) z = .mk 5 x.int x.text (x.items.take (posK k x.keys) ++ z :: x.items.drop (posK k x.keys)) (x.keys.take (posK k x.keys) ++ k :: x.keys.drop (posK k x.keys)) := by
        rw [hr]; simp only [setIt, mkK, mkN, mkT, mkI, mkY]; rw [hset]
      have hf : Fit (setIt (roomV x (i, k)) (posK k x.keys) z) := by
        rw [hsi]
        exact ⟨rising_ins h.rise hnm, fun e => absurd rfl e, fun _ => by simp only [mkY, mkI, List.length_append, List.length_cons, List.length_take, List.length_drop]; omega, fun e => absurd e (by simp [mkK])⟩
      have hf5 : (setIt (roomV x (i, k)) (posK k x.keys) z).kind = 5 := by rw [hsi]; rfl
      rw [hw]
      refine ⟨?_, fun t ht hne => ?_, ?_, by rw [hr]; simp only [mkI, List.length_append, List.length_cons]; omega, hle⟩
      · refine (item_key hf hf5 (by simp only; omega)).2 ⟨posK k x.keys, ?_, ?_⟩
        · rw [hsi]; simp only [mkY]; rw [List.getElem?_append_right (by omega), hl2]; simp
        · rw [hsi]; simp only [mkI]; rw [List.getElem?_append_right (by omega), hl1]; simp
      · by_cases ht0 : 0 ≤ t.1
        · unfold itemV; rw [if_pos ht0, if_pos ht0, if_neg (by omega), if_neg (by omega)]
        · have htk : ¬ t.2 = k := fun e => hne (by
            have h1 := hneg t ht ht0
            obtain ⟨t1, t2⟩ := t
            simp only at e h1 hi1
            rw [h1, e, hi1])
          refine opt_ext fun u => ?_
          rw [item_key hf hf5 (by omega), item_key h h5 (by omega), hsi]
          simp only [mkY, mkI]
          constructor
          · rintro ⟨j, h1, h2⟩
            by_cases hj : j < posK k x.keys
            · rw [List.getElem?_append_left (by omega), List.getElem?_take_of_lt hj] at h1 h2
              exact ⟨j, h1, h2⟩
            · rw [List.getElem?_append_right (by omega)] at h1 h2
              rw [hl2] at h1
              rw [hl1] at h2
              obtain ⟨q, hq⟩ : ∃ q, j - posK k x.keys = q := ⟨_, rfl⟩
              rw [hq] at h1 h2
              cases q with
              | zero => simp at h1; exact absurd h1.symm htk
              | succ q =>
                simp only [List.getElem?_cons_succ, List.getElem?_drop] at h1 h2
                exact ⟨_, h1, h2⟩
          · rintro ⟨j, h1, h2⟩
            by_cases hj : j < posK k x.keys
            · refine ⟨j, ?_, ?_⟩
              · rw [List.getElem?_append_left (by omega), List.getElem?_take_of_lt hj]; exact h1
              · rw [List.getElem?_append_left (by omega), List.getElem?_take_of_lt hj]; exact h2
            · refine ⟨j + 1, ?_, ?_⟩
              · rw [List.getElem?_append_right (by omega), hl2, show j + 1 - posK k x.keys = (j - posK k x.keys) + 1 by omega, List.getElem?_cons_succ, List.getElem?_drop, show posK k x.keys + (j - posK k x.keys) = j by omega]; exact h1
              · rw [List.getElem?_append_right (by omega), hl1, show j + 1 - posK k x.keys = (j - posK k x.keys) + 1 by omega, List.getElem?_cons_succ, List.getElem?_drop, show posK k x.keys + (j - posK k x.keys) = j by omega]; exact h2
      · have hn : itemV x (i, k) = none := by unfold itemV; rw [if_neg (by simpa using h0), if_neg hh]
        rw [hn, hr]
        simp only [mkI, Option.getD_none]
        rw [List.getD_eq_getElem?_getD, List.getElem?_append_right (by omega), hl1]
        simp
end Go.Proofs.YtchadlbhdcpojaaGreatDoor
