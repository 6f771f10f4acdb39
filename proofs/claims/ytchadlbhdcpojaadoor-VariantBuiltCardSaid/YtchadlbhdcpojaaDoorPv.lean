/- Reading a value: plain functions on bytes. -/
import Derived.Test.YtchadlbhdcpojaaDoorWl
import Derived.Test.YtchadlbhdcpojaaDoorPa
import Derived.Laws.Strings
namespace Go.Proofs.YtchadlbhdcpojaaDoor
open Go

theorem bl_cons (a b : UInt8) (x y : List UInt8) : Op.bytesLess (a :: x) (b :: y) = true ↔ a < b ∨ (a = b ∧ Op.bytesLess x y = true) := by simp [Op.bytesLess]
theorem bytesLess_trans : ∀ (a b c : List UInt8), Op.bytesLess a b = true → Op.bytesLess b c = true → Op.bytesLess a c = true
  | [], [], _, h, _ => by simp [Op.bytesLess] at h
  | [], _ :: _, [], _, h => by simp [Op.bytesLess] at h
  | [], _ :: _, _ :: _, _, _ => by simp [Op.bytesLess]
  | _ :: _, [], _, h, _ => by simp [Op.bytesLess] at h
  | _ :: _, _ :: _, [], _, h => by simp [Op.bytesLess] at h
  | x :: r, y :: s, z :: t, h, h' => by
    rw [bl_cons] at *
    rcases h with h | ⟨rfl, h⟩ <;> rcases h' with h' | ⟨rfl, h'⟩
    · exact .inl (UInt8.lt_trans h h')
    · exact .inl h
    · exact .inl h'
    · exact .inr ⟨rfl, bytesLess_trans _ _ _ h h'⟩
theorem bytesLess_total : ∀ (a b : List UInt8), Op.bytesLess a b = false → Op.bytesLess b a = false → a = b
  | [], [], _, _ => rfl
  | [], _ :: _, h, _ => by simp [Op.bytesLess] at h
  | _ :: _, [], _, h => by simp [Op.bytesLess] at h
  | x :: r, y :: s, h, h' => by
    have g : ¬ (x < y ∨ (x = y ∧ Op.bytesLess r s = true)) := fun e => by rw [← bl_cons, h] at e; cases e
    have g' : ¬ (y < x ∨ (y = x ∧ Op.bytesLess s r = true)) := fun e => by rw [← bl_cons, h'] at e; cases e
    have e : x = y := UInt8.le_antisymm (UInt8.not_lt.1 fun q => g' (.inl q)) (UInt8.not_lt.1 fun q => g (.inl q))
    subst e
    rw [bytesLess_total r s (by simpa using fun q => g (.inr ⟨rfl, q⟩)) (by simpa using fun q => g' (.inr ⟨rfl, q⟩))]
theorem ltB_irrefl (a : ByteArray) : ltB a a = false := bytesLess_irrefl _
theorem ltB_trans {a b c : ByteArray} (h : ltB a b = true) (h' : ltB b c = true) : ltB a c = true := bytesLess_trans _ _ _ h h'
theorem ltB_total {a b : ByteArray} (h : ltB a b = false) (h' : ltB b a = false) : a = b := by
  have := bytesLess_total _ _ h h'
  rw [ByteArray.toList_eq, ByteArray.toList_eq] at this
  exact ByteArray.ext (Array.ext' this)

/-- Keys in their order; where a key belongs. -/
def Rising (keys : List ByteArray) : Prop := keys.Pairwise fun a b => ltB a b = true
def posK (k : ByteArray) : List ByteArray → Nat
  | [] => 0
  | x :: r => if ltB x k = true then posK k r + 1 else 0
theorem posK_le (k : ByteArray) : ∀ keys : List ByteArray, posK k keys ≤ keys.length
  | [] => Nat.le_refl _
  | x :: r => by rw [posK]; have := posK_le k r; split <;> simp <;> omega
theorem posK_less (k : ByteArray) : ∀ {keys : List ByteArray} {t : Nat} {x : ByteArray}, t < posK k keys → keys[t]? = some x → ltB x k = true
  | [], _, _, h, _ => by simp [posK] at h
  | x :: r, t, y, h, e => by
    rw [posK] at h
    split at h
    · cases t with
      | zero => simp at e; subst e; assumption
      | succ t => simp at e; exact posK_less k (by omega) e
    · omega
theorem posK_more (k : ByteArray) : ∀ {keys : List ByteArray} (_ : Rising keys) {t : Nat} {x : ByteArray}, posK k keys ≤ t → keys[t]? = some x → ltB x k = false
  | [], _, _, _, _, e => by simp at e
  | x :: r, hr, t, y, h, e => by
    unfold Rising at hr
    rw [List.pairwise_cons] at hr
    rw [posK] at h
    split at h
    · cases t with
      | zero => omega
      | succ t => simp at e; exact posK_more k hr.2 (by omega) e
    · rename_i hx
      cases t with
      | zero => simp at e; subst e; simpa using hx
      | succ t =>
        simp at e
        have := hr.1 y (List.mem_of_getElem? e)
        rcases hy : ltB y k with _ | _
        · rfl
        · exact absurd (ltB_trans this hy) hx
theorem posK_here (k : ByteArray) {keys : List ByteArray} (hr : Rising keys) : k ∈ keys ↔ keys[posK k keys]? = some k := by
  constructor
  · intro h
    obtain ⟨t, ht⟩ := List.mem_iff_getElem?.1 h
    rcases Nat.lt_trichotomy t (posK k keys) with h1 | h1 | h1
    · have := posK_less k h1 ht; rw [ltB_irrefl] at this; cases this
    · rw [← h1]; exact ht
    · have hlt : t < keys.length := by
        rcases Nat.lt_or_ge t keys.length with h | h
        · exact h
        · rw [List.getElem?_eq_none h] at ht; cases ht
      obtain ⟨x, hx⟩ : ∃ x, keys[posK k keys]? = some x := ⟨_, List.getElem?_eq_getElem (by omega)⟩
      have h2 := posK_more k hr (Nat.le_refl _) hx
      unfold Rising at hr
      rw [List.pairwise_iff_getElem] at hr
      obtain ⟨_, e1⟩ := List.getElem?_eq_some_iff.1 hx
      obtain ⟨_, e2⟩ := List.getElem?_eq_some_iff.1 ht
      have := hr (posK k keys) t (by omega) hlt h1
      rw [e1, e2, h2] at this
      cases this
  · exact fun h => List.mem_of_getElem? h
/-- A key and its item are put where they belong. -/
def insK (st : List ByteArray × List V) (k : ByteArray) (x : V) : List ByteArray × List V :=
  (st.1.take (posK k st.1) ++ k :: st.1.drop (posK k st.1), st.2.take (posK k st.1) ++ x :: st.2.drop (posK k st.1))
theorem rising_ins {keys : List ByteArray} {k : ByteArray} (h : Rising keys) (hk : ¬ k ∈ keys) : Rising (keys.take (posK k keys) ++ k :: keys.drop (posK k keys)) := by
  have hno : ∀ x ∈ keys, ltB x k = false → ltB k x = true := by
    intro x hx h1
    rcases h2 : ltB k x with _ | _
    · exact absurd (ltB_total h1 h2 ▸ hx) hk
    · rfl
  have hT : ∀ x ∈ keys.take (posK k keys), ltB x k = true := by
    intro x hx
    obtain ⟨t, ht⟩ := List.mem_iff_getElem?.1 hx
    rw [List.getElem?_take] at ht
    split at ht
    · exact posK_less k (by assumption) ht
    · cases ht
  have hD : ∀ x ∈ keys.drop (posK k keys), ltB k x = true := by
    intro x hx
    obtain ⟨t, ht⟩ := List.mem_iff_getElem?.1 hx
    rw [List.getElem?_drop] at ht
    exact hno x (List.mem_of_getElem? ht) (posK_more k h (by omega) ht)
  have hh : Rising (keys.take (posK k keys) ++ keys.drop (posK k keys)) := by rw [List.take_append_drop]; exact h
  unfold Rising at *
  rw [List.pairwise_append] at hh ⊢
  refine ⟨hh.1, List.pairwise_cons.2 ⟨hD, hh.2.1⟩, fun a ha b hb => ?_⟩
  rcases List.mem_cons.1 hb with rfl | hb
  · exact hT a ha
  · exact hh.2.2 a ha b hb

/-- Whether a key is there. -/
def hasK (k : ByteArray) (keys : List ByteArray) : Bool := keys.any fun x => decide (x = k)
theorem hasK_iff (k : ByteArray) (keys : List ByteArray) : hasK k keys = true ↔ k ∈ keys := by
  unfold hasK
  rw [List.any_eq_true]
  constructor
  · rintro ⟨x, hx, e⟩; rw [← of_decide_eq_true e]; exact hx
  · exact fun h => ⟨k, h, by simp⟩
/-- An item of a list; an item of an object. -/
def stepL (f : Nat → List UInt8 → Option (V × List UInt8 × Nat)) (st : List V) (n : Nat) (l : List UInt8) : Option (List V × List UInt8 × Nat) := (f n l).map fun r => (st ++ [r.1], r.2)
def stepO (f : Nat → List UInt8 → Option (V × List UInt8 × Nat)) (st : List ByteArray × List V) (n : Nat) (l : List UInt8) : Option ((List ByteArray × List V) × List UInt8 × Nat) :=
  match quotedP (skipP l) with
  | none => none
  | some (t, l1) => if takesP 58 (skipP l1) = true then (match f n (tailP 58 (skipP l1)) with | none => none | some (x, l2, n2) => if hasK ⟨t.toArray⟩ st.1 = true then none else some (insK st ⟨t.toArray⟩ x, l2, n2)) else none
/-- A value with so many levels at most, n values being begun. -/
def valueP : Nat → Nat → List UInt8 → Option (V × List UInt8 × Nat)
  | 0, _, _ => none
  | L + 1, n, l =>
    if n + 1 ≤ 60 then
      match skipP l with
      | [] => none
      | c :: r =>
        if c = 91 then (seriesP (stepL (valueP L)) 93 91 [] (n + 1) (c :: r)).map fun q => (V.mk 4 0 ⟨#[]⟩ q.1 [], q.2)
        else if c = 123 then (seriesP (stepO (valueP L)) 125 123 ([], []) (n + 1) (c :: r)).map fun q => (V.mk 5 0 ⟨#[]⟩ q.1.2 q.1.1, q.2)
        else if c = 34 then (quotedP (c :: r)).map fun q => (leaf 3 0 ⟨q.1.toArray⟩, q.2, n + 1)
        else if c = 110 ∨ c = 102 ∨ c = 116 then (nameP (c :: r)).map fun q => (q.1, q.2, n + 1)
        else numberP (c :: r) (n + 1)
    else none
def parseP (l : List UInt8) : Option V := match valueP 6 0 l with | none => none | some (x, l', _) => if skipP l' = [] then some x else none

theorem textP_len : ∀ (f : Nat) {l acc t r : List UInt8}, l.length ≤ f → textP l acc = some (t, r) → r.length ≤ l.length
  | 0, l, _, _, _, hf, h => by cases l with
    | nil => simp [textP] at h
    | cons => simp at hf
  | f + 1, [], _, _, _, _, h => by simp [textP] at h
  | f + 1, c :: l, acc, t, r, hf, h => by
    rw [textP_cons] at h
    simp only [List.length_cons] at hf ⊢
    split at h
    · simp at h; rw [h.2]; omega
    · split at h
      · cases l with
        | nil => simp at h
        | cons x q =>
          simp only [List.length_cons] at hf ⊢
          simp only [] at h
          split at h
          · have := textP_len f (by omega) h; omega
          · cases h
      · split at h
        · have := textP_len f (by omega) h; omega
        · cases h
theorem quotedP_len {l t r : List UInt8} (h : quotedP l = some (t, r)) : r.length ≤ l.length := by
  cases l with
  | nil => simp [quotedP] at h
  | cons c l =>
    rw [quotedP] at h
    split at h
    · have := textP_len _ (Nat.le_refl _) h; simp; omega
    · cases h
theorem digsP_len : ∀ {l : List UInt8} {a b n m : Nat} {r : List UInt8}, digsP l a b = some (n, m, r) → r.length ≤ l.length
  | [], _, _, _, _, _, h => by simp [digsP] at h; simp [h.2.2]
  | c :: l, a, b, n, m, r, h => by
    rw [digsP] at h
    split at h
    · split at h
      · have := digsP_len h; simp; omega
      · cases h
    · simp at h; rw [← h.2.2]; simp
theorem numberP_ok {l : List UInt8} {n : Nat} {x : V} {r : List UInt8} {m : Nat} (h : numberP l n = some (x, r, m)) : r.length ≤ l.length ∧ m = n := by
  unfold numberP numR magP at h
  generalize hd : digsP (tailP 45 (skipP l)) 0 0 = q at h
  match q with
  | none => simp at h
  | some (a, b, c) =>
    simp only [] at h
    split at h
    · simp at h
    · split at h
      · simp at h
      · simp at h
        have := digsP_len hd
        have h2 := tailP_len 45 (skipP l)
        have h3 := skipP_len l
        rw [← h.2.1, h.2.2]
        exact ⟨by omega, rfl⟩
theorem nameP_len {l : List UInt8} {x : V} {r : List UInt8} (h : nameP l = some (x, r)) : r.length ≤ l.length := by
  unfold nameP at h
  repeat' split at h
  all_goals first | (simp at h; rw [← h.2]; simp) | cases h

section
variable {St : Type} {step : St → Nat → List UInt8 → Option (St × List UInt8 × Nat)} (close : UInt8)
theorem loopP_ok (hs : ∀ st n l st' l' n', step st n l = some (st', l', n') → l'.length ≤ l.length ∧ n' ≤ 60) : ∀ (f : Nat) {st st' : St} {n n' : Nat} {l l' : List UInt8}, loopP step close f st n l = some (st', l', n') → l'.length ≤ l.length ∧ n' ≤ 60
  | 0, _, _, _, _, _, _, h => by simp [loopP] at h
  | f + 1, st, st', n, n', l, l', h => by
    rw [loopP] at h
    split at h
    · cases h
    · rename_i st1 l1 n1 h1
      have h2 := hs _ _ _ _ _ _ h1
      have h3 := skipP_len l1
      split at h
      · have := loopP_ok hs f h
        have h4 := tailP_len 44 (skipP l1)
        omega
      · split at h
        · have h4 := tailP_len close (skipP l1)
          simp at h
          rw [← h.2.1, ← h.2.2]
          omega
        · cases h
theorem seriesP_ok (hs : ∀ st n l st' l' n', step st n l = some (st', l', n') → l'.length ≤ l.length ∧ n' ≤ 60) {op : UInt8} {st st' : St} {n n' : Nat} {l l' : List UInt8} (hn : n ≤ 60) (h : seriesP step close op st n l = some (st', l', n')) : l'.length ≤ l.length ∧ n' ≤ 60 := by
  unfold seriesP at h
  have h1 := skipP_len l
  have h2 := tailP_len op (skipP l)
  have h3 := skipP_len (tailP op (skipP l))
  have h4 := tailP_len close (skipP (tailP op (skipP l)))
  split at h
  · split at h
    · simp at h
      rw [← h.2.1, ← h.2.2]
      omega
    · have := loopP_ok close hs _ h
      omega
  · cases h
end
theorem stepL_ok {f : Nat → List UInt8 → Option (V × List UInt8 × Nat)} (hf : ∀ n l x l' n', f n l = some (x, l', n') → l'.length ≤ l.length ∧ n' ≤ 60) (st : List V) (n : Nat) (l : List UInt8) (st' : List V) (l' : List UInt8) (n' : Nat) (h : stepL f st n l = some (st', l', n')) : l'.length ≤ l.length ∧ n' ≤ 60 := by
  unfold stepL at h
  generalize hq : f n l = q at h
  match q with
  | none => simp at h
  | some (x, l1, n1) => simp at h; have := hf _ _ _ _ _ hq; rw [← h.2.1, ← h.2.2]; exact this
theorem stepO_ok {f : Nat → List UInt8 → Option (V × List UInt8 × Nat)} (hf : ∀ n l x l' n', f n l = some (x, l', n') → l'.length ≤ l.length ∧ n' ≤ 60) (st : List ByteArray × List V) (n : Nat) (l : List UInt8) (st' : List ByteArray × List V) (l' : List UInt8) (n' : Nat) (h : stepO f st n l = some (st', l', n')) : l'.length ≤ l.length ∧ n' ≤ 60 := by
  unfold stepO at h
  generalize hq : quotedP (skipP l) = q at h
  match q with
  | none => simp at h
  | some (t, l1) =>
    simp only [] at h
    have h1 := quotedP_len hq
    have h2 := skipP_len l
    have h3 := skipP_len l1
    have h4 := tailP_len 58 (skipP l1)
    split at h
    · generalize hy : f n (tailP 58 (skipP l1)) = y at h
      match y with
      | none => simp at h
      | some (x, l2, n2) =>
        simp only [] at h
        have := hf _ _ _ _ _ hy
        split at h
        · cases h
        · simp at h; rw [← h.2.1, ← h.2.2]; omega
    · cases h
theorem valueP_ok : ∀ (L : Nat) (n : Nat) (l : List UInt8) (x : V) (l' : List UInt8) (n' : Nat), valueP L n l = some (x, l', n') → l'.length ≤ l.length ∧ n' ≤ 60
  | 0, _, _, _, _, _, h => by simp [valueP] at h
  | L + 1, n, l, x, l', n', h => by
    rw [valueP] at h
    split at h
    · rename_i hn
      have h1 := skipP_len l
      generalize hq : skipP l = q at h
      match q with
      | [] => simp at h
      | c :: r =>
        rw [hq] at h1
        simp only [] at h
        split at h
        · generalize hy : seriesP (stepL (valueP L)) 93 91 [] (n + 1) (c :: r) = y at h
          match y with
          | none => simp at h
          | some (a, b, d) => simp at h; have := seriesP_ok 93 (stepL_ok (valueP_ok L)) hn hy; rw [← h.2.1, ← h.2.2]; omega
        · split at h
          · generalize hy : seriesP (stepO (valueP L)) 125 123 ([], []) (n + 1) (c :: r) = y at h
            match y with
            | none => simp at h
            | some (a, b, d) => simp at h; have := seriesP_ok 125 (stepO_ok (valueP_ok L)) hn hy; rw [← h.2.1, ← h.2.2]; omega
          · split at h
            · generalize hy : quotedP (c :: r) = y at h
              match y with
              | none => simp at h
              | some (a, b) => simp at h; have := quotedP_len hy; rw [← h.2.1, ← h.2.2]; omega
            · split at h
              · generalize hy : nameP (c :: r) = y at h
                match y with
                | none => simp at h
                | some (a, b) => simp at h; have := nameP_len hy; rw [← h.2.1, ← h.2.2]; omega
              · have := numberP_ok h; omega
    · cases h
/-- Every value read is counted. -/
theorem loopP_more {St : Type} {step : St → Nat → List UInt8 → Option (St × List UInt8 × Nat)} (close : UInt8) (hs : ∀ st n l st' l' n', step st n l = some (st', l', n') → n ≤ n') : ∀ (f : Nat) {st st' : St} {n n' : Nat} {l l' : List UInt8}, loopP step close f st n l = some (st', l', n') → n ≤ n'
  | 0, _, _, _, _, _, _, h => by simp [loopP] at h
  | f + 1, st, st', n, n', l, l', h => by
    rw [loopP] at h
    split at h
    · cases h
    · rename_i st1 l1 n1 h1
      have h2 := hs _ _ _ _ _ _ h1
      split at h
      · have := loopP_more close hs f h
        omega
      · split at h
        · simp at h; omega
        · cases h
theorem seriesP_more {St : Type} {step : St → Nat → List UInt8 → Option (St × List UInt8 × Nat)} (close : UInt8) (hs : ∀ st n l st' l' n', step st n l = some (st', l', n') → n ≤ n') {op : UInt8} {st st' : St} {n n' : Nat} {l l' : List UInt8} (h : seriesP step close op st n l = some (st', l', n')) : n ≤ n' := by
  unfold seriesP at h
  split at h
  · split at h
    · simp at h; omega
    · exact loopP_more close hs _ h
  · cases h
theorem stepL_more {f : Nat → List UInt8 → Option (V × List UInt8 × Nat)} (hf : ∀ n l x l' n', f n l = some (x, l', n') → n < n') (st : List V) (n : Nat) (l : List UInt8) (st' : List V) (l' : List UInt8) (n' : Nat) (h : stepL f st n l = some (st', l', n')) : n ≤ n' := by
  unfold stepL at h
  generalize hq : f n l = q at h
  match q with
  | none => simp at h
  | some (x, l1, n1) => simp at h; have := hf _ _ _ _ _ hq; omega
theorem stepO_more {f : Nat → List UInt8 → Option (V × List UInt8 × Nat)} (hf : ∀ n l x l' n', f n l = some (x, l', n') → n < n') (st : List ByteArray × List V) (n : Nat) (l : List UInt8) (st' : List ByteArray × List V) (l' : List UInt8) (n' : Nat) (h : stepO f st n l = some (st', l', n')) : n ≤ n' := by
  unfold stepO at h
  split at h
  · cases h
  · split at h
    · split at h
      · cases h
      · rename_i hq
        have := hf _ _ _ _ _ hq
        split at h
        · cases h
        · simp at h; omega
    · cases h
theorem valueP_more : ∀ (L : Nat) (n : Nat) (l : List UInt8) (x : V) (l' : List UInt8) (n' : Nat), valueP L n l = some (x, l', n') → n < n'
  | 0, _, _, _, _, _, h => by simp [valueP] at h
  | L + 1, n, l, x, l', n', h => by
    rw [valueP] at h
    split at h
    · split at h
      · cases h
      · rename_i c r hq
        split at h
        · generalize hy : seriesP (stepL (valueP L)) 93 91 [] (n + 1) (c :: r) = y at h
          match y with
          | none => simp at h
          | some (a, b, d) => simp at h; have := seriesP_more 93 (stepL_more (valueP_more L)) hy; omega
        · split at h
          · generalize hy : seriesP (stepO (valueP L)) 125 123 ([], []) (n + 1) (c :: r) = y at h
            match y with
            | none => simp at h
            | some (a, b, d) => simp at h; have := seriesP_more 125 (stepO_more (valueP_more L)) hy; omega
          · split at h
            · simp at h; omega
            · split at h
              · simp at h; omega
              · have := (numberP_ok h).2; omega
    · cases h
end Go.Proofs.YtchadlbhdcpojaaDoor
/- The order of values is total, and values that come at one place are the same. No program is named here. -/
namespace Go.Proofs.YtchadlbhdcpojaaDoor
open Go

/-- Lists of numbers, compared number by number. -/
def lexc : List Int → List Int → Int
  | [], [] => 0
  | [], _ :: _ => -1
  | _ :: _, [] => 1
  | a :: r, b :: s => if a < b then -1 else if b < a then 1 else lexc r s
theorem lexc_range : ∀ a b : List Int, lexc a b = -1 ∨ lexc a b = 0 ∨ lexc a b = 1
  | [], [] => by simp [lexc]
  | [], _ :: _ => by simp [lexc]
  | _ :: _, [] => by simp [lexc]
  | a :: r, b :: s => by
    rw [lexc]
    split
    · simp
    · split
      · simp
      · exact lexc_range r s
theorem lexc_swap : ∀ a b : List Int, lexc b a = -lexc a b
  | [], [] => by simp [lexc]
  | [], _ :: _ => by simp [lexc]
  | _ :: _, [] => by simp [lexc]
  | a :: r, b :: s => by
    rw [lexc, lexc]
    have := lexc_swap r s
    split <;> split <;> first | omega | (split <;> omega) | skip
    all_goals (try split) <;> first | omega | simp_all
theorem lexc_zero : ∀ a b : List Int, lexc a b = 0 → a = b
  | [], [], _ => rfl
  | [], _ :: _, h => by simp [lexc] at h
  | _ :: _, [], h => by simp [lexc] at h
  | a :: r, b :: s, h => by
    rw [lexc] at h
    split at h
    · simp at h
    · split at h
      · simp at h
      · rw [lexc_zero r s h, show a = b by omega]
theorem lexc_lt {a b : Int} {r s : List Int} (h : a < b) : lexc (a :: r) (b :: s) = -1 := by rw [lexc, if_pos h]
theorem lexc_gt {a b : Int} {r s : List Int} (h : b < a) : lexc (a :: r) (b :: s) = 1 := by rw [lexc, if_neg (by omega), if_pos h]
theorem lexc_eq (a : Int) (r s : List Int) : lexc (a :: r) (a :: s) = lexc r s := by rw [lexc, if_neg (by omega), if_neg (by omega)]
theorem lexc_trans : ∀ a b c : List Int, lexc a b ≤ 0 → lexc b c ≤ 0 → lexc a c ≤ 0 ∧ (lexc a b < 0 ∨ lexc b c < 0 → lexc a c < 0)
  | [], [], c, _, h' => ⟨h', fun q => q.elim (fun q => by simp [lexc] at q) id⟩
  | [], _ :: _, [], _, h => by simp [lexc] at h
  | [], _ :: _, _ :: _, _, _ => by simp [lexc]
  | _ :: _, [], _, h, _ => by simp [lexc] at h
  | _ :: _, _ :: _, [], _, h => by simp [lexc] at h
  | a :: r, b :: s, c :: t, h, h' => by
    rcases Int.lt_trichotomy a b with h1 | h1 | h1
    · rcases Int.lt_trichotomy b c with h2 | h2 | h2
      · rw [lexc_lt (show a < c by omega)]; omega
      · subst h2; rw [lexc_lt h1]; omega
      · rw [lexc_gt h2] at h'; omega
    · subst h1
      rcases Int.lt_trichotomy a c with h2 | h2 | h2
      · rw [lexc_lt h2]; omega
      · subst h2
        rw [lexc_eq] at h h'
        rw [lexc_eq, lexc_eq, lexc_eq]
        exact lexc_trans r s t h h'
      · rw [lexc_gt h2] at h'; omega
    · rw [lexc_gt h1] at h; omega

/-- A value as numbers, so that their order is the values'. -/
def encS (t : ByteArray) : List Int := t.toList.map (fun c => (c.toNat : Int) + 1) ++ [0]
mutual
def V.enc : V → List Int
  | .mk k i t l ks => k :: (if k = 1 ∨ k = 2 then [i] else if k = 3 then encS t else V.encL (k == 5) l ks)
def V.encL (o : Bool) : List V → List ByteArray → List Int
  | [], _ => [0]
  | x :: r, ks => 1 :: ((if o then encS (ks.headD ByteArray.empty) else []) ++ (x.enc ++ V.encL o r ks.tail))
end
theorem lexc_bytes (u v : List Int) : ∀ a b : List UInt8, lexc (a.map (fun c => (c.toNat : Int) + 1) ++ 0 :: u) (b.map (fun c => (c.toNat : Int) + 1) ++ 0 :: v) = if Op.bytesLess a b then -1 else if a == b then lexc u v else 1
  | [], [] => by simp [lexc, Op.bytesLess]
  | [], y :: s => by simp [lexc, Op.bytesLess] <;> omega
  | x :: r, [] => by simp [lexc, Op.bytesLess] <;> omega
  | x :: r, y :: s => by
    rw [List.map_cons, List.map_cons, List.cons_append, List.cons_append, lexc]
    have ih := lexc_bytes u v r s
    rcases Nat.lt_trichotomy x.toNat y.toNat with h | h | h
    · have h' : x < y := UInt8.lt_iff_toNat_lt.2 h
      rw [if_pos (by omega), Op.bytesLess]
      simp [h']
    · have h' : x = y := UInt8.toNat_inj.1 h
      subst h'
      rw [if_neg (by omega), if_neg (by omega), ih, Op.bytesLess]
      simp
    · have h' : y < x := UInt8.lt_iff_toNat_lt.2 h
      have h2 : ¬ x < y := fun q => by have := UInt8.lt_iff_toNat_lt.1 q; omega
      have h3 : ¬ x = y := fun q => by rw [q] at h; omega
      rw [if_neg (by omega), if_pos (by omega), Op.bytesLess]
      simp [h2, h3]
theorem lexc_str (a b : ByteArray) (u v : List Int) : lexc (encS a ++ u) (encS b ++ v) = if cmpS a b = 0 then lexc u v else cmpS a b := by
  unfold encS
  rw [List.append_assoc, List.append_assoc]
  have := lexc_bytes u v a.toList b.toList
  simp only [List.singleton_append] at this ⊢
  rw [this]
  unfold cmpS ltB
  cases h : Op.bytesLess a.toList b.toList
  · cases h' : (a.toList == b.toList) <;> simp
  · simp
theorem lexc_int (a b : Int) (u v : List Int) : lexc (a :: u) (b :: v) = if cmpI a b = 0 then lexc u v else cmpI a b := by
  rw [lexc]
  unfold cmpI
  split
  · simp
  · split <;> simp
mutual
theorem lexc_val : ∀ (x y : V) (u v : List Int), lexc (x.enc ++ u) (y.enc ++ v) = if x.cmp y = 0 then lexc u v else x.cmp y
  | .mk k i t l ks, .mk k' i' t' l' ks', u, v => by
    rw [V.enc, V.enc, V.cmp, List.cons_append, List.cons_append, lexc_int]
    by_cases h : k = k'
    · subst h
      rw [if_pos rfl, show cmpI k k = 0 by simp [cmpI], if_pos rfl]
      by_cases h1 : k = 1 ∨ k = 2
      · rw [if_pos h1, if_pos h1, if_pos h1, List.singleton_append, List.singleton_append, lexc_int]
      · rw [if_neg h1, if_neg h1, if_neg h1]
        by_cases h3 : k = 3
        · rw [if_pos h3, if_pos h3, if_pos h3, lexc_str]
        · rw [if_neg h3, if_neg h3, if_neg h3, lexc_list]
    · rw [if_neg h, if_neg (show ¬ cmpI k k' = 0 by unfold cmpI; split <;> (try split) <;> omega), if_neg (show ¬ cmpI k k' = 0 by unfold cmpI; split <;> (try split) <;> omega)]
theorem lexc_list (o : Bool) : ∀ (l : List V) (ks : List ByteArray) (l' : List V) (ks' : List ByteArray) (u v : List Int), lexc (V.encL o l ks ++ u) (V.encL o l' ks' ++ v) = if V.cmpL o l ks l' ks' = 0 then lexc u v else V.cmpL o l ks l' ks'
  | [], _, [], _, u, v => by simp [V.encL, V.cmpL, lexc]
  | [], _, _ :: _, _, u, v => by simp [V.encL, V.cmpL, lexc]
  | _ :: _, _, [], _, u, v => by simp [V.encL, V.cmpL, lexc]
  | x :: r, ks, y :: s, ks', u, v => by
    rw [V.encL, V.encL, V.cmpL, List.cons_append, List.cons_append, lexc, if_neg (by omega), if_neg (by omega)]
    cases o
    · simp only [Bool.false_eq_true, if_false, List.nil_append, Bool.false_and]
      rw [List.append_assoc, List.append_assoc, lexc_val x y, lexc_list false r ks.tail s ks'.tail]
      split <;> simp [*]
    · simp only [if_true, Bool.true_and]
      simp only [List.append_assoc]
      rw [lexc_str, lexc_val x y, lexc_list true r ks.tail s ks'.tail]
      cases he : ((ks.headD ByteArray.empty).toList == (ks'.headD ByteArray.empty).toList)
      · have hne : ¬ cmpS (ks.headD ByteArray.empty) (ks'.headD ByteArray.empty) = 0 := by
          unfold cmpS
          rw [he]
          split <;> simp
        rw [if_neg hne]
        simp only [Bool.not_false, if_true]
        rw [if_neg hne]
      · have hz : cmpS (ks.headD ByteArray.empty) (ks'.headD ByteArray.empty) = 0 := by
          have e : (ks.headD ByteArray.empty).toList = (ks'.headD ByteArray.empty).toList := by simpa using he
          unfold cmpS ltB
          rw [e, bytesLess_irrefl]
          simp
        rw [if_pos hz]
        simp only [Bool.not_true, Bool.false_eq_true, if_false]
        split <;> simp [*]
end
theorem cmp_lexc (x y : V) : x.cmp y = lexc x.enc y.enc := by
  have := lexc_val x y [] []
  rw [List.append_nil, List.append_nil, lexc] at this
  rw [this]
  split
  · assumption
  · rfl
/-- The order of values is total. -/
theorem cmp_order (x y z : V) : (x.cmp y = -1 ∨ x.cmp y = 0 ∨ x.cmp y = 1) ∧ y.cmp x = -x.cmp y ∧ x.cmp x = 0 ∧ (x.cmp y ≤ 0 → y.cmp z ≤ 0 → x.cmp z ≤ 0 ∧ (x.cmp y < 0 ∨ y.cmp z < 0 → x.cmp z < 0)) := by
  rw [cmp_lexc, cmp_lexc, cmp_lexc, cmp_lexc, cmp_lexc]
  exact ⟨lexc_range _ _, lexc_swap _ _, by have := lexc_swap x.enc x.enc; omega, lexc_trans _ _ _⟩

theorem encS_inj (u v : List Int) : ∀ a b : List UInt8, a.map (fun c => (c.toNat : Int) + 1) ++ 0 :: u = b.map (fun c => (c.toNat : Int) + 1) ++ 0 :: v → a = b ∧ u = v
  | [], [], h => by simpa using h
  | [], y :: s, h => by simp at h; omega
  | x :: r, [], h => by simp at h; omega
  | x :: r, y :: s, h => by
    simp only [List.map_cons, List.cons_append, List.cons.injEq] at h
    obtain ⟨h1, h2⟩ := encS_inj u v r s h.2
    exact ⟨by rw [h1, UInt8.toNat_inj.1 (show x.toNat = y.toNat by omega)], h2⟩
theorem encS_same {a b : ByteArray} {u v : List Int} (h : encS a ++ u = encS b ++ v) : a = b ∧ u = v := by
  unfold encS at h
  rw [List.append_assoc, List.append_assoc] at h
  obtain ⟨h1, h2⟩ := encS_inj u v a.toList b.toList h
  rw [ByteArray.toList_eq, ByteArray.toList_eq] at h1
  exact ⟨ByteArray.ext (Array.ext' h1), h2⟩
theorem empty_text {t : ByteArray} (h : t.data.toList.isEmpty = true) : t = ⟨#[]⟩ := ByteArray.ext (Array.ext' (by simpa using h))
mutual
theorem enc_inj : ∀ (x y : V) (u v : List Int), x.ok = true → y.ok = true → x.enc ++ u = y.enc ++ v → x = y ∧ u = v
  | .mk k i t l ks, .mk k' i' t' l' ks', u, v, hx, hy, h => by
    rw [V.ok, Bool.and_eq_true] at hx hy
    rw [V.enc, V.enc, List.cons_append, List.cons_append, List.cons.injEq] at h
    obtain ⟨rfl, h⟩ := h
    obtain ⟨hs, hl⟩ := hx
    obtain ⟨hs', hl'⟩ := hy
    unfold V.sound at hs hs'
    by_cases h12 : k = 1 ∨ k = 2
    · rw [if_pos h12, if_pos h12, List.singleton_append, List.singleton_append, List.cons.injEq] at h
      have e : ∀ (i : Int) (t : ByteArray) (l : List V) (ks : List ByteArray), (if k = 0 then i == 0 && t.data.toList.isEmpty && (l.length == 0 && ks.length == 0) else if k = 1 then (i == 0 || i == 1) && t.data.toList.isEmpty && (l.length == 0 && ks.length == 0) else if k = 2 then (decide (-1000000000000 ≤ i) && decide (i ≤ 1000000000000)) && t.data.toList.isEmpty && (l.length == 0 && ks.length == 0)
          else if k = 3 then i == 0 && textB t.data.toList && (l.length == 0 && ks.length == 0) else if k = 4 then i == 0 && t.data.toList.isEmpty && ks.length == 0 else if k = 5 then i == 0 && t.data.toList.isEmpty && ks.length == l.length && risingB ks ks.length else false) = true → t = ⟨#[]⟩ ∧ l = [] ∧ ks = [] := by
        intro i t l ks hq
        rcases h12 with rfl | rfl <;> simp at hq <;> exact ⟨empty_text (by simpa using hq.1.2), hq.2.1, hq.2.2⟩
      obtain ⟨rfl, rfl, rfl⟩ := e _ _ _ _ hs
      obtain ⟨rfl, rfl, rfl⟩ := e _ _ _ _ hs'
      exact ⟨by rw [h.1], h.2⟩
    · rw [if_neg h12, if_neg h12] at h
      have h1 : ¬ k = 1 := fun e => h12 (.inl e)
      have h2 : ¬ k = 2 := fun e => h12 (.inr e)
      by_cases h3 : k = 3
      · subst h3
        simp at hs hs'
        rw [if_pos rfl, if_pos rfl] at h
        obtain ⟨rfl, hu⟩ := encS_same h
        obtain ⟨⟨rfl, _⟩, rfl, rfl⟩ := hs
        obtain ⟨⟨rfl, _⟩, rfl, rfl⟩ := hs'
        exact ⟨rfl, hu⟩
      · rw [if_neg h3, if_neg h3] at h
        by_cases h0 : k = 0
        · subst h0
          simp at hs hs'
          obtain ⟨⟨rfl, ht⟩, rfl, rfl⟩ := hs
          obtain ⟨⟨rfl, ht'⟩, rfl, rfl⟩ := hs'
          obtain ⟨_, hu⟩ := encL_inj false [] [] [] [] u v rfl rfl (by simp) (by simpa using h)
          exact ⟨by rw [empty_text (t := t) (by simpa using ht), empty_text (t := t') (by simpa using ht')], hu⟩
        · by_cases h4 : k = 4
          · subst h4
            simp at hs hs'
            obtain ⟨⟨rfl, ht⟩, rfl⟩ := hs
            obtain ⟨⟨rfl, ht'⟩, rfl⟩ := hs'
            obtain ⟨⟨rfl, _⟩, hu⟩ := encL_inj false l [] l' [] u v hl hl' (by simp) (by simpa using h)
            exact ⟨by rw [empty_text (t := t) (by simpa using ht), empty_text (t := t') (by simpa using ht')], hu⟩
          · by_cases h5 : k = 5
            · subst h5
              simp at hs hs'
              obtain ⟨⟨⟨rfl, ht⟩, hk⟩, _⟩ := hs
              obtain ⟨⟨⟨rfl, ht'⟩, hk'⟩, _⟩ := hs'
              obtain ⟨⟨rfl, hke⟩, hu⟩ := encL_inj true l ks l' ks' u v hl hl' (fun _ => ⟨hk, hk'⟩) (by simpa using h)
              rw [hke rfl]
              exact ⟨by rw [empty_text (t := t) (by simpa using ht), empty_text (t := t') (by simpa using ht')], hu⟩
            · simp [h0, h1, h2, h3, h4, h5] at hs
theorem encL_inj (o : Bool) : ∀ (l : List V) (ks : List ByteArray) (l' : List V) (ks' : List ByteArray) (u v : List Int), V.okL l = true → V.okL l' = true → (o = true → ks.length = l.length ∧ ks'.length = l'.length) → V.encL o l ks ++ u = V.encL o l' ks' ++ v → (l = l' ∧ (o = true → ks = ks')) ∧ u = v
  | [], ks, [], ks', u, v, _, _, hk, h => by
    refine ⟨⟨rfl, fun ho => ?_⟩, by simpa [V.encL] using h⟩
    have := hk ho
    rw [List.length_eq_zero_iff.1 this.1, List.length_eq_zero_iff.1 this.2]
  | [], _, _ :: _, _, u, v, _, _, _, h => by simp [V.encL] at h
  | _ :: _, _, [], _, u, v, _, _, _, h => by simp [V.encL] at h
  | x :: r, ks, y :: s, ks', u, v, hx, hy, hk, h => by
    rw [V.okL, Bool.and_eq_true] at hx hy
    rw [V.encL, V.encL] at h
    simp only [List.cons_append, List.cons.injEq, true_and, List.append_assoc] at h
    cases o
    · simp only [Bool.false_eq_true, if_false, List.nil_append] at h
      obtain ⟨rfl, h1⟩ := enc_inj x y _ _ hx.1 hy.1 h
      obtain ⟨⟨rfl, _⟩, h2⟩ := encL_inj false r ks.tail s ks'.tail u v hx.2 hy.2 (by simp) h1
      exact ⟨⟨rfl, by simp⟩, h2⟩
    · simp only [if_true] at h
      obtain ⟨hke, h0⟩ := encS_same h
      obtain ⟨rfl, h1⟩ := enc_inj x y _ _ hx.1 hy.1 h0
      obtain ⟨hk1, hk2⟩ := hk rfl
      match ks, ks', hk1, hk2 with
      | a :: p, b :: q, hk1, hk2 =>
        obtain ⟨⟨rfl, h3⟩, h2⟩ := encL_inj true r p s q u v hx.2 hy.2 (fun _ => ⟨by simpa using hk1, by simpa using hk2⟩) h1
        simp only [List.headD_cons] at hke
        exact ⟨⟨rfl, fun _ => by rw [hke, h3 rfl]⟩, h2⟩
end
theorem cmp_zero {x y : V} (hx : x.ok = true) (hy : y.ok = true) : x.cmp y = 0 ↔ x = y := by
  constructor
  · intro h
    rw [cmp_lexc] at h
    exact (enc_inj x y [] [] hx hy (by rw [lexc_zero _ _ h])).1
  · rintro rfl
    exact (cmp_order x x x).2.2.1
end Go.Proofs.YtchadlbhdcpojaaDoor
/- Reading undoes writing: the text of a valid value is read as that value. Plain functions. -/
namespace Go.Proofs.YtchadlbhdcpojaaDoor
open Go

theorem skip_head {c : UInt8} (h : ¬ c = 32) (r : List UInt8) : skipP (c :: r) = c :: r := by rw [skipP, if_neg h]
theorem text_back (u : List UInt8) : ∀ (l acc : List UInt8), l.all visB = true → acc.length + l.length ≤ 100 → textP (l.flatMap escB ++ 34 :: u) acc = some (acc ++ l, u)
  | [], acc, _, _ => by simp [textP_cons]
  | c :: r, acc, hv, hl => by
    rw [List.all_cons, Bool.and_eq_true] at hv
    simp only [List.length_cons] at hl
    have ih := text_back u r (acc ++ [c]) hv.2 (by simp; omega)
    rw [List.append_assoc, List.singleton_append] at ih
    rw [List.flatMap_cons]
    unfold escB
    by_cases h : c = 34 ∨ c = 92
    · rw [if_pos h]
      show textP (92 :: c :: (r.flatMap escB ++ 34 :: u)) acc = _
      rw [textP_cons, if_neg (by decide), if_pos rfl]
      show (if _ then _ else _) = _
      rw [if_pos ⟨h, by omega⟩]
      exact ih
    · rw [if_neg h]
      show textP (c :: (r.flatMap escB ++ 34 :: u)) acc = _
      rw [textP_cons, if_neg (fun e => h (.inl e)), if_neg (fun e => h (.inr e)), if_pos ⟨hv.1, by omega⟩]
      exact ih
theorem quoted_back {l : List UInt8} (h : textB l = true) (u : List UInt8) : quotedP (quoteB l ++ u) = some (l, u) := by
  unfold textB at h
  rw [Bool.and_eq_true] at h
  have := text_back u l [] h.2 (by simpa using h.1)
  rw [List.nil_append] at this
  unfold quoteB
  rw [List.cons_append, List.append_assoc, quotedP, if_pos rfl]
  exact this
theorem names_back (u : List UInt8) : nameP (nullB ++ u) = some (leaf 0 0 ⟨#[]⟩, u) ∧ nameP (truthB false ++ u) = some (leaf 1 0 ⟨#[]⟩, u) ∧ nameP (truthB true ++ u) = some (leaf 1 1 ⟨#[]⟩, u) := by
  refine ⟨?_, ?_, ?_⟩ <;> simp [nameP, nullB, truthB, Lib.hasPrefix, nullW, falseW, trueW]

/-- What follows does not begin with a digit. -/
def noDig (u : List UInt8) : Prop := ∀ c r, u = c :: r → digB c = false
theorem dig_val (d : Nat) (h : d < 10) : digB (UInt8.ofNat (48 + d)) = true ∧ (UInt8.ofNat (48 + d)).toNat = 48 + d := by
  have e : (UInt8.ofNat (48 + d)).toNat = 48 + d := by rw [UInt8.toNat_ofNat']; omega
  exact ⟨by unfold digB; rw [e]; simp; omega, e⟩
theorem digs_end {u : List UInt8} (h : noDig u) (m c : Nat) : digsP u m c = some (m, c, u) := by
  cases u with
  | nil => rfl
  | cons x r => rw [digsP, h x r rfl]; simp
theorem digs_step (d : Nat) (h : d < 10) (v : List UInt8) (m c : Nat) (hm : 10 * m + d ≤ 1000000000000) : digsP (UInt8.ofNat (48 + d) :: v) m c = digsP v (10 * m + d) (c + 1) := by
  have hd := dig_val d h
  rw [digsP, if_pos hd.1, hd.2, show 48 + d - 48 = d by omega, if_pos hm]
theorem digs_dec (m : Nat) : ∀ (v : List UInt8), m ≤ 1000000000000 → digsP (Lib.decDigits m ++ v) 0 0 = digsP v m (Lib.nDigits m) := by
  induction m using Nat.strongRecOn with
  | ind m ih =>
    intro v hm
    rw [Lib.decDigits, Lib.nDigits]
    by_cases h : m < 10
    · rw [dif_pos h, dif_pos h, List.singleton_append, digs_step m h v 0 0 (by omega)]
      congr 1; omega
    · rw [dif_neg h, dif_neg h, List.append_assoc, ih (m / 10) (by omega) _ (by omega), List.singleton_append, digs_step (m % 10) (by omega) v _ _ (by omega)]
      congr 1; omega
theorem nDigits_pos (m : Nat) : 0 < Lib.nDigits m := by rw [Lib.nDigits]; split <;> omega
/-- The first digit. -/
theorem dec_head (m : Nat) : ∃ d r, d < 10 ∧ Lib.decDigits m = UInt8.ofNat (48 + d) :: r ∧ (d = 0 → m = 0) := by
  induction m using Nat.strongRecOn with
  | ind m ih =>
    rw [Lib.decDigits]
    by_cases h : m < 10
    · rw [dif_pos h]; exact ⟨m, [], h, rfl, id⟩
    · rw [dif_neg h]
      obtain ⟨d, r, h1, h2, h3⟩ := ih (m / 10) (by omega)
      exact ⟨d, r ++ [UInt8.ofNat (48 + m % 10)], h1, by rw [h2]; rfl, fun e => by have := h3 e; omega⟩
theorem mag_back (neg : Bool) (m : Nat) (hm : m ≤ 1000000000000) (hn : neg = true → 0 < m) {u : List UInt8} (hu : noDig u) : magP neg (Lib.decDigits m ++ u) = some (if neg then -(m : Int) else m, u) := by
  unfold magP
  rw [digs_dec m u hm, digs_end hu]
  have hp := nDigits_pos m
  obtain ⟨d, r, h1, h2, h3⟩ := dec_head m
  simp only []
  rw [if_neg (by omega), if_neg]
  rintro ⟨hh, hb⟩
  rw [h2] at hh
  simp only [List.cons_append, List.head?_cons, Option.some.injEq] at hh
  have hv := (dig_val d h1).2
  rw [hh] at hv
  have hd : d = 0 := by have : (48 : UInt8).toNat = 48 := rfl; omega
  have hm0 := h3 hd
  subst hm0
  refine hb ⟨by rw [Lib.nDigits]; simp, ?_⟩
  cases neg
  · rfl
  · have := hn rfl; omega
theorem number_back (i : Int) (h1 : -1000000000000 ≤ i) (h2 : i ≤ 1000000000000) {u : List UInt8} (hu : noDig u) (n : Nat) : numberP (Lib.itoa i ++ u) n = some (leaf 2 i ⟨#[]⟩, u, n) := by
  unfold numberP numR Lib.itoa
  by_cases h : i < 0
  · rw [if_pos h, List.cons_append, skip_head (by decide)]
    have e : takesP 45 (45 :: (Lib.decDigits i.natAbs ++ u)) = true := rfl
    rw [e, tailP, if_pos rfl, mag_back true i.natAbs (by omega) (fun _ => by omega) hu]
    simp only [if_true, Option.map_some]
    rw [show -(i.natAbs : Int) = i by omega]
  · rw [if_neg h]
    obtain ⟨d, r, g1, g2, g3⟩ := dec_head i.toNat
    have hv := (dig_val d g1).2
    have c32 : ¬ UInt8.ofNat (48 + d) = 32 := fun e => by rw [e] at hv; have : (32 : UInt8).toNat = 32 := rfl; omega
    have c45 : ¬ UInt8.ofNat (48 + d) = 45 := fun e => by rw [e] at hv; have : (45 : UInt8).toNat = 45 := rfl; omega
    have es : skipP (Lib.decDigits i.toNat ++ u) = Lib.decDigits i.toNat ++ u := by rw [g2, List.cons_append]; exact skip_head c32 _
    have et : takesP 45 (Lib.decDigits i.toNat ++ u) = false := by rw [g2, List.cons_append, takesP]; simpa using c45
    rw [es, et, tailP_not et, mag_back false i.toNat (by omega) (fun e => by cases e) hu]
    simp only [Bool.false_eq_true, if_false, Option.map_some]
    rw [show (i.toNat : Int) = i by omega]

theorem noDig_cons {c : UInt8} (h : digB c = false) (r : List UInt8) : noDig (c :: r) := fun x s e => by cases e; exact h
theorem noDig_nil : noDig [] := fun x s e => by cases e
/-- How the text of a value begins. -/
theorem write_head {x : V} (hx : x.ok = true) : ∃ c r, x.write = c :: r ∧ ¬ c = 32 ∧ ¬ c = 93 ∧ ¬ c = 125 := by
  obtain ⟨k, i, t, l, ks⟩ := x
  rw [V.write]
  split
  · exact ⟨110, _, rfl, by decide, by decide, by decide⟩
  · split
    · unfold truthB
      split
      · exact ⟨116, _, rfl, by decide, by decide, by decide⟩
      · exact ⟨102, _, rfl, by decide, by decide, by decide⟩
    · split
      · unfold Lib.itoa
        split
        · exact ⟨45, _, rfl, by decide, by decide, by decide⟩
        · obtain ⟨d, r, g1, g2, _⟩ := dec_head i.toNat
          have hv := (dig_val d g1).2
          refine ⟨_, r, g2, fun e => ?_, fun e => ?_, fun e => ?_⟩
          · rw [e] at hv; have : (32 : UInt8).toNat = 32 := rfl; omega
          · rw [e] at hv; have : (93 : UInt8).toNat = 93 := rfl; omega
          · rw [e] at hv; have : (125 : UInt8).toNat = 125 := rfl; omega
      · split
        · exact ⟨34, _, rfl, by decide, by decide, by decide⟩
        · split
          · exact ⟨91, _, rfl, by decide, by decide, by decide⟩
          · exact ⟨123, _, rfl, by decide, by decide, by decide⟩
theorem skip_write {x : V} (hx : x.ok = true) (u : List UInt8) : skipP (x.write ++ u) = x.write ++ u := by
  obtain ⟨c, r, e, h, _⟩ := write_head hx
  rw [e, List.cons_append, skip_head h]

/-- The items of a list, from one on. -/
theorem items_back (f : Nat → List UInt8 → Option (V × List UInt8 × Nat)) : ∀ (r : List V) (x : V) (acc : List V) (ks : List ByteArray) (n F : Nat) (u : List UInt8),
    (∀ y ∈ x :: r, y.ok = true ∧ ∀ n u, n + y.nodes ≤ 60 → noDig u → f n (y.write ++ u) = some (y, u, n + y.nodes)) → n + V.nodesL (x :: r) ≤ 60 → (x.write ++ (V.writeL false false r ks ++ 93 :: u)).length ≤ F →
    loopP (stepL f) 93 F acc n (x.write ++ (V.writeL false false r ks ++ 93 :: u)) = some (acc ++ x :: r, u, n + V.nodesL (x :: r))
  | [], x, acc, ks, n, F, u, hv, hn, hF => by
    obtain ⟨hx, hf⟩ := hv x (by simp)
    simp only [V.nodesL, Nat.add_zero] at hn ⊢
    have hs : stepL f acc n (x.write ++ (V.writeL false false [] ks ++ 93 :: u)) = some (acc ++ [x], 93 :: u, n + x.nodes) := by
      rw [stepL, V.writeL, List.nil_append, hf n (93 :: u) hn (noDig_cons (by decide) _)]
      rfl
    obtain ⟨F', rfl⟩ : ∃ F', F = F' + 1 := ⟨F - 1, by simp at hF; omega⟩
    rw [loopP_some _ _ hs, restP, skip_head (by decide), if_neg (by simp [takesP]), if_pos (by simp [takesP]), tailP, if_pos rfl]
  | y :: s, x, acc, ks, n, F, u, hv, hn, hF => by
    obtain ⟨hx, hf⟩ := hv x (by simp)
    have hw : V.writeL false false (y :: s) ks = 44 :: (y.write ++ V.writeL false false s ks.tail) := by rw [V.writeL]; rfl
    have hs : stepL f acc n (x.write ++ (V.writeL false false (y :: s) ks ++ 93 :: u)) = some (acc ++ [x], 44 :: (y.write ++ (V.writeL false false s ks.tail ++ 93 :: u)), n + x.nodes) := by
      rw [stepL, hw, List.cons_append, List.append_assoc, hf n _ (by simp only [V.nodesL] at hn; omega) (noDig_cons (by decide) _)]
      rfl
    rw [hw] at hF
    obtain ⟨F', rfl⟩ : ∃ F', F = F' + 1 := ⟨F - 1, by simp at hF; omega⟩
    have ih := items_back f s y (acc ++ [x]) ks.tail (n + x.nodes) F' u (fun z hz => hv z (by simp [List.mem_cons] at hz ⊢; right; exact hz)) (by simp only [V.nodesL] at hn ⊢; omega) (by
      simp only [List.length_append, List.length_cons, List.cons_append, List.append_assoc] at hF ⊢
      omega)
    rw [loopP_some _ _ hs, restP, skip_head (by decide), if_pos (by simp [takesP]), tailP, if_pos rfl, ih, List.append_assoc, List.singleton_append]
    simp only [V.nodesL]
    congr 2
    congr 1
    omega
theorem list_back (f : Nat → List UInt8 → Option (V × List UInt8 × Nat)) (l : List V) (ks : List ByteArray) (n : Nat) (u : List UInt8) (hv : ∀ y ∈ l, y.ok = true ∧ ∀ n u, n + y.nodes ≤ 60 → noDig u → f n (y.write ++ u) = some (y, u, n + y.nodes)) (hn : n + V.nodesL l ≤ 60) :
    seriesP (stepL f) 93 91 [] n (91 :: (V.writeL false true l ks ++ 93 :: u)) = some (l, u, n + V.nodesL l) := by
  unfold seriesP
  rw [skip_head (by decide), if_pos (by simp [takesP]), tailP, if_pos rfl]
  cases l with
  | nil => rw [V.writeL, List.nil_append, skip_head (by decide), if_pos (by simp [takesP]), tailP, if_pos rfl]; rfl
  | cons x r =>
    have hw : V.writeL false true (x :: r) ks = x.write ++ V.writeL false false r ks.tail := by rw [V.writeL]; rfl
    rw [hw, List.append_assoc, skip_write (hv x (by simp)).1]
    obtain ⟨c, q, e, _, h93, _⟩ := write_head (hv x (by simp)).1
    rw [if_neg (by rw [e]; simp [takesP]; exact h93)]
    have := items_back f r x [] ks.tail n ((x.write ++ (V.writeL false false r ks.tail ++ 93 :: u)).length + 1) u hv hn (by omega)
    rw [this]
    rfl

theorem posK_all (k : ByteArray) : ∀ {keys : List ByteArray}, (∀ x ∈ keys, ltB x k = true) → posK k keys = keys.length
  | [], _ => rfl
  | x :: r, h => by rw [posK, if_pos (h x (by simp)), posK_all k (fun y hy => h y (by simp [hy]))]; rfl
theorem ins_last (st : List ByteArray × List V) (k : ByteArray) (x : V) (h : ∀ y ∈ st.1, ltB y k = true) (hl : st.1.length = st.2.length) : insK st k x = (st.1 ++ [k], st.2 ++ [x]) ∧ hasK k st.1 = false := by
  unfold insK
  rw [posK_all k h]
  refine ⟨?_, ?_⟩
  · rw [List.take_of_length_le (Nat.le_refl _), List.drop_eq_nil_of_le (Nat.le_refl _), List.take_of_length_le (by omega), List.drop_eq_nil_of_le (by omega)]
  · rw [Bool.eq_false_iff]
    intro e
    have := h k ((hasK_iff k st.1).1 e)
    rw [ltB_irrefl] at this
    cases this
theorem stepO_back (f : Nat → List UInt8 → Option (V × List UInt8 × Nat)) {key : ByteArray} (hk : textB key.data.toList = true) {x : V} (st : List ByteArray × List V) (n : Nat) (u : List UInt8) (hst : ∀ y ∈ st.1, ltB y key = true) (hl : st.1.length = st.2.length) (hf : f n (x.write ++ u) = some (x, u, n + x.nodes)) :
    stepO f st n (quoteB key.data.toList ++ 58 :: (x.write ++ u)) = some ((st.1 ++ [key], st.2 ++ [x]), u, n + x.nodes) := by
  have h0 : skipP (quoteB key.data.toList ++ 58 :: (x.write ++ u)) = quoteB key.data.toList ++ 58 :: (x.write ++ u) := by
    unfold quoteB; rw [List.cons_append, skip_head (by decide)]
  have hi := ins_last st key x hst hl
  have hb : (⟨key.data.toList.toArray⟩ : ByteArray) = key := ByteArray.ext (by simp)
  rw [stepO, h0, quoted_back hk]
  simp only []
  rw [skip_head (by decide), if_pos (by simp [takesP]), tailP, if_pos rfl, hf]
  simp only []
  rw [hb, if_neg (by rw [hi.2]; simp), hi.1]
/-- The items of an object, from one on. -/
theorem entries_back (f : Nat → List UInt8 → Option (V × List UInt8 × Nat)) : ∀ (r : List V) (x : V) (key : ByteArray) (ks : List ByteArray) (st : List ByteArray × List V) (n F : Nat) (u : List UInt8),
    (∀ y ∈ x :: r, y.ok = true ∧ ∀ n u, n + y.nodes ≤ 60 → noDig u → f n (y.write ++ u) = some (y, u, n + y.nodes)) → ks.length = r.length → (∀ k ∈ key :: ks, textB k.data.toList = true) → Rising (st.1 ++ key :: ks) → st.1.length = st.2.length →
    n + V.nodesL (x :: r) ≤ 60 → (quoteB key.data.toList ++ 58 :: (x.write ++ (V.writeL true false r ks ++ 125 :: u))).length ≤ F →
    loopP (stepO f) 125 F st n (quoteB key.data.toList ++ 58 :: (x.write ++ (V.writeL true false r ks ++ 125 :: u))) = some ((st.1 ++ key :: ks, st.2 ++ x :: r), u, n + V.nodesL (x :: r))
  | [], x, key, ks, st, n, F, u, hv, hlk, ht, hR, hl, hn, hF => by
    obtain ⟨hx, hf⟩ := hv x (by simp)
    have hk0 : ks = [] := List.length_eq_zero_iff.1 hlk
    subst hk0
    simp only [V.nodesL, Nat.add_zero] at hn ⊢
    have hlt : ∀ y ∈ st.1, ltB y key = true := fun y hy => (List.pairwise_append.1 hR).2.2 y hy key (by simp)
    have hs : stepO f st n (quoteB key.data.toList ++ 58 :: (x.write ++ (V.writeL true false [] [] ++ 125 :: u))) = some ((st.1 ++ [key], st.2 ++ [x]), 125 :: u, n + x.nodes) := by
      rw [V.writeL, List.nil_append]
      exact stepO_back f (ht key (by simp)) st n (125 :: u) hlt hl (hf n (125 :: u) hn (noDig_cons (by decide) _))
    obtain ⟨F', rfl⟩ : ∃ F', F = F' + 1 := ⟨F - 1, by simp at hF; omega⟩
    rw [loopP_some _ _ hs, restP, skip_head (by decide), if_neg (by simp [takesP]), if_pos (by simp [takesP]), tailP, if_pos rfl]
  | y :: s, x, key, ks, st, n, F, u, hv, hlk, ht, hR, hl, hn, hF => by
    obtain ⟨hx, hf⟩ := hv x (by simp)
    match ks, hlk with
    | k2 :: ks2, hlk =>
      have hw : V.writeL true false (y :: s) (k2 :: ks2) = 44 :: (quoteB k2.data.toList ++ 58 :: (y.write ++ V.writeL true false s ks2)) := by
        rw [V.writeL, sepB]
        simp
      have hlt : ∀ z ∈ st.1, ltB z key = true := fun z hz => (List.pairwise_append.1 hR).2.2 z hz key (by simp)
      have hs : stepO f st n (quoteB key.data.toList ++ 58 :: (x.write ++ (V.writeL true false (y :: s) (k2 :: ks2) ++ 125 :: u))) = some ((st.1 ++ [key], st.2 ++ [x]), 44 :: (quoteB k2.data.toList ++ 58 :: (y.write ++ (V.writeL true false s ks2 ++ 125 :: u))), n + x.nodes) := by
        rw [hw, List.cons_append, List.append_assoc, List.cons_append, List.append_assoc]
        exact stepO_back f (ht key (by simp)) st n _ hlt hl (hf n _ (by simp only [V.nodesL] at hn; omega) (noDig_cons (by decide) _))
      rw [hw] at hF
      obtain ⟨F', rfl⟩ : ∃ F', F = F' + 1 := ⟨F - 1, by simp at hF; omega⟩
      have ih := entries_back f s y k2 ks2 (st.1 ++ [key], st.2 ++ [x]) (n + x.nodes) F' u (fun z hz => hv z (by simp [List.mem_cons] at hz ⊢; right; exact hz)) (by simpa using hlk) (fun k hk => ht k (by simp [List.mem_cons] at hk ⊢; right; exact hk)) (by simpa [List.append_assoc] using hR) (by simp [hl]) (by simp only [V.nodesL] at hn ⊢; omega) (by
        simp only [List.length_append, List.length_cons, List.cons_append, List.append_assoc] at hF ⊢
        omega)
      rw [loopP_some _ _ hs, restP, skip_head (by decide), if_pos (by simp [takesP]), tailP, if_pos rfl, ih]
      simp only [V.nodesL, List.append_assoc, List.singleton_append]
      congr 2
      congr 1
      omega
theorem object_back (f : Nat → List UInt8 → Option (V × List UInt8 × Nat)) (l : List V) (ks : List ByteArray) (n : Nat) (u : List UInt8) (hv : ∀ y ∈ l, y.ok = true ∧ ∀ n u, n + y.nodes ≤ 60 → noDig u → f n (y.write ++ u) = some (y, u, n + y.nodes)) (hlk : ks.length = l.length) (ht : ∀ k ∈ ks, textB k.data.toList = true) (hR : Rising ks) (hn : n + V.nodesL l ≤ 60) :
    seriesP (stepO f) 125 123 ([], []) n (123 :: (V.writeL true true l ks ++ 125 :: u)) = some ((ks, l), u, n + V.nodesL l) := by
  unfold seriesP
  rw [skip_head (by decide), if_pos (by simp [takesP]), tailP, if_pos rfl]
  match l, ks, hlk with
  | [], [], _ => rw [V.writeL, List.nil_append, skip_head (by decide), if_pos (by simp [takesP]), tailP, if_pos rfl]; rfl
  | x :: r, k :: ks', hlk =>
    have hw : V.writeL true true (x :: r) (k :: ks') = quoteB k.data.toList ++ 58 :: (x.write ++ V.writeL true false r ks') := by
      rw [V.writeL, sepB]
      simp
    have hsk : skipP (quoteB k.data.toList ++ 58 :: (x.write ++ (V.writeL true false r ks' ++ 125 :: u))) = quoteB k.data.toList ++ 58 :: (x.write ++ (V.writeL true false r ks' ++ 125 :: u)) := by
      unfold quoteB; rw [List.cons_append, skip_head (by decide)]
    rw [hw, List.append_assoc, List.cons_append, List.append_assoc, hsk, if_neg (by unfold quoteB; simp [takesP])]
    have := entries_back f r x k ks' ([], []) n ((quoteB k.data.toList ++ 58 :: (x.write ++ (V.writeL true false r ks' ++ 125 :: u))).length + 1) u hv (by simpa using hlk) ht hR rfl hn (by omega)
    rw [this]
    rfl
theorem rising_of {ks : List ByteArray} (h : risingB ks ks.length = true) : Rising ks ∧ ∀ k ∈ ks, textB k.data.toList = true := by
  have ht : ∀ k ∈ ks, textB k.data.toList = true := by
    intro k hk
    obtain ⟨j, hj⟩ := List.mem_iff_getElem?.1 hk
    have hlt : j < ks.length := (List.getElem?_eq_some_iff.1 hj).1
    have := risingB_at h hlt
    rwa [List.getD_eq_getElem?_getD, hj] at this
  have hadj : ∀ i, i + 1 < ks.length → ltB (ks.getD i ByteArray.empty) (ks.getD (i + 1) ByteArray.empty) = true := by
    intro i hi
    unfold risingB at h
    rw [List.all_eq_true] at h
    have := h (i + 1) (by simpa using hi)
    simp at this
    simpa using this.2
  refine ⟨List.pairwise_iff_getElem.2 fun i j hi hj hij => ?_, ht⟩
  have key : ∀ d i, i + d + 1 < ks.length → ltB (ks.getD i ByteArray.empty) (ks.getD (i + d + 1) ByteArray.empty) = true := by
    intro d
    induction d with
    | zero => intro i hi; exact hadj i hi
    | succ d ih => intro i hi; exact ltB_trans (ih i (by omega)) (by have := hadj (i + d + 1) (by omega); rwa [show i + (d + 1) + 1 = i + d + 1 + 1 by omega])
  have := key (j - i - 1) i (by omega)
  rw [show i + (j - i - 1) + 1 = j by omega] at this
  simpa [List.getD_eq_getElem?_getD, hi, hj] using this

theorem value_back : ∀ (L : Nat) (x : V) (n : Nat) (u : List UInt8), x.ok = true → x.depth ≤ L → n + x.nodes ≤ 60 → noDig u → valueP L n (x.write ++ u) = some (x, u, n + x.nodes)
  | 0, x, n, u, hx, hd, hn, hu => by have := V.depth_pos x; omega
  | L + 1, .mk k i t l ks, n, u, hx, hd, hn, hu => by
    have hok := hx
    rw [V.ok, Bool.and_eq_true] at hx
    obtain ⟨hs, hl⟩ := hx
    unfold V.sound at hs
    simp only [V.depth, V.nodes] at hd hn
    have hmem : ∀ y ∈ l, y.ok = true ∧ ∀ n u, n + y.nodes ≤ 60 → noDig u → valueP L n (y.write ++ u) = some (y, u, n + y.nodes) := fun y hy =>
      ⟨V.okL_mem hl hy, fun n u h1 h2 => value_back L y n u (V.okL_mem hl hy) (by have := V.depth_mem hy; omega) h1 h2⟩
    rw [valueP, if_pos (by omega), skip_write hok]
    by_cases h0 : k = 0
    · subst h0
      simp at hs
      obtain ⟨⟨rfl, ht⟩, rfl, rfl⟩ := hs
      have e : (V.mk 0 0 t [] []).write ++ u = 110 :: ([117, 108, 108] ++ u) := by rw [V.write, if_pos rfl]; rfl
      rw [e]
      simp only []
      rw [if_neg (by decide), if_neg (by decide), if_neg (by decide), if_pos (by decide), show (110 : UInt8) :: ([117, 108, 108] ++ u) = nullB ++ u from rfl, (names_back u).1, empty_text (t := t) (by simpa using ht)]
      simp [leaf, V.nodes, V.nodesL]
    by_cases h1 : k = 1
    · subst h1
      simp at hs
      obtain ⟨⟨hi, ht⟩, rfl, rfl⟩ := hs
      rcases hi with rfl | rfl
      · have e : (V.mk 1 0 t [] []).write ++ u = 102 :: ([97, 108, 115, 101] ++ u) := by rw [V.write, if_neg (by decide), if_pos rfl]; rfl
        rw [e]
        simp only []
        rw [if_neg (by decide), if_neg (by decide), if_neg (by decide), if_pos (by decide), show (102 : UInt8) :: ([97, 108, 115, 101] ++ u) = truthB false ++ u from rfl, (names_back u).2.1, empty_text (t := t) (by simpa using ht)]
        simp [leaf, V.nodes, V.nodesL]
      · have e : (V.mk 1 1 t [] []).write ++ u = 116 :: ([114, 117, 101] ++ u) := by rw [V.write, if_neg (by decide), if_pos rfl]; rfl
        rw [e]
        simp only []
        rw [if_neg (by decide), if_neg (by decide), if_neg (by decide), if_pos (by decide), show (116 : UInt8) :: ([114, 117, 101] ++ u) = truthB true ++ u from rfl, (names_back u).2.2, empty_text (t := t) (by simpa using ht)]
        simp [leaf, V.nodes, V.nodesL]
    by_cases h2 : k = 2
    · subst h2
      simp at hs
      obtain ⟨⟨⟨hi1, hi2⟩, ht⟩, rfl, rfl⟩ := hs
      have e : (V.mk 2 i t [] []).write = Lib.itoa i := by rw [V.write, if_neg (by decide), if_neg (by decide), if_pos rfl]
      have hc : ∃ c r, Lib.itoa i = c :: r ∧ (c = 45 ∨ ∃ d, d < 10 ∧ c = UInt8.ofNat (48 + d)) := by
        unfold Lib.itoa
        split
        · exact ⟨45, _, rfl, .inl rfl⟩
        · obtain ⟨d, r, g1, g2, _⟩ := dec_head i.toNat
          exact ⟨_, r, g2, .inr ⟨d, g1, rfl⟩⟩
      obtain ⟨c, r, hcr, hcd⟩ := hc
      have hne : ∀ z : UInt8, (z = 91 ∨ z = 123 ∨ z = 34 ∨ z = 110 ∨ z = 102 ∨ z = 116) → ¬ c = z := by
        intro z hz hcz
        subst hcz
        rcases hcd with rfl | ⟨d, hd10, hdd⟩
        · revert hz; decide
        · have hv := (dig_val d hd10).2
          rw [← hdd] at hv
          rcases hz with rfl | rfl | rfl | rfl | rfl | rfl <;> simp at hv <;> omega
      rw [e]
      have hnb := number_back i hi1 hi2 hu (n + 1)
      rw [hcr, List.cons_append] at hnb ⊢
      simp only []
      rw [if_neg (hne 91 (by simp)), if_neg (hne 123 (by simp)), if_neg (hne 34 (by simp)), if_neg (fun h => h.elim (hne 110 (by simp)) (fun h => h.elim (hne 102 (by simp)) (hne 116 (by simp)))), hnb, empty_text (t := t) (by simpa using ht)]
      simp [leaf, V.nodes, V.nodesL]
    by_cases h3 : k = 3
    · subst h3
      simp at hs
      obtain ⟨⟨rfl, ht⟩, rfl, rfl⟩ := hs
      have e : (V.mk 3 0 t [] []).write = quoteB t.data.toList := by rw [V.write, if_neg (by decide), if_neg (by decide), if_neg (by decide), if_pos rfl]
      have hq := quoted_back (l := t.data.toList) (by simpa using ht) u
      have hh : quoteB t.data.toList ++ u = 34 :: (t.data.toList.flatMap escB ++ [34] ++ u) := rfl
      rw [e]
      rw [hh] at hq ⊢
      simp only []
      rw [if_neg (by decide), if_neg (by decide), if_pos trivial, hq]
      have hb : (⟨t.data.toList.toArray⟩ : ByteArray) = t := ByteArray.ext (by simp)
      simp [leaf, V.nodes, V.nodesL]
    by_cases h4 : k = 4
    · subst h4
      simp at hs
      obtain ⟨⟨rfl, ht⟩, rfl⟩ := hs
      have e : (V.mk 4 0 t l []).write ++ u = 91 :: (V.writeL false true l [] ++ 93 :: u) := by rw [V.write, if_neg (by decide), if_neg (by decide), if_neg (by decide), if_neg (by decide), if_pos rfl]; simp
      rw [e]
      simp only []
      rw [if_pos trivial, list_back (valueP L) l [] (n + 1) u hmem (by omega), empty_text (t := t) (by simpa using ht)]
      simp [V.nodes]
      omega
    by_cases h5 : k = 5
    · subst h5
      simp at hs
      obtain ⟨⟨⟨rfl, ht⟩, hk⟩, hR⟩ := hs
      obtain ⟨hr1, hr2⟩ := rising_of hR
      have e : (V.mk 5 0 t l ks).write ++ u = 123 :: (V.writeL true true l ks ++ 125 :: u) := by rw [V.write, if_neg (by decide), if_neg (by decide), if_neg (by decide), if_neg (by decide), if_neg (by decide)]; simp
      rw [e]
      simp only []
      rw [if_neg (by decide), if_pos trivial, object_back (valueP L) l ks (n + 1) u hmem hk hr2 hr1 (by omega), empty_text (t := t) (by simpa using ht)]
      simp [V.nodes]
      omega
    simp [h0, h1, h2, h3, h4, h5] at hs
/-- Reading undoes writing. -/
theorem parse_back {x : V} (h : x.valid = true) : parseP x.write = some x := by
  unfold V.valid V.fits at h
  simp at h
  have := value_back 6 x 0 [] h.1.1 (by omega) (by omega) noDig_nil
  rw [List.append_nil] at this
  rw [parseP, this]
  rfl
/-- Valid values with one text are one. -/
theorem write_inj {x y : V} (hx : x.valid = true) (hy : y.valid = true) (h : x.write = y.write) : x = y := by
  have := parse_back hx
  rw [h, parse_back hy] at this
  exact (Option.some.inj this).symm
end Go.Proofs.YtchadlbhdcpojaaDoor
/- Reading a value as the specification reads it, and that both readings agree. Plain functions; no program is named here. -/
namespace Go.Proofs.YtchadlbhdcpojaaDoor
open Go

def skipB (b : Bool) (l : List UInt8) : List UInt8 := if b then skipP l else l
theorem skipB_len (b : Bool) (l : List UInt8) : (skipB b l).length ≤ l.length := by
  unfold skipB; split
  · exact skipP_len l
  · exact Nat.le_refl _
theorem skipB_skip (b : Bool) (l : List UInt8) : skipB b (skipB b l) = skipB b l := by
  cases b
  · rfl
  · exact skipP_skip l
/-- The inside of a text. -/
def strR : List UInt8 → List UInt8 → Option (List UInt8 × List UInt8)
  | [], _ => none
  | c :: r, acc =>
    if c = 34 then some (acc, r)
    else if c = 92 then
      match r with
      | [] => none
      | x :: q => if x = 34 ∨ x = 92 then strR q (acc ++ [x]) else none
    else strR r (acc ++ [c])
theorem strR_cons (c : UInt8) (r acc : List UInt8) : strR (c :: r) acc = if c = 34 then some (acc, r) else if c = 92 then (match r with | [] => none | x :: q => if x = 34 ∨ x = 92 then strR q (acc ++ [x]) else none) else strR r (acc ++ [c]) := by
  rw [strR.eq_def]
theorem strR_pre : ∀ (f : Nat) {l acc t r : List UInt8}, l.length ≤ f → strR l acc = some (t, r) → (∃ new, t = acc ++ new) ∧ r.length ≤ l.length
  | 0, l, _, _, _, hf, h => by cases l with
    | nil => simp [strR] at h
    | cons => simp at hf
  | f + 1, [], _, _, _, _, h => by simp [strR] at h
  | f + 1, c :: l, acc, t, r, hf, h => by
    rw [strR_cons] at h
    simp only [List.length_cons] at hf ⊢
    split at h
    · simp at h; exact ⟨⟨[], by simp [h.1]⟩, by rw [h.2]; omega⟩
    · split at h
      · cases l with
        | nil => simp at h
        | cons x q =>
          simp only [List.length_cons] at hf ⊢
          simp only [] at h
          split at h
          · obtain ⟨⟨new, hn⟩, hl⟩ := strR_pre f (by omega) h; exact ⟨⟨x :: new, by rw [hn]; simp⟩, by omega⟩
          · cases h
      · obtain ⟨⟨new, hn⟩, hl⟩ := strR_pre f (by omega) h; exact ⟨⟨c :: new, by rw [hn]; simp⟩, by omega⟩
theorem textB_pre {a b : List UInt8} (h : textB (a ++ b) = true) : textB a = true := by
  unfold textB at *
  simp at *
  exact ⟨by omega, h.2.1⟩
theorem textB_snoc {a : List UInt8} {c : UInt8} (h : textB a = true) : textB (a ++ [c]) = (visB c && decide (a.length < 100)) := by
  unfold textB at *
  rw [Bool.and_eq_true] at h
  rw [List.all_append, h.2, List.length_append, List.length_singleton, Bool.and_comm]
  simp
  congr 1
  exact decide_eq_decide.2 (by omega)
/-- Both read the same text, if it can be one. -/
theorem str_text : ∀ (f : Nat) (l acc : List UInt8), l.length ≤ f → textB acc = true → textP l acc = match strR l acc with | none => none | some (t, r) => if textB t = true then some (t, r) else none
  | 0, l, _, hf, _ => by cases l with
    | nil => simp [strR, textP]
    | cons => simp at hf
  | f + 1, [], _, _, _ => by simp [strR, textP]
  | f + 1, c :: l, acc, hf, ha => by
    simp only [List.length_cons] at hf
    have key : ∀ (x : UInt8) (q : List UInt8), q.length ≤ f → (if visB x = true ∧ acc.length < 100 then textP q (acc ++ [x]) else none) = match strR q (acc ++ [x]) with | none => none | some (t, r) => if textB t = true then some (t, r) else none := by
      intro x q hq
      have hs := textB_snoc (c := x) ha
      by_cases hx : visB x = true ∧ acc.length < 100
      · rw [if_pos hx]
        exact str_text f q (acc ++ [x]) hq (by rw [hs, hx.1]; simpa using hx.2)
      · rw [if_neg hx]
        have hb : ¬ textB (acc ++ [x]) = true := by rw [hs]; simpa using hx
        cases hr : strR q (acc ++ [x]) with
        | none => rfl
        | some y =>
          obtain ⟨⟨new, hn⟩, _⟩ := strR_pre _ (Nat.le_refl _) (show strR q (acc ++ [x]) = some (y.1, y.2) from hr)
          simp only []
          rw [if_neg]
          rw [hn]
          exact fun e => hb (textB_pre e)
    rw [textP_cons, strR_cons]
    by_cases h34 : c = 34
    · rw [if_pos h34, if_pos h34]; simp [ha]
    · rw [if_neg h34, if_neg h34]
      by_cases h92 : c = 92
      · rw [if_pos h92, if_pos h92]
        cases l with
        | nil => rfl
        | cons x q =>
          simp only [List.length_cons] at hf
          simp only []
          by_cases hx : x = 34 ∨ x = 92
          · have hv : visB x = true := by rcases hx with rfl | rfl <;> decide
            rw [if_pos hx, ← key x q (by omega)]
            simp [hx, hv]
          · rw [if_neg hx, if_neg (fun e => hx e.1)]
      · rw [if_neg h92, if_neg h92]
        exact key c l (by omega)

/-- Digits, of which fourteen count at most. -/
def digsR : List UInt8 → Nat → Nat → Nat × Nat × List UInt8
  | [], n, m => (n, m, [])
  | c :: r, n, m => if digB c = true then digsR r (if m < 14 then 10 * n + (c.toNat - 48) else n) (m + 1) else (n, m, c :: r)
def numberR (l : List UInt8) : Option (V × List UInt8) :=
  if (digsR (tailP 45 l) 0 0).2.1 = 0 ∨ 13 < (digsR (tailP 45 l) 0 0).2.1 ∨ (1 < (digsR (tailP 45 l) 0 0).2.1 ∧ (tailP 45 l).head? = some 48) ∨ (takesP 45 l = true ∧ (digsR (tailP 45 l) 0 0).1 = 0) then none
  else some (leaf 2 (if takesP 45 l then -((digsR (tailP 45 l) 0 0).1 : Int) else (digsR (tailP 45 l) 0 0).1) ⟨#[]⟩, (digsR (tailP 45 l) 0 0).2.2)
theorem digsR_more : ∀ (l : List UInt8) (n m : Nat), m ≤ (digsR l n m).2.1 ∧ n ≤ (digsR l n m).1 ∧ (digsR l n m).2.2.length ≤ l.length
  | [], n, m => by simp [digsR]
  | c :: r, n, m => by
    rw [digsR]
    split
    · have := digsR_more r (if m < 14 then 10 * n + (c.toNat - 48) else n) (m + 1)
      refine ⟨by omega, ?_, by simp; omega⟩
      have h := this.2.1
      split at h <;> rename_i hm
      · rw [if_pos hm]; omega
      · rw [if_neg hm]; omega
    · simp
theorem digs_agree : ∀ (l : List UInt8) (n m : Nat), n ≤ 1000000000000 → (digsR l n m).2.1 ≤ 14 → digsP l n m = if (digsR l n m).1 ≤ 1000000000000 then some (digsR l n m) else none
  | [], n, m, hn, _ => by simp [digsR, digsP, hn]
  | c :: r, n, m, hn, h14 => by
    rw [digsR] at h14 ⊢
    rw [digsP]
    by_cases hc : digB c = true
    · rw [if_pos hc] at h14 ⊢
      rw [if_pos hc]
      have h1 := digsR_more r (if m < 14 then 10 * n + (c.toNat - 48) else n) (m + 1)
      have hm : m < 14 := by have := h1.1; omega
      rw [if_pos hm] at h14 h1 ⊢
      by_cases hb : 10 * n + (c.toNat - 48) ≤ 1000000000000
      · rw [if_pos hb]; exact digs_agree r _ _ hb h14
      · rw [if_neg hb, if_neg (by omega)]
    · rw [if_neg hc, if_neg hc]
      simp [hn]
theorem digs_rest : ∀ (l : List UInt8) (n n2 m : Nat) {q : Nat × Nat × List UInt8}, digsP l n m = some q → (digsR l n2 m).2 = q.2
  | [], n, n2, m, q, h => by simp [digsP] at h; simp [digsR, ← h]
  | c :: r, n, n2, m, q, h => by
    rw [digsP] at h
    rw [digsR]
    split at h <;> rename_i hc
    · rw [if_pos hc]
      split at h
      · exact digs_rest r _ _ _ h
      · cases h
    · rw [if_neg hc]
      simp at h
      rw [← h]
theorem digs_big : ∀ (l : List UInt8) (n m : Nat) {q : Nat × Nat × List UInt8}, n ≤ 1000000000000 → 10 ^ m ≤ n → digsP l n (m + 1) = some q → 10 ^ (q.2.1 - 1) ≤ q.1 ∧ q.1 ≤ 1000000000000
  | [], n, m, q, hn, hp, h => by simp [digsP] at h; rw [← h]; exact ⟨by simpa using hp, hn⟩
  | c :: r, n, m, q, hn, hp, h => by
    rw [digsP] at h
    split at h
    · split at h
      · rename_i hb
        exact digs_big r _ (m + 1) hb (by rw [Nat.pow_succ]; omega) h
      · cases h
    · simp at h; rw [← h]; exact ⟨by simpa using hp, hn⟩
theorem digs_zero : ∀ (l : List UInt8) (n m : Nat), 0 < n → 0 < (digsR l n m).1
  | l, n, m, h => by have := (digsR_more l n m).2.1; omega
/-- The first digit tells whether the number is 0. -/
theorem digs_first {l : List UInt8} (hm : 0 < (digsR l 0 0).2.1) : (l.head? = some 48 ∧ ((digsR l 0 0).2.1 = 1 → (digsR l 0 0).1 = 0)) ∨ (¬ l.head? = some 48 ∧ 0 < (digsR l 0 0).1) := by
  cases l with
  | nil => simp [digsR] at hm
  | cons c r =>
    rw [digsR] at hm ⊢
    by_cases hc : digB c = true
    · rw [if_pos hc] at hm ⊢
      rw [if_pos (by omega)]
      by_cases h0 : c = 48
      · left
        subst h0
        refine ⟨rfl, fun h1 => ?_⟩
        show (digsR r 0 1).1 = 0
        have h1' : (digsR r 0 1).2.1 = 1 := h1
        cases r with
        | nil => rfl
        | cons d s =>
          rw [digsR] at h1' ⊢
          split at h1'
          · rename_i hd
            have := (digsR_more s (if 1 < 14 then 10 * 0 + (d.toNat - 48) else 0) (1 + 1)).1
            omega
          · rename_i hd
            rw [if_neg hd]
      · right
        refine ⟨by simpa using h0, ?_⟩
        unfold digB at hc
        simp at hc
        have : c.toNat ≠ 48 := fun e => h0 (UInt8.toNat_inj.1 (by rw [e]; rfl))
        exact digs_zero r _ _ (by omega)
    · rw [if_neg hc] at hm
      simp at hm
theorem ok_num (i : Int) : (leaf 2 i ⟨#[]⟩).ok = (decide (-1000000000000 ≤ i) && decide (i ≤ 1000000000000)) := by
  simp [leaf, V.ok, V.okL, V.sound]
/-- Both read the same number. -/
theorem number_agree {l : List UInt8} (hl : skipP l = l) (n : Nat) : numberP l n = match numberR l with | none => none | some (x, r) => if x.ok = true then some (x, r, n) else none := by
  unfold numberP numR magP numberR
  rw [hl]
  have hR : ∀ q, digsP (tailP 45 l) 0 0 = some q → (digsR (tailP 45 l) 0 0).2 = q.2 := fun q h => digs_rest (tailP 45 l) 0 0 0 h
  have hF := digs_first (l := tailP 45 l)
  have hA := digs_agree (tailP 45 l) 0 0 (by omega)
  have hB : (digsR (tailP 45 l) 0 0).2.1 ≤ 13 ∨ (tailP 45 l).head? = some 48 ∨ digsP (tailP 45 l) 0 0 = none := by
    cases hl : tailP 45 l with
    | nil => simp [digsR]
    | cons c r =>
      by_cases hc : digB c = true
      · by_cases h0 : c = 48
        · right; left; simp [h0]
        · cases hd : digsP (c :: r) 0 0 with
          | none => right; right; rfl
          | some q =>
            left
            rw [digs_rest (c :: r) 0 0 0 hd]
            rw [digsP, if_pos hc] at hd
            have hc' := hc
            unfold digB at hc'
            simp at hc'
            have hne : c.toNat ≠ 48 := fun e => h0 (UInt8.toNat_inj.1 (by rw [e]; rfl))
            split at hd
            · rename_i hb
              have := digs_big r _ 0 hb (by omega) hd
              rcases Nat.lt_or_ge q.2.1 14 with h | h
              · omega
              · have h2 : 10 ^ 13 ≤ 10 ^ (q.2.1 - 1) := Nat.pow_le_pow_right (by omega) (by omega)
                omega
            · cases hd
      · left; rw [digsR, if_neg hc]; simp
  generalize hD : digsR (tailP 45 l) 0 0 = D at *
  obtain ⟨N, M, R⟩ := D
  simp only [] at *
  have hok : N ≤ 1000000000000 → ∀ ng : Bool, (leaf 2 (if ng = true then -(N : Int) else N) ⟨#[]⟩).ok = true := by
    intro hb ng
    rw [ok_num]
    cases ng <;> simp <;> omega
  have hno : ¬ N ≤ 1000000000000 → ∀ ng : Bool, ¬ (leaf 2 (if ng = true then -(N : Int) else N) ⟨#[]⟩).ok = true := by
    intro hb ng
    rw [ok_num]
    cases ng <;> simp <;> omega
  cases hq : digsP (tailP 45 l) 0 0 with
  | none =>
    by_cases hC : M = 0 ∨ 13 < M ∨ (1 < M ∧ (tailP 45 l).head? = some 48) ∨ (takesP 45 l = true ∧ N = 0)
    · rw [if_pos hC]; rfl
    · rw [if_neg hC]
      have hM : M ≤ 13 := Nat.le_of_not_lt fun e => hC (.inr (.inl e))
      have h1 := hA (by omega)
      rw [hq] at h1
      have hb : ¬ N ≤ 1000000000000 := fun e => by rw [if_pos e] at h1; cases h1
      simp only [Option.map_none]
      rw [if_neg (hno hb _)]
  | some q =>
    obtain ⟨q1, q2, q3⟩ := q
    have hr := hR _ hq
    simp only [Prod.mk.injEq] at hr
    obtain ⟨rfl, rfl⟩ := hr
    simp only []
    by_cases hM0 : M = 0
    · rw [if_pos hM0, if_pos (.inl hM0)]; rfl
    · rw [if_neg hM0]
      by_cases hM : 13 < M
      · rcases hB with h | h | h
        · omega
        · rw [if_pos ⟨h, by omega⟩, if_pos (.inr (.inl hM))]; rfl
        · rw [hq] at h; cases h
      · have h1 := hA (by omega)
        rw [hq] at h1
        by_cases hb : N ≤ 1000000000000
        · rw [if_pos hb] at h1
          obtain rfl : q1 = N := by simpa using h1
          rcases hF (by omega) with ⟨hh, hz⟩ | ⟨hh, hz⟩
          · by_cases hone : M = 1
            · have hN := hz hone
              cases ht : takesP 45 l
              · have hC : ¬ (M = 0 ∨ 13 < M ∨ (1 < M ∧ (tailP 45 l).head? = some 48) ∨ (false = true ∧ q1 = 0)) := by
                  rintro (e | e | ⟨e, _⟩ | ⟨e, _⟩)
                  · exact hM0 e
                  · exact hM e
                  · omega
                  · cases e
                have h2 := hok hb false
                rw [if_neg (fun e => e.2 ⟨hone, rfl⟩), if_neg hC]
                simp only [Option.map_some]
                rw [if_pos h2]
              · rw [if_pos ⟨hh, fun e => Bool.noConfusion e.2⟩, if_pos (.inr (.inr (.inr ⟨rfl, hN⟩)))]; rfl
            · rw [if_pos ⟨hh, fun e => hone e.1⟩, if_pos (.inr (.inr (.inl ⟨by omega, hh⟩)))]; rfl
          · have hC : ¬ (M = 0 ∨ 13 < M ∨ (1 < M ∧ (tailP 45 l).head? = some 48) ∨ (takesP 45 l = true ∧ q1 = 0)) := by
              rintro (e | e | ⟨_, e⟩ | ⟨_, e⟩)
              · exact hM0 e
              · exact hM e
              · exact hh e
              · omega
            have h2 := hok hb (takesP 45 l)
            rw [if_neg (fun e => hh e.1), if_neg hC]
            simp only [Option.map_some]
            rw [if_pos h2]
        · rw [if_neg hb] at h1; cases h1
end Go.Proofs.YtchadlbhdcpojaaDoor
/- Values, lists and objects as the specification reads them, and that both readings agree. Plain functions; no program is named here. -/
namespace Go.Proofs.YtchadlbhdcpojaaDoor
open Go

section
variable (f : List UInt8 → Option (V × List UInt8)) (b : Bool)
/-- The items of a list, from one on. -/
def itemsR : Nat → List V → List UInt8 → Option (List V × List UInt8)
  | 0, _, _ => none
  | F + 1, acc, l => match f l with
    | none => none
    | some (x, r) => if takesP 93 (skipB b r) = true then some (acc ++ [x], tailP 93 (skipB b r)) else if takesP 44 (skipB b r) = true then itemsR F (acc ++ [x]) (tailP 44 (skipB b r)) else none
/-- The entries of an object, from one on. -/
def entriesR : Nat → List ByteArray × List V → List UInt8 → Option ((List ByteArray × List V) × List UInt8)
  | 0, _, _ => none
  | F + 1, st, l =>
    if takesP 34 (skipB b l) = true then
      match strR (tailP 34 (skipB b l)) [] with
      | none => none
      | some (t, l1) =>
        if takesP 58 (skipB b l1) = true then
          match f (tailP 58 (skipB b l1)) with
          | none => none
          | some (x, l2) =>
            if hasK ⟨t.toArray⟩ st.1 = true then none
            else if takesP 125 (skipB b l2) = true then some (insK st ⟨t.toArray⟩ x, tailP 125 (skipB b l2))
            else if takesP 44 (skipB b l2) = true then entriesR F (insK st ⟨t.toArray⟩ x) (tailP 44 (skipB b l2)) else none
        else none
    else none
def listR (l : List UInt8) : Option (V × List UInt8) :=
  if takesP 93 (skipB b l) = true then some (V.mk 4 0 ⟨#[]⟩ [] [], tailP 93 (skipB b l))
  else (itemsR f b (l.length + 1) [] (skipB b l)).map fun q => (V.mk 4 0 ⟨#[]⟩ q.1 [], q.2)
def objectR (l : List UInt8) : Option (V × List UInt8) :=
  if takesP 125 (skipB b l) = true then some (V.mk 5 0 ⟨#[]⟩ [] [], tailP 125 (skipB b l))
  else (entriesR f b (l.length + 1) ([], []) (skipB b l)).map fun q => (V.mk 5 0 ⟨#[]⟩ q.1.2 q.1.1, q.2)
end
/-- A value with so many levels at most. -/
def valueR (b : Bool) : Nat → List UInt8 → Option (V × List UInt8)
  | 0, _ => none
  | L + 1, l =>
    match skipB b l with
    | [] => none
    | c :: r =>
      match nameP (c :: r) with
      | some q => some q
      | none =>
        if c = 34 then (strR r []).map fun q => (leaf 3 0 ⟨q.1.toArray⟩, q.2)
        else if c = 91 then listR (valueR b L) b r
        else if c = 123 then objectR (valueR b L) b r
        else numberR (c :: r)

theorem V.okL_append (a l : List V) : V.okL (a ++ l) = (V.okL a && V.okL l) := by
  induction a with
  | nil => simp [V.okL]
  | cons x r ih => simp [V.okL, ih, Bool.and_assoc]
theorem V.nodesL_append (a l : List V) : V.nodesL (a ++ l) = V.nodesL a + V.nodesL l := by
  induction a with
  | nil => simp [V.nodesL]
  | cons x r ih => simp only [List.cons_append, V.nodesL, ih]; omega
theorem V.depthL_append (a l : List V) : V.depthL (a ++ l) = max (V.depthL a) (V.depthL l) := by
  induction a with
  | nil => simp [V.depthL]
  | cons x r ih => simp only [List.cons_append, V.depthL, ih]; omega

section
variable {f : List UInt8 → Option (V × List UInt8)} {b : Bool}
theorem itemsR_pre : ∀ (F : Nat) {acc ys : List V} {l r : List UInt8}, itemsR f b F acc l = some (ys, r) → ∃ more, ys = acc ++ more
  | 0, _, _, _, _, h => by simp [itemsR] at h
  | F + 1, acc, ys, l, r, h => by
    rw [itemsR] at h
    split at h
    · cases h
    · rename_i x r1 _
      split at h
      · simp at h; exact ⟨[x], h.1.symm⟩
      · split at h
        · obtain ⟨more, hm⟩ := itemsR_pre F h; exact ⟨x :: more, by simp [hm]⟩
        · cases h
/-- What has been read so far is less than what is read at last. -/
def Less (st st' : List ByteArray × List V) : Prop := (V.okL st'.2 = true → V.okL st.2 = true) ∧ (st'.1.all (fun k => textB k.data.toList) = true → st.1.all (fun k => textB k.data.toList) = true) ∧ V.nodesL st.2 ≤ V.nodesL st'.2
theorem ins_counts (st : List ByteArray × List V) (k : ByteArray) (x : V) : V.okL (insK st k x).2 = (V.okL st.2 && x.ok) ∧ (insK st k x).1.all (fun k => textB k.data.toList) = (st.1.all (fun k => textB k.data.toList) && textB k.data.toList) ∧ V.nodesL (insK st k x).2 = V.nodesL st.2 + x.nodes ∧ V.depthL (insK st k x).2 = max (V.depthL st.2) x.depth := by
  unfold insK
  generalize posK k st.1 = p
  refine ⟨?_, ?_, ?_, ?_⟩
  · have h := V.okL_append (st.2.take p) (st.2.drop p)
    rw [List.take_append_drop] at h
    simp only []
    rw [V.okL_append, h, V.okL]
    cases V.okL (st.2.take p) <;> cases x.ok <;> simp
  · have h := List.all_append (f := fun k : ByteArray => textB k.data.toList) (xs := st.1.take p) (ys := st.1.drop p)
    rw [List.take_append_drop] at h
    simp only []
    rw [List.all_append, h, List.all_cons]
    cases (st.1.take p).all (fun k => textB k.data.toList) <;> cases textB k.data.toList <;> simp
  · have h := V.nodesL_append (st.2.take p) (st.2.drop p)
    rw [List.take_append_drop] at h
    simp only []
    rw [V.nodesL_append, h, V.nodesL]
    omega
  · have h := V.depthL_append (st.2.take p) (st.2.drop p)
    rw [List.take_append_drop] at h
    simp only []
    rw [V.depthL_append, h, V.depthL]
    omega
theorem less_ins (st : List ByteArray × List V) (k : ByteArray) (x : V) : Less st (insK st k x) := by
  have h := ins_counts st k x
  exact ⟨fun e => by rw [h.1, Bool.and_eq_true] at e; exact e.1, fun e => by rw [h.2.1, Bool.and_eq_true] at e; exact e.1, by omega⟩
theorem Less.trans {a c d : List ByteArray × List V} (h : Less a c) (h' : Less c d) : Less a d := ⟨fun e => h.1 (h'.1 e), fun e => h.2.1 (h'.2.1 e), Nat.le_trans h.2.2 h'.2.2⟩
theorem ins_lens {st : List ByteArray × List V} (h : st.1.length = st.2.length) (k : ByteArray) (x : V) : (insK st k x).1.length = (insK st k x).2.length := by
  unfold insK
  simp
  omega
theorem ins_rising {st : List ByteArray × List V} (h : Rising st.1) {k : ByteArray} (hk : ¬ hasK k st.1 = true) (x : V) : Rising (insK st k x).1 := rising_ins h (fun e => hk ((hasK_iff k st.1).2 e))
theorem entriesR_pre : ∀ (F : Nat) {st st' : List ByteArray × List V} {l r : List UInt8}, entriesR f b F st l = some (st', r) → Less st st' ∧ (Rising st.1 → Rising st'.1) ∧ (st.1.length = st.2.length → st'.1.length = st'.2.length)
  | 0, _, _, _, _, h => by simp [entriesR] at h
  | F + 1, st, st', l, r, h => by
    rw [entriesR] at h
    split at h
    · split at h
      · cases h
      · split at h
        · split at h
          · cases h
          · rename_i t _ _ _ x _ _
            split at h
            · cases h
            · rename_i hk
              split at h
              · simp at h; rw [← h.1]; exact ⟨less_ins _ _ _, fun e => ins_rising e hk _, fun e => ins_lens e _ _⟩
              · split at h
                · obtain ⟨h1, h2, h3⟩ := entriesR_pre F h; exact ⟨(less_ins _ _ _).trans h1, fun e => h2 (ins_rising e hk _), fun e => h3 (ins_lens e _ _)⟩
                · cases h
        · cases h
    · cases h

variable {g : Nat → List UInt8 → Option (V × List UInt8 × Nat)}
/-- The program's reading against the specification's. -/
def Agrees (f : List UInt8 → Option (V × List UInt8)) (g : Nat → List UInt8 → Option (V × List UInt8 × Nat)) : Prop :=
  ∀ l n, g n l = match f l with | none => none | some (x, r) => if x.ok = true ∧ n + x.nodes ≤ 60 then some (x, r, n + x.nodes) else none
def Eats (f : List UInt8 → Option (V × List UInt8)) : Prop := ∀ l x r, f l = some (x, r) → r.length < l.length

theorem items_agree (hf : Agrees f g) (he : Eats f) : ∀ (F G : Nat) (acc : List V) (m : Nat) (l : List UInt8), l.length < F → l.length < G → V.okL acc = true →
    loopP (stepL g) 93 G acc (m + V.nodesL acc) l = match itemsR f true F acc l with | none => none | some (ys, r) => if V.okL ys = true ∧ m + V.nodesL ys ≤ 60 then some (ys, r, m + V.nodesL ys) else none
  | 0, _, _, _, _, h, _, _ => by omega
  | _, 0, _, _, _, _, h, _ => by omega
  | F + 1, G + 1, acc, m, l, hF, hG, ha => by
    rw [itemsR, loopP, stepL, hf l (m + V.nodesL acc)]
    cases hx : f l with
    | none => rfl
    | some q =>
      obtain ⟨x, r⟩ := q
      have hr := he l x r hx
      have h1 := skipP_len r
      have h2 := tailP_len 44 (skipP r)
      have hn : V.nodesL (acc ++ [x]) = V.nodesL acc + x.nodes := by rw [V.nodesL_append]; simp [V.nodesL]
      have hk : V.okL (acc ++ [x]) = x.ok := by rw [V.okL_append, ha]; simp [V.okL]
      simp only [skipB, if_true]
      by_cases hc : x.ok = true ∧ m + V.nodesL acc + x.nodes ≤ 60
      · rw [if_pos hc]
        simp only [Option.map_some]
        by_cases h44 : takesP 44 (skipP r) = true
        · have h93 : ¬ takesP 93 (skipP r) = true := by
            cases hs : skipP r with
            | nil => simp [takesP]
            | cons c s => rw [hs] at h44; simp [takesP] at h44 ⊢; rw [h44]; decide
          have hq := tailP_less h44
          have ih := items_agree hf he F G (acc ++ [x]) m (tailP 44 (skipP r)) (by omega) (by omega) (by rw [hk]; exact hc.1)
          rw [if_pos h44, if_neg h93, if_pos h44, ← ih, hn]
          congr 1
          omega
        · rw [if_neg h44]
          by_cases h93 : takesP 93 (skipP r) = true
          · rw [if_pos h93, if_pos h93]
            simp only []
            rw [if_pos ⟨by rw [hk]; exact hc.1, by rw [hn]; omega⟩, hn]
            simp
            omega
          · rw [if_neg h93, if_neg h93, if_neg h44]
      · rw [if_neg hc]
        simp only [Option.map_none]
        have hbad : ∀ ys : List V, (∃ more, ys = acc ++ [x] ++ more) → ¬ (V.okL ys = true ∧ m + V.nodesL ys ≤ 60) := by
          rintro ys ⟨more, rfl⟩ ⟨e1, e2⟩
          rw [V.okL_append, hk, Bool.and_eq_true] at e1
          rw [V.nodesL_append, hn] at e2
          exact hc ⟨e1.1, by omega⟩
        by_cases h93 : takesP 93 (skipP r) = true
        · rw [if_pos h93]
          simp only []
          rw [if_neg (hbad _ ⟨[], by simp⟩)]
        · rw [if_neg h93]
          by_cases h44 : takesP 44 (skipP r) = true
          · rw [if_pos h44]
            cases hy : itemsR f true F (acc ++ [x]) (tailP 44 (skipP r)) with
            | none => rfl
            | some q => simp only []; rw [if_neg (hbad _ (itemsR_pre F (show itemsR f true F (acc ++ [x]) (tailP 44 (skipP r)) = some (q.1, q.2) from hy)))]
          · rw [if_neg h44]

theorem tb_nil : textB [] = true := by decide
theorem entries_agree (hf : Agrees f g) (he : Eats f) : ∀ (F G : Nat) (st : List ByteArray × List V) (m : Nat) (l : List UInt8), l.length < F → l.length < G → V.okL st.2 = true → st.1.all (fun k => textB k.data.toList) = true →
    loopP (stepO g) 125 G st (m + V.nodesL st.2) l = match entriesR f true F st l with | none => none | some (st', r) => if (V.okL st'.2 = true ∧ st'.1.all (fun k => textB k.data.toList) = true) ∧ m + V.nodesL st'.2 ≤ 60 then some (st', r, m + V.nodesL st'.2) else none
  | 0, _, _, _, _, h, _, _, _ => by omega
  | _, 0, _, _, _, _, h, _, _ => by omega
  | F + 1, G + 1, st, m, l, hF, hG, ha, hb => by
    rw [entriesR, loopP, stepO]
    simp only [skipB, if_true]
    have e0 := skipP_len l
    cases hs0 : skipP l with
    | nil => simp [quotedP, takesP]
    | cons c0 r0 =>
      rw [hs0] at e0
      simp only [List.length_cons] at e0
      rw [quotedP]
      by_cases h34 : c0 = 34
      · have ht34 : takesP 34 (c0 :: r0) = true := by simp [takesP, h34]
        rw [if_pos h34, if_pos ht34, tailP, if_pos h34, str_text r0.length r0 [] (Nat.le_refl _) tb_nil]
        cases hq : strR r0 [] with
        | none => rfl
        | some q =>
          obtain ⟨t, l1⟩ := q
          have e1 := (strR_pre _ (Nat.le_refl _) hq).2
          have e2 := skipP_len l1
          simp only []
          by_cases h58 : takesP 58 (skipP l1) = true
          · have e3 := tailP_less h58
            rw [if_pos h58]
            have hz := hf (tailP 58 (skipP l1)) (m + V.nodesL st.2)
            cases hy : f (tailP 58 (skipP l1)) with
            | none =>
              rw [hy] at hz
              by_cases ht : textB t = true
              · rw [if_pos ht]
                simp only []
                rw [if_pos h58, hz]
              · rw [if_neg ht]
            | some y =>
              obtain ⟨x, l2⟩ := y
              rw [hy] at hz
              simp only [] at hz ⊢
              have e4 := he _ x l2 hy
              have e5 := skipP_len l2
              have hcn := ins_counts st ⟨t.toArray⟩ x
              by_cases hc : textB t = true ∧ x.ok = true ∧ m + V.nodesL st.2 + x.nodes ≤ 60
              · rw [if_pos hc.1]
                simp only []
                rw [if_pos h58, hz, if_pos hc.2]
                simp only []
                by_cases hh : hasK ⟨t.toArray⟩ st.1 = true
                · simp [hh]
                · simp only [if_neg hh]
                  by_cases h44 : takesP 44 (skipP l2) = true
                  · have h125 : ¬ takesP 125 (skipP l2) = true := by
                      cases hs : skipP l2 with
                      | nil => simp [takesP]
                      | cons c s => rw [hs] at h44; simp [takesP] at h44 ⊢; rw [h44]; decide
                    have e6 := tailP_less h44
                    have ih := entries_agree hf he F G (insK st ⟨t.toArray⟩ x) m (tailP 44 (skipP l2)) (by omega) (by omega) (by rw [hcn.1, ha, hc.2.1]; rfl) (by rw [hcn.2.1, hb]; simpa using hc.1)
                    rw [if_pos h44, if_neg h125, if_pos h44, ← ih, hcn.2.2.1]
                    congr 1
                    omega
                  · rw [if_neg h44]
                    by_cases h125 : takesP 125 (skipP l2) = true
                    · rw [if_pos h125, if_pos h125]
                      simp only []
                      rw [if_pos ⟨⟨by rw [hcn.1, ha, hc.2.1]; rfl, by rw [hcn.2.1, hb]; simpa using hc.1⟩, by rw [hcn.2.2.1]; omega⟩, hcn.2.2.1]
                      simp
                      omega
                    · rw [if_neg h125, if_neg h125, if_neg h44]
              · have hbad : ∀ st', Less (insK st ⟨t.toArray⟩ x) st' → ¬ ((V.okL st'.2 = true ∧ st'.1.all (fun k => textB k.data.toList) = true) ∧ m + V.nodesL st'.2 ≤ 60) := by
                  rintro st' hl ⟨⟨g1, g2⟩, g3⟩
                  have k1 := hl.1 g1
                  have k2 := hl.2.1 g2
                  have k3 := hl.2.2
                  rw [hcn.1, Bool.and_eq_true] at k1
                  rw [hcn.2.1, Bool.and_eq_true] at k2
                  rw [hcn.2.2.1] at k3
                  exact hc ⟨by simpa using k2.2, k1.2, by omega⟩
                refine Eq.trans (b := none) ?_ (Eq.symm ?_)
                · by_cases ht : textB t = true
                  · rw [if_pos ht]
                    simp only []
                    rw [if_pos h58, hz, if_neg (fun e => hc ⟨ht, e⟩)]
                  · rw [if_neg ht]
                by_cases hh : hasK ⟨t.toArray⟩ st.1 = true
                · rw [if_pos hh]
                · rw [if_neg hh]
                  by_cases h125 : takesP 125 (skipP l2) = true
                  · rw [if_pos h125]
                    simp only []
                    rw [if_neg (hbad _ ⟨id, id, Nat.le_refl _⟩)]
                  · rw [if_neg h125]
                    by_cases h44 : takesP 44 (skipP l2) = true
                    · rw [if_pos h44]
                      cases hw : entriesR f true F (insK st ⟨t.toArray⟩ x) (tailP 44 (skipP l2)) with
                      | none => rfl
                      | some q => simp only []; rw [if_neg (hbad _ (entriesR_pre F (show entriesR f true F (insK st ⟨t.toArray⟩ x) (tailP 44 (skipP l2)) = some (q.1, q.2) from hw)).1)]
                    · rw [if_neg h44]
          · rw [if_neg h58]
            by_cases ht : textB t = true
            · rw [if_pos ht]
              simp only []
              rw [if_neg h58]
            · rw [if_neg ht]
      · have ht34 : ¬ takesP 34 (c0 :: r0) = true := by simp [takesP, h34]
        rw [if_neg h34, if_neg ht34]
end
end Go.Proofs.YtchadlbhdcpojaaDoor
/- Both readings of a value agree, and so do both readings of a string. Plain functions; no program is named here. -/
namespace Go.Proofs.YtchadlbhdcpojaaDoor
open Go

theorem nameP_first {c : UInt8} {r : List UInt8} {x : V} {q : List UInt8} (h : nameP (c :: r) = some (x, q)) : (c = 110 ∨ c = 102 ∨ c = 116) ∧ x.ok = true ∧ x.nodes = 1 ∧ x.depth = 1 ∧ q.length ≤ r.length := by
  unfold nameP at h
  have hp : ∀ (p : List UInt8) (d : UInt8), Lib.hasPrefix (c :: r) (d :: p) = true → c = d := by
    intro p d e
    simp [Lib.hasPrefix] at e
    first | exact e.1.symm | exact e.1
  split at h
  · rename_i e
    simp at h
    obtain ⟨rfl, rfl⟩ := h
    exact ⟨.inl (hp _ _ e), by decide, by decide, by decide, by simp⟩
  · split at h
    · rename_i e
      simp at h
      obtain ⟨rfl, rfl⟩ := h
      exact ⟨.inr (.inl (hp _ _ e)), by decide, by decide, by decide, by simp⟩
    · split at h
      · rename_i e
        simp at h
        obtain ⟨rfl, rfl⟩ := h
        exact ⟨.inr (.inr (hp _ _ e)), by decide, by decide, by decide, by simp⟩
      · cases h
theorem numberR_letter {c : UInt8} (hc : c = 110 ∨ c = 102 ∨ c = 116) (r : List UInt8) : numberR (c :: r) = none := by
  have h45 : ¬ c = 45 := by rcases hc with rfl | rfl | rfl <;> decide
  have hd : digB c = false := by rcases hc with rfl | rfl | rfl <;> decide
  unfold numberR
  rw [tailP, if_neg h45, digsR, hd]
  simp
theorem numberR_facts {l : List UInt8} {x : V} {r : List UInt8} (h : numberR l = some (x, r)) : x.nodes = 1 ∧ x.depth = 1 ∧ r.length < l.length := by
  unfold numberR at h
  split at h
  · cases h
  · rename_i hn
    simp only [Option.some.injEq, Prod.mk.injEq] at h
    obtain ⟨rfl, rfl⟩ := h
    refine ⟨rfl, rfl, ?_⟩
    have h1 := tailP_len 45 l
    have h0 : ¬ (digsR (tailP 45 l) 0 0).2.1 = 0 := fun e => hn (.inl e)
    cases hl : tailP 45 l with
    | nil => rw [hl] at h0; simp [digsR] at h0
    | cons c s =>
      rw [hl] at h0 h1
      rw [digsR] at h0 ⊢
      split at h0
      · rename_i hc
        rw [if_pos hc]
        have := (digsR_more s (if 0 < 14 then 10 * 0 + (c.toNat - 48) else 0) (0 + 1)).2.2
        simp only [List.length_cons] at h1
        omega
      · simp at h0
section
variable {f : List UInt8 → Option (V × List UInt8)} {b : Bool}
theorem itemsR_len (he : Eats f) {D : Nat} (hd : ∀ l x r, f l = some (x, r) → x.depth ≤ D) : ∀ (F : Nat) {acc ys : List V} {l r : List UInt8}, itemsR f b F acc l = some (ys, r) → r.length ≤ l.length ∧ (V.depthL acc ≤ D → V.depthL ys ≤ D)
  | 0, _, _, _, _, h => by simp [itemsR] at h
  | F + 1, acc, ys, l, r, h => by
    rw [itemsR] at h
    split at h
    · cases h
    · rename_i x r1 h1
      have e1 := he _ _ _ h1
      have e2 := skipB_len b r1
      have e3 := hd _ _ _ h1
      have e4 : V.depthL (acc ++ [x]) = max (V.depthL acc) x.depth := by rw [V.depthL_append]; simp [V.depthL]
      split at h
      · have e5 := tailP_len 93 (skipB b r1)
        simp at h
        rw [← h.1, ← h.2, e4]
        exact ⟨by omega, by omega⟩
      · split at h
        · have e5 := tailP_len 44 (skipB b r1)
          obtain ⟨g1, g2⟩ := itemsR_len he hd F h
          rw [e4] at g2
          exact ⟨by omega, fun e => g2 (by omega)⟩
        · cases h
theorem entriesR_len (he : Eats f) {D : Nat} (hd : ∀ l x r, f l = some (x, r) → x.depth ≤ D) : ∀ (F : Nat) {st st' : List ByteArray × List V} {l r : List UInt8}, entriesR f b F st l = some (st', r) → r.length ≤ l.length ∧ (V.depthL st.2 ≤ D → V.depthL st'.2 ≤ D)
  | 0, _, _, _, _, h => by simp [entriesR] at h
  | F + 1, st, st', l, r, h => by
    rw [entriesR] at h
    split at h
    · split at h
      · cases h
      · rename_i t l1 ht
        have k1 := (strR_pre _ (Nat.le_refl _) ht).2
        have k2 := tailP_len 34 (skipB b l)
        have k3 := skipB_len b l
        have k4 := skipB_len b l1
        split at h
        · split at h
          · cases h
          · rename_i x l2 h1
            have e1 := he _ _ _ h1
            have e2 := skipB_len b l2
            have e3 := hd _ _ _ h1
            have k5 := tailP_len 58 (skipB b l1)
            have e4 := (ins_counts st ⟨t.toArray⟩ x).2.2.2
            split at h
            · cases h
            · split at h
              · have e5 := tailP_len 125 (skipB b l2)
                simp at h
                rw [← h.1, ← h.2, e4]
                exact ⟨by omega, by omega⟩
              · split at h
                · have e5 := tailP_len 44 (skipB b l2)
                  obtain ⟨g1, g2⟩ := entriesR_len he hd F h
                  rw [e4] at g2
                  exact ⟨by omega, fun e => g2 (by omega)⟩
                · cases h
        · cases h
    · cases h
end
theorem valueR_facts (b : Bool) : ∀ (L : Nat), Eats (valueR b L) ∧ ∀ l x r, valueR b L l = some (x, r) → x.depth ≤ L
  | 0 => ⟨fun l x r h => by simp [valueR] at h, fun l x r h => by simp [valueR] at h⟩
  | L + 1 => by
    obtain ⟨he, hd⟩ := valueR_facts b L
    have key : ∀ l x r, valueR b (L + 1) l = some (x, r) → r.length < l.length ∧ x.depth ≤ L + 1 := by
      intro l x r h
      rw [valueR] at h
      have hs := skipB_len b l
      split at h
      · cases h
      · rename_i c q hq
        rw [hq, List.length_cons] at hs
        split at h
        · rename_i y hy
          obtain ⟨y1, y2⟩ := y
          simp at h
          obtain ⟨rfl, rfl⟩ := h
          have := nameP_first hy
          exact ⟨by omega, by omega⟩
        · split at h
          · simp at h
            obtain ⟨t, ht, rfl⟩ := h
            have := (strR_pre _ (Nat.le_refl _) ht).2
            exact ⟨by omega, by simp [leaf, V.depth, V.depthL]⟩
          · split at h
            · unfold listR at h
              have h1 := skipB_len b q
              have h2 := tailP_len 93 (skipB b q)
              split at h
              · simp at h
                obtain ⟨rfl, rfl⟩ := h
                exact ⟨by omega, by simp [V.depth, V.depthL]⟩
              · simp at h
                obtain ⟨ys, hy, rfl⟩ := h
                obtain ⟨g1, g2⟩ := itemsR_len he hd _ hy
                have := g2 (by simp [V.depthL])
                exact ⟨by omega, by simp [V.depth]; omega⟩
            · split at h
              · unfold objectR at h
                have h1 := skipB_len b q
                have h2 := tailP_len 125 (skipB b q)
                split at h
                · simp at h
                  obtain ⟨rfl, rfl⟩ := h
                  exact ⟨by omega, by simp [V.depth, V.depthL]⟩
                · simp at h
                  obtain ⟨ks, ys, hy, rfl⟩ := h
                  obtain ⟨g1, g2⟩ := entriesR_len he hd _ hy
                  have := g2 (by simp [V.depthL])
                  exact ⟨by omega, by simp [V.depth]; simpa using this⟩
              · have := numberR_facts h
                simp only [List.length_cons] at this
                exact ⟨by omega, by omega⟩
    exact ⟨fun l x r h => (key l x r h).1, fun l x r h => (key l x r h).2⟩

theorem rising_B {ks : List ByteArray} (h : Rising ks) (ht : ks.all (fun k => textB k.data.toList) = true) : risingB ks ks.length = true := by
  unfold risingB
  rw [List.all_eq_true]
  intro i hi
  have hi' : i < ks.length := by simpa using hi
  rw [List.all_eq_true] at ht
  have e : ks.getD i ByteArray.empty = ks[i] := by simp [List.getD_eq_getElem?_getD, hi']
  rw [e, ht _ (List.getElem_mem hi'), Bool.true_and]
  by_cases h0 : i = 0
  · simp [h0]
  · have e' : ks.getD (i - 1) ByteArray.empty = ks[i - 1]'(by omega) := by simp [List.getD_eq_getElem?_getD, show i - 1 < ks.length by omega]
    unfold Rising at h
    rw [List.pairwise_iff_getElem] at h
    rw [e', h (i - 1) i (by omega) hi' (by omega)]
    simp
theorem ok_object_iff {ks : List ByteArray} {l : List V} (h : Rising ks) (hl : ks.length = l.length) : (V.mk 5 0 ⟨#[]⟩ l ks).ok = true ↔ V.okL l = true ∧ ks.all (fun k => textB k.data.toList) = true := by
  rw [V.ok, Bool.and_eq_true]
  constructor
  · rintro ⟨h1, h2⟩
    refine ⟨h2, ?_⟩
    unfold V.sound at h1
    simp at h1
    rw [List.all_eq_true]
    exact (rising_of h1.2).2
  · rintro ⟨h1, h2⟩
    refine ⟨?_, h1⟩
    unfold V.sound
    have := rising_B h h2
    simp [hl]
    rwa [hl] at this
theorem ok_list (l : List V) : (V.mk 4 0 ⟨#[]⟩ l []).ok = V.okL l := by
  rw [V.ok]
  unfold V.sound
  simp
theorem ok_text (t : List UInt8) : (leaf 3 0 ⟨t.toArray⟩).ok = textB t := by
  simp [leaf, V.ok, V.okL, V.sound]

theorem nameP_not {c : UInt8} (h : ¬ (c = 110 ∨ c = 102 ∨ c = 116)) (r : List UInt8) : nameP (c :: r) = none := by
  cases hq : nameP (c :: r) with
  | none => rfl
  | some q => exact absurd (nameP_first (show nameP (c :: r) = some (q.1, q.2) from hq)).1 h
section
variable {b : Bool} {L n : Nat} {l r : List UInt8} {c : UInt8}
theorem valueR_nil (h : skipB b l = []) : valueR b (L + 1) l = none := by rw [valueR, h]
theorem valueR_name (h : skipB b l = c :: r) {q : V × List UInt8} (hq : nameP (c :: r) = some q) : valueR b (L + 1) l = some q := by
  rw [valueR, h]; simp only []; rw [hq]
theorem valueR_text (h : skipB b l = 34 :: r) : valueR b (L + 1) l = (strR r []).map fun q => (leaf 3 0 ⟨q.1.toArray⟩, q.2) := by
  rw [valueR, h]; simp only []; rw [nameP_not (by decide)]; simp only []; rw [if_pos trivial]
theorem valueR_list (h : skipB b l = 91 :: r) : valueR b (L + 1) l = listR (valueR b L) b r := by
  rw [valueR, h]; simp only []; rw [nameP_not (by decide)]; simp only []; rw [if_neg (by decide), if_pos trivial]
theorem valueR_object (h : skipB b l = 123 :: r) : valueR b (L + 1) l = objectR (valueR b L) b r := by
  rw [valueR, h]; simp only []; rw [nameP_not (by decide)]; simp only []; rw [if_neg (by decide), if_neg (by decide), if_pos trivial]
theorem valueR_number (h : skipB b l = c :: r) (hq : nameP (c :: r) = none) (h34 : ¬ c = 34) (h91 : ¬ c = 91) (h123 : ¬ c = 123) : valueR b (L + 1) l = numberR (c :: r) := by
  rw [valueR, h]; simp only []; rw [hq]; simp only []; rw [if_neg h34, if_neg h91, if_neg h123]
theorem valueP_text (hn : n + 1 ≤ 60) (h : skipP l = 34 :: r) : valueP (L + 1) n l = (quotedP (34 :: r)).map fun q => (leaf 3 0 ⟨q.1.toArray⟩, q.2, n + 1) := by
  rw [valueP, if_pos hn, h]; simp only []; rw [if_neg (by decide), if_neg (by decide), if_pos trivial]
theorem valueP_list (hn : n + 1 ≤ 60) (h : skipP l = 91 :: r) : valueP (L + 1) n l = (seriesP (stepL (valueP L)) 93 91 [] (n + 1) (91 :: r)).map fun q => (V.mk 4 0 ⟨#[]⟩ q.1 [], q.2) := by
  rw [valueP, if_pos hn, h]; simp only []; rw [if_pos trivial]
theorem valueP_object (hn : n + 1 ≤ 60) (h : skipP l = 123 :: r) : valueP (L + 1) n l = (seriesP (stepO (valueP L)) 125 123 ([], []) (n + 1) (123 :: r)).map fun q => (V.mk 5 0 ⟨#[]⟩ q.1.2 q.1.1, q.2) := by
  rw [valueP, if_pos hn, h]; simp only []; rw [if_neg (by decide), if_pos trivial]
theorem valueP_name (hn : n + 1 ≤ 60) (h : skipP l = c :: r) (hc : c = 110 ∨ c = 102 ∨ c = 116) : valueP (L + 1) n l = (nameP (c :: r)).map fun q => (q.1, q.2, n + 1) := by
  have n91 : ¬ c = 91 := by rcases hc with rfl | rfl | rfl <;> decide
  have n123 : ¬ c = 123 := by rcases hc with rfl | rfl | rfl <;> decide
  have n34 : ¬ c = 34 := by rcases hc with rfl | rfl | rfl <;> decide
  rw [valueP, if_pos hn, h]; simp only []; rw [if_neg n91, if_neg n123, if_neg n34, if_pos hc]
theorem valueP_number (hn : n + 1 ≤ 60) (h : skipP l = c :: r) (hc : ¬ (c = 110 ∨ c = 102 ∨ c = 116)) (h34 : ¬ c = 34) (h91 : ¬ c = 91) (h123 : ¬ c = 123) : valueP (L + 1) n l = numberP (c :: r) (n + 1) := by
  rw [valueP, if_pos hn, h]; simp only []; rw [if_neg h91, if_neg h123, if_neg h34, if_neg hc]
end
/-- What of a reading the limits let. -/
def lets (n : Nat) : Option (V × List UInt8) → Option (V × List UInt8 × Nat)
  | none => none
  | some (x, r) => if x.ok = true ∧ n + x.nodes ≤ 60 then some (x, r, n + x.nodes) else none
theorem lets_yes {n : Nat} {x : V} (h : x.ok = true) (h' : n + x.nodes ≤ 60) (r : List UInt8) : lets n (some (x, r)) = some (x, r, n + x.nodes) := by rw [lets, if_pos ⟨h, h'⟩]
theorem lets_no {n : Nat} {x : V} (h : ¬ (x.ok = true ∧ n + x.nodes ≤ 60)) (r : List UInt8) : lets n (some (x, r)) = none := by rw [lets, if_neg h]
theorem agrees_iff {f : List UInt8 → Option (V × List UInt8)} {g : Nat → List UInt8 → Option (V × List UInt8 × Nat)} (h : ∀ l n, g n l = lets n (f l)) : Agrees f g := by
  intro l n
  rw [h l n]
  cases f l with
  | none => rfl
  | some q => rfl
theorem value_agree : ∀ (L : Nat), Agrees (valueR true L) (valueP L)
  | 0 => fun l n => by simp [valueR, valueP]
  | L + 1 => by
    have ih := value_agree L
    have he := (valueR_facts true L).1
    refine agrees_iff fun l n => ?_
    by_cases hn : n + 1 ≤ 60
    · cases hs : skipP l with
      | nil => rw [valueR_nil (show skipB true l = [] from hs), valueP, if_pos hn, hs]; rfl
      | cons c r =>
        have hB : skipB true l = c :: r := hs
        have hsk : skipP (c :: r) = c :: r := by rw [← hs, skipP_skip]
        have h1 := skipP_len r
        by_cases hw : c = 110 ∨ c = 102 ∨ c = 116
        · rw [valueP_name hn hs hw]
          cases hq : nameP (c :: r) with
          | none =>
            rw [valueR_number hB hq (by rcases hw with rfl | rfl | rfl <;> decide) (by rcases hw with rfl | rfl | rfl <;> decide) (by rcases hw with rfl | rfl | rfl <;> decide), numberR_letter hw]
            rfl
          | some q =>
            obtain ⟨x, q2⟩ := q
            have hx := nameP_first hq
            rw [valueR_name hB hq, lets_yes hx.2.1 (by omega), hx.2.2.1]
            rfl
        · have hnm := nameP_not hw r
          by_cases h34 : c = 34
          · subst h34
            rw [valueP_text hn hs, valueR_text hB, quotedP, if_pos rfl, str_text r.length r [] (Nat.le_refl _) tb_nil]
            cases hq : strR r [] with
            | none => rfl
            | some q =>
              obtain ⟨t, q2⟩ := q
              have hnd : (leaf 3 0 ⟨t.toArray⟩).nodes = 1 := rfl
              simp only [Option.map_some]
              by_cases ht : textB t = true
              · rw [if_pos ht, lets_yes (by rw [ok_text]; exact ht) (by omega), hnd]; rfl
              · rw [if_neg ht, lets_no (fun e => ht (by rw [← ok_text]; exact e.1))]; rfl
          · by_cases h91 : c = 91
            · subst h91
              have h2 := items_agree ih he (r.length + 1) (r.length + 1) [] (n + 1) (skipP r) (by omega) (by omega) rfl
              rw [valueP_list hn hs, valueR_list hB]
              unfold seriesP listR
              rw [hsk, if_pos (show takesP 91 (91 :: r) = true by simp [takesP]), tailP, if_pos rfl]
              by_cases h93 : takesP 93 (skipP r) = true
              · rw [if_pos h93, if_pos (show takesP 93 (skipB true r) = true from h93), lets_yes (by decide) (by simpa [V.nodes, V.nodesL] using hn)]
                rfl
              · simp only [V.nodesL, Nat.add_zero] at h2
                rw [if_neg h93, if_neg (show ¬ takesP 93 (skipB true r) = true from h93), h2, show skipB true r = skipP r from rfl]
                cases hi : itemsR (valueR true L) true (r.length + 1) [] (skipP r) with
                | none => rfl
                | some q =>
                  obtain ⟨ys, q2⟩ := q
                  simp only [Option.map_some]
                  by_cases hc : V.okL ys = true ∧ n + 1 + V.nodesL ys ≤ 60
                  · rw [if_pos hc, lets_yes (by rw [ok_list]; exact hc.1) (by simp only [V.nodes]; omega)]
                    simp [V.nodes]
                    omega
                  · rw [if_neg hc, lets_no (fun e => hc ⟨by rw [← ok_list]; exact e.1, by have := e.2; simp only [V.nodes] at this; omega⟩)]
                    rfl
            · by_cases h123 : c = 123
              · subst h123
                have h2 := entries_agree ih he (r.length + 1) (r.length + 1) ([], []) (n + 1) (skipP r) (by omega) (by omega) rfl rfl
                rw [valueP_object hn hs, valueR_object hB]
                unfold seriesP objectR
                rw [hsk, if_pos (show takesP 123 (123 :: r) = true by simp [takesP]), tailP, if_pos rfl]
                by_cases h125 : takesP 125 (skipP r) = true
                · rw [if_pos h125, if_pos (show takesP 125 (skipB true r) = true from h125), lets_yes (by decide) (by simpa [V.nodes, V.nodesL] using hn)]
                  rfl
                · simp only [V.nodesL, Nat.add_zero] at h2
                  rw [if_neg h125, if_neg (show ¬ takesP 125 (skipB true r) = true from h125), h2, show skipB true r = skipP r from rfl]
                  cases hi : entriesR (valueR true L) true (r.length + 1) ([], []) (skipP r) with
                  | none => rfl
                  | some q =>
                    obtain ⟨⟨ks, ys⟩, q2⟩ := q
                    obtain ⟨_, hR, hl⟩ := entriesR_pre _ hi
                    have hok := ok_object_iff (hR List.Pairwise.nil) (hl rfl)
                    simp only [Option.map_some]
                    by_cases hc : (V.okL ys = true ∧ ks.all (fun k => textB k.data.toList) = true) ∧ n + 1 + V.nodesL ys ≤ 60
                    · rw [if_pos hc, lets_yes (hok.2 hc.1) (by simp only [V.nodes]; omega)]
                      simp [V.nodes]
                      omega
                    · rw [if_neg hc, lets_no (fun e => hc ⟨hok.1 e.1, by have := e.2; simp only [V.nodes] at this; omega⟩)]
                      rfl
              · rw [valueP_number hn hs hw h34 h91 h123, valueR_number hB hnm h34 h91 h123, number_agree hsk]
                cases hq : numberR (c :: r) with
                | none => rfl
                | some q =>
                  obtain ⟨x, q2⟩ := q
                  have hf := numberR_facts hq
                  simp only []
                  by_cases hx : x.ok = true
                  · rw [if_pos hx, lets_yes hx (by omega), hf.1]
                  · rw [if_neg hx, lets_no (fun e => hx e.1)]
    · rw [valueP, if_neg hn]
      cases valueR true (L + 1) l with
      | none => rfl
      | some q =>
        obtain ⟨x, r⟩ := q
        rw [lets_no (fun e => hn (by have := V.nodes_pos x; omega))]
/-- What both readings make of a string. -/
theorem parse_agree (l : List UInt8) : parseP l = match valueR true 6 l with | none => none | some (x, r) => if skipP r = [] ∧ x.valid = true then some x else none := by
  have h := value_agree 6 l 0
  rw [parseP, h]
  cases hv : valueR true 6 l with
  | none => rfl
  | some q =>
    obtain ⟨x, r⟩ := q
    have hd := (valueR_facts true 6).2 l x r hv
    have e : x.valid = true ↔ (x.ok = true ∧ 0 + x.nodes ≤ 60) := by
      unfold V.valid V.fits
      simp only [Bool.and_eq_true, decide_eq_true_eq, Nat.zero_add]
      exact ⟨fun h => h.1, fun h => ⟨h, hd⟩⟩
    simp only []
    by_cases hc : x.ok = true ∧ 0 + x.nodes ≤ 60
    · rw [if_pos hc]
      simp only []
      by_cases hr : skipP r = []
      · rw [if_pos hr, if_pos ⟨hr, e.2 hc⟩]
      · rw [if_neg hr, if_neg (fun q => hr q.1)]
    · rw [if_neg hc, if_neg (fun q => hc (e.1 q.2))]
/-- What is read is valid. -/
theorem parse_valid {l : List UInt8} {x : V} (h : parseP l = some x) : x.valid = true := by
  rw [parse_agree] at h
  split at h
  · cases h
  · split at h
    · rename_i hc; simp at h; rw [← h]; exact hc.2
    · cases h
end Go.Proofs.YtchadlbhdcpojaaDoor
/- The text of what was read is what was read, without its blanks. Plain functions; no program is named here. -/
namespace Go.Proofs.YtchadlbhdcpojaaDoor
open Go

/-- A string without the blanks outside of its quotes; whether it begins inside of quotes. -/
def bareP : Bool → List UInt8 → List UInt8
  | _, [] => []
  | false, c :: r => if c = 32 then bareP false r else c :: bareP (c == 34) r
  | true, c :: r => if c = 92 then (match r with | [] => [c] | x :: q => c :: x :: bareP true q) else c :: bareP (!(c == 34)) r
theorem bare_out (c : UInt8) (r : List UInt8) : bareP false (c :: r) = if c = 32 then bareP false r else c :: bareP (c == 34) r := by rw [bareP.eq_def]
theorem bare_in (c : UInt8) (r : List UInt8) : bareP true (c :: r) = if c = 92 then (match r with | [] => [c] | x :: q => c :: x :: bareP true q) else c :: bareP (!(c == 34)) r := by rw [bareP.eq_def]
theorem bare_nil (b : Bool) : bareP b [] = [] := by cases b <;> rw [bareP.eq_def]
theorem bare_skip : ∀ l : List UInt8, bareP false (skipP l) = bareP false l
  | [] => rfl
  | c :: r => by
    rw [skipP]
    split
    · rename_i h; rw [bare_out, if_pos h]; exact bare_skip r
    · rfl
theorem bare_sign {c : UInt8} {l : List UInt8} (h : takesP c l = true) (h32 : ¬ c = 32) (h34 : ¬ c = 34) : bareP false l = c :: bareP false (tailP c l) := by
  cases l with
  | nil => simp [takesP] at h
  | cons x r =>
    simp [takesP] at h
    subst h
    rw [tailP, if_pos rfl, bare_out, if_neg h32, show (x == 34) = false by simpa using h34]
/-- Whether there is an object somewhere. -/
def V.isObj (x : V) : Bool := x.kind == 5
mutual
def V.objs : V → Bool
  | .mk k _ _ l _ => k == 5 || V.objsL l
def V.objsL : List V → Bool
  | [] => false
  | x :: r => x.objs || V.objsL r
end
theorem text_bare : ∀ (f : Nat) {l acc t r : List UInt8}, l.length ≤ f → textP l acc = some (t, r) → ∃ new, t = acc ++ new ∧ bareP true l = new.flatMap escB ++ 34 :: bareP false r
  | 0, l, _, _, _, hf, h => by cases l with
    | nil => simp [textP] at h
    | cons => simp at hf
  | f + 1, [], _, _, _, _, h => by simp [textP] at h
  | f + 1, c :: l, acc, t, r, hf, h => by
    rw [textP_cons] at h
    simp only [List.length_cons] at hf
    rw [bare_in]
    split at h
    · rename_i h34
      simp at h
      subst h34
      rw [if_neg (by decide)]
      exact ⟨[], by simp [h.1], by simp [h.2]⟩
    · rename_i h34
      split at h
      · rename_i h92
        subst h92
        rw [if_pos rfl]
        cases l with
        | nil => simp at h
        | cons x q =>
          simp only [List.length_cons] at hf
          simp only [] at h ⊢
          split at h
          · rename_i hx
            obtain ⟨new, h1, h2⟩ := text_bare f (by omega) h
            refine ⟨x :: new, by rw [h1]; simp, ?_⟩
            rw [h2, List.flatMap_cons, escB, if_pos hx.1]
            rfl
          · cases h
      · rename_i h92
        rw [if_neg h92, show (!(c == 34)) = true by simpa using h34]
        split at h
        · obtain ⟨new, h1, h2⟩ := text_bare f (by omega) h
          refine ⟨c :: new, by rw [h1]; simp, ?_⟩
          rw [h2, List.flatMap_cons, escB, if_neg (fun e => e.elim h34 h92)]
          rfl
        · cases h
theorem quoted_bare {l t r : List UInt8} (h : quotedP l = some (t, r)) : bareP false l = quoteB t ++ bareP false r := by
  cases l with
  | nil => simp [quotedP] at h
  | cons c l =>
    rw [quotedP] at h
    split at h
    · rename_i hc
      subst hc
      obtain ⟨new, h1, h2⟩ := text_bare _ (Nat.le_refl _) h
      rw [bare_out, if_neg (by decide), show ((34 : UInt8) == 34) = true from rfl, h2, h1, quoteB]
      simp
    · cases h

/-- Bytes that are neither blanks nor quotes. -/
theorem bare_plain : ∀ (l r : List UInt8), (∀ c ∈ l, ¬ c = 32 ∧ ¬ c = 34) → bareP false (l ++ r) = l ++ bareP false r
  | [], _, _ => rfl
  | c :: l, r, h => by
    have hc := h c (by simp)
    rw [List.cons_append, bare_out, if_neg hc.1, show (c == 34) = false by simpa using hc.2, bare_plain l r (fun x hx => h x (by simp [hx]))]
    rfl
theorem dig_is {c : UInt8} (h : digB c = true) : ∃ d, d < 10 ∧ c = UInt8.ofNat (48 + d) ∧ c.toNat - 48 = d := by
  unfold digB at h
  simp at h
  refine ⟨c.toNat - 48, by omega, ?_, rfl⟩
  apply UInt8.toNat_inj.1
  rw [UInt8.toNat_ofNat']
  omega
theorem dec_snoc {n d : Nat} (hn : 0 < n) (hd : d < 10) : Lib.decDigits (10 * n + d) = Lib.decDigits n ++ [UInt8.ofNat (48 + d)] := by
  rw [Lib.decDigits, dif_neg (by omega), show (10 * n + d) / 10 = n by omega, show (10 * n + d) % 10 = d by omega]
theorem digs_more : ∀ (l : List UInt8) (n m : Nat) {N M : Nat} {R : List UInt8}, 0 < n → digsP l n m = some (N, M, R) → 0 < N ∧ ∃ ds, l = ds ++ R ∧ Lib.decDigits N = Lib.decDigits n ++ ds
  | [], n, m, N, M, R, hn, h => by simp [digsP] at h; exact ⟨by omega, [], by simp [h.2.2], by simp [h.1]⟩
  | c :: r, n, m, N, M, R, hn, h => by
    rw [digsP] at h
    split at h
    · rename_i hc
      split at h
      · obtain ⟨d, hd, hcd, hcn⟩ := dig_is hc
        obtain ⟨h1, ds, h2, h3⟩ := digs_more r _ _ (by omega) h
        refine ⟨h1, c :: ds, by rw [h2]; rfl, ?_⟩
        rw [h3, hcn, dec_snoc hn hd, hcd]
        simp
      · cases h
    · simp at h
      exact ⟨by omega, [], by simp [h.2.2], by simp [h.1]⟩
/-- The digits that were read are those of the number. -/
theorem mag_digits {neg : Bool} {l r : List UInt8} {i : Int} (h : magP neg l = some (i, r)) : ∃ N : Nat, i = (if neg then -(N : Int) else N) ∧ l = Lib.decDigits N ++ r ∧ (neg = true → 0 < N) := by
  unfold magP at h
  split at h
  · cases h
  · rename_i N M R hd
    split at h
    · cases h
    · rename_i hM
      split at h
      · cases h
      · rename_i hz
        simp at h
        obtain ⟨rfl, rfl⟩ := h
        refine ⟨N, rfl, ?_⟩
        cases l with
        | nil => simp [digsP] at hd; omega
        | cons c s =>
          rw [digsP] at hd
          split at hd
          · rename_i hc
            obtain ⟨d, hd10, hcd, hcn⟩ := dig_is hc
            split at hd
            · rw [hcn] at hd
              by_cases h0 : d = 0
              · subst h0
                have h48 : c = 48 := hcd
                have hone : M = 1 ∧ neg = false := by
                  rcases Classical.em (M = 1 ∧ neg = false) with e | e
                  · exact e
                  · exact absurd ⟨by simp [h48], e⟩ hz
                obtain ⟨rfl, rfl⟩ := hone
                cases s with
                | nil =>
                  simp [digsP] at hd
                  obtain ⟨rfl, rfl⟩ := hd
                  refine ⟨?_, by simp⟩
                  rw [h48, Lib.decDigits]; simp
                | cons x q =>
                  rw [digsP] at hd
                  split at hd
                  · split at hd
                    · have hm := digsM_more hd
                      omega
                    · cases hd
                  · simp at hd
                    obtain ⟨rfl, rfl⟩ := hd
                    refine ⟨?_, by simp⟩
                    rw [h48, Lib.decDigits]; simp
              · obtain ⟨h1, ds, h2, h3⟩ := digs_more s (10 * 0 + d) (0 + 1) (by omega) hd
                refine ⟨?_, fun _ => h1⟩
                rw [h3, h2, Lib.decDigits, dif_pos (by omega), hcd]
                simp
            · cases hd
          · simp at hd
            omega
where
  digsM_more : ∀ {l : List UInt8} {n m N M : Nat} {R : List UInt8}, digsP l n m = some (N, M, R) → m ≤ M
    | [], n, m, N, M, R, h => by simp [digsP] at h; omega
    | c :: r, n, m, N, M, R, h => by
      rw [digsP] at h
      split at h
      · split at h
        · have := digsM_more h; omega
        · cases h
      · simp at h; omega
theorem dec_plain (N : Nat) : ∀ c ∈ Lib.decDigits N, ¬ c = 32 ∧ ¬ c = 34 := by
  induction N using Nat.strongRecOn with
  | ind N ih =>
    have key : ∀ d, d < 10 → ¬ UInt8.ofNat (48 + d) = 32 ∧ ¬ UInt8.ofNat (48 + d) = 34 := by
      intro d hd
      have hv := (dig_val d hd).2
      constructor
      · intro e; rw [e] at hv; have : (32 : UInt8).toNat = 32 := rfl; omega
      · intro e; rw [e] at hv; have : (34 : UInt8).toNat = 34 := rfl; omega
    intro c hc
    rw [Lib.decDigits] at hc
    by_cases h : N < 10
    · rw [dif_pos h, List.mem_singleton] at hc
      rw [hc]
      exact key N h
    · rw [dif_neg h, List.mem_append] at hc
      rcases hc with hc | hc
      · exact ih (N / 10) (by omega) c hc
      · rw [List.mem_singleton] at hc
        rw [hc]
        exact key (N % 10) (by omega)
theorem itoa_bare (N : Nat) (neg : Bool) (hn : neg = true → 0 < N) (r : List UInt8) : bareP false ((if neg then [45] else []) ++ (Lib.decDigits N ++ r)) = Lib.itoa (if neg then -(N : Int) else N) ++ bareP false r := by
  have hd := bare_plain (Lib.decDigits N) r (dec_plain N)
  cases neg
  · simp only [Bool.false_eq_true, if_false, List.nil_append]
    rw [hd, Lib.itoa, if_neg (by omega)]
    rfl
  · have := hn rfl
    simp only [if_true]
    rw [List.singleton_append, bare_out, if_neg (by decide), show ((45 : UInt8) == 34) = false from rfl, hd, Lib.itoa, if_pos (by omega), show (-(N : Int)).natAbs = N by omega]
    rfl
/-- What was read is what is written, but for blanks and the order of entries. -/
def Bare (l r : List UInt8) (x : V) : Prop := ∃ t, bareP false l = t ++ bareP false r ∧ t.length = x.write.length ∧ (x.objs = false → t = x.write)
theorem bare_of {l r : List UInt8} {x : V} (h : bareP false l = x.write ++ bareP false r) : Bare l r x := ⟨_, h, rfl, fun _ => rfl⟩
theorem number_bare {l r : List UInt8} {n m : Nat} {x : V} (h : numberP l n = some (x, r, m)) : Bare l r x := by
  unfold numberP numR at h
  cases hg : magP (takesP 45 (skipP l)) (tailP 45 (skipP l)) with
  | none => rw [hg] at h; simp at h
  | some q =>
    obtain ⟨i, r'⟩ := q
    rw [hg] at h
    simp at h
    obtain ⟨rfl, rfl, rfl⟩ := h
    obtain ⟨N, rfl, hl, hN⟩ := mag_digits hg
    refine bare_of ?_
    have e : skipP l = (if takesP 45 (skipP l) then [45] else []) ++ tailP 45 (skipP l) := by
      cases hs : skipP l with
      | nil => simp [takesP, tailP]
      | cons c s =>
        simp only [takesP, tailP]
        by_cases hc : c = 45
        · simp [hc]
        · simp [hc]
    have h1 := itoa_bare N (takesP 45 (skipP l)) hN r'
    rw [← hl, ← e, bare_skip] at h1
    rw [h1]
    generalize (if takesP 45 (skipP l) = true then -(N : Int) else N) = i
    rfl
theorem prefix_is {l p : List UInt8} (h : Lib.hasPrefix l p = true) : l = p ++ l.drop p.length := by
  have : p <+: l := by
    first
      | exact List.isPrefixOf_iff_prefix.1 h
      | (unfold Lib.hasPrefix at h; exact List.isPrefixOf_iff_prefix.1 h)
      | (unfold Lib.hasPrefix at h; rw [← (show List.take p.length l = p by simpa using h)]; exact List.take_prefix _ _)
  obtain ⟨s, rfl⟩ := this
  simp
theorem name_bare {l r : List UInt8} {x : V} (h : nameP l = some (x, r)) : Bare l r x := by
  unfold nameP at h
  refine bare_of ?_
  split at h
  · rename_i e
    have e := prefix_is e
    simp at h
    obtain ⟨rfl, rfl⟩ := h
    have hp := bare_plain nullW.data.toList (l.drop 4) (by decide)
    rw [show l = nullW.data.toList ++ l.drop 4 from e]
    exact hp
  · split at h
    · rename_i e
      have e := prefix_is e
      simp at h
      obtain ⟨rfl, rfl⟩ := h
      have hp := bare_plain falseW.data.toList (l.drop 5) (by decide)
      rw [show l = falseW.data.toList ++ l.drop 5 from e]
      exact hp
    · split at h
      · rename_i e
        have e := prefix_is e
        simp at h
        obtain ⟨rfl, rfl⟩ := h
        have hp := bare_plain trueW.data.toList (l.drop 4) (by decide)
        rw [show l = trueW.data.toList ++ l.drop 4 from e]
        exact hp
      · cases h
section
variable {f : Nat → List UInt8 → Option (V × List UInt8 × Nat)}
theorem writeL_rest (y : V) (s : List V) (ks : List ByteArray) : V.writeL false false (y :: s) ks = 44 :: V.writeL false true (y :: s) ks := by
  rw [V.writeL, V.writeL]; rfl
theorem items_bare (hf : ∀ n l x r m, f n l = some (x, r, m) → Bare l r x) : ∀ (F : Nat) {acc ys : List V} {n m : Nat} {l r : List UInt8}, loopP (stepL f) 93 F acc n l = some (ys, r, m) →
    ∃ new t, ys = acc ++ new ∧ new ≠ [] ∧ bareP false l = t ++ bareP false r ∧ t.length = (V.writeL false true new []).length + 1 ∧ (V.objsL new = false → t = V.writeL false true new [] ++ [93])
  | 0, _, _, _, _, _, _, h => by simp [loopP] at h
  | F + 1, acc, ys, n, m, l, r, h => by
    rw [loopP, stepL] at h
    cases hx : f n l with
    | none => rw [hx] at h; simp at h
    | some q =>
      obtain ⟨x, l1, n1⟩ := q
      rw [hx] at h
      simp only [Option.map_some] at h
      obtain ⟨t, b1, b2, b3⟩ := hf _ _ _ _ _ hx
      have hw1 : V.writeL false true [x] [] = x.write := by simp [V.writeL, sepB]
      split at h
      · rename_i h44
        obtain ⟨new, t2, c1, c2, c3, c4, c5⟩ := items_bare hf F h
        obtain ⟨y, s, rfl⟩ := List.exists_cons_of_ne_nil c2
        have hw : V.writeL false true (x :: y :: s) [] = x.write ++ 44 :: V.writeL false true (y :: s) [] := by
          rw [V.writeL, List.tail_nil, writeL_rest]; simp [sepB]
        refine ⟨x :: y :: s, t ++ 44 :: t2, by rw [c1]; simp, by simp, ?_, ?_, ?_⟩
        · rw [b1, ← bare_skip l1, bare_sign h44 (by decide) (by decide), c3]; simp
        · rw [hw]; simp only [List.length_append, List.length_cons]; omega
        · intro ho
          rw [V.objsL, Bool.or_eq_false_iff] at ho
          rw [hw, b3 ho.1, c5 ho.2]; simp
      · split at h
        · rename_i h93
          simp at h
          obtain ⟨rfl, rfl, rfl⟩ := h
          refine ⟨[x], t ++ [93], rfl, by simp, ?_, ?_, ?_⟩
          · rw [b1, ← bare_skip l1, bare_sign h93 (by decide) (by decide)]; simp
          · rw [hw1]; simp [b2]
          · intro ho
            rw [V.objsL, V.objsL, Bool.or_false] at ho
            rw [hw1, b3 ho]
        · cases h
/-- How long the entries are written, each with what follows it. -/
def longE : List ByteArray → List V → Nat
  | k :: ks, x :: xs => (quoteB k.data.toList).length + 1 + x.write.length + 1 + longE ks xs
  | _, _ => 0
theorem longE_append : ∀ (ks ks' : List ByteArray) (l l' : List V), ks.length = l.length → longE (ks ++ ks') (l ++ l') = longE ks l + longE ks' l'
  | [], ks', [], l', _ => by simp [longE]
  | [], _, _ :: _, _, h => by simp at h
  | _ :: _, _, [], _, h => by simp at h
  | k :: ks, ks', x :: l, l', h => by
    simp only [List.cons_append, longE]
    rw [longE_append ks ks' l l' (by simpa using h)]
    omega
theorem longE_write : ∀ (l : List V) (ks : List ByteArray) (first : Bool), ks.length = l.length → l ≠ [] → (V.writeL true first l ks).length + (if first then 1 else 0) = longE ks l
  | [], _, _, _, h => absurd rfl h
  | x :: r, [], _, h, _ => by simp at h
  | x :: r, k :: ks, first, h, _ => by
    have hs : (sepB true first k).length = (if first then 0 else 1) + (quoteB k.data.toList).length + 1 := by unfold sepB; cases first <;> simp <;> omega
    rw [V.writeL, longE, List.headD_cons, List.tail_cons]
    simp only [List.length_append, hs]
    cases r with
    | nil =>
      have : ks = [] := by simpa using h
      subst this
      cases first <;> simp [V.writeL, longE] <;> omega
    | cons y s =>
      have ih := longE_write (y :: s) ks false (by simpa using h) (by simp)
      simp only [Bool.false_eq_true, if_false] at ih
      rw [← ih]
      cases first <;> simp <;> omega
theorem longE_ins {st : List ByteArray × List V} (h : st.1.length = st.2.length) (k : ByteArray) (x : V) : longE (insK st k x).1 (insK st k x).2 = longE st.1 st.2 + ((quoteB k.data.toList).length + 1 + x.write.length + 1) := by
  unfold insK
  have hp := posK_le k st.1
  generalize posK k st.1 = p at hp
  have h1 := longE_append (st.1.take p) (k :: st.1.drop p) (st.2.take p) (x :: st.2.drop p) (by simp; omega)
  have h2 := longE_append (st.1.take p) (st.1.drop p) (st.2.take p) (st.2.drop p) (by simp; omega)
  rw [List.take_append_drop, List.take_append_drop] at h2
  simp only []
  rw [h1, longE, h2]
  omega
theorem entries_bare (hf : ∀ n l x r m, f n l = some (x, r, m) → Bare l r x) : ∀ (F : Nat) {st st' : List ByteArray × List V} {n m : Nat} {l r : List UInt8}, st.1.length = st.2.length → loopP (stepO f) 125 F st n l = some (st', r, m) →
    st'.1.length = st'.2.length ∧ st'.2 ≠ [] ∧ ∃ t, bareP false l = t ++ bareP false r ∧ t.length + longE st.1 st.2 = longE st'.1 st'.2
  | 0, _, _, _, _, _, _, _, h => by simp [loopP] at h
  | F + 1, st, st', n, m, l, r, hl, h => by
    rw [loopP, stepO] at h
    cases hq : quotedP (skipP l) with
    | none => rw [hq] at h; simp at h
    | some q =>
      obtain ⟨t0, l1⟩ := q
      rw [hq] at h
      simp only [] at h
      have q1 := quoted_bare hq
      by_cases h58 : takesP 58 (skipP l1) = true
      · rw [if_pos h58] at h
        cases hx : f n (tailP 58 (skipP l1)) with
        | none => rw [hx] at h; simp at h
        | some y =>
          obtain ⟨x, l2, n2⟩ := y
          rw [hx] at h
          simp only [] at h
          obtain ⟨t, b1, b2, _⟩ := hf _ _ _ _ _ hx
          by_cases hk : hasK ⟨t0.toArray⟩ st.1 = true
          · rw [if_pos hk] at h; simp at h
          · rw [if_neg hk] at h
            simp only [] at h
            have hi := longE_ins hl ⟨t0.toArray⟩ x
            have hl2 := ins_lens hl ⟨t0.toArray⟩ x
            have e0 : bareP false l = (quoteB t0 ++ 58 :: t) ++ bareP false l2 := by
              rw [← bare_skip l, q1, ← bare_skip l1, bare_sign h58 (by decide) (by decide), b1]; simp
            split at h
            · rename_i h44
              obtain ⟨c1, c2, t2, c3, c4⟩ := entries_bare hf F hl2 h
              refine ⟨c1, c2, quoteB t0 ++ 58 :: t ++ 44 :: t2, ?_, ?_⟩
              · rw [e0, ← bare_skip l2, bare_sign h44 (by decide) (by decide), c3]; simp
              · simp only [List.length_append, List.length_cons]
                simp only [] at hi
                omega
            · split at h
              · rename_i h125
                simp at h
                obtain ⟨rfl, rfl, rfl⟩ := h
                refine ⟨hl2, ?_, quoteB t0 ++ 58 :: t ++ [125], ?_, ?_⟩
                · unfold insK; simp
                · rw [e0, ← bare_skip l2, bare_sign h125 (by decide) (by decide)]; simp
                · simp only [List.length_append, List.length_cons, List.length_nil]
                  simp only [] at hi
                  omega
              · cases h
      · rw [if_neg h58] at h; simp at h
end
theorem value_bare : ∀ (L n : Nat) (l : List UInt8) (x : V) (r : List UInt8) (m : Nat), valueP L n l = some (x, r, m) → Bare l r x
  | 0, _, _, _, _, _, h => by simp [valueP] at h
  | L + 1, n, l, x, r, m, h => by
    have ih := value_bare L
    rw [valueP] at h
    split at h
    · split at h
      · cases h
      · rename_i c q hs
        have hback : ∀ {x : V}, Bare (c :: q) r x → Bare l r x := by
          rintro x ⟨t, h1, h2⟩
          exact ⟨t, by rw [← bare_skip l, hs]; exact h1, h2⟩
        have hsk : skipP (c :: q) = c :: q := by rw [← hs, skipP_skip]
        refine hback ?_
        split at h
        · rename_i hc
          subst hc
          unfold seriesP at h
          rw [hsk, if_pos (by simp [takesP]), tailP, if_pos rfl] at h
          have hopen : bareP false (91 :: q) = 91 :: bareP false q := by rw [bare_out, if_neg (by decide)]; rfl
          split at h
          · rename_i h93
            simp at h
            obtain ⟨rfl, rfl, rfl⟩ := h
            refine bare_of ?_
            rw [hopen, ← bare_skip q, bare_sign h93 (by decide) (by decide)]
            rfl
          · cases hy : loopP (stepL (valueP L)) 93 (q.length + 1) [] (n + 1) (skipP q) with
            | none => rw [hy] at h; simp at h
            | some y =>
              obtain ⟨ys, r2, m2⟩ := y
              rw [hy] at h
              simp at h
              obtain ⟨rfl, rfl, rfl⟩ := h
              obtain ⟨new, t, c1, c2, c3, c4, c5⟩ := items_bare ih _ hy
              rw [List.nil_append] at c1
              subst c1
              have hw : (V.mk 4 0 ⟨#[]⟩ ys []).write = 91 :: (V.writeL false true ys [] ++ [93]) := by rw [V.write, if_neg (by decide), if_neg (by decide), if_neg (by decide), if_neg (by decide), if_pos rfl]
              refine ⟨91 :: t, ?_, ?_, ?_⟩
              · rw [hopen, ← bare_skip q, c3]; rfl
              · rw [hw]; simp [c4]
              · intro ho
                rw [V.objs, Bool.or_eq_false_iff] at ho
                rw [hw, c5 ho.2]
        · split at h
          · rename_i hc
            subst hc
            unfold seriesP at h
            rw [hsk, if_pos (by simp [takesP]), tailP, if_pos rfl] at h
            have hopen : bareP false (123 :: q) = 123 :: bareP false q := by rw [bare_out, if_neg (by decide)]; rfl
            split at h
            · rename_i h125
              simp at h
              obtain ⟨rfl, rfl, rfl⟩ := h
              refine bare_of ?_
              rw [hopen, ← bare_skip q, bare_sign h125 (by decide) (by decide)]
              rfl
            · cases hy : loopP (stepO (valueP L)) 125 (q.length + 1) ([], []) (n + 1) (skipP q) with
              | none => rw [hy] at h; simp at h
              | some y =>
                obtain ⟨⟨ks, ys⟩, r2, m2⟩ := y
                rw [hy] at h
                simp at h
                obtain ⟨rfl, rfl, rfl⟩ := h
                obtain ⟨c1, c2, t, c3, c4⟩ := entries_bare ih _ rfl hy
                have hw : (V.mk 5 0 ⟨#[]⟩ ys ks).write = 123 :: (V.writeL true true ys ks ++ [125]) := by rw [V.write, if_neg (by decide), if_neg (by decide), if_neg (by decide), if_neg (by decide), if_neg (by decide)]
                have hl := longE_write ys ks true c1 c2
                refine ⟨123 :: t, ?_, ?_, ?_⟩
                · rw [hopen, ← bare_skip q, c3]; rfl
                · simp only [longE, Nat.add_zero, if_true] at c4 hl
                  rw [hw]
                  simp only [List.length_cons, List.length_append, List.length_nil]
                  omega
                · intro ho
                  simp [V.objs] at ho
          · split at h
            · rename_i hc
              subst hc
              simp at h
              obtain ⟨t, q2, ht, rfl, rfl, rfl⟩ := h
              refine bare_of ?_
              rw [quoted_bare ht, leaf, V.write, if_neg (by decide), if_neg (by decide), if_neg (by decide), if_pos rfl]
            · split at h
              · simp at h
                obtain ⟨y, q2, h1, rfl, rfl, rfl⟩ := h
                exact name_bare h1
              · exact number_bare h
    · cases h
/-- What is read, written again. -/
theorem parse_bare {l : List UInt8} {x : V} (h : parseP l = some x) : x.write.length = (bareP false l).length ∧ (x.objs = false → x.write = bareP false l) := by
  rw [parseP] at h
  split at h
  · cases h
  · rename_i y r m hv
    split at h
    · rename_i hr
      simp at h
      subst h
      obtain ⟨t, h1, h2, h3⟩ := value_bare _ _ _ _ _ _ hv
      have e : bareP false r = [] := by rw [← bare_skip r, hr, bare_nil]
      rw [e, List.append_nil] at h1
      rw [h1]
      exact ⟨h2.symm, fun ho => (h3 ho).symm⟩
    · cases h
end Go.Proofs.YtchadlbhdcpojaaDoor
