/- Reading a value: plain functions on bytes. -/
import Derived.Test.YtoddlacfbeckiaaDoorWm
namespace Go.Proofs.YtoddlacfbeckiaaDoor
open Go

theorem bl_cons (a b : UInt8) (x y : List UInt8) : Op.bytesLess (a :: x) (b :: y) = true ↔ a < b ∨ (a = b ∧ Op.bytesLess x y = true) := by simp [Op.bytesLess]
theorem bytesLess_trans : ∀ (a b c : List UInt8), Op.bytesLess a b = true → Op.bytesLess b c = true → Op.bytesLess a c = true
  | [], [], _, h, _ => by simp [Op.bytesLess] at h
  | [], _ :: _, [], _, h => by simp [Op.bytesLess] at h
  | [], _ :: _, _ :: _, _, _ => by simp [Op.bytesLess]
  | _ :: _, [], _, h, _ => by simp [Op.bytesLess] at h
  | _ :: _, _ :: _, [], _, h => by simp [Op.bytesLess] at h
  | x :: r, y :: s, z :: t, h, h' => by
    rw [bl_cons] at *
    rcases h with h | ⟨rfl, h⟩ <;> rcases h' with h' | ⟨rfl, h'⟩
    · exact .inl (UInt8.lt_trans h h')
    · exact .inl h
    · exact .inl h'
    · exact .inr ⟨rfl, bytesLess_trans _ _ _ h h'⟩
theorem bytesLess_total : ∀ (a b : List UInt8), Op.bytesLess a b = false → Op.bytesLess b a = false → a = b
  | [], [], _, _ => rfl
  | [], _ :: _, h, _ => by simp [Op.bytesLess] at h
  | _ :: _, [], _, h => by simp [Op.bytesLess] at h
  | x :: r, y :: s, h, h' => by
    have g : ¬ (x < y ∨ (x = y ∧ Op.bytesLess r s = true)) := fun e => by rw [← bl_cons, h] at e; cases e
    have g' : ¬ (y < x ∨ (y = x ∧ Op.bytesLess s r = true)) := fun e => by rw [← bl_cons, h'] at e; cases e
    have e : x = y := UInt8.le_antisymm (UInt8.not_lt.1 fun q => g' (.inl q)) (UInt8.not_lt.1 fun q => g (.inl q))
    subst e
    rw [bytesLess_total r s (by simpa using fun q => g (.inr ⟨rfl, q⟩)) (by simpa using fun q => g' (.inr ⟨rfl, q⟩))]
theorem ltB_irrefl (a : ByteArray) : ltB a a = false := bytesLess_irrefl _
theorem ltB_trans {a b c : ByteArray} (h : ltB a b = true) (h' : ltB b c = true) : ltB a c = true := bytesLess_trans _ _ _ h h'
theorem ltB_total {a b : ByteArray} (h : ltB a b = false) (h' : ltB b a = false) : a = b := by
  have := bytesLess_total _ _ h h'
  rw [ByteArray.toList_eq, ByteArray.toList_eq] at this
  exact ByteArray.ext (Array.ext' this)

/-- Keys in their order; where a key belongs. -/
def Rising (keys : List ByteArray) : Prop := keys.Pairwise fun a b => ltB a b = true
def posK (k : ByteArray) : List ByteArray → Nat
  | [] => 0
  | x :: r => if ltB x k = true then posK k r + 1 else 0
theorem posK_le (k : ByteArray) : ∀ keys : List ByteArray, posK k keys ≤ keys.length
  | [] => Nat.le_refl _
  | x :: r => by rw [posK]; have := posK_le k r; split <;> simp <;> omega
theorem posK_less (k : ByteArray) : ∀ {keys : List ByteArray} {t : Nat} {x : ByteArray}, t < posK k keys → keys[t]? = some x → ltB x k = true
  | [], _, _, h, _ => by simp [posK] at h
  | x :: r, t, y, h, e => by
    rw [posK] at h
    split at h
    · cases t with
      | zero => simp at e; subst e; assumption
      | succ t => simp at e; exact posK_less k (by omega) e
    · omega
theorem posK_more (k : ByteArray) : ∀ {keys : List ByteArray} (_ : Rising keys) {t : Nat} {x : ByteArray}, posK k keys ≤ t → keys[t]? = some x → ltB x k = false
  | [], _, _, _, _, e => by simp at e
  | x :: r, hr, t, y, h, e => by
    unfold Rising at hr
    rw [List.pairwise_cons] at hr
    rw [posK] at h
    split at h
    · cases t with
      | zero => omega
      | succ t => simp at e; exact posK_more k hr.2 (by omega) e
    · rename_i hx
      cases t with
      | zero => simp at e; subst e; simpa using hx
      | succ t =>
        simp at e
        have := hr.1 y (List.mem_of_getElem? e)
        rcases hy : ltB y k with _ | _
        · rfl
        · exact absurd (ltB_trans this hy) hx
theorem posK_here (k : ByteArray) {keys : List ByteArray} (hr : Rising keys) : k ∈ keys ↔ keys[posK k keys]? = some k := by
  constructor
  · intro h
    obtain ⟨t, ht⟩ := List.mem_iff_getElem?.1 h
    rcases Nat.lt_trichotomy t (posK k keys) with h1 | h1 | h1
    · have := posK_less k h1 ht; rw [ltB_irrefl] at this; cases this
    · rw [← h1]; exact ht
    · have hlt : t < keys.length := by
        rcases Nat.lt_or_ge t keys.length with h | h
        · exact h
        · rw [List.getElem?_eq_none h] at ht; cases ht
      obtain ⟨x, hx⟩ : ∃ x, keys[posK k keys]? = some x := ⟨_, List.getElem?_eq_getElem (by omega)⟩
      have h2 := posK_more k hr (Nat.le_refl _) hx
      unfold Rising at hr
      rw [List.pairwise_iff_getElem] at hr
      obtain ⟨_, e1⟩ := List.getElem?_eq_some_iff.1 hx
      obtain ⟨_, e2⟩ := List.getElem?_eq_some_iff.1 ht
      have := hr (posK k keys) t (by omega) hlt h1
      rw [e1, e2, h2] at this
      cases this
  · exact fun h => List.mem_of_getElem? h
/-- A key and its item are put where they belong. -/
def insK (st : List ByteArray × List V) (k : ByteArray) (x : V) : List ByteArray × List V :=
  (st.1.take (posK k st.1) ++ k :: st.1.drop (posK k st.1), st.2.take (posK k st.1) ++ x :: st.2.drop (posK k st.1))
theorem rising_ins {keys : List ByteArray} {k : ByteArray} (h : Rising keys) (hk : ¬ k ∈ keys) : Rising (keys.take (posK k keys) ++ k :: keys.drop (posK k keys)) := by
  have hno : ∀ x ∈ keys, ltB x k = false → ltB k x = true := by
    intro x hx h1
    rcases h2 : ltB k x with _ | _
    · exact absurd (ltB_total h1 h2 ▸ hx) hk
    · rfl
  have hT : ∀ x ∈ keys.take (posK k keys), ltB x k = true := by
    intro x hx
    obtain ⟨t, ht⟩ := List.mem_iff_getElem?.1 hx
    rw [List.getElem?_take] at ht
    split at ht
    · exact posK_less k (by assumption) ht
    · cases ht
  have hD : ∀ x ∈ keys.drop (posK k keys), ltB k x = true := by
    intro x hx
    obtain ⟨t, ht⟩ := List.mem_iff_getElem?.1 hx
    rw [List.getElem?_drop] at ht
    exact hno x (List.mem_of_getElem? ht) (posK_more k h (by omega) ht)
  have hh : Rising (keys.take (posK k keys) ++ keys.drop (posK k keys)) := by rw [List.take_append_drop]; exact h
  unfold Rising at *
  rw [List.pairwise_append] at hh ⊢
  refine ⟨hh.1, List.pairwise_cons.2 ⟨hD, hh.2.1⟩, fun a ha b hb => ?_⟩
  rcases List.mem_cons.1 hb with rfl | hb
  · exact hT a ha
  · exact hh.2.2 a ha b hb

/-- Whether a key is there. -/
def hasK (k : ByteArray) (keys : List ByteArray) : Bool := keys.any fun x => decide (x = k)
theorem hasK_iff (k : ByteArray) (keys : List ByteArray) : hasK k keys = true ↔ k ∈ keys := by
  unfold hasK
  rw [List.any_eq_true]
  constructor
  · rintro ⟨x, hx, e⟩; rw [← of_decide_eq_true e]; exact hx
  · exact fun h => ⟨k, h, by simp⟩
/-- An item of a list; an item of an object. -/
def stepL (f : Nat → List UInt8 → Option (V × List UInt8 × Nat)) (st : List V) (n : Nat) (l : List UInt8) : Option (List V × List UInt8 × Nat) := (f n l).map fun r => (st ++ [r.1], r.2)
def stepO (f : Nat → List UInt8 → Option (V × List UInt8 × Nat)) (st : List ByteArray × List V) (n : Nat) (l : List UInt8) : Option ((List ByteArray × List V) × List UInt8 × Nat) :=
  match quotedP (skipP l) with
  | none => none
  | some (t, l1) => if takesP 58 (skipP l1) = true then (match f n (tailP 58 (skipP l1)) with | none => none | some (x, l2, n2) => if hasK ⟨t.toArray⟩ st.1 = true then none else some (insK st ⟨t.toArray⟩ x, l2, n2)) else none
/-- A value with so many levels at most, n values being begun. -/
def valueP : Nat → Nat → List UInt8 → Option (V × List UInt8 × Nat)
  | 0, _, _ => none
  | L + 1, n, l =>
    if n + 1 ≤ 60 then
      match skipP l with
      | [] => none
      | c :: r =>
        if c = 91 then (seriesP (stepL (valueP L)) 93 91 [] (n + 1) (c :: r)).map fun q => (V.mk 4 0 ⟨#[]⟩ q.1 [], q.2)
        else if c = 123 then (seriesP (stepO (valueP L)) 125 123 ([], []) (n + 1) (c :: r)).map fun q => (V.mk 5 0 ⟨#[]⟩ q.1.2 q.1.1, q.2)
        else if c = 34 then (quotedP (c :: r)).map fun q => (leaf 3 0 ⟨q.1.toArray⟩, q.2, n + 1)
        else if c = 110 ∨ c = 102 ∨ c = 116 then (nameP (c :: r)).map fun q => (q.1, q.2, n + 1)
        else numberP (c :: r) (n + 1)
    else none
def parseP (l : List UInt8) : Option V := match valueP 6 0 l with | none => none | some (x, l', _) => if skipP l' = [] then some x else none

theorem textP_len : ∀ (f : Nat) {l acc t r : List UInt8}, l.length ≤ f → textP l acc = some (t, r) → r.length ≤ l.length
  | 0, l, _, _, _, hf, h => by cases l with
    | nil => simp [textP] at h
    | cons => simp at hf
  | f + 1, [], _, _, _, _, h => by simp [textP] at h
  | f + 1, c :: l, acc, t, r, hf, h => by
    rw [textP_cons] at h
    simp only [List.length_cons] at hf ⊢
    split at h
    · simp at h; rw [h.2]; omega
    · split at h
      · cases l with
        | nil => simp at h
        | cons x q =>
          simp only [List.length_cons] at hf ⊢
          simp only [] at h
          split at h
          · have := textP_len f (by omega) h; omega
          · cases h
      · split at h
        · have := textP_len f (by omega) h; omega
        · cases h
theorem quotedP_len {l t r : List UInt8} (h : quotedP l = some (t, r)) : r.length ≤ l.length := by
  cases l with
  | nil => simp [quotedP] at h
  | cons c l =>
    rw [quotedP] at h
    split at h
    · have := textP_len _ (Nat.le_refl _) h; simp; omega
    · cases h
theorem digsP_len : ∀ {l : List UInt8} {a b n m : Nat} {r : List UInt8}, digsP l a b = some (n, m, r) → r.length ≤ l.length
  | [], _, _, _, _, _, h => by simp [digsP] at h; simp [h.2.2]
  | c :: l, a, b, n, m, r, h => by
    rw [digsP] at h
    split at h
    · split at h
      · have := digsP_len h; simp; omega
      · cases h
    · simp at h; rw [← h.2.2]; simp
theorem numberP_ok {l : List UInt8} {n : Nat} {x : V} {r : List UInt8} {m : Nat} (h : numberP l n = some (x, r, m)) : r.length ≤ l.length ∧ m = n := by
  unfold numberP numR magP at h
  generalize hd : digsP (tailP 45 (skipP l)) 0 0 = q at h
  match q with
  | none => simp at h
  | some (a, b, c) =>
    simp only [] at h
    split at h
    · simp at h
    · split at h
      · simp at h
      · simp at h
        have := digsP_len hd
        have h2 := tailP_len 45 (skipP l)
        have h3 := skipP_len l
        rw [← h.2.1, h.2.2]
        exact ⟨by omega, rfl⟩
theorem nameP_len {l : List UInt8} {x : V} {r : List UInt8} (h : nameP l = some (x, r)) : r.length ≤ l.length := by
  unfold nameP at h
  repeat' split at h
  all_goals first | (simp at h; rw [← h.2]; simp) | cases h

section
variable {St : Type} {step : St → Nat → List UInt8 → Option (St × List UInt8 × Nat)} (close : UInt8)
theorem loopP_ok (hs : ∀ st n l st' l' n', step st n l = some (st', l', n') → l'.length ≤ l.length ∧ n' ≤ 60) : ∀ (f : Nat) {st st' : St} {n n' : Nat} {l l' : List UInt8}, loopP step close f st n l = some (st', l', n') → l'.length ≤ l.length ∧ n' ≤ 60
  | 0, _, _, _, _, _, _, h => by simp [loopP] at h
  | f + 1, st, st', n, n', l, l', h => by
    rw [loopP] at h
    split at h
    · cases h
    · rename_i st1 l1 n1 h1
      have h2 := hs _ _ _ _ _ _ h1
      have h3 := skipP_len l1
      split at h
      · have := loopP_ok hs f h
        have h4 := tailP_len 44 (skipP l1)
        omega
      · split at h
        · have h4 := tailP_len close (skipP l1)
          simp at h
          rw [← h.2.1, ← h.2.2]
          omega
        · cases h
theorem seriesP_ok (hs : ∀ st n l st' l' n', step st n l = some (st', l', n') → l'.length ≤ l.length ∧ n' ≤ 60) {op : UInt8} {st st' : St} {n n' : Nat} {l l' : List UInt8} (hn : n ≤ 60) (h : seriesP step close op st n l = some (st', l', n')) : l'.length ≤ l.length ∧ n' ≤ 60 := by
  unfold seriesP at h
  have h1 := skipP_len l
  have h2 := tailP_len op (skipP l)
  have h3 := skipP_len (tailP op (skipP l))
  have h4 := tailP_len close (skipP (tailP op (skipP l)))
  split at h
  · split at h
    · simp at h
      rw [← h.2.1, ← h.2.2]
      omega
    · have := loopP_ok close hs _ h
      omega
  · cases h
end
theorem stepL_ok {f : Nat → List UInt8 → Option (V × List UInt8 × Nat)} (hf : ∀ n l x l' n', f n l = some (x, l', n') → l'.length ≤ l.length ∧ n' ≤ 60) (st : List V) (n : Nat) (l : List UInt8) (st' : List V) (l' : List UInt8) (n' : Nat) (h : stepL f st n l = some (st', l', n')) : l'.length ≤ l.length ∧ n' ≤ 60 := by
  unfold stepL at h
  generalize hq : f n l = q at h
  match q with
  | none => simp at h
  | some (x, l1, n1) => simp at h; have := hf _ _ _ _ _ hq; rw [← h.2.1, ← h.2.2]; exact this
theorem stepO_ok {f : Nat → List UInt8 → Option (V × List UInt8 × Nat)} (hf : ∀ n l x l' n', f n l = some (x, l', n') → l'.length ≤ l.length ∧ n' ≤ 60) (st : List ByteArray × List V) (n : Nat) (l : List UInt8) (st' : List ByteArray × List V) (l' : List UInt8) (n' : Nat) (h : stepO f st n l = some (st', l', n')) : l'.length ≤ l.length ∧ n' ≤ 60 := by
  unfold stepO at h
  generalize hq : quotedP (skipP l) = q at h
  match q with
  | none => simp at h
  | some (t, l1) =>
    simp only [] at h
    have h1 := quotedP_len hq
    have h2 := skipP_len l
    have h3 := skipP_len l1
    have h4 := tailP_len 58 (skipP l1)
    split at h
    · generalize hy : f n (tailP 58 (skipP l1)) = y at h
      match y with
      | none => simp at h
      | some (x, l2, n2) =>
        simp only [] at h
        have := hf _ _ _ _ _ hy
        split at h
        · cases h
        · simp at h; rw [← h.2.1, ← h.2.2]; omega
    · cases h
theorem valueP_ok : ∀ (L : Nat) (n : Nat) (l : List UInt8) (x : V) (l' : List UInt8) (n' : Nat), valueP L n l = some (x, l', n') → l'.length ≤ l.length ∧ n' ≤ 60
  | 0, _, _, _, _, _, h => by simp [valueP] at h
  | L + 1, n, l, x, l', n', h => by
    rw [valueP] at h
    split at h
    · rename_i hn
      have h1 := skipP_len l
      generalize hq : skipP l = q at h
      match q with
      | [] => simp at h
      | c :: r =>
        rw [hq] at h1
        simp only [] at h
        split at h
        · generalize hy : seriesP (stepL (valueP L)) 93 91 [] (n + 1) (c :: r) = y at h
          match y with
          | none => simp at h
          | some (a, b, d) => simp at h; have := seriesP_ok 93 (stepL_ok (valueP_ok L)) hn hy; rw [← h.2.1, ← h.2.2]; omega
        · split at h
          · generalize hy : seriesP (stepO (valueP L)) 125 123 ([], []) (n + 1) (c :: r) = y at h
            match y with
            | none => simp at h
            | some (a, b, d) => simp at h; have := seriesP_ok 125 (stepO_ok (valueP_ok L)) hn hy; rw [← h.2.1, ← h.2.2]; omega
          · split at h
            · generalize hy : quotedP (c :: r) = y at h
              match y with
              | none => simp at h
              | some (a, b) => simp at h; have := quotedP_len hy; rw [← h.2.1, ← h.2.2]; omega
            · split at h
              · generalize hy : nameP (c :: r) = y at h
                match y with
                | none => simp at h
                | some (a, b) => simp at h; have := nameP_len hy; rw [← h.2.1, ← h.2.2]; omega
              · have := numberP_ok h; omega
    · cases h
/-- Every value read is counted. -/
theorem loopP_more {St : Type} {step : St → Nat → List UInt8 → Option (St × List UInt8 × Nat)} (close : UInt8) (hs : ∀ st n l st' l' n', step st n l = some (st', l', n') → n ≤ n') : ∀ (f : Nat) {st st' : St} {n n' : Nat} {l l' : List UInt8}, loopP step close f st n l = some (st', l', n') → n ≤ n'
  | 0, _, _, _, _, _, _, h => by simp [loopP] at h
  | f + 1, st, st', n, n', l, l', h => by
    rw [loopP] at h
    split at h
    · cases h
    · rename_i st1 l1 n1 h1
      have h2 := hs _ _ _ _ _ _ h1
      split at h
      · have := loopP_more close hs f h
        omega
      · split at h
        · simp at h; omega
        · cases h
theorem seriesP_more {St : Type} {step : St → Nat → List UInt8 → Option (St × List UInt8 × Nat)} (close : UInt8) (hs : ∀ st n l st' l' n', step st n l = some (st', l', n') → n ≤ n') {op : UInt8} {st st' : St} {n n' : Nat} {l l' : List UInt8} (h : seriesP step close op st n l = some (st', l', n')) : n ≤ n' := by
  unfold seriesP at h
  split at h
  · split at h
    · simp at h; omega
    · exact loopP_more close hs _ h
  · cases h
theorem stepL_more {f : Nat → List UInt8 → Option (V × List UInt8 × Nat)} (hf : ∀ n l x l' n', f n l = some (x, l', n') → n < n') (st : List V) (n : Nat) (l : List UInt8) (st' : List V) (l' : List UInt8) (n' : Nat) (h : stepL f st n l = some (st', l', n')) : n ≤ n' := by
  unfold stepL at h
  generalize hq : f n l = q at h
  match q with
  | none => simp at h
  | some (x, l1, n1) => simp at h; have := hf _ _ _ _ _ hq; omega
theorem stepO_more {f : Nat → List UInt8 → Option (V × List UInt8 × Nat)} (hf : ∀ n l x l' n', f n l = some (x, l', n') → n < n') (st : List ByteArray × List V) (n : Nat) (l : List UInt8) (st' : List ByteArray × List V) (l' : List UInt8) (n' : Nat) (h : stepO f st n l = some (st', l', n')) : n ≤ n' := by
  unfold stepO at h
  split at h
  · cases h
  · split at h
    · split at h
      · cases h
      · rename_i hq
        have := hf _ _ _ _ _ hq
        split at h
        · cases h
        · simp at h; omega
    · cases h
theorem valueP_more : ∀ (L : Nat) (n : Nat) (l : List UInt8) (x : V) (l' : List UInt8) (n' : Nat), valueP L n l = some (x, l', n') → n < n'
  | 0, _, _, _, _, _, h => by simp [valueP] at h
  | L + 1, n, l, x, l', n', h => by
    rw [valueP] at h
    split at h
    · split at h
      · cases h
      · rename_i c r hq
        split at h
        · generalize hy : seriesP (stepL (valueP L)) 93 91 [] (n + 1) (c :: r) = y at h
          match y with
          | none => simp at h
          | some (a, b, d) => simp at h; have := seriesP_more 93 (stepL_more (valueP_more L)) hy; omega
        · split at h
          · generalize hy : seriesP (stepO (valueP L)) 125 123 ([], []) (n + 1) (c :: r) = y at h
            match y with
            | none => simp at h
            | some (a, b, d) => simp at h; have := seriesP_more 125 (stepO_more (valueP_more L)) hy; omega
          · split at h
            · simp at h; omega
            · split at h
              · simp at h; omega
              · have := (numberP_ok h).2; omega
    · cases h
end Go.Proofs.YtoddlacfbeckiaaDoor
