/- Reading a value: plain functions on bytes. -/
import Derived.Test.YtchadlbhdcpojaaGreatDoorWl
import Derived.Test.YtchadlbhdcpojaaGreatDoorPa
import Derived.Laws.Strings
namespace Go.Proofs.YtchadlbhdcpojaaGreatDoor
open Go

theorem bl_cons (a b : UInt8) (x y : List UInt8) : Op.bytesLess (a :: x) (b :: y) = true ↔ a < b ∨ (a = b ∧ Op.bytesLess x y = true) := by simp [Op.bytesLess]
theorem bytesLess_trans : ∀ (a b c : List UInt8), Op.bytesLess a b = true → Op.bytesLess b c = true → Op.bytesLess a c = true
  | [], [], _, h, _ => by simp [Op.bytesLess] at h
  | [], _ :: _, [], _, h => by simp [Op.bytesLess] at h
  | [], _ :: _, _ :: _, _, _ => by simp [Op.bytesLess]
  | _ :: _, [], _, h, _ => by simp [Op.bytesLess] at h
  | _ :: _, _ :: _, [], _, h => by simp [Op.bytesLess] at h
  | x :: r, y :: s, z :: t, h, h' => by
    rw [bl_cons] at *
    rcases h with h | ⟨rfl, h⟩ <;> rcases h' with h' | ⟨rfl, h'⟩
    · exact .inl (UInt8.lt_trans h h')
    · exact .inl h
    · exact .inl h'
    · exact .inr ⟨rfl, bytesLess_trans _ _ _ h h'⟩
theorem bytesLess_total : ∀ (a b : List UInt8), Op.bytesLess a b = false → Op.bytesLess b a = false → a = b
  | [], [], _, _ => rfl
  | [], _ :: _, h, _ => by simp [Op.bytesLess] at h
  | _ :: _, [], _, h => by simp [Op.bytesLess] at h
  | x :: r, y :: s, h, h' => by
    have g : ¬ (x < y ∨ (x = y ∧ Op.bytesLess r s = true)) := fun e => by rw [← bl_cons, h] at e; cases e
    have g' : ¬ (y < x ∨ (y = x ∧ Op.bytesLess s r = true)) := fun e => by rw [← bl_cons, h'] at e; cases e
    have e : x = y := UInt8.le_antisymm (UInt8.not_lt.1 fun q => g' (.inl q)) (UInt8.not_lt.1 fun q => g (.inl q))
    subst e
    rw [bytesLess_total r s (by simpa using fun q => g (.inr ⟨rfl, q⟩)) (by simpa using fun q => g' (.inr ⟨rfl, q⟩))]
theorem ltB_irrefl (a : ByteArray) : ltB a a = false := bytesLess_irrefl _
theorem ltB_trans {a b c : ByteArray} (h : ltB a b = true) (h' : ltB b c = true) : ltB a c = true := bytesLess_trans _ _ _ h h'
theorem ltB_total {a b : ByteArray} (h : ltB a b = false) (h' : ltB b a = false) : a = b := by
  have := bytesLess_total _ _ h h'
  rw [ByteArray.toList_eq, ByteArray.toList_eq] at this
  exact ByteArray.ext (Array.ext' this)

/-- Keys in their order; where a key belongs. -/
def Rising (keys : List ByteArray) : Prop := keys.Pairwise fun a b => ltB a b = true
def posK (k : ByteArray) : List ByteArray → Nat
  | [] => 0
  | x :: r => if ltB x k = true then posK k r + 1 else 0
theorem posK_le (k : ByteArray) : ∀ keys : List ByteArray, posK k keys ≤ keys.length
  | [] => Nat.le_refl _
  | x :: r => by rw [posK]; have := posK_le k r; split <;> simp <;> omega
theorem posK_less (k : ByteArray) : ∀ {keys : List ByteArray} {t : Nat} {x : ByteArray}, t < posK k keys → keys[t]? = some x → ltB x k = true
  | [], _, _, h, _ => by simp [posK] at h
  | x :: r, t, y, h, e => by
    rw [posK] at h
    split at h
    · cases t with
      | zero => simp at e; subst e; assumption
      | succ t => simp at e; exact posK_less k (by omega) e
    · omega
theorem posK_more (k : ByteArray) : ∀ {keys : List ByteArray} (_ : Rising keys) {t : Nat} {x : ByteArray}, posK k keys ≤ t → keys[t]? = some x → ltB x k = false
  | [], _, _, _, _, e => by simp at e
  | x :: r, hr, t, y, h, e => by
    unfold Rising at hr
    rw [List.pairwise_cons] at hr
    rw [posK] at h
    split at h
    · cases t with
      | zero => omega
      | succ t => simp at e; exact posK_more k hr.2 (by omega) e
    · rename_i hx
      cases t with
      | zero => simp at e; subst e; simpa using hx
      | succ t =>
        simp at e
        have := hr.1 y (List.mem_of_getElem? e)
        rcases hy : ltB y k with _ | _
        · rfl
        · exact absurd (ltB_trans this hy) hx
theorem posK_here (k : ByteArray) {keys : List ByteArray} (hr : Rising keys) : k ∈ keys ↔ keys[posK k keys]? = some k := by
  constructor
  · intro h
    obtain ⟨t, ht⟩ := List.mem_iff_getElem?.1 h
    rcases Nat.lt_trichotomy t (posK k keys) with h1 | h1 | h1
    · have := posK_less k h1 ht; rw [ltB_irrefl] at this; cases this
    · rw [← h1]; exact ht
    · have hlt : t < keys.length := by
        rcases Nat.lt_or_ge t keys.length with h | h
        · exact h
        · rw [List.getElem?_eq_none h] at ht; cases ht
      obtain ⟨x, hx⟩ : ∃ x, keys[posK k keys]? = some x := ⟨_, List.getElem?_eq_getElem (by omega)⟩
      have h2 := posK_more k hr (Nat.le_refl _) hx
      unfold Rising at hr
      rw [List.pairwise_iff_getElem] at hr
      obtain ⟨_, e1⟩ := List.getElem?_eq_some_iff.1 hx
      obtain ⟨_, e2⟩ := List.getElem?_eq_some_iff.1 ht
      have := hr (posK k keys) t (by omega) hlt h1
      rw [e1, e2, h2] at this
      cases this
  · exact fun h => List.mem_of_getElem? h
/-- A key and its item are put where they belong. -/
def insK (st : List ByteArray × List V) (k : ByteArray) (x : V) : List ByteArray × List V :=
  (st.1.take (posK k st.1) ++ k :: st.1.drop (posK k st.1), st.2.take (posK k st.1) ++ x :: st.2.drop (posK k st.1))
theorem rising_ins {keys : List ByteArray} {k : ByteArray} (h : Rising keys) (hk : ¬ k ∈ keys) : Rising (keys.take (posK k keys) ++ k :: keys.drop (posK k keys)) := by
  have hno : ∀ x ∈ keys, ltB x k = false → ltB k x = true := by
    intro x hx h1
    rcases h2 : ltB k x with _ | _
    · exact absurd (ltB_total h1 h2 ▸ hx) hk
    · rfl
  have hT : ∀ x ∈ keys.take (posK k keys), ltB x k = true := by
    intro x hx
    obtain ⟨t, ht⟩ := List.mem_iff_getElem?.1 hx
    rw [List.getElem?_take] at ht
    split at ht
    · exact posK_less k (by assumption) ht
    · cases ht
  have hD : ∀ x ∈ keys.drop (posK k keys), ltB k x = true := by
    intro x hx
    obtain ⟨t, ht⟩ := List.mem_iff_getElem?.1 hx
    rw [List.getElem?_drop] at ht
    exact hno x (List.mem_of_getElem? ht) (posK_more k h (by omega) ht)
  have hh : Rising (keys.take (posK k keys) ++ keys.drop (posK k keys)) := by rw [List.take_append_drop]; exact h
  unfold Rising at *
  rw [List.pairwise_append] at hh ⊢
  refine ⟨hh.1, List.pairwise_cons.2 ⟨hD, hh.2.1⟩, fun a ha b hb => ?_⟩
  rcases List.mem_cons.1 hb with rfl | hb
  · exact hT a ha
  · exact hh.2.2 a ha b hb

/-- Whether a key is there. -/
def hasK (k : ByteArray) (keys : List ByteArray) : Bool := keys.any fun x => decide (x = k)
theorem hasK_iff (k : ByteArray) (keys : List ByteArray) : hasK k keys = true ↔ k ∈ keys := by
  unfold hasK
  rw [List.any_eq_true]
  constructor
  · rintro ⟨x, hx, e⟩; rw [← of_decide_eq_true e]; exact hx
  · exact fun h => ⟨k, h, by simp⟩
section
variable {St : Type} {step : St → Nat → List UInt8 → Option (St × List UInt8 × Nat)} (close : UInt8)
end
end Go.Proofs.YtchadlbhdcpojaaGreatDoor
/- The order of values is total, and values that come at one place are the same. No program is named here. -/
namespace Go.Proofs.YtchadlbhdcpojaaGreatDoor
open Go

/-- Lists of numbers, compared number by number. -/
def lexc : List Int → List Int → Int
  | [], [] => 0
  | [], _ :: _ => -1
  | _ :: _, [] => 1
  | a :: r, b :: s => if a < b then -1 else if b < a then 1 else lexc r s
theorem lexc_range : ∀ a b : List Int, lexc a b = -1 ∨ lexc a b = 0 ∨ lexc a b = 1
  | [], [] => by simp [lexc]
  | [], _ :: _ => by simp [lexc]
  | _ :: _, [] => by simp [lexc]
  | a :: r, b :: s => by
    rw [lexc]
    split
    · simp
    · split
      · simp
      · exact lexc_range r s
theorem lexc_swap : ∀ a b : List Int, lexc b a = -lexc a b
  | [], [] => by simp [lexc]
  | [], _ :: _ => by simp [lexc]
  | _ :: _, [] => by simp [lexc]
  | a :: r, b :: s => by
    rw [lexc, lexc]
    have := lexc_swap r s
    split <;> split <;> first | omega | (split <;> omega) | skip
    all_goals (try split) <;> first | omega | simp_all
theorem lexc_zero : ∀ a b : List Int, lexc a b = 0 → a = b
  | [], [], _ => rfl
  | [], _ :: _, h => by simp [lexc] at h
  | _ :: _, [], h => by simp [lexc] at h
  | a :: r, b :: s, h => by
    rw [lexc] at h
    split at h
    · simp at h
    · split at h
      · simp at h
      · rw [lexc_zero r s h, show a = b by omega]
theorem lexc_lt {a b : Int} {r s : List Int} (h : a < b) : lexc (a :: r) (b :: s) = -1 := by rw [lexc, if_pos h]
theorem lexc_gt {a b : Int} {r s : List Int} (h : b < a) : lexc (a :: r) (b :: s) = 1 := by rw [lexc, if_neg (by omega), if_pos h]
theorem lexc_eq (a : Int) (r s : List Int) : lexc (a :: r) (a :: s) = lexc r s := by rw [lexc, if_neg (by omega), if_neg (by omega)]
theorem lexc_trans : ∀ a b c : List Int, lexc a b ≤ 0 → lexc b c ≤ 0 → lexc a c ≤ 0 ∧ (lexc a b < 0 ∨ lexc b c < 0 → lexc a c < 0)
  | [], [], c, _, h' => ⟨h', fun q => q.elim (fun q => by simp [lexc] at q) id⟩
  | [], _ :: _, [], _, h => by simp [lexc] at h
  | [], _ :: _, _ :: _, _, _ => by simp [lexc]
  | _ :: _, [], _, h, _ => by simp [lexc] at h
  | _ :: _, _ :: _, [], _, h => by simp [lexc] at h
  | a :: r, b :: s, c :: t, h, h' => by
    rcases Int.lt_trichotomy a b with h1 | h1 | h1
    · rcases Int.lt_trichotomy b c with h2 | h2 | h2
      · rw [lexc_lt (show a < c by omega)]; omega
      · subst h2; rw [lexc_lt h1]; omega
      · rw [lexc_gt h2] at h'; omega
    · subst h1
      rcases Int.lt_trichotomy a c with h2 | h2 | h2
      · rw [lexc_lt h2]; omega
      · subst h2
        rw [lexc_eq] at h h'
        rw [lexc_eq, lexc_eq, lexc_eq]
        exact lexc_trans r s t h h'
      · rw [lexc_gt h2] at h'; omega
    · rw [lexc_gt h1] at h; omega

/-- A value as numbers, so that their order is the values'. -/
def encS (t : ByteArray) : List Int := t.toList.map (fun c => (c.toNat : Int) + 1) ++ [0]
mutual
def V.enc : V → List Int
  | .mk k i t l ks => k :: (if k = 1 ∨ k = 2 then [i] else if k = 3 then encS t else V.encL (k == 5) l ks)
def V.encL (o : Bool) : List V → List ByteArray → List Int
  | [], _ => [0]
  | x :: r, ks => 1 :: ((if o then encS (ks.headD ByteArray.empty) else []) ++ (x.enc ++ V.encL o r ks.tail))
end
theorem lexc_bytes (u v : List Int) : ∀ a b : List UInt8, lexc (a.map (fun c => (c.toNat : Int) + 1) ++ 0 :: u) (b.map (fun c => (c.toNat : Int) + 1) ++ 0 :: v) = if Op.bytesLess a b then -1 else if a == b then lexc u v else 1
  | [], [] => by simp [lexc, Op.bytesLess]
  | [], y :: s => by simp [lexc, Op.bytesLess] <;> omega
  | x :: r, [] => by simp [lexc, Op.bytesLess] <;> omega
  | x :: r, y :: s => by
    rw [List.map_cons, List.map_cons, List.cons_append, List.cons_append, lexc]
    have ih := lexc_bytes u v r s
    rcases Nat.lt_trichotomy x.toNat y.toNat with h | h | h
    · have h' : x < y := UInt8.lt_iff_toNat_lt.2 h
      rw [if_pos (by omega), Op.bytesLess]
      simp [h']
    · have h' : x = y := UInt8.toNat_inj.1 h
      subst h'
      rw [if_neg (by omega), if_neg (by omega), ih, Op.bytesLess]
      simp
    · have h' : y < x := UInt8.lt_iff_toNat_lt.2 h
      have h2 : ¬ x < y := fun q => by have := UInt8.lt_iff_toNat_lt.1 q; omega
      have h3 : ¬ x = y := fun q => by rw [q] at h; omega
      rw [if_neg (by omega), if_pos (by omega), Op.bytesLess]
      simp [h2, h3]
theorem lexc_str (a b : ByteArray) (u v : List Int) : lexc (encS a ++ u) (encS b ++ v) = if cmpS a b = 0 then lexc u v else cmpS a b := by
  unfold encS
  rw [List.append_assoc, List.append_assoc]
  have := lexc_bytes u v a.toList b.toList
  simp only [List.singleton_append] at this ⊢
  rw [this]
  unfold cmpS ltB
  cases h : Op.bytesLess a.toList b.toList
  · cases h' : (a.toList == b.toList) <;> simp
  · simp
theorem lexc_int (a b : Int) (u v : List Int) : lexc (a :: u) (b :: v) = if cmpI a b = 0 then lexc u v else cmpI a b := by
  rw [lexc]
  unfold cmpI
  split
  · simp
  · split <;> simp
mutual
theorem lexc_val : ∀ (x y : V) (u v : List Int), lexc (x.enc ++ u) (y.enc ++ v) = if x.cmp y = 0 then lexc u v else x.cmp y
  | .mk k i t l ks, .mk k' i' t' l' ks', u, v => by
    rw [V.enc, V.enc, V.cmp, List.cons_append, List.cons_append, lexc_int]
    by_cases h : k = k'
    · subst h
      rw [if_pos rfl, show cmpI k k = 0 by simp [cmpI], if_pos rfl]
      by_cases h1 : k = 1 ∨ k = 2
      · rw [if_pos h1, if_pos h1, if_pos h1, List.singleton_append, List.singleton_append, lexc_int]
      · rw [if_neg h1, if_neg h1, if_neg h1]
        by_cases h3 : k = 3
        · rw [if_pos h3, if_pos h3, if_pos h3, lexc_str]
        · rw [if_neg h3, if_neg h3, if_neg h3, lexc_list]
    · rw [if_neg h, if_neg (show ¬ cmpI k k' = 0 by unfold cmpI; split <;> (try split) <;> omega), if_neg (show ¬ cmpI k k' = 0 by unfold cmpI; split <;> (try split) <;> omega)]
theorem lexc_list (o : Bool) : ∀ (l : List V) (ks : List ByteArray) (l' : List V) (ks' : List ByteArray) (u v : List Int), lexc (V.encL o l ks ++ u) (V.encL o l' ks' ++ v) = if V.cmpL o l ks l' ks' = 0 then lexc u v else V.cmpL o l ks l' ks'
  | [], _, [], _, u, v => by simp [V.encL, V.cmpL, lexc]
  | [], _, _ :: _, _, u, v => by simp [V.encL, V.cmpL, lexc]
  | _ :: _, _, [], _, u, v => by simp [V.encL, V.cmpL, lexc]
  | x :: r, ks, y :: s, ks', u, v => by
    rw [V.encL, V.encL, V.cmpL, List.cons_append, List.cons_append, lexc, if_neg (by omega), if_neg (by omega)]
    cases o
    · simp only [Bool.false_eq_true, if_false, List.nil_append, Bool.false_and]
      rw [List.append_assoc, List.append_assoc, lexc_val x y, lexc_list false r ks.tail s ks'.tail]
      split <;> simp [*]
    · simp only [if_true, Bool.true_and]
      simp only [List.append_assoc]
      rw [lexc_str, lexc_val x y, lexc_list true r ks.tail s ks'.tail]
      cases he : ((ks.headD ByteArray.empty).toList == (ks'.headD ByteArray.empty).toList)
      · have hne : ¬ cmpS (ks.headD ByteArray.empty) (ks'.headD ByteArray.empty) = 0 := by
          unfold cmpS
          rw [he]
          split <;> simp
        rw [if_neg hne]
        simp only [Bool.not_false, if_true]
        rw [if_neg hne]
      · have hz : cmpS (ks.headD ByteArray.empty) (ks'.headD ByteArray.empty) = 0 := by
          have e : (ks.headD ByteArray.empty).toList = (ks'.headD ByteArray.empty).toList := by simpa using he
          unfold cmpS ltB
          rw [e, bytesLess_irrefl]
          simp
        rw [if_pos hz]
        simp only [Bool.not_true, Bool.false_eq_true, if_false]
        split <;> simp [*]
end
theorem cmp_lexc (x y : V) : x.cmp y = lexc x.enc y.enc := by
  have := lexc_val x y [] []
  rw [List.append_nil, List.append_nil, lexc] at this
  rw [this]
  split
  · assumption
  · rfl
/-- The order of values is total. -/
theorem cmp_order (x y z : V) : (x.cmp y = -1 ∨ x.cmp y = 0 ∨ x.cmp y = 1) ∧ y.cmp x = -x.cmp y ∧ x.cmp x = 0 ∧ (x.cmp y ≤ 0 → y.cmp z ≤ 0 → x.cmp z ≤ 0 ∧ (x.cmp y < 0 ∨ y.cmp z < 0 → x.cmp z < 0)) := by
  rw [cmp_lexc, cmp_lexc, cmp_lexc, cmp_lexc, cmp_lexc]
  exact ⟨lexc_range _ _, lexc_swap _ _, by have := lexc_swap x.enc x.enc; omega, lexc_trans _ _ _⟩

theorem encS_inj (u v : List Int) : ∀ a b : List UInt8, a.map (fun c => (c.toNat : Int) + 1) ++ 0 :: u = b.map (fun c => (c.toNat : Int) + 1) ++ 0 :: v → a = b ∧ u = v
  | [], [], h => by simpa using h
  | [], y :: s, h => by simp at h; omega
  | x :: r, [], h => by simp at h; omega
  | x :: r, y :: s, h => by
    simp only [List.map_cons, List.cons_append, List.cons.injEq] at h
    obtain ⟨h1, h2⟩ := encS_inj u v r s h.2
    exact ⟨by rw [h1, UInt8.toNat_inj.1 (show x.toNat = y.toNat by omega)], h2⟩
theorem encS_same {a b : ByteArray} {u v : List Int} (h : encS a ++ u = encS b ++ v) : a = b ∧ u = v := by
  unfold encS at h
  rw [List.append_assoc, List.append_assoc] at h
  obtain ⟨h1, h2⟩ := encS_inj u v a.toList b.toList h
  rw [ByteArray.toList_eq, ByteArray.toList_eq] at h1
  exact ⟨ByteArray.ext (Array.ext' h1), h2⟩
theorem empty_text {t : ByteArray} (h : t.data.toList.isEmpty = true) : t = ⟨#[]⟩ := ByteArray.ext (Array.ext' (by simpa using h))
mutual
theorem enc_inj : ∀ (x y : V) (u v : List Int), x.ok = true → y.ok = true → x.enc ++ u = y.enc ++ v → x = y ∧ u = v
  | .mk k i t l ks, .mk k' i' t' l' ks', u, v, hx, hy, h => by
    rw [V.ok, Bool.and_eq_true] at hx hy
    rw [V.enc, V.enc, List.cons_append, List.cons_append, List.cons.injEq] at h
    obtain ⟨rfl, h⟩ := h
    obtain ⟨hs, hl⟩ := hx
    obtain ⟨hs', hl'⟩ := hy
    unfold V.sound at hs hs'
    by_cases h12 : k = 1 ∨ k = 2
    · rw [if_pos h12, if_pos h12, List.singleton_append, List.singleton_append, List.cons.injEq] at h
      have e : ∀ (i : Int) (t : ByteArray) (l : List V) (ks : List ByteArray), (if k = 0 then i == 0 && t.data.toList.isEmpty && (l.length == 0 && ks.length == 0) else if k = 1 then (i == 0 || i == 1) && t.data.toList.isEmpty && (l.length == 0 && ks.length == 0) else if k = 2 then (decide (-1000000000000 ≤ i) && decide (i ≤ 1000000000000)) && t.data.toList.isEmpty && (l.length == 0 && ks.length == 0)
          else if k = 3 then i == 0 && textB t.data.toList && (l.length == 0 && ks.length == 0) else if k = 4 then i == 0 && t.data.toList.isEmpty && ks.length == 0 else if k = 5 then i == 0 && t.data.toList.isEmpty && ks.length == l.length && risingB ks ks.length else false) = true → t = ⟨#[]⟩ ∧ l = [] ∧ ks = [] := by
        intro i t l ks hq
        rcases h12 with rfl | rfl <;> simp at hq <;> exact ⟨empty_text (by simpa using hq.1.2), hq.2.1, hq.2.2⟩
      obtain ⟨rfl, rfl, rfl⟩ := e _ _ _ _ hs
      obtain ⟨rfl, rfl, rfl⟩ := e _ _ _ _ hs'
      exact ⟨by rw [h.1], h.2⟩
    · rw [if_neg h12, if_neg h12] at h
      have h1 : ¬ k = 1 := fun e => h12 (.inl e)
      have h2 : ¬ k = 2 := fun e => h12 (.inr e)
      by_cases h3 : k = 3
      · subst h3
        simp at hs hs'
        rw [if_pos rfl, if_pos rfl] at h
        obtain ⟨rfl, hu⟩ := encS_same h
        obtain ⟨⟨rfl, _⟩, rfl, rfl⟩ := hs
        obtain ⟨⟨rfl, _⟩, rfl, rfl⟩ := hs'
        exact ⟨rfl, hu⟩
      · rw [if_neg h3, if_neg h3] at h
        by_cases h0 : k = 0
        · subst h0
          simp at hs hs'
          obtain ⟨⟨rfl, ht⟩, rfl, rfl⟩ := hs
          obtain ⟨⟨rfl, ht'⟩, rfl, rfl⟩ := hs'
          obtain ⟨_, hu⟩ := encL_inj false [] [] [] [] u v rfl rfl (by simp) (by simpa using h)
          exact ⟨by rw [empty_text (t := t) (by simpa using ht), empty_text (t := t') (by simpa using ht')], hu⟩
        · by_cases h4 : k = 4
          · subst h4
            simp at hs hs'
            obtain ⟨⟨rfl, ht⟩, rfl⟩ := hs
            obtain ⟨⟨rfl, ht'⟩, rfl⟩ := hs'
            obtain ⟨⟨rfl, _⟩, hu⟩ := encL_inj false l [] l' [] u v hl hl' (by simp) (by simpa using h)
            exact ⟨by rw [empty_text (t := t) (by simpa using ht), empty_text (t := t') (by simpa using ht')], hu⟩
          · by_cases h5 : k = 5
            · subst h5
              simp at hs hs'
              obtain ⟨⟨⟨rfl, ht⟩, hk⟩, _⟩ := hs
              obtain ⟨⟨⟨rfl, ht'⟩, hk'⟩, _⟩ := hs'
              obtain ⟨⟨rfl, hke⟩, hu⟩ := encL_inj true l ks l' ks' u v hl hl' (fun _ => ⟨hk, hk'⟩) (by simpa using h)
              rw [hke rfl]
              exact ⟨by rw [empty_text (t := t) (by simpa using ht), empty_text (t := t') (by simpa using ht')], hu⟩
            · simp [h0, h1, h2, h3, h4, h5] at hs
theorem encL_inj (o : Bool) : ∀ (l : List V) (ks : List ByteArray) (l' : List V) (ks' : List ByteArray) (u v : List Int), V.okL l = true → V.okL l' = true → (o = true → ks.length = l.length ∧ ks'.length = l'.length) → V.encL o l ks ++ u = V.encL o l' ks' ++ v → (l = l' ∧ (o = true → ks = ks')) ∧ u = v
  | [], ks, [], ks', u, v, _, _, hk, h => by
    refine ⟨⟨rfl, fun ho => ?_⟩, by simpa [V.encL] using h⟩
    have := hk ho
    rw [List.length_eq_zero_iff.1 this.1, List.length_eq_zero_iff.1 this.2]
  | [], _, _ :: _, _, u, v, _, _, _, h => by simp [V.encL] at h
  | _ :: _, _, [], _, u, v, _, _, _, h => by simp [V.encL] at h
  | x :: r, ks, y :: s, ks', u, v, hx, hy, hk, h => by
    rw [V.okL, Bool.and_eq_true] at hx hy
    rw [V.encL, V.encL] at h
    simp only [List.cons_append, List.cons.injEq, true_and, List.append_assoc] at h
    cases o
    · simp only [Bool.false_eq_true, if_false, List.nil_append] at h
      obtain ⟨rfl, h1⟩ := enc_inj x y _ _ hx.1 hy.1 h
      obtain ⟨⟨rfl, _⟩, h2⟩ := encL_inj false r ks.tail s ks'.tail u v hx.2 hy.2 (by simp) h1
      exact ⟨⟨rfl, by simp⟩, h2⟩
    · simp only [if_true] at h
      obtain ⟨hke, h0⟩ := encS_same h
      obtain ⟨rfl, h1⟩ := enc_inj x y _ _ hx.1 hy.1 h0
      obtain ⟨hk1, hk2⟩ := hk rfl
      match ks, ks', hk1, hk2 with
      | a :: p, b :: q, hk1, hk2 =>
        obtain ⟨⟨rfl, h3⟩, h2⟩ := encL_inj true r p s q u v hx.2 hy.2 (fun _ => ⟨by simpa using hk1, by simpa using hk2⟩) h1
        simp only [List.headD_cons] at hke
        exact ⟨⟨rfl, fun _ => by rw [hke, h3 rfl]⟩, h2⟩
end
theorem cmp_zero {x y : V} (hx : x.ok = true) (hy : y.ok = true) : x.cmp y = 0 ↔ x = y := by
  constructor
  · intro h
    rw [cmp_lexc] at h
    exact (enc_inj x y [] [] hx hy (by rw [lexc_zero _ _ h])).1
  · rintro rfl
    exact (cmp_order x x x).2.2.1
end Go.Proofs.YtchadlbhdcpojaaGreatDoor
/- Reading undoes writing: the text of a valid value is read as that value. Plain functions. -/
namespace Go.Proofs.YtchadlbhdcpojaaGreatDoor
open Go

theorem rising_of {ks : List ByteArray} (h : risingB ks ks.length = true) : Rising ks ∧ ∀ k ∈ ks, textB k.data.toList = true := by
  have ht : ∀ k ∈ ks, textB k.data.toList = true := by
    intro k hk
    obtain ⟨j, hj⟩ := List.mem_iff_getElem?.1 hk
    have hlt : j < ks.length := (List.getElem?_eq_some_iff.1 hj).1
    have := risingB_at h hlt
    rwa [List.getD_eq_getElem?_getD, hj] at this
  have hadj : ∀ i, i + 1 < ks.length → ltB (ks.getD i ByteArray.empty) (ks.getD (i + 1) ByteArray.empty) = true := by
    intro i hi
    unfold risingB at h
    rw [List.all_eq_true] at h
    have := h (i + 1) (by simpa using hi)
    simp at this
    simpa using this.2
  refine ⟨List.pairwise_iff_getElem.2 fun i j hi hj hij => ?_, ht⟩
  have key : ∀ d i, i + d + 1 < ks.length → ltB (ks.getD i ByteArray.empty) (ks.getD (i + d + 1) ByteArray.empty) = true := by
    intro d
    induction d with
    | zero => intro i hi; exact hadj i hi
    | succ d ih => intro i hi; exact ltB_trans (ih i (by omega)) (by have := hadj (i + d + 1) (by omega); rwa [show i + (d + 1) + 1 = i + d + 1 + 1 by omega])
  have := key (j - i - 1) i (by omega)
  rw [show i + (j - i - 1) + 1 = j by omega] at this
  simpa [List.getD_eq_getElem?_getD, hi, hj] using this

end Go.Proofs.YtchadlbhdcpojaaGreatDoor
/- Reading a value as the specification reads it, and that both readings agree. Plain functions; no program is named here. -/
namespace Go.Proofs.YtchadlbhdcpojaaGreatDoor
open Go

end Go.Proofs.YtchadlbhdcpojaaGreatDoor
/- Values, lists and objects as the specification reads them, and that both readings agree. Plain functions; no program is named here. -/
namespace Go.Proofs.YtchadlbhdcpojaaGreatDoor
open Go

section
variable (f : List UInt8 → Option (V × List UInt8)) (b : Bool)
end
theorem V.okL_append (a l : List V) : V.okL (a ++ l) = (V.okL a && V.okL l) := by
  induction a with
  | nil => simp [V.okL]
  | cons x r ih => simp [V.okL, ih, Bool.and_assoc]
theorem V.nodesL_append (a l : List V) : V.nodesL (a ++ l) = V.nodesL a + V.nodesL l := by
  induction a with
  | nil => simp [V.nodesL]
  | cons x r ih => simp only [List.cons_append, V.nodesL, ih]; omega
theorem V.depthL_append (a l : List V) : V.depthL (a ++ l) = max (V.depthL a) (V.depthL l) := by
  induction a with
  | nil => simp [V.depthL]
  | cons x r ih => simp only [List.cons_append, V.depthL, ih]; omega

section
variable {f : List UInt8 → Option (V × List UInt8)} {b : Bool}
/-- What has been read so far is less than what is read at last. -/
def Less (st st' : List ByteArray × List V) : Prop := (V.okL st'.2 = true → V.okL st.2 = true) ∧ (st'.1.all (fun k => textB k.data.toList) = true → st.1.all (fun k => textB k.data.toList) = true) ∧ V.nodesL st.2 ≤ V.nodesL st'.2
theorem ins_counts (st : List ByteArray × List V) (k : ByteArray) (x : V) : V.okL (insK st k x).2 = (V.okL st.2 && x.ok) ∧ (insK st k x).1.all (fun k => textB k.data.toList) = (st.1.all (fun k => textB k.data.toList) && textB k.data.toList) ∧ V.nodesL (insK st k x).2 = V.nodesL st.2 + x.nodes ∧ V.depthL (insK st k x).2 = max (V.depthL st.2) x.depth := by
  unfold insK
  generalize posK k st.1 = p
  refine ⟨?_, ?_, ?_, ?_⟩
  · have h := V.okL_append (st.2.take p) (st.2.drop p)
    rw [List.take_append_drop] at h
    simp only []
    rw [V.okL_append, h, V.okL]
    cases V.okL (st.2.take p) <;> cases x.ok <;> simp
  · have h := List.all_append (f := fun k : ByteArray => textB k.data.toList) (xs := st.1.take p) (ys := st.1.drop p)
    rw [List.take_append_drop] at h
    simp only []
    rw [List.all_append, h, List.all_cons]
    cases (st.1.take p).all (fun k => textB k.data.toList) <;> cases textB k.data.toList <;> simp
  · have h := V.nodesL_append (st.2.take p) (st.2.drop p)
    rw [List.take_append_drop] at h
    simp only []
    rw [V.nodesL_append, h, V.nodesL]
    omega
  · have h := V.depthL_append (st.2.take p) (st.2.drop p)
    rw [List.take_append_drop] at h
    simp only []
    rw [V.depthL_append, h, V.depthL]
    omega
theorem Less.trans {a c d : List ByteArray × List V} (h : Less a c) (h' : Less c d) : Less a d := ⟨fun e => h.1 (h'.1 e), fun e => h.2.1 (h'.2.1 e), Nat.le_trans h.2.2 h'.2.2⟩
theorem ins_lens {st : List ByteArray × List V} (h : st.1.length = st.2.length) (k : ByteArray) (x : V) : (insK st k x).1.length = (insK st k x).2.length := by
  unfold insK
  simp
  omega
theorem ins_rising {st : List ByteArray × List V} (h : Rising st.1) {k : ByteArray} (hk : ¬ hasK k st.1 = true) (x : V) : Rising (insK st k x).1 := rising_ins h (fun e => hk ((hasK_iff k st.1).2 e))
variable {g : Nat → List UInt8 → Option (V × List UInt8 × Nat)}
end
end Go.Proofs.YtchadlbhdcpojaaGreatDoor
/- Both readings of a value agree, and so do both readings of a string. Plain functions; no program is named here. -/
namespace Go.Proofs.YtchadlbhdcpojaaGreatDoor
open Go

section
variable {f : List UInt8 → Option (V × List UInt8)} {b : Bool}
end
theorem rising_B {ks : List ByteArray} (h : Rising ks) (ht : ks.all (fun k => textB k.data.toList) = true) : risingB ks ks.length = true := by
  unfold risingB
  rw [List.all_eq_true]
  intro i hi
  have hi' : i < ks.length := by simpa using hi
  rw [List.all_eq_true] at ht
  have e : ks.getD i ByteArray.empty = ks[i] := by simp [List.getD_eq_getElem?_getD, hi']
  rw [e, ht _ (List.getElem_mem hi'), Bool.true_and]
  by_cases h0 : i = 0
  · simp [h0]
  · have e' : ks.getD (i - 1) ByteArray.empty = ks[i - 1]'(by omega) := by simp [List.getD_eq_getElem?_getD, show i - 1 < ks.length by omega]
    unfold Rising at h
    rw [List.pairwise_iff_getElem] at h
    rw [e', h (i - 1) i (by omega) hi' (by omega)]
    simp
theorem ok_object_iff {ks : List ByteArray} {l : List V} (h : Rising ks) (hl : ks.length = l.length) : (V.mk 5 0 ⟨#[]⟩ l ks).ok = true ↔ V.okL l = true ∧ ks.all (fun k => textB k.data.toList) = true := by
  rw [V.ok, Bool.and_eq_true]
  constructor
  · rintro ⟨h1, h2⟩
    refine ⟨h2, ?_⟩
    unfold V.sound at h1
    simp at h1
    rw [List.all_eq_true]
    exact (rising_of h1.2).2
  · rintro ⟨h1, h2⟩
    refine ⟨?_, h1⟩
    unfold V.sound
    have := rising_B h h2
    simp [hl]
    rwa [hl] at this
theorem ok_list (l : List V) : (V.mk 4 0 ⟨#[]⟩ l []).ok = V.okL l := by
  rw [V.ok]
  unfold V.sound
  simp
section
variable {b : Bool} {L n : Nat} {l r : List UInt8} {c : UInt8}
end
end Go.Proofs.YtchadlbhdcpojaaGreatDoor
/- The text of what was read is what was read, without its blanks. Plain functions; no program is named here. -/
namespace Go.Proofs.YtchadlbhdcpojaaGreatDoor
open Go

section
variable {f : Nat → List UInt8 → Option (V × List UInt8 × Nat)}
end
end Go.Proofs.YtchadlbhdcpojaaGreatDoor
