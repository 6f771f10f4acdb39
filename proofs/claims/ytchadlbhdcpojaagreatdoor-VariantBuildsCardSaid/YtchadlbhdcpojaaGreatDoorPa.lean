/- Plain data: values as trees, when they are valid. No program is named here. -/
import GoSem.ClaimWide
import GoSem.Op.String
import Derived.Lib.Strings
import Derived.Lib.ItoaLen
namespace Go.Proofs.YtchadlbhdcpojaaGreatDoor
open Go

inductive V where
  | mk (kind int : Int) (text : ByteArray) (items : List V) (keys : List ByteArray)

def V.kind : V → Int | .mk k _ _ _ _ => k
def V.int : V → Int | .mk _ i _ _ _ => i
def V.text : V → ByteArray | .mk _ _ t _ _ => t
def V.items : V → List V | .mk _ _ _ l _ => l
def V.keys : V → List ByteArray | .mk _ _ _ _ l => l

mutual
def V.nodes : V → Nat
  | .mk _ _ _ items _ => V.nodesL items + 1
def V.nodesL : List V → Nat
  | [] => 0
  | x :: r => x.nodes + V.nodesL r
end

mutual
def V.depth : V → Nat
  | .mk _ _ _ items _ => V.depthL items + 1
def V.depthL : List V → Nat
  | [] => 0
  | x :: r => max x.depth (V.depthL r)
end

/-- A printable byte; a text. -/
def visB (c : UInt8) : Bool := decide (32 ≤ c.toNat) && decide (c.toNat ≤ 126)
def textB (l : List UInt8) : Bool := decide (l.length ≤ 100) && l.all visB

/-- Strings are compared byte by byte. -/
def ltB (a b : ByteArray) : Bool := Op.bytesLess a.toList b.toList

def risingB (keys : List ByteArray) (n : Nat) : Bool :=
  (List.range n).all fun i => textB (keys.getD i ByteArray.empty).data.toList && (i == 0 || ltB (keys.getD (i - 1) ByteArray.empty) (keys.getD i ByteArray.empty))

def V.sound : V → Bool
  | .mk k i t items keys =>
    if k = 0 then i == 0 && t.data.toList.isEmpty && (items.length == 0 && keys.length == 0)
    else if k = 1 then (i == 0 || i == 1) && t.data.toList.isEmpty && (items.length == 0 && keys.length == 0)
    else if k = 2 then (decide (-1000000000000 ≤ i) && decide (i ≤ 1000000000000)) && t.data.toList.isEmpty && (items.length == 0 && keys.length == 0)
    else if k = 3 then i == 0 && textB t.data.toList && (items.length == 0 && keys.length == 0)
    else if k = 4 then i == 0 && t.data.toList.isEmpty && keys.length == 0
    else if k = 5 then i == 0 && t.data.toList.isEmpty && keys.length == items.length && risingB keys keys.length
    else false

mutual
def V.ok : V → Bool
  | .mk k i t items keys => V.sound (.mk k i t items keys) && V.okL items
def V.okL : List V → Bool
  | [] => true
  | x :: r => x.ok && V.okL r
end

/-- Valid with so many nodes and levels at most. -/
def V.fits (x : V) (n d : Nat) : Bool := x.ok && decide (x.nodes ≤ n) && decide (x.depth ≤ d)
def V.valid (x : V) : Bool := x.fits 60 6

theorem V.nodes_pos (x : V) : 1 ≤ x.nodes := by cases x; simp [V.nodes]
theorem V.depth_pos (x : V) : 1 ≤ x.depth := by cases x; simp [V.depth]
theorem V.nodes_mem {x : V} {l : List V} (h : x ∈ l) : x.nodes ≤ V.nodesL l := by
  induction l with
  | nil => cases h
  | cons y r ih =>
    rcases List.mem_cons.1 h with rfl | h
    · simp [V.nodesL]
    · have := ih h; simp [V.nodesL]; omega
theorem V.depth_mem {x : V} {l : List V} (h : x ∈ l) : x.depth ≤ V.depthL l := by
  induction l with
  | nil => cases h
  | cons y r ih =>
    rcases List.mem_cons.1 h with rfl | h
    · simp [V.depthL]; omega
    · have := ih h; simp [V.depthL]; omega
theorem V.nodesL_take_succ {l : List V} {k : Nat} {x : V} (h : l[k]? = some x) : V.nodesL (l.take (k + 1)) = V.nodesL (l.take k) + x.nodes := by
  induction l generalizing k with
  | nil => simp at h
  | cons y r ih =>
    cases k with
    | zero => simp at h; subst h; simp [V.nodesL]
    | succ k => simp at h; have := ih h; simp [V.nodesL] at *; omega
theorem V.depthL_take_succ {l : List V} {k : Nat} {x : V} (h : l[k]? = some x) : V.depthL (l.take (k + 1)) = max (V.depthL (l.take k)) x.depth := by
  induction l generalizing k with
  | nil => simp at h
  | cons y r ih =>
    cases k with
    | zero => simp at h; subst h; simp [V.depthL]
    | succ k => simp at h; have := ih h; simp [V.depthL] at *; omega
theorem V.okL_take_succ {l : List V} {k : Nat} {x : V} (h : l[k]? = some x) : V.okL (l.take (k + 1)) = (V.okL (l.take k) && x.ok) := by
  induction l generalizing k with
  | nil => simp at h
  | cons y r ih =>
    cases k with
    | zero => simp at h; subst h; simp [V.okL]
    | succ k => simp at h; have := ih h; simp [V.okL] at *; rw [this, Bool.and_assoc]
theorem V.nodesL_take_le (l : List V) (k : Nat) : V.nodesL (l.take k) ≤ V.nodesL l := by
  induction l generalizing k with
  | nil => simp [V.nodesL]
  | cons y r ih =>
    cases k with
    | zero => simp [V.nodesL]
    | succ k => have := ih k; simp [V.nodesL]; omega
theorem V.depthL_take_le (l : List V) (k : Nat) : V.depthL (l.take k) ≤ V.depthL l := by
  induction l generalizing k with
  | nil => simp [V.depthL]
  | cons y r ih =>
    cases k with
    | zero => simp [V.depthL]
    | succ k => have := ih k; simp [V.depthL]; omega
theorem V.okL_take {l : List V} (h : V.okL l = true) (k : Nat) : V.okL (l.take k) = true := by
  induction l generalizing k with
  | nil => simp [V.okL]
  | cons y r ih =>
    cases k with
    | zero => simp [V.okL]
    | succ k => simp [V.okL] at *; exact ⟨h.1, ih h.2 k⟩
theorem V.okL_mem {l : List V} (h : V.okL l = true) {x : V} (hx : x ∈ l) : x.ok = true := by
  induction l with
  | nil => cases hx
  | cons y r ih =>
    simp [V.okL] at h
    rcases List.mem_cons.1 hx with rfl | hx
    · exact h.1
    · exact ih h.2 hx
theorem risingB_succ (keys : List ByteArray) (n : Nat) : risingB keys (n + 1) = (risingB keys n && (textB (keys.getD n ByteArray.empty).data.toList && (n == 0 || ltB (keys.getD (n - 1) ByteArray.empty) (keys.getD n ByteArray.empty)))) := by
  simp [risingB, List.range_succ]
theorem risingB_false {keys : List ByteArray} {k n : Nat} (h : risingB keys k = false) (hk : k ≤ n) : risingB keys n = false := by
  unfold risingB at *
  rw [List.all_eq_false] at *
  obtain ⟨x, hx, hp⟩ := h
  exact ⟨x, by simp at *; omega, hp⟩
end Go.Proofs.YtchadlbhdcpojaaGreatDoor
/- The order of values, on trees. -/
namespace Go.Proofs.YtchadlbhdcpojaaGreatDoor
open Go

def cmpI (a b : Int) : Int := if a < b then -1 else if b < a then 1 else 0
def cmpS (a b : ByteArray) : Int := if ltB a b then -1 else if a.toList == b.toList then 0 else 1
mutual
def V.cmp : V → V → Int
  | .mk k i t l ks, .mk k' i' t' l' ks' =>
    if k = k' then
      if k = 1 ∨ k = 2 then cmpI i i' else if k = 3 then cmpS t t' else V.cmpL (k == 5) l ks l' ks'
    else cmpI k k'
def V.cmpL (o : Bool) : List V → List ByteArray → List V → List ByteArray → Int
  | [], _, [], _ => 0
  | [], _, _ :: _, _ => -1
  | _ :: _, _, [], _ => 1
  | x :: r, ks, y :: s, ks' =>
    if o && !((ks.headD ByteArray.empty).toList == (ks'.headD ByteArray.empty).toList) then cmpS (ks.headD ByteArray.empty) (ks'.headD ByteArray.empty)
    else if x.cmp y = 0 then V.cmpL o r ks.tail s ks'.tail else x.cmp y
end

theorem drop_at {α : Type} {l : List α} {k : Nat} {x : α} (h : l[k]? = some x) : l.drop k = x :: l.drop (k + 1) := by
  obtain ⟨hk, e⟩ := List.getElem?_eq_some_iff.1 h
  rw [List.drop_eq_getElem_cons hk, e]
theorem headD_drop {α : Type} {l : List α} {k : Nat} {x : α} (d : α) (h : l[k]? = some x) : (l.drop k).headD d = x := by rw [drop_at h]; rfl
theorem tail_drop' {α : Type} (l : List α) (k : Nat) : (l.drop k).tail = l.drop (k + 1) := by rw [List.tail_drop]

/-- What is left to compare after k items. -/
def cmpAt (o : Bool) (l : List V) (ks : List ByteArray) (l' : List V) (ks' : List ByteArray) (k : Nat) : Int := V.cmpL o (l.drop k) (ks.drop k) (l'.drop k) (ks'.drop k)
theorem cmpAt_key {o : Bool} {l l' : List V} {ks ks' : List ByteArray} {k : Nat} {x y : V} {s s' : ByteArray} (hx : l[k]? = some x) (hy : l'[k]? = some y) (hs : ks[k]? = some s) (hs' : ks'[k]? = some s') (ho : o = true) (hne : (s.toList == s'.toList) = false) :
    cmpAt o l ks l' ks' k = cmpS s s' := by
  unfold cmpAt
  rw [drop_at hx, drop_at hy, V.cmpL, headD_drop _ hs, headD_drop _ hs', ho, hne]
  rfl
theorem cmpAt_next {o : Bool} {l l' : List V} {ks ks' : List ByteArray} {k : Nat} {x y : V} (hx : l[k]? = some x) (hy : l'[k]? = some y)
    (ho : o = true → ∃ s s', ks[k]? = some s ∧ ks'[k]? = some s' ∧ (s.toList == s'.toList) = true) :
    cmpAt o l ks l' ks' k = if x.cmp y = 0 then cmpAt o l ks l' ks' (k + 1) else x.cmp y := by
  unfold cmpAt
  rw [drop_at hx, drop_at hy, V.cmpL, tail_drop', tail_drop']
  have : (o && !(((ks.drop k).headD ByteArray.empty).toList == ((ks'.drop k).headD ByteArray.empty).toList)) = false := by
    cases o
    · rfl
    · obtain ⟨s, s', h1, h2, h3⟩ := ho rfl
      rw [headD_drop _ h1, headD_drop _ h2, h3]; rfl
  rw [this]
  rfl
theorem cmpAt_end {o : Bool} {l l' : List V} {ks ks' : List ByteArray} {k : Nat} (hk : l.length ≤ k ∨ l'.length ≤ k) (h1 : k ≤ l.length) (h2 : k ≤ l'.length) :
    cmpAt o l ks l' ks' k = cmpI l.length l'.length := by
  unfold cmpAt cmpI
  rcases hk with h | h
  · rw [List.drop_of_length_le h]
    by_cases h' : l'.length ≤ k
    · rw [List.drop_of_length_le h', V.cmpL, if_neg (by omega), if_neg (by omega)]
    · obtain ⟨y, hy⟩ : ∃ y, l'[k]? = some y := ⟨_, List.getElem?_eq_getElem (by omega)⟩
      rw [drop_at hy, V.cmpL, if_pos (by omega)]
  · rw [List.drop_of_length_le h]
    by_cases h' : l.length ≤ k
    · rw [List.drop_of_length_le h', V.cmpL, if_neg (by omega), if_neg (by omega)]
    · obtain ⟨y, hy⟩ : ∃ y, l[k]? = some y := ⟨_, List.getElem?_eq_getElem (by omega)⟩
      rw [drop_at hy, V.cmpL, if_neg (by omega), if_pos (by omega)]
theorem cmpAt_zero (o : Bool) (l l' : List V) (ks ks' : List ByteArray) : cmpAt o l ks l' ks' 0 = V.cmpL o l ks l' ks' := rfl

theorem bytesLess_irrefl (l : List UInt8) : Op.bytesLess l l = false := by
  induction l with
  | nil => rfl
  | cons a r ih => rw [Op.bytesLess, ih]; simp
theorem ok_keys {k i : Int} {t : ByteArray} {l : List V} {ks : List ByteArray} (h : V.ok (.mk k i t l ks) = true) (h5 : k = 5) : ks.length = l.length := by
  subst h5
  rw [V.ok] at h
  simp [V.sound] at h
  exact h.1.1.2
theorem ok_items {k i : Int} {t : ByteArray} {l : List V} {ks : List ByteArray} (h : V.ok (.mk k i t l ks) = true) : V.okL l = true := by
  rw [V.ok] at h; simp at h; exact h.2
end Go.Proofs.YtchadlbhdcpojaaGreatDoor
/- Reading a text: plain functions on bytes. No program is named here. -/
namespace Go.Proofs.YtchadlbhdcpojaaGreatDoor
open Go

/-- What is left of a string behind its first k bytes. -/
def sfx (s : ByteArray) (k : Nat) : List UInt8 := s.data.toList.drop k
theorem sfx_nil {s : ByteArray} {k : Nat} (h : ¬ k < s.size) : sfx s k = [] := by
  unfold sfx; apply List.drop_eq_nil_of_le; simp; exact Nat.le_of_not_lt h
theorem sfx_cons {s : ByteArray} {k : Nat} (h : k < s.size) : sfx s k = s[k] :: sfx s (k + 1) := by
  unfold sfx
  rw [List.drop_eq_getElem_cons (by simpa using h)]
  rfl
def leaf (k i : Int) (t : ByteArray) : V := .mk k i t [] []
section
variable {St : Type} (step : St → Nat → List UInt8 → Option (St × List UInt8 × Nat)) (close : UInt8)
end
end Go.Proofs.YtchadlbhdcpojaaGreatDoor
/- The textual form of values, on trees. -/
namespace Go.Proofs.YtchadlbhdcpojaaGreatDoor
open Go

def escB (c : UInt8) : List UInt8 := if c = 34 ∨ c = 92 then [92, c] else [c]
def quoteB (l : List UInt8) : List UInt8 := 34 :: (l.flatMap escB ++ [34])
def nullB : List UInt8 := [110, 117, 108, 108]
def truthB (b : Bool) : List UInt8 := if b then [116, 114, 117, 101] else [102, 97, 108, 115, 101]
def sepB (o first : Bool) (key : ByteArray) : List UInt8 := (if first then [] else [44]) ++ if o then quoteB key.data.toList ++ [58] else []

mutual
def V.write : V → List UInt8
  | .mk k i t l ks =>
    if k = 0 then nullB else if k = 1 then truthB (i == 1) else if k = 2 then Lib.itoa i else if k = 3 then quoteB t.data.toList
    else if k = 4 then 91 :: (V.writeL false true l ks ++ [93]) else 123 :: (V.writeL true true l ks ++ [125])
def V.writeL (o first : Bool) : List V → List ByteArray → List UInt8
  | [], _ => []
  | x :: r, ks => sepB o first (ks.headD ByteArray.empty) ++ (x.write ++ V.writeL o false r ks.tail)
end

/-- What is written of the first k items. -/
def writeTo (o : Bool) (l : List V) (ks : List ByteArray) (k : Nat) : List UInt8 := V.writeL o true (l.take k) ks
theorem writeL_snoc (o : Bool) {l : List V} {x : V} {k : Nat} (h : l[k]? = some x) (first : Bool) (ks : List ByteArray) :
    V.writeL o first (l.take (k + 1)) ks = V.writeL o first (l.take k) ks ++ (sepB o (first && k == 0) (ks.getD k ByteArray.empty) ++ x.write) := by
  induction l generalizing k first ks with
  | nil => simp at h
  | cons y r ih =>
    cases k with
    | zero =>
      simp at h; subst h
      cases ks <;> simp [V.writeL]
    | succ k =>
      simp at h
      have := ih h false ks.tail
      simp only [List.take_succ_cons, V.writeL]
      rw [this]
      have e : ks.tail.getD k ByteArray.empty = ks.getD (k + 1) ByteArray.empty := by cases ks <;> simp
      rw [e]
      simp [List.append_assoc]
theorem writeTo_succ (o : Bool) {l : List V} {x : V} {k : Nat} (h : l[k]? = some x) (ks : List ByteArray) :
    writeTo o l ks (k + 1) = writeTo o l ks k ++ (sepB o (k == 0) (ks.getD k ByteArray.empty) ++ x.write) := by
  unfold writeTo; rw [writeL_snoc o h]; rfl
theorem writeTo_all (o : Bool) (l : List V) (ks : List ByteArray) {k : Nat} (h : l.length ≤ k) : writeTo o l ks k = V.writeL o true l ks := by
  unfold writeTo; rw [List.take_of_length_le h]
theorem writeTo_zero (o : Bool) (l : List V) (ks : List ByteArray) : writeTo o l ks 0 = [] := rfl

theorem esc_len (l : List UInt8) : (l.flatMap escB).length ≤ 2 * l.length := by
  induction l with
  | nil => simp
  | cons c r ih =>
    have : (escB c).length ≤ 2 := by unfold escB; split <;> simp
    rw [List.flatMap_cons, List.length_append, List.length_cons]; omega
theorem quoteB_len (l : List UInt8) : (quoteB l).length ≤ 2 * l.length + 2 := by
  have := esc_len l; rw [quoteB, List.length_cons, List.length_append, List.length_singleton]; omega
theorem textB_len {l : List UInt8} (h : textB l = true) : l.length ≤ 100 := by unfold textB at h; simp at h; exact h.1
theorem risingB_at {keys : List ByteArray} {n k : Nat} (h : risingB keys n = true) (hk : k < n) : textB (keys.getD k ByteArray.empty).data.toList = true := by
  unfold risingB at h
  rw [List.all_eq_true] at h
  have := h k (by simpa using hk)
  simp at this
  simpa using this.1
theorem sepB_len (o first : Bool) (key : ByteArray) (h : o = true → key.data.toList.length ≤ 100) : (sepB o first key).length ≤ 204 := by
  have := quoteB_len key.data.toList
  unfold sepB
  cases o
  · cases first <;> simp
  · have := h rfl
    cases first <;> simp <;> omega
/-- The keys that a list of items has. -/
def keysOk (o : Bool) (n : Nat) (ks : List ByteArray) : Prop := o = true → ∀ k, k < n → (ks.getD k ByteArray.empty).data.toList.length ≤ 100
theorem keysOk_tail {o : Bool} {n : Nat} {ks : List ByteArray} (h : keysOk o (n + 1) ks) : keysOk o n ks.tail := by
  intro ho k hk
  have := h ho (k + 1) (by omega)
  cases ks
  · simp
  · simpa using this
theorem ok_object {i : Int} {t : ByteArray} {l : List V} {ks : List ByteArray} {k : Int} (h : V.ok (.mk k i t l ks) = true) (h5 : k = 5) : keysOk true l.length ks := by
  subst h5
  rw [V.ok] at h
  simp [V.sound] at h
  intro _ j hj
  exact textB_len (risingB_at h.1.2 (by omega))
mutual
theorem V.write_len : ∀ (x : V), x.ok = true → x.write.length + 204 ≤ 410 * x.nodes
  | .mk k i t l ks, h => by
    have hl := ok_items h
    have hs : V.sound (.mk k i t l ks) = true := by rw [V.ok] at h; simp at h; exact h.1
    rw [V.nodes, V.write]
    by_cases h0 : k = 0
    · rw [if_pos h0]; simp [nullB]; omega
    rw [if_neg h0]
    by_cases h1 : k = 1
    · rw [if_pos h1]; unfold truthB; split <;> simp <;> omega
    rw [if_neg h1]
    by_cases h2 : k = 2
    · subst h2
      rw [if_pos rfl]
      simp [V.sound] at hs
      have := Lib.itoa_length_le i (by omega) (by omega)
      omega
    rw [if_neg h2]
    by_cases h3 : k = 3
    · subst h3
      rw [if_pos rfl]
      simp [V.sound] at hs
      have := quoteB_len t.data.toList
      have := textB_len hs.1.2
      omega
    rw [if_neg h3]
    by_cases h4 : k = 4
    · rw [if_pos h4]
      have := V.writeL_len false true l ks hl (fun h => by cases h)
      simp; omega
    rw [if_neg h4]
    by_cases h5 : k = 5
    · have := V.writeL_len true true l ks hl (ok_object h h5)
      simp; omega
    · simp [V.sound, *] at hs
theorem V.writeL_len (o first : Bool) : ∀ (l : List V) (ks : List ByteArray), V.okL l = true → keysOk o l.length ks → (V.writeL o first l ks).length ≤ 410 * V.nodesL l
  | [], _, _, _ => by simp [V.writeL]
  | x :: r, ks, h, hk => by
    simp [V.okL] at h
    have h1 := V.write_len x h.1
    have h2 := V.writeL_len o false r ks.tail h.2 (keysOk_tail hk)
    have h3 := sepB_len o first (ks.headD ByteArray.empty) (fun ho => by
      have := hk ho 0 (by simp)
      cases ks
      · simp
      · simpa using this)
    simp only [V.writeL, V.nodesL, List.length_append]
    omega
end
end Go.Proofs.YtchadlbhdcpojaaGreatDoor
