/- The textual form of values, on trees. -/
import Derived.Test.YtoddlacfbeckiaaDoorPb
import Derived.Lib.ItoaLen
namespace Go.Proofs.YtoddlacfbeckiaaDoor
open Go

def escB (c : UInt8) : List UInt8 := if c = 34 ∨ c = 92 then [92, c] else [c]
def quoteB (l : List UInt8) : List UInt8 := 34 :: (l.flatMap escB ++ [34])
def nullB : List UInt8 := [110, 117, 108, 108]
def truthB (b : Bool) : List UInt8 := if b then [116, 114, 117, 101] else [102, 97, 108, 115, 101]
def sepB (o first : Bool) (key : ByteArray) : List UInt8 := (if first then [] else [44]) ++ if o then quoteB key.data.toList ++ [58] else []

mutual
def V.write : V → List UInt8
  | .mk k i t l ks =>
    if k = 0 then nullB else if k = 1 then truthB (i == 1) else if k = 2 then Lib.itoa i else if k = 3 then quoteB t.data.toList
    else if k = 4 then 91 :: (V.writeL false true l ks ++ [93]) else 123 :: (V.writeL true true l ks ++ [125])
def V.writeL (o first : Bool) : List V → List ByteArray → List UInt8
  | [], _ => []
  | x :: r, ks => sepB o first (ks.headD ByteArray.empty) ++ (x.write ++ V.writeL o false r ks.tail)
end

/-- What is written of the first k items. -/
def writeTo (o : Bool) (l : List V) (ks : List ByteArray) (k : Nat) : List UInt8 := V.writeL o true (l.take k) ks
theorem writeL_snoc (o : Bool) {l : List V} {x : V} {k : Nat} (h : l[k]? = some x) (first : Bool) (ks : List ByteArray) :
    V.writeL o first (l.take (k + 1)) ks = V.writeL o first (l.take k) ks ++ (sepB o (first && k == 0) (ks.getD k ByteArray.empty) ++ x.write) := by
  induction l generalizing k first ks with
  | nil => simp at h
  | cons y r ih =>
    cases k with
    | zero =>
      simp at h; subst h
      cases ks <;> simp [V.writeL]
    | succ k =>
      simp at h
      have := ih h false ks.tail
      simp only [List.take_succ_cons, V.writeL]
      rw [this]
      have e : ks.tail.getD k ByteArray.empty = ks.getD (k + 1) ByteArray.empty := by cases ks <;> simp
      rw [e]
      simp [List.append_assoc]
theorem writeTo_succ (o : Bool) {l : List V} {x : V} {k : Nat} (h : l[k]? = some x) (ks : List ByteArray) :
    writeTo o l ks (k + 1) = writeTo o l ks k ++ (sepB o (k == 0) (ks.getD k ByteArray.empty) ++ x.write) := by
  unfold writeTo; rw [writeL_snoc o h]; rfl
theorem writeTo_all (o : Bool) (l : List V) (ks : List ByteArray) {k : Nat} (h : l.length ≤ k) : writeTo o l ks k = V.writeL o true l ks := by
  unfold writeTo; rw [List.take_of_length_le h]
theorem writeTo_zero (o : Bool) (l : List V) (ks : List ByteArray) : writeTo o l ks 0 = [] := rfl

theorem esc_len (l : List UInt8) : (l.flatMap escB).length ≤ 2 * l.length := by
  induction l with
  | nil => simp
  | cons c r ih =>
    have : (escB c).length ≤ 2 := by unfold escB; split <;> simp
    rw [List.flatMap_cons, List.length_append, List.length_cons]; omega
theorem quoteB_len (l : List UInt8) : (quoteB l).length ≤ 2 * l.length + 2 := by
  have := esc_len l; rw [quoteB, List.length_cons, List.length_append, List.length_singleton]; omega
theorem textB_len {l : List UInt8} (h : textB l = true) : l.length ≤ 100 := by unfold textB at h; simp at h; exact h.1
theorem risingB_at {keys : List ByteArray} {n k : Nat} (h : risingB keys n = true) (hk : k < n) : textB (keys.getD k ByteArray.empty).data.toList = true := by
  unfold risingB at h
  rw [List.all_eq_true] at h
  have := h k (by simpa using hk)
  simp at this
  simpa using this.1
theorem sepB_len (o first : Bool) (key : ByteArray) (h : o = true → key.data.toList.length ≤ 100) : (sepB o first key).length ≤ 204 := by
  have := quoteB_len key.data.toList
  unfold sepB
  cases o
  · cases first <;> simp
  · have := h rfl
    cases first <;> simp <;> omega
/-- The keys that a list of items has. -/
def keysOk (o : Bool) (n : Nat) (ks : List ByteArray) : Prop := o = true → ∀ k, k < n → (ks.getD k ByteArray.empty).data.toList.length ≤ 100
theorem keysOk_tail {o : Bool} {n : Nat} {ks : List ByteArray} (h : keysOk o (n + 1) ks) : keysOk o n ks.tail := by
  intro ho k hk
  have := h ho (k + 1) (by omega)
  cases ks
  · simp
  · simpa using this
theorem ok_object {i : Int} {t : ByteArray} {l : List V} {ks : List ByteArray} {k : Int} (h : V.ok (.mk k i t l ks) = true) (h5 : k = 5) : keysOk true l.length ks := by
  subst h5
  rw [V.ok] at h
  simp [V.sound] at h
  intro _ j hj
  exact textB_len (risingB_at h.1.2 (by omega))
mutual
theorem V.write_len : ∀ (x : V), x.ok = true → x.write.length + 204 ≤ 410 * x.nodes
  | .mk k i t l ks, h => by
    have hl := ok_items h
    have hs : V.sound (.mk k i t l ks) = true := by rw [V.ok] at h; simp at h; exact h.1
    rw [V.nodes, V.write]
    by_cases h0 : k = 0
    · rw [if_pos h0]; simp [nullB]; omega
    rw [if_neg h0]
    by_cases h1 : k = 1
    · rw [if_pos h1]; unfold truthB; split <;> simp <;> omega
    rw [if_neg h1]
    by_cases h2 : k = 2
    · subst h2
      rw [if_pos rfl]
      simp [V.sound] at hs
      have := Lib.itoa_length_le i (by omega) (by omega)
      omega
    rw [if_neg h2]
    by_cases h3 : k = 3
    · subst h3
      rw [if_pos rfl]
      simp [V.sound] at hs
      have := quoteB_len t.data.toList
      have := textB_len hs.1.2
      omega
    rw [if_neg h3]
    by_cases h4 : k = 4
    · rw [if_pos h4]
      have := V.writeL_len false true l ks hl (fun h => by cases h)
      simp; omega
    rw [if_neg h4]
    by_cases h5 : k = 5
    · have := V.writeL_len true true l ks hl (ok_object h h5)
      simp; omega
    · simp [V.sound, *] at hs
theorem V.writeL_len (o first : Bool) : ∀ (l : List V) (ks : List ByteArray), V.okL l = true → keysOk o l.length ks → (V.writeL o first l ks).length ≤ 410 * V.nodesL l
  | [], _, _, _ => by simp [V.writeL]
  | x :: r, ks, h, hk => by
    simp [V.okL] at h
    have h1 := V.write_len x h.1
    have h2 := V.writeL_len o false r ks.tail h.2 (keysOk_tail hk)
    have h3 := sepB_len o first (ks.headD ByteArray.empty) (fun ho => by
      have := hk ho 0 (by simp)
      cases ks
      · simp
      · simpa using this)
    simp only [V.writeL, V.nodesL, List.length_append]
    omega
end
end Go.Proofs.YtoddlacfbeckiaaDoor
