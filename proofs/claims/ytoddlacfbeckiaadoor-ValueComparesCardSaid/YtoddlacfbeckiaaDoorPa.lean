/- Plain data: values as trees, when they are valid. No program is named here. -/
import GoSem.ClaimWide
import GoSem.Op.String
namespace Go.Proofs.YtoddlacfbeckiaaDoor
open Go

inductive V where
  | mk (kind int : Int) (text : ByteArray) (items : List V) (keys : List ByteArray)

def V.kind : V → Int | .mk k _ _ _ _ => k
def V.int : V → Int | .mk _ i _ _ _ => i
def V.text : V → ByteArray | .mk _ _ t _ _ => t
def V.items : V → List V | .mk _ _ _ l _ => l
def V.keys : V → List ByteArray | .mk _ _ _ _ l => l

mutual
def V.nodes : V → Nat
  | .mk _ _ _ items _ => V.nodesL items + 1
def V.nodesL : List V → Nat
  | [] => 0
  | x :: r => x.nodes + V.nodesL r
end

mutual
def V.depth : V → Nat
  | .mk _ _ _ items _ => V.depthL items + 1
def V.depthL : List V → Nat
  | [] => 0
  | x :: r => max x.depth (V.depthL r)
end

/-- A printable byte; a text. -/
def visB (c : UInt8) : Bool := decide (32 ≤ c.toNat) && decide (c.toNat ≤ 126)
def textB (l : List UInt8) : Bool := decide (l.length ≤ 100) && l.all visB

/-- Strings are compared byte by byte. -/
def ltB (a b : ByteArray) : Bool := Op.bytesLess a.toList b.toList

def risingB (keys : List ByteArray) (n : Nat) : Bool :=
  (List.range n).all fun i => textB (keys.getD i ByteArray.empty).data.toList && (i == 0 || ltB (keys.getD (i - 1) ByteArray.empty) (keys.getD i ByteArray.empty))

def V.sound : V → Bool
  | .mk k i t items keys =>
    if k = 0 then i == 0 && t.data.toList.isEmpty && (items.length == 0 && keys.length == 0)
    else if k = 1 then (i == 0 || i == 1) && t.data.toList.isEmpty && (items.length == 0 && keys.length == 0)
    else if k = 2 then (decide (-1000000000000 ≤ i) && decide (i ≤ 1000000000000)) && t.data.toList.isEmpty && (items.length == 0 && keys.length == 0)
    else if k = 3 then i == 0 && textB t.data.toList && (items.length == 0 && keys.length == 0)
    else if k = 4 then i == 0 && t.data.toList.isEmpty && keys.length == 0
    else if k = 5 then i == 0 && t.data.toList.isEmpty && keys.length == items.length && risingB keys keys.length
    else false

mutual
def V.ok : V → Bool
  | .mk k i t items keys => V.sound (.mk k i t items keys) && V.okL items
def V.okL : List V → Bool
  | [] => true
  | x :: r => x.ok && V.okL r
end

/-- Valid with so many nodes and levels at most. -/
def V.fits (x : V) (n d : Nat) : Bool := x.ok && decide (x.nodes ≤ n) && decide (x.depth ≤ d)
def V.valid (x : V) : Bool := x.fits 60 6

theorem V.nodes_pos (x : V) : 1 ≤ x.nodes := by cases x; simp [V.nodes]
theorem V.depth_pos (x : V) : 1 ≤ x.depth := by cases x; simp [V.depth]
theorem V.nodes_mem {x : V} {l : List V} (h : x ∈ l) : x.nodes ≤ V.nodesL l := by
  induction l with
  | nil => cases h
  | cons y r ih =>
    rcases List.mem_cons.1 h with rfl | h
    · simp [V.nodesL]
    · have := ih h; simp [V.nodesL]; omega
theorem V.depth_mem {x : V} {l : List V} (h : x ∈ l) : x.depth ≤ V.depthL l := by
  induction l with
  | nil => cases h
  | cons y r ih =>
    rcases List.mem_cons.1 h with rfl | h
    · simp [V.depthL]; omega
    · have := ih h; simp [V.depthL]; omega
theorem V.nodesL_take_succ {l : List V} {k : Nat} {x : V} (h : l[k]? = some x) : V.nodesL (l.take (k + 1)) = V.nodesL (l.take k) + x.nodes := by
  induction l generalizing k with
  | nil => simp at h
  | cons y r ih =>
    cases k with
    | zero => simp at h; subst h; simp [V.nodesL]
    | succ k => simp at h; have := ih h; simp [V.nodesL] at *; omega
theorem V.depthL_take_succ {l : List V} {k : Nat} {x : V} (h : l[k]? = some x) : V.depthL (l.take (k + 1)) = max (V.depthL (l.take k)) x.depth := by
  induction l generalizing k with
  | nil => simp at h
  | cons y r ih =>
    cases k with
    | zero => simp at h; subst h; simp [V.depthL]
    | succ k => simp at h; have := ih h; simp [V.depthL] at *; omega
theorem V.okL_take_succ {l : List V} {k : Nat} {x : V} (h : l[k]? = some x) : V.okL (l.take (k + 1)) = (V.okL (l.take k) && x.ok) := by
  induction l generalizing k with
  | nil => simp at h
  | cons y r ih =>
    cases k with
    | zero => simp at h; subst h; simp [V.okL]
    | succ k => simp at h; have := ih h; simp [V.okL] at *; rw [this, Bool.and_assoc]
theorem V.nodesL_take_le (l : List V) (k : Nat) : V.nodesL (l.take k) ≤ V.nodesL l := by
  induction l generalizing k with
  | nil => simp [V.nodesL]
  | cons y r ih =>
    cases k with
    | zero => simp [V.nodesL]
    | succ k => have := ih k; simp [V.nodesL]; omega
theorem V.depthL_take_le (l : List V) (k : Nat) : V.depthL (l.take k) ≤ V.depthL l := by
  induction l generalizing k with
  | nil => simp [V.depthL]
  | cons y r ih =>
    cases k with
    | zero => simp [V.depthL]
    | succ k => have := ih k; simp [V.depthL]; omega
theorem V.okL_take {l : List V} (h : V.okL l = true) (k : Nat) : V.okL (l.take k) = true := by
  induction l generalizing k with
  | nil => simp [V.okL]
  | cons y r ih =>
    cases k with
    | zero => simp [V.okL]
    | succ k => simp [V.okL] at *; exact ⟨h.1, ih h.2 k⟩
theorem V.okL_mem {l : List V} (h : V.okL l = true) {x : V} (hx : x ∈ l) : x.ok = true := by
  induction l with
  | nil => cases hx
  | cons y r ih =>
    simp [V.okL] at h
    rcases List.mem_cons.1 hx with rfl | hx
    · exact h.1
    · exact ih h.2 hx
mutual
theorem V.depth_le_nodes : ∀ x : V, x.depth ≤ x.nodes
  | .mk _ _ _ items _ => by have := V.depthL_le_nodesL items; simp [V.depth, V.nodes]; omega
theorem V.depthL_le_nodesL : ∀ l : List V, V.depthL l ≤ V.nodesL l
  | [] => by simp [V.depthL]
  | x :: r => by have := V.depth_le_nodes x; have := V.depthL_le_nodesL r; simp [V.depthL, V.nodesL]; omega
end
theorem risingB_succ (keys : List ByteArray) (n : Nat) : risingB keys (n + 1) = (risingB keys n && (textB (keys.getD n ByteArray.empty).data.toList && (n == 0 || ltB (keys.getD (n - 1) ByteArray.empty) (keys.getD n ByteArray.empty)))) := by
  simp [risingB, List.range_succ]
theorem risingB_false {keys : List ByteArray} {k n : Nat} (h : risingB keys k = false) (hk : k ≤ n) : risingB keys n = false := by
  unfold risingB at *
  rw [List.all_eq_false] at *
  obtain ⟨x, hx, hp⟩ := h
  exact ⟨x, by simp at *; omega, hp⟩
end Go.Proofs.YtoddlacfbeckiaaDoor
