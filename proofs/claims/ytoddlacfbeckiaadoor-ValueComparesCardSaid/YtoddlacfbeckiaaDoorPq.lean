/- Reading a text: plain functions on bytes. No program is named here. -/
import Derived.Test.YtoddlacfbeckiaaDoorPb
import Derived.Lib.Strings
namespace Go.Proofs.YtoddlacfbeckiaaDoor
open Go

/-- What is left of a string behind its first k bytes. -/
def sfx (s : ByteArray) (k : Nat) : List UInt8 := s.data.toList.drop k
theorem sfx_nil {s : ByteArray} {k : Nat} (h : ¬ k < s.size) : sfx s k = [] := by
  unfold sfx; apply List.drop_eq_nil_of_le; simp; exact Nat.le_of_not_lt h
theorem sfx_cons {s : ByteArray} {k : Nat} (h : k < s.size) : sfx s k = s[k] :: sfx s (k + 1) := by
  unfold sfx
  rw [List.drop_eq_getElem_cons (by simpa using h)]
  rfl
theorem sfx_length (s : ByteArray) (k : Nat) : (sfx s k).length = s.size - k := by unfold sfx; simp

/-- Blanks are passed. -/
def skipP : List UInt8 → List UInt8
  | [] => []
  | c :: r => if c = 32 then skipP r else c :: r
/-- A sign is passed if it comes next, behind blanks. -/
def takesP (c : UInt8) : List UInt8 → Bool
  | [] => false
  | x :: _ => x == c
def tailP (c : UInt8) : List UInt8 → List UInt8
  | [] => []
  | x :: r => if x = c then r else x :: r

/-- The inside of a text in quotes, its first byte on. -/
def textP : List UInt8 → List UInt8 → Option (List UInt8 × List UInt8)
  | [], _ => none
  | c :: r, acc =>
    if c = 34 then some (acc, r)
    else if c = 92 then
      match r with
      | [] => none
      | x :: q => if (x = 34 ∨ x = 92) ∧ acc.length < 100 then textP q (acc ++ [x]) else none
    else if visB c = true ∧ acc.length < 100 then textP r (acc ++ [c]) else none
theorem textP_cons (c : UInt8) (r acc : List UInt8) : textP (c :: r) acc = if c = 34 then some (acc, r) else if c = 92 then (match r with | [] => none | x :: q => if (x = 34 ∨ x = 92) ∧ acc.length < 100 then textP q (acc ++ [x]) else none)
    else if visB c = true ∧ acc.length < 100 then textP r (acc ++ [c]) else none := by
  rw [textP.eq_def]
def quotedP : List UInt8 → Option (List UInt8 × List UInt8)
  | [] => none
  | c :: r => if c = 34 then textP r [] else none

def digB (c : UInt8) : Bool := decide (48 ≤ c.toNat) && decide (c.toNat ≤ 57)
/-- Digits: the number, how many of them, what is left. -/
def digsP : List UInt8 → Nat → Nat → Option (Nat × Nat × List UInt8)
  | [], n, m => some (n, m, [])
  | c :: r, n, m =>
    if digB c = true then (if 10 * n + (c.toNat - 48) ≤ 1000000000000 then digsP r (10 * n + (c.toNat - 48)) (m + 1) else none)
    else some (n, m, c :: r)
/-- A number, behind its sign. -/
def magP (neg : Bool) (l : List UInt8) : Option (Int × List UInt8) :=
  match digsP l 0 0 with
  | none => none
  | some (n, m, r) => if m = 0 then none else if l.head? = some 48 ∧ ¬ (m = 1 ∧ neg = false) then none else some (if neg then -(n : Int) else n, r)

theorem sfx_drop (s : ByteArray) (k m : Nat) : (sfx s k).drop m = sfx s (k + m) := by unfold sfx; rw [List.drop_drop]
theorem sfx_extract (s : ByteArray) (k : Nat) : (s.extract k s.size).data.toList = sfx s k := by
  unfold sfx
  simp
  rw [List.take_of_length_le (by simp)]
def nullW : ByteArray := ⟨#[110, 117, 108, 108]⟩
def falseW : ByteArray := ⟨#[102, 97, 108, 115, 101]⟩
def trueW : ByteArray := ⟨#[116, 114, 117, 101]⟩
def leaf (k i : Int) (t : ByteArray) : V := .mk k i t [] []
/-- One of the three words. -/
def nameP (l : List UInt8) : Option (V × List UInt8) :=
  if Lib.hasPrefix l nullW.data.toList = true then some (leaf 0 0 ⟨#[]⟩, l.drop 4)
  else if Lib.hasPrefix l falseW.data.toList = true then some (leaf 1 0 ⟨#[]⟩, l.drop 5)
  else if Lib.hasPrefix l trueW.data.toList = true then some (leaf 1 1 ⟨#[]⟩, l.drop 4)
  else none

theorem skipP_len (l : List UInt8) : (skipP l).length ≤ l.length := by
  induction l with
  | nil => simp [skipP]
  | cons c r ih => rw [skipP]; split <;> simp <;> omega
theorem skipP_skip (l : List UInt8) : skipP (skipP l) = skipP l := by
  induction l with
  | nil => simp [skipP]
  | cons c r ih =>
    by_cases h : c = 32
    · rw [skipP, if_pos h]; exact ih
    · rw [skipP, if_neg h, skipP, if_neg h]
theorem tailP_len (c : UInt8) (l : List UInt8) : (tailP c l).length ≤ l.length := by
  cases l with
  | nil => simp [tailP]
  | cons x r => rw [tailP]; split <;> simp
theorem tailP_less {c : UInt8} {l : List UInt8} (h : takesP c l = true) : (tailP c l).length < l.length := by
  cases l with
  | nil => simp [takesP] at h
  | cons x r => simp [takesP] at h; rw [tailP, if_pos h]; simp
theorem tailP_not {c : UInt8} {l : List UInt8} (h : takesP c l = false) : tailP c l = l := by
  cases l with
  | nil => simp [tailP]
  | cons x r => simp [takesP] at h; rw [tailP, if_neg h]
section
variable {St : Type} (step : St → Nat → List UInt8 → Option (St × List UInt8 × Nat)) (close : UInt8)
/-- Items, with commas between, from an item on; and from behind one. -/
def loopP : Nat → St → Nat → List UInt8 → Option (St × List UInt8 × Nat)
  | 0, _, _, _ => none
  | f + 1, st, n, l =>
    match step st n l with
    | none => none
    | some (st', l', n') => if takesP 44 (skipP l') = true then loopP f st' n' (tailP 44 (skipP l')) else if takesP close (skipP l') = true then some (st', tailP close (skipP l'), n') else none
def restP (f : Nat) (st : St) (n : Nat) (l : List UInt8) : Option (St × List UInt8 × Nat) :=
  if takesP 44 (skipP l) = true then loopP step close f st n (tailP 44 (skipP l)) else if takesP close (skipP l) = true then some (st, tailP close (skipP l), n) else none
theorem loopP_none {f : Nat} {st : St} {n : Nat} {l : List UInt8} (h : step st n l = none) : loopP step close f st n l = none := by
  cases f with
  | zero => rw [loopP]
  | succ f => rw [loopP, h]
theorem loopP_some {f : Nat} {st st' : St} {n n' : Nat} {l l' : List UInt8} (h : step st n l = some (st', l', n')) : loopP step close (f + 1) st n l = restP step close f st' n' l' := by
  rw [loopP, h]; rfl
/-- Items between two signs. -/
def seriesP (open_ : UInt8) (st : St) (n : Nat) (l : List UInt8) : Option (St × List UInt8 × Nat) :=
  if takesP open_ (skipP l) = true then
    if takesP close (skipP (tailP open_ (skipP l))) = true then some (st, tailP close (skipP (tailP open_ (skipP l))), n)
    else loopP step close ((tailP open_ (skipP l)).length + 1) st n (skipP (tailP open_ (skipP l)))
  else none
end
end Go.Proofs.YtoddlacfbeckiaaDoor
