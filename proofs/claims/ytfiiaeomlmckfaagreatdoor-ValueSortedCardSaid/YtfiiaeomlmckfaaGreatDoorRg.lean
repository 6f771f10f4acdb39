/- Number and Fits, of both sides. -/
import Derived.Test.YtfiiaeomlmckfaaGreatDoorRd
import Derived.Test.YtfiiaeomlmckfaaGreatDoorRa
namespace Go.Proofs.YtfiiaeomlmckfaaGreatDoor
open Go.RowKit

def zeroV : Value := .agg #[.int .i64 0, .int .i64 0, .string ⟨#[]⟩, .slice none 0 0, .slice none 0 0]
def numV (n : Int) : Value := .agg #[.int .i64 2, .int .i64 n, .string ⟨#[]⟩, .slice none 0 0, .slice none 0 0]
def NumPost (r : Bool) (n : Int) (w : World) (e : Ending) (w' : World) : Prop :=
  e = .returned (if r then .tuple #[numV n, .int .i64 0] else .tuple #[zeroV, .int .i64 3]) ∧ Below w.heap.size w w'
def withinB (n : Int) : Bool := decide (-1000000000000 ≤ n) && decide (n ≤ 1000000000000)

set_option maxHeartbeats 1000000 in
theorem refInt_any (n : Int) (w : World) :
    Calls Tryz.prog 16 #[.int .i64 n] w fun e w' => e = .returned (numV n) ∧ Below w.heap.size w w' := by
  go_enter Tryz.func16, Tryz.ntmps16
  go_wp2_with fail
  exact bodyPost_ret (v := numV n) (by simp [results, Tryz.results16, go_sem, numV]) rfl ⟨rfl, (Below.refl _ _).alloc (Nat.le_refl _) _⟩

def fitsB (v : Bool) (k t : Int) : Bool :=
  v && if t = 1 then (k == 0 || k == 1) else if t = 2 then (k == 0 || k == 2) else if t = 3 then (k == 0 || k == 3) else t == 4

end Go.Proofs.YtfiiaeomlmckfaaGreatDoor
/- Words, of both sides. -/
namespace Go.Proofs.YtfiiaeomlmckfaaGreatDoor
open Go.RowKit

def smallB (c : UInt8) : Bool := decide (97 ≤ c.toNat) && decide (c.toNat ≤ 122)
def digitB (c : UInt8) : Bool := decide (48 ≤ c.toNat) && decide (c.toNat ≤ 57)
def wordcB (c : UInt8) : Bool := smallB c || digitB c || c.toNat == 95
def wordB (l : List UInt8) : Bool := decide (1 ≤ l.length) && decide (l.length ≤ 24) && smallB (l.headD 0) && l.all wordcB

set_option maxHeartbeats 400000 in
theorem digit_any (c : UInt8) (w : World) :
    Calls Tryz.prog 86 #[.int .u8 c.toNat] w fun e w' => e = .returned (.bool (digitB c)) ∧ w' = w := by
  go_enter Tryz.func86, Tryz.ntmps86
  go_wp2
  all_goals go_ret
  all_goals refine ⟨ret_bool ?_, rfl⟩
  · have h : 48 ≤ (c.toNat : Int) := by assumption
    have h' : 48 ≤ c.toNat := by omega
    simp [digitB, h']; omega
  · have h : (c.toNat : Int) < 48 := by assumption
    have h' : ¬ 48 ≤ c.toNat := by omega
    simp [digitB, h']

theorem head_eq (s : ByteArray) (h : 0 < s.size) : s.data.toList.headD 0 = s[0] := by
  obtain ⟨⟨l⟩⟩ := s
  cases l with
  | nil => simp [ByteArray.size] at h
  | cons a r => rfl

theorem wordB_long {l : List UInt8} (h : 24 < l.length) : wordB l = false := by unfold wordB; simp; omega
theorem wordB_first {l : List UInt8} (h : smallB (l.headD 0) = false) : wordB l = false := by unfold wordB; rw [h]; simp
theorem smallB_head {s : ByteArray} (h : 0 < s.size) {b : Bool} (h' : smallB s[0] = b) : smallB (s.data.toList.headD 0) = b := by rw [head_eq s h]; exact h'

theorem sm_lt {c : UInt8} (h : (c.toNat : Int) < 97) : smallB c = false := by
  have h' : ¬ 97 ≤ c.toNat := by omega
  simp [smallB, h']
theorem sm_gt {c : UInt8} (h : 122 < (c.toNat : Int)) : smallB c = false := by
  have h' : ¬ c.toNat ≤ 122 := by omega
  simp [smallB, h']
theorem sm_in {c : UInt8} (h : 97 ≤ (c.toNat : Int)) (h' : (c.toNat : Int) ≤ 122) : smallB c = true := by
  simp [smallB]; omega
theorem dg_lt {c : UInt8} (h : (c.toNat : Int) < 48) : digitB c = false := by
  have h' : ¬ 48 ≤ c.toNat := by omega
  simp [digitB, h']
theorem dg_gt {c : UInt8} (h : 57 < (c.toNat : Int)) : digitB c = false := by
  have h' : ¬ c.toNat ≤ 57 := by omega
  simp [digitB, h']
theorem dg_in {c : UInt8} (h : 48 ≤ (c.toNat : Int)) (h' : (c.toNat : Int) ≤ 57) : digitB c = true := by
  simp [digitB]; omega

/-- A byte that is in a word, and one that is not, by the order of bytes. -/
theorem wordc_ways (c : UInt8) :
    wordcB c = true ∧ ((97 ≤ (c.toNat : Int) ∧ (c.toNat : Int) ≤ 122) ∨ ((c.toNat : Int) < 97 ∧ 48 ≤ (c.toNat : Int) ∧ (c.toNat : Int) ≤ 57) ∨ (c.toNat : Int) = 95) ∨
    wordcB c = false ∧ ((c.toNat : Int) < 48 ∨ ((c.toNat : Int) < 97 ∧ 57 < (c.toNat : Int) ∧ (c.toNat : Int) ≠ 95) ∨ 122 < (c.toNat : Int)) := by
  have h : c.toNat < 256 := c.toNat_lt
  by_cases h1 : 97 ≤ (c.toNat : Int) ∧ (c.toNat : Int) ≤ 122
  · exact .inl ⟨by simp [wordcB, sm_in h1.1 h1.2], .inl h1⟩
  by_cases h2 : 48 ≤ (c.toNat : Int) ∧ (c.toNat : Int) ≤ 57
  · exact .inl ⟨by simp [wordcB, dg_in h2.1 h2.2], .inr (.inl ⟨by omega, h2⟩)⟩
  by_cases h3 : (c.toNat : Int) = 95
  · exact .inl ⟨by simp [wordcB]; omega, .inr (.inr h3)⟩
  · refine .inr ⟨?_, by omega⟩
    have e1 : smallB c = false := by
      by_cases h4 : (c.toNat : Int) < 97
      · exact sm_lt h4
      · exact sm_gt (by omega)
    have e2 : digitB c = false := by
      by_cases h4 : (c.toNat : Int) < 48
      · exact dg_lt h4
      · exact dg_gt (by omega)
    simp [wordcB, e1, e2]; omega

end Go.Proofs.YtfiiaeomlmckfaaGreatDoor
