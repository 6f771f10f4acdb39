/- Number and Fits, of both sides. -/
import Derived.Test.YtchadlbhdcpojaaDoorRd
import Derived.Test.YtchadlbhdcpojaaDoorRa
namespace Go.Proofs.YtchadlbhdcpojaaDoor
open Go.RowKit

def zeroV : Value := .agg #[.int .i64 0, .int .i64 0, .string ⟨#[]⟩, .slice none 0 0, .slice none 0 0]
def numV (n : Int) : Value := .agg #[.int .i64 2, .int .i64 n, .string ⟨#[]⟩, .slice none 0 0, .slice none 0 0]
def NumPost (r : Bool) (n : Int) (w : World) (e : Ending) (w' : World) : Prop :=
  e = .returned (if r then .tuple #[numV n, .int .i64 0] else .tuple #[zeroV, .int .i64 3]) ∧ Below w.heap.size w w'
def withinB (n : Int) : Bool := decide (-1000000000000 ≤ n) && decide (n ≤ 1000000000000)

set_option maxHeartbeats 1000000 in
theorem refInt_any (n : Int) (w : World) :
    Calls Tryd.prog 14 #[.int .i64 n] w fun e w' => e = .returned (numV n) ∧ Below w.heap.size w w' := by
  go_enter Tryd.func14, Tryd.ntmps14
  go_wp2_with fail
  exact bodyPost_ret (v := numV n) (by simp [results, Tryd.results14, go_sem, numV]) rfl ⟨rfl, (Below.refl _ _).alloc (Nat.le_refl _) _⟩

def fitsB (v : Bool) (k t : Int) : Bool :=
  v && if t = 1 then (k == 0 || k == 1) else if t = 2 then (k == 0 || k == 2) else if t = 3 then (k == 0 || k == 3) else t == 4

end Go.Proofs.YtchadlbhdcpojaaDoor
/- Words, of both sides. -/
namespace Go.Proofs.YtchadlbhdcpojaaDoor
open Go.RowKit

def smallB (c : UInt8) : Bool := decide (97 ≤ c.toNat) && decide (c.toNat ≤ 122)
def digitB (c : UInt8) : Bool := decide (48 ≤ c.toNat) && decide (c.toNat ≤ 57)
def wordcB (c : UInt8) : Bool := smallB c || digitB c || c.toNat == 95
def wordB (l : List UInt8) : Bool := decide (1 ≤ l.length) && decide (l.length ≤ 24) && smallB (l.headD 0) && l.all wordcB

set_option maxHeartbeats 400000 in
theorem small_any (c : UInt8) (w : World) :
    Calls Tryd.prog 51 #[.int .u8 c.toNat] w fun e w' => e = .returned (.bool (smallB c)) ∧ w' = w := by
  go_enter Tryd.func51, Tryd.ntmps51
  go_wp2
  all_goals go_ret
  all_goals refine ⟨ret_bool ?_, rfl⟩
  · have h : 97 ≤ (c.toNat : Int) := by assumption
    have h' : 97 ≤ c.toNat := by omega
    simp [smallB, h']; omega
  · have h : (c.toNat : Int) < 97 := by assumption
    have h' : ¬ 97 ≤ c.toNat := by omega
    simp [smallB, h']

set_option maxHeartbeats 400000 in
theorem digit_any (c : UInt8) (w : World) :
    Calls Tryd.prog 52 #[.int .u8 c.toNat] w fun e w' => e = .returned (.bool (digitB c)) ∧ w' = w := by
  go_enter Tryd.func52, Tryd.ntmps52
  go_wp2
  all_goals go_ret
  all_goals refine ⟨ret_bool ?_, rfl⟩
  · have h : 48 ≤ (c.toNat : Int) := by assumption
    have h' : 48 ≤ c.toNat := by omega
    simp [digitB, h']; omega
  · have h : (c.toNat : Int) < 48 := by assumption
    have h' : ¬ 48 ≤ c.toNat := by omega
    simp [digitB, h']

theorem head_eq (s : ByteArray) (h : 0 < s.size) : s.data.toList.headD 0 = s[0] := by
  obtain ⟨⟨l⟩⟩ := s
  cases l with
  | nil => simp [ByteArray.size] at h
  | cons a r => rfl

theorem wordB_long {l : List UInt8} (h : 24 < l.length) : wordB l = false := by unfold wordB; simp; omega
theorem wordB_first {l : List UInt8} (h : smallB (l.headD 0) = false) : wordB l = false := by unfold wordB; rw [h]; simp
theorem smallB_head {s : ByteArray} (h : 0 < s.size) {b : Bool} (h' : smallB s[0] = b) : smallB (s.data.toList.headD 0) = b := by rw [head_eq s h]; exact h'

set_option maxRecDepth 100000 in
set_option maxHeartbeats 1000000 in
theorem word_any (s : ByteArray) (w : World) (hs : s.size ≤ maxLen) :
    Calls Tryd.prog 38 #[.string s] w fun e w' => e = .returned (.bool (wordB s.data.toList)) ∧ w' = w := by
  unfold maxLen at hs
  have HL := Lib.hid (show s.data.toList.length = s.size by simp)
  by_cases h0 : s.size = 0
  · have he : s = ByteArray.empty := by obtain ⟨⟨l⟩⟩ := s; simp [ByteArray.size] at h0; subst h0; rfl
    subst he
    go_enter Tryd.func38, Tryd.ntmps38
    go_wp2_with fail
    go_ret
    exact ⟨rfl, rfl⟩
  have hpos : 0 < s.size := by omega
  have hne : ¬ s.toList = [] := by
    rw [ByteArray.toList_eq]; intro e; have := HL.out; rw [e] at this; simp at this; omega
  have hne' : s.toList.isEmpty = false := by simpa using hne
  clear h0
  by_cases hlen : 24 < s.size
  · go_enter Tryd.func38, Tryd.ntmps38
    go_wp2_with fail
    go_ret
    exact ⟨ret_bool (wordB_long (by rw [HL.out]; exact hlen)).symm, rfl⟩
  have hlen' : s.size ≤ 24 := by omega
  have HS0 := Lib.hid fun W => small_any s[0] W
  cases hf : smallB s[0]
  · rw [hf] at HS0
    have HF := Lib.hid (smallB_head hpos hf)
    clear hf
    go_enter Tryd.func38, Tryd.ntmps38
    go_wp2_with fail
    refine (HS0.out _).mono ?_
    rintro e w' ⟨rfl, rfl⟩
    go_wp2_with fail
    go_ret
    exact ⟨ret_bool (wordB_first HF.out).symm, rfl⟩
  rw [hf] at HS0
  have HF := Lib.hid (smallB_head hpos hf)
  clear hf
  go_enter Tryd.func38, Tryd.ntmps38
  go_wp2_with fail
  refine (HS0.out _).mono ?_
  rintro e w' ⟨rfl, rfl⟩
  go_wp2_with fail
  go_loop [19] (fun i => ∃ k : Nat, k ≤ s.size ∧ i = .int .i64 k ∧ Hid ((s.data.toList.take k).all wordcB = true)) (fun i => s.size - (intOf i).toNat)
  case atStart => exact ⟨0, Nat.zero_le _, rfl, Lib.hid (by simp)⟩
  case round =>
    obtain ⟨k, hk, rfl, HA⟩ := hrel
    by_cases hlt : k < s.size
    · have hts := Lib.hid (take_next s k hlt)
      have H1 := Lib.hid fun W => small_any s[k] W
      have H2 := Lib.hid fun W => digit_any s[k] W
      cases h1 : smallB s[k]
      · rw [h1] at H1
        have HA1 := Lib.hid h1
        clear h1
        cases h2 : digitB s[k]
        · rw [h2] at H2
          have HB1 := Lib.hid h2
          clear h2
          by_cases h3 : (s[k].toNat : Int) = 95
          · have h3' : ((s[k].toNat : Int) != 95) = false := by simp [h3]
            have HC1 := Lib.hid (show (s[k].toNat == 95) = true by simp; omega)
            clear h3
            go_wp2_with fail
            refine (H1.out _).mono ?_
            rintro e w1 ⟨rfl, rfl⟩
            go_wp2_with fail
            refine (H2.out _).mono ?_
            rintro e w1 ⟨rfl, rfl⟩
            go_wp2_with fail
            go_round
            case rel => exact ⟨k + 1, by omega, by go_num, Lib.hid (by rw [hts.out, List.all_append, HA.out]; simp [wordcB, HA1.out, HB1.out, HC1.out])⟩
            case measure => simp [intOf]; omega
          · have h3' : ((s[k].toNat : Int) != 95) = true := by simpa using h3
            have HC1 := Lib.hid (show (s[k].toNat == 95) = false by simp; omega)
            clear h3
            go_wp2_with fail
            refine (H1.out _).mono ?_
            rintro e w1 ⟨rfl, rfl⟩
            go_wp2_with fail
            refine (H2.out _).mono ?_
            rintro e w1 ⟨rfl, rfl⟩
            go_wp2_with fail
            go_ret
            refine ⟨ret_bool ?_, rfl⟩
            unfold wordB
            rw [all_take_false (p := wordcB) (k := k + 1) (by rw [hts.out]; simp [wordcB, HA1.out, HB1.out, HC1.out])]; simp
        · rw [h2] at H2
          have HB1 := Lib.hid h2
          clear h2
          go_wp2_with fail
          refine (H1.out _).mono ?_
          rintro e w1 ⟨rfl, rfl⟩
          go_wp2_with fail
          refine (H2.out _).mono ?_
          rintro e w1 ⟨rfl, rfl⟩
          go_wp2_with fail
          go_round
          case rel => exact ⟨k + 1, by omega, by go_num, Lib.hid (by rw [hts.out, List.all_append, HA.out]; simp [wordcB, HB1.out])⟩
          case measure => simp [intOf]; omega
      · rw [h1] at H1
        have HA1 := Lib.hid h1
        clear h1
        go_wp2_with fail
        refine (H1.out _).mono ?_
        rintro e w1 ⟨rfl, rfl⟩
        go_wp2_with fail
        go_round
        case rel => exact ⟨k + 1, by omega, by go_num, Lib.hid (by rw [hts.out, List.all_append, HA.out]; simp [wordcB, HA1.out])⟩
        case measure => simp [intOf]; omega
    · go_wp2_with fail
      go_ret
      exact ⟨ret_bool (by have h := HA.out; rw [List.take_of_length_le (by rw [HL.out]; omega)] at h; unfold wordB; rw [h, HL.out, HF.out]; simp; omega), rfl⟩

theorem sm_lt {c : UInt8} (h : (c.toNat : Int) < 97) : smallB c = false := by
  have h' : ¬ 97 ≤ c.toNat := by omega
  simp [smallB, h']
theorem sm_gt {c : UInt8} (h : 122 < (c.toNat : Int)) : smallB c = false := by
  have h' : ¬ c.toNat ≤ 122 := by omega
  simp [smallB, h']
theorem sm_in {c : UInt8} (h : 97 ≤ (c.toNat : Int)) (h' : (c.toNat : Int) ≤ 122) : smallB c = true := by
  simp [smallB]; omega
theorem dg_lt {c : UInt8} (h : (c.toNat : Int) < 48) : digitB c = false := by
  have h' : ¬ 48 ≤ c.toNat := by omega
  simp [digitB, h']
theorem dg_gt {c : UInt8} (h : 57 < (c.toNat : Int)) : digitB c = false := by
  have h' : ¬ c.toNat ≤ 57 := by omega
  simp [digitB, h']
theorem dg_in {c : UInt8} (h : 48 ≤ (c.toNat : Int)) (h' : (c.toNat : Int) ≤ 57) : digitB c = true := by
  simp [digitB]; omega

/-- A byte that is in a word, and one that is not, by the order of bytes. -/
theorem wordc_ways (c : UInt8) :
    wordcB c = true ∧ ((97 ≤ (c.toNat : Int) ∧ (c.toNat : Int) ≤ 122) ∨ ((c.toNat : Int) < 97 ∧ 48 ≤ (c.toNat : Int) ∧ (c.toNat : Int) ≤ 57) ∨ (c.toNat : Int) = 95) ∨
    wordcB c = false ∧ ((c.toNat : Int) < 48 ∨ ((c.toNat : Int) < 97 ∧ 57 < (c.toNat : Int) ∧ (c.toNat : Int) ≠ 95) ∨ 122 < (c.toNat : Int)) := by
  have h : c.toNat < 256 := c.toNat_lt
  by_cases h1 : 97 ≤ (c.toNat : Int) ∧ (c.toNat : Int) ≤ 122
  · exact .inl ⟨by simp [wordcB, sm_in h1.1 h1.2], .inl h1⟩
  by_cases h2 : 48 ≤ (c.toNat : Int) ∧ (c.toNat : Int) ≤ 57
  · exact .inl ⟨by simp [wordcB, dg_in h2.1 h2.2], .inr (.inl ⟨by omega, h2⟩)⟩
  by_cases h3 : (c.toNat : Int) = 95
  · exact .inl ⟨by simp [wordcB]; omega, .inr (.inr h3)⟩
  · refine .inr ⟨?_, by omega⟩
    have e1 : smallB c = false := by
      by_cases h4 : (c.toNat : Int) < 97
      · exact sm_lt h4
      · exact sm_gt (by omega)
    have e2 : digitB c = false := by
      by_cases h4 : (c.toNat : Int) < 48
      · exact dg_lt h4
      · exact dg_gt (by omega)
    simp [wordcB, e1, e2]; omega

end Go.Proofs.YtchadlbhdcpojaaDoor
