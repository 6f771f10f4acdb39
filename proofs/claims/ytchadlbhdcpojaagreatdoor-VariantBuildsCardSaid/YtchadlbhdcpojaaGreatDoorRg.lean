/- Number and Fits, of both sides. -/
import Derived.Test.YtchadlbhdcpojaaGreatDoorRd
import Derived.Test.YtchadlbhdcpojaaGreatDoorRa
namespace Go.Proofs.YtchadlbhdcpojaaGreatDoor
open Go.RowKit

def numV (n : Int) : Value := .agg #[.int .i64 2, .int .i64 n, .string ⟨#[]⟩, .slice none 0 0, .slice none 0 0]
set_option maxHeartbeats 1000000 in
theorem refInt_any (n : Int) (w : World) :
    Calls Tryz.prog 11 #[.int .i64 n] w fun e w' => e = .returned (numV n) ∧ Below w.heap.size w w' := by
  go_enter Tryz.func11, Tryz.ntmps11
  go_wp2_with fail
  exact bodyPost_ret (v := numV n) (by simp [results, Tryz.results11, go_sem, numV]) rfl ⟨rfl, (Below.refl _ _).alloc (Nat.le_refl _) _⟩

end Go.Proofs.YtchadlbhdcpojaaGreatDoor
/- Words, of both sides. -/
namespace Go.Proofs.YtchadlbhdcpojaaGreatDoor
open Go.RowKit

def smallB (c : UInt8) : Bool := decide (97 ≤ c.toNat) && decide (c.toNat ≤ 122)
def digitB (c : UInt8) : Bool := decide (48 ≤ c.toNat) && decide (c.toNat ≤ 57)
def wordcB (c : UInt8) : Bool := smallB c || digitB c || c.toNat == 95
def wordB (l : List UInt8) : Bool := decide (1 ≤ l.length) && decide (l.length ≤ 24) && smallB (l.headD 0) && l.all wordcB

set_option maxHeartbeats 400000 in
theorem small_any (c : UInt8) (w : World) :
    Calls Tryz.prog 59 #[.int .u8 c.toNat] w fun e w' => e = .returned (.bool (smallB c)) ∧ w' = w := by
  go_enter Tryz.func59, Tryz.ntmps59
  go_wp2
  all_goals go_ret
  all_goals refine ⟨ret_bool ?_, rfl⟩
  · have h : 97 ≤ (c.toNat : Int) := by assumption
    have h' : 97 ≤ c.toNat := by omega
    simp [smallB, h']; omega
  · have h : (c.toNat : Int) < 97 := by assumption
    have h' : ¬ 97 ≤ c.toNat := by omega
    simp [smallB, h']

set_option maxHeartbeats 400000 in
theorem digit_any (c : UInt8) (w : World) :
    Calls Tryz.prog 60 #[.int .u8 c.toNat] w fun e w' => e = .returned (.bool (digitB c)) ∧ w' = w := by
  go_enter Tryz.func60, Tryz.ntmps60
  go_wp2
  all_goals go_ret
  all_goals refine ⟨ret_bool ?_, rfl⟩
  · have h : 48 ≤ (c.toNat : Int) := by assumption
    have h' : 48 ≤ c.toNat := by omega
    simp [digitB, h']; omega
  · have h : (c.toNat : Int) < 48 := by assumption
    have h' : ¬ 48 ≤ c.toNat := by omega
    simp [digitB, h']

theorem head_eq (s : ByteArray) (h : 0 < s.size) : s.data.toList.headD 0 = s[0] := by
  obtain ⟨⟨l⟩⟩ := s
  cases l with
  | nil => simp [ByteArray.size] at h
  | cons a r => rfl

theorem wordB_long {l : List UInt8} (h : 24 < l.length) : wordB l = false := by unfold wordB; simp; omega
theorem wordB_first {l : List UInt8} (h : smallB (l.headD 0) = false) : wordB l = false := by unfold wordB; rw [h]; simp
theorem smallB_head {s : ByteArray} (h : 0 < s.size) {b : Bool} (h' : smallB s[0] = b) : smallB (s.data.toList.headD 0) = b := by rw [head_eq s h]; exact h'

set_option maxRecDepth 100000 in
set_option maxHeartbeats 1000000 in
theorem word_any (s : ByteArray) (w : World) (hs : s.size ≤ maxLen) :
    Calls Tryz.prog 44 #[.string s] w fun e w' => e = .returned (.bool (wordB s.data.toList)) ∧ w' = w := by
  unfold maxLen at hs
  have HL := Lib.hid (show s.data.toList.length = s.size by simp)
  by_cases h0 : s.size = 0
  · have he : s = ByteArray.empty := by obtain ⟨⟨l⟩⟩ := s; simp [ByteArray.size] at h0; subst h0; rfl
    subst he
    go_enter Tryz.func44, Tryz.ntmps44
    go_wp2_with fail
    go_ret
    exact ⟨rfl, rfl⟩
  have hpos : 0 < s.size := by omega
  have hne : ¬ s.toList = [] := by
    rw [ByteArray.toList_eq]; intro e; have := HL.out; rw [e] at this; simp at this; omega
  have hne' : s.toList.isEmpty = false := by simpa using hne
  clear h0
  by_cases hlen : 24 < s.size
  · go_enter Tryz.func44, Tryz.ntmps44
    go_wp2_with fail
    go_ret
    exact ⟨ret_bool (wordB_long (by rw [HL.out]; exact hlen)).symm, rfl⟩
  have hlen' : s.size ≤ 24 := by omega
  have HS0 := Lib.hid fun W => small_any s[0] W
  cases hf : smallB s[0]
  · rw [hf] at HS0
    have HF := Lib.hid (smallB_head hpos hf)
    clear hf
    go_enter Tryz.func44, Tryz.ntmps44
    go_wp2_with fail
    refine (HS0.out _).mono ?_
    rintro e w' ⟨rfl, rfl⟩
    go_wp2_with fail
    go_ret
    exact ⟨ret_bool (wordB_first HF.out).symm, rfl⟩
  rw [hf] at HS0
  have HF := Lib.hid (smallB_head hpos hf)
  clear hf
  go_enter Tryz.func44, Tryz.ntmps44
  go_wp2_with fail
  refine (HS0.out _).mono ?_
  rintro e w' ⟨rfl, rfl⟩
  go_wp2_with fail
  go_loop [19] (fun i => ∃ k : Nat, k ≤ s.size ∧ i = .int .i64 k ∧ Hid ((s.data.toList.take k).all wordcB = true)) (fun i => s.size - (intOf i).toNat)
  case atStart => exact ⟨0, Nat.zero_le _, rfl, Lib.hid (by simp)⟩
  case round =>
    obtain ⟨k, hk, rfl, HA⟩ := hrel
    by_cases hlt : k < s.size
    · have hts := Lib.hid (take_next s k hlt)
      have H1 := Lib.hid fun W => small_any s[k] W
      have H2 := Lib.hid fun W => digit_any s[k] W
      cases h1 : smallB s[k]
      · rw [h1] at H1
        have HA1 := Lib.hid h1
        clear h1
        cases h2 : digitB s[k]
        · rw [h2] at H2
          have HB1 := Lib.hid h2
          clear h2
          by_cases h3 : (s[k].toNat : Int) = 95
          · have h3' : ((s[k].toNat : Int) != 95) = false := by simp [h3]
            have HC1 := Lib.hid (show (s[k].toNat == 95) = true by simp; omega)
            clear h3
            go_wp2_with fail
            refine (H1.out _).mono ?_
            rintro e w1 ⟨rfl, rfl⟩
            go_wp2_with fail
            refine (H2.out _).mono ?_
            rintro e w1 ⟨rfl, rfl⟩
            go_wp2_with fail
            go_round
            case rel => exact ⟨k + 1, by omega, by go_num, Lib.hid (by rw [hts.out, List.all_append, HA.out]; simp [wordcB, HA1.out, HB1.out, HC1.out])⟩
            case measure => simp [intOf]; omega
          · have h3' : ((s[k].toNat : Int) != 95) = true := by simpa using h3
            have HC1 := Lib.hid (show (s[k].toNat == 95) = false by simp; omega)
            clear h3
            go_wp2_with fail
            refine (H1.out _).mono ?_
            rintro e w1 ⟨rfl, rfl⟩
            go_wp2_with fail
            refine (H2.out _).mono ?_
            rintro e w1 ⟨rfl, rfl⟩
            go_wp2_with fail
            go_ret
            refine ⟨ret_bool ?_, rfl⟩
            unfold wordB
            rw [all_take_false (p := wordcB) (k := k + 1) (by rw [hts.out]; simp [wordcB, HA1.out, HB1.out, HC1.out])]; simp
        · rw [h2] at H2
          have HB1 := Lib.hid h2
          clear h2
          go_wp2_with fail
          refine (H1.out _).mono ?_
          rintro e w1 ⟨rfl, rfl⟩
          go_wp2_with fail
          refine (H2.out _).mono ?_
          rintro e w1 ⟨rfl, rfl⟩
          go_wp2_with fail
          go_round
          case rel => exact ⟨k + 1, by omega, by go_num, Lib.hid (by rw [hts.out, List.all_append, HA.out]; simp [wordcB, HB1.out])⟩
          case measure => simp [intOf]; omega
      · rw [h1] at H1
        have HA1 := Lib.hid h1
        clear h1
        go_wp2_with fail
        refine (H1.out _).mono ?_
        rintro e w1 ⟨rfl, rfl⟩
        go_wp2_with fail
        go_round
        case rel => exact ⟨k + 1, by omega, by go_num, Lib.hid (by rw [hts.out, List.all_append, HA.out]; simp [wordcB, HA1.out])⟩
        case measure => simp [intOf]; omega
    · go_wp2_with fail
      go_ret
      exact ⟨ret_bool (by have h := HA.out; rw [List.take_of_length_le (by rw [HL.out]; omega)] at h; unfold wordB; rw [h, HL.out, HF.out]; simp; omega), rfl⟩

end Go.Proofs.YtchadlbhdcpojaaGreatDoor
