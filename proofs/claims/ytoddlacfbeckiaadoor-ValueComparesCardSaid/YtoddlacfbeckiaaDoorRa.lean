/- The definitions' side: texts; fields that are zero. -/
import Derived.Test.YtoddlacfbeckiaaDoorWc
import Derived.Test.YtoddlacfbeckiaaDoorMb
import Derived.Deep.QuietTactic
import Derived.BigQuiet
namespace Go.Proofs.YtoddlacfbeckiaaDoor
open Go.RowKit

theorem visB_lt {c : UInt8} (h : (c.toNat : Int) < 32) : visB c = false := by
  have h' : ¬ 32 ≤ c.toNat := by omega
  simp [visB, h']
theorem visB_gt {c : UInt8} (h : 126 < (c.toNat : Int)) : visB c = false := by
  have h' : ¬ c.toNat ≤ 126 := by omega
  simp [visB, h']
theorem visB_in {c : UInt8} (h : 32 ≤ (c.toNat : Int)) (h' : (c.toNat : Int) ≤ 126) : visB c = true := by
  simp [visB]; omega

set_option maxHeartbeats 400000 in
theorem isText_any (s : ByteArray) (w : World) (hs : s.size ≤ maxLen) :
    Calls Tryd.prog 55 #[.string s] w fun e w' => e = .returned (.bool (textB s.data.toList)) ∧ w' = w := by
  unfold maxLen at hs
  have hsz : s.data.toList.length = s.size := by simp
  have HL := Lib.hid hsz
  clear hsz
  by_cases hlen : s.size ≤ 100
  · go_enter Tryd.func55, Tryd.ntmps55
    go_wp2
    go_loop [3] (fun i => ∃ k : Nat, k ≤ s.size ∧ i = .int .i64 k ∧ (s.data.toList.take k).all visB = true) (fun i => s.size - (intOf i).toNat)
    case atStart => exact ⟨0, Nat.zero_le _, rfl, by simp⟩
    case round =>
      obtain ⟨k, hk, rfl, hall⟩ := hrel
      have HA := Lib.hid hall
      clear hall
      by_cases hlt : k < s.size
      · have hts := Lib.hid (take_snoc s k hlt)
        by_cases h1 : (s[k].toNat : Int) < 32
        · go_wp2
          go_ret
          refine ⟨ret_bool ?_, rfl⟩
          unfold textB
          rw [all_take_false (k := k + 1) (by rw [hts.out]; simp [visB_lt h1])]; simp
        by_cases h2 : 126 < (s[k].toNat : Int)
        · go_wp2
          go_ret
          refine ⟨ret_bool ?_, rfl⟩
          unfold textB
          rw [all_take_false (k := k + 1) (by rw [hts.out]; simp [visB_gt h2])]; simp
        have h1' : 32 ≤ (s[k].toNat : Int) := by omega
        have h2' : (s[k].toNat : Int) ≤ 126 := by omega
        clear h1 h2
        go_wp2
        go_round
        case rel => exact ⟨k + 1, by omega, by go_num, by rw [hts.out, List.all_append, HA.out]; simp [visB_in h1' h2']⟩
        case measure => simp [intOf]; omega
      · go_wp2
        go_ret
        exact ⟨ret_bool (by have h := HA.out; rw [List.take_of_length_le (by rw [HL.out]; omega)] at h; unfold textB; rw [h, HL.out]; simp [hlen]), rfl⟩
  · go_enter Tryd.func55, Tryd.ntmps55
    go_wp2
    go_ret
    exact ⟨ret_bool (by unfold textB; rw [HL.out]; simp [hlen]), rfl⟩

set_option maxHeartbeats 1000000 in
theorem plainN (k i : Int) (t : ByteArray) (n m : Nat) (w : World) (A K : Option Addr) (c d : Nat) :
    Calls Tryd.prog 54 #[.agg #[.int .i64 k, .int .i64 i, .string t, .slice A n c, .slice K m d], .bool false, .bool false, .bool false, .bool false] w fun e w' => e = .returned (.bool (i == 0 && t.data.toList.isEmpty && n == 0 && m == 0)) ∧ Below w.heap.size w w' := by
  go_enter Tryd.func54, Tryd.ntmps54
  go_wp2_with fail
  all_goals go_ret
  all_goals go_light
  all_goals exact ⟨ret_bool (by (try rw [← ByteArray.toList_eq]); simp [nat_beq0, *]), (Below.refl _ _).alloc (Nat.le_refl _) _⟩

set_option maxHeartbeats 1000000 in
theorem plainI (k i : Int) (t : ByteArray) (n m : Nat) (w : World) (A K : Option Addr) (c d : Nat) :
    Calls Tryd.prog 54 #[.agg #[.int .i64 k, .int .i64 i, .string t, .slice A n c, .slice K m d], .bool true, .bool false, .bool false, .bool false] w fun e w' => e = .returned (.bool (t.data.toList.isEmpty && n == 0 && m == 0)) ∧ Below w.heap.size w w' := by
  go_enter Tryd.func54, Tryd.ntmps54
  go_wp2_with fail
  all_goals go_ret
  all_goals go_light
  all_goals exact ⟨ret_bool (by (try rw [← ByteArray.toList_eq]); simp [nat_beq0, *]), (Below.refl _ _).alloc (Nat.le_refl _) _⟩

set_option maxHeartbeats 1000000 in
theorem plainT (k i : Int) (t : ByteArray) (n m : Nat) (w : World) (A K : Option Addr) (c d : Nat) :
    Calls Tryd.prog 54 #[.agg #[.int .i64 k, .int .i64 i, .string t, .slice A n c, .slice K m d], .bool false, .bool true, .bool false, .bool false] w fun e w' => e = .returned (.bool (i == 0 && n == 0 && m == 0)) ∧ Below w.heap.size w w' := by
  go_enter Tryd.func54, Tryd.ntmps54
  go_wp2_with fail
  all_goals go_ret
  all_goals go_light
  all_goals exact ⟨ret_bool (by (try rw [← ByteArray.toList_eq]); simp [nat_beq0, *]), (Below.refl _ _).alloc (Nat.le_refl _) _⟩

set_option maxHeartbeats 1000000 in
theorem plainL (k i : Int) (t : ByteArray) (n m : Nat) (w : World) (A K : Option Addr) (c d : Nat) :
    Calls Tryd.prog 54 #[.agg #[.int .i64 k, .int .i64 i, .string t, .slice A n c, .slice K m d], .bool false, .bool false, .bool true, .bool false] w fun e w' => e = .returned (.bool (i == 0 && t.data.toList.isEmpty && m == 0)) ∧ Below w.heap.size w w' := by
  go_enter Tryd.func54, Tryd.ntmps54
  go_wp2_with fail
  all_goals go_ret
  all_goals go_light
  all_goals exact ⟨ret_bool (by (try rw [← ByteArray.toList_eq]); simp [nat_beq0, *]), (Below.refl _ _).alloc (Nat.le_refl _) _⟩

set_option maxHeartbeats 1000000 in
theorem plainO (k i : Int) (t : ByteArray) (n m : Nat) (w : World) (A K : Option Addr) (c d : Nat) :
    Calls Tryd.prog 54 #[.agg #[.int .i64 k, .int .i64 i, .string t, .slice A n c, .slice K m d], .bool false, .bool false, .bool true, .bool true] w fun e w' => e = .returned (.bool (i == 0 && t.data.toList.isEmpty)) ∧ Below w.heap.size w w' := by
  go_enter Tryd.func54, Tryd.ntmps54
  go_wp2_with fail
  all_goals go_ret
  all_goals go_light
  all_goals exact ⟨ret_bool (by (try rw [← ByteArray.toList_eq]); simp [nat_beq0, *]), (Below.refl _ _).alloc (Nat.le_refl _) _⟩

end Go.Proofs.YtoddlacfbeckiaaDoor
