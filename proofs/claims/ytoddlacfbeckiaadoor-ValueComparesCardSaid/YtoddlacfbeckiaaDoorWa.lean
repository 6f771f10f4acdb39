/- Small functions of package value: bytes and ints. -/
import Derived.Test.YtoddlacfbeckiaaDoorRows
import Derived.Test.YtoddlacfbeckiaaDoorMa
import Derived.WalkKit
import Derived.WalkSpells
import Derived.WalkLawsBesides
import Derived.Lib.Hide
import Derived.Deep.QuietTactic
import Derived.BigQuiet
namespace Go.Proofs.YtoddlacfbeckiaaDoor
open Go.RowKit

theorem ret_bool {a b : Bool} (h : a = b) : Ending.returned (.bool a) = .returned (.bool b) := by rw [h]
theorem ret_int {k : IntKind} {a b : Int} (h : a = b) : Ending.returned (.int k a) = .returned (.int k b) := by rw [h]

set_option maxHeartbeats 400000 in
theorem visible_any (c : UInt8) (w : World) :
    Calls Tryd.prog 94 #[.int .u8 c.toNat] w fun e w' => e = .returned (.bool (visB c)) ∧ w' = w := by
  go_enter Tryd.func94, Tryd.ntmps94
  go_wp2
  all_goals go_ret
  all_goals refine ⟨ret_bool ?_, rfl⟩
  · have h : 32 ≤ (c.toNat : Int) := by assumption
    have h' : 32 ≤ c.toNat := by omega
    simp [visB, h']; omega
  · have h : (c.toNat : Int) < 32 := by assumption
    have h' : ¬ 32 ≤ c.toNat := by omega
    simp [visB, h']

theorem take_snoc (s : ByteArray) (k : Nat) (h : k < s.size) : s.data.toList.take (k + 1) = s.data.toList.take k ++ [s[k]] := by
  rw [List.take_succ_eq_append_getElem (by simpa using h)]; rfl

theorem all_take_false {l : List UInt8} {p : UInt8 → Bool} {k : Nat} (h : (l.take k).all p = false) : l.all p = false := by
  rw [List.all_eq_false] at h ⊢
  obtain ⟨x, hx, hp⟩ := h
  exact ⟨x, List.mem_of_mem_take hx, hp⟩

set_option maxHeartbeats 400000 in
theorem printable_any (s : ByteArray) (w : World) (hs : s.size ≤ maxLen) :
    Calls Tryd.prog 99 #[.string s] w fun e w' => e = .returned (.bool (textB s.data.toList)) ∧ w' = w := by
  unfold maxLen at hs
  have hsz : s.data.toList.length = s.size := by simp
  have HL := Lib.hid hsz
  clear hsz
  by_cases hlen : s.size ≤ 100
  · go_enter Tryd.func99, Tryd.ntmps99
    go_wp2
    go_loop [9] (fun i => ∃ k : Nat, k ≤ s.size ∧ i = .int .i64 k ∧ (s.data.toList.take k).all visB = true) (fun i => s.size - (intOf i).toNat)
    case atStart => exact ⟨0, Nat.zero_le _, rfl, by simp⟩
    case round =>
      obtain ⟨k, hk, rfl, hall⟩ := hrel
      have HA := Lib.hid hall
      clear hall
      by_cases hlt : k < s.size
      · have hts := Lib.hid (take_snoc s k hlt)
        go_wp2_with (go_at_call 94; refine (visible_any s[k] _).mono ?_; rintro e w' ⟨rfl, rfl⟩)
        · have h : (!visB s[k]) = true := by assumption
          go_ret
          refine ⟨ret_bool ?_, rfl⟩
          unfold textB
          rw [all_take_false (k := k + 1) (by rw [hts.out]; simp at h; simp [h])]; simp
        · have h : (!visB s[k]) = false := by assumption
          go_round
          case rel => exact ⟨k + 1, by omega, by go_num, by rw [hts.out, List.all_append, HA.out]; simp at h; simp [h]⟩
          case measure => simp [intOf]; omega
      · go_wp2
        go_ret
        exact ⟨ret_bool (by have h := HA.out; rw [List.take_of_length_le (by rw [HL.out]; omega)] at h; unfold textB; rw [h, HL.out]; simp [hlen]), rfl⟩
  · go_enter Tryd.func99, Tryd.ntmps99
    go_wp2
    go_ret
    exact ⟨ret_bool (by unfold textB; rw [HL.out]; simp [hlen]), rfl⟩

end Go.Proofs.YtoddlacfbeckiaaDoor
