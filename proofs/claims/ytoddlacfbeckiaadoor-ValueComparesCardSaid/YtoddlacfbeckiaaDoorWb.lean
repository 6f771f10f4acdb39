/- The keys of an object; a value without its items. -/
import Derived.Test.YtoddlacfbeckiaaDoorWa
namespace Go.Proofs.YtoddlacfbeckiaaDoor
open Go.RowKit

set_option maxHeartbeats 400000 in
theorem within_any (n : Int) (w : World) :
    Calls Tryd.prog 38 #[.int .i64 n] w fun e w' => e = .returned (.bool (decide (-1000000000000 ≤ n) && decide (n ≤ 1000000000000))) ∧ w' = w := by
  go_enter Tryd.func38, Tryd.ntmps38
  go_wp2
  all_goals go_ret
  · have h : -1000000000000 ≤ n := by assumption
    exact ⟨ret_bool (by simp [h]), rfl⟩
  · have h : n < -1000000000000 := by assumption
    have h' : ¬ -1000000000000 ≤ n := by omega
    exact ⟨ret_bool (by simp [h']), rfl⟩

set_option maxHeartbeats 400000 in
theorem proper_any (keys : List ByteArray) (w : World) (B : Nat) (K : Option Addr) (d : Nat) (h : Strs w B K d keys) :
    Calls Tryd.prog 100 #[.slice K keys.length d] w fun e w' => e = .returned (.bool (risingB keys keys.length)) ∧ w' = w := by
  have hn : keys.length ≤ 9223372036854775807 := by have := h.1; have := h.2.1; unfold maxLen at *; omega
  obtain ⟨n, hnn⟩ : ∃ n, n = keys.length := ⟨_, rfl⟩
  rw [← hnn] at hn ⊢
  have HN := Lib.hid hnn
  clear hnn
  go_enter Tryd.func100, Tryd.ntmps100
  go_wp2
  go_loop [7] (fun i => ∃ k : Nat, k ≤ n ∧ i = .int .i64 k ∧ risingB keys k = true) (fun i => n - (intOf i).toNat)
  case atStart => exact ⟨0, Nat.zero_le _, rfl, by simp [risingB]⟩
  case round =>
    obtain ⟨k, hk, rfl, hall⟩ := hrel
    have HA := Lib.hid hall
    clear hall
    by_cases hlt : k < n
    · obtain ⟨b, o, rfl, hb, hc⟩ := h.at_ (k := k) (by rw [← HN.out]; exact hlt)
      obtain ⟨s, hs⟩ : ∃ s, keys[k]? = some s := ⟨_, List.getElem?_eq_getElem (by rw [← HN.out]; exact hlt)⟩
      obtain ⟨c0, m0⟩ := hc k s hs
      have HR := Lib.hid (risingB_succ keys k)
      have hg : keys.getD k ByteArray.empty = s := by simp [List.getD_eq_getElem?_getD, hs]
      have HG := Lib.hid hg
      clear hg
      by_cases hz : k = 0
      · subst hz
        simp only [Nat.add_zero] at c0
        go_wp2_with (go_at_call 99; refine (printable_any s _ m0).mono ?_; rintro e w' ⟨rfl, rfl⟩)
        · have h : textB s.data.toList = true := by assumption
          go_round
          case rel => exact ⟨1, by omega, by go_num, by rw [show (1 : Nat) = 0 + 1 from rfl, HR.out, HG.out, HA.out]; simp [h]⟩
          case measure => simp [intOf]; omega
        · have h : ¬textB s.data.toList = true := by assumption
          go_ret
          exact ⟨ret_bool (by rw [risingB_false (k := 0 + 1) (by rw [HR.out, HG.out]; simp [h]) hlt]), rfl⟩
      · obtain ⟨s', hs'⟩ : ∃ s, keys[k - 1]? = some s := ⟨_, List.getElem?_eq_getElem (by rw [← HN.out]; omega)⟩
        obtain ⟨c1, m1⟩ := hc (k - 1) s' hs'
        have HG' := Lib.hid (show keys.getD (k - 1) ByteArray.empty = s' by simp [List.getD_eq_getElem?_getD, hs'])
        clear hs hs' hc
        go_wp2_with (go_at_call 99; refine (printable_any s _ m0).mono ?_; rintro e w' ⟨rfl, rfl⟩)
        · have h1 : (!Op.bytesLess s'.toList s.toList) = true := by assumption
          go_ret
          exact ⟨ret_bool (by rw [risingB_false (k := k + 1) (by rw [HR.out, HG.out, HG'.out, ltB]; simp at h1; simp [h1, hz]) hlt]), rfl⟩
        · have h : textB s.data.toList = true := by assumption
          have h1 : (!Op.bytesLess s'.toList s.toList) = false := by assumption
          go_round
          case rel => exact ⟨k + 1, by omega, by go_num, by rw [HR.out, HG.out, HG'.out, HA.out, ltB]; simp at h1; simp [h, h1]⟩
          case measure => simp [intOf]; omega
        · have h : ¬textB s.data.toList = true := by assumption
          go_ret
          exact ⟨ret_bool (by rw [risingB_false (k := k + 1) (by rw [HR.out, HG.out]; simp [h]) hlt]), rfl⟩
    · go_wp2
      go_ret
      exact ⟨ret_bool (by rw [← show k = n by omega]; exact HA.out.symm), rfl⟩

end Go.Proofs.YtoddlacfbeckiaaDoor
