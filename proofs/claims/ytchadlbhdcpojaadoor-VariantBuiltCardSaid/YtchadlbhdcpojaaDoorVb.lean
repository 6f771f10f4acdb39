/- Steps: where a key belongs; the item of a step, both readings walked. -/
import Derived.Test.YtchadlbhdcpojaaDoorVa
import Derived.Test.YtchadlbhdcpojaaDoorWu
namespace Go.Proofs.YtchadlbhdcpojaaDoor
open Go.RowKit

set_option maxHeartbeats 4000000 in
set_option maxRecDepth 1000000 in
theorem search_at (b o n c : Nat) (keys : List ByteArray) (x : ByteArray) (w : World) (hl : keys.length = n) (hbig : n ≤ 10000) (hr : Rising keys) (hc : ∀ (j : Nat) (y : ByteArray), keys[j]? = some y → w.cell? ⟨b, o + j, none⟩ = some (.string y)) :
    Calls Tryd.prog 36 #[.slice (some ⟨b, o, none⟩) n c, .string x] w fun e w' => e = .returned (.tuple #[.int .i64 (posK x keys : Nat), .bool (hasK x keys)]) ∧ ∃ q, w' = w.drewN q := by
  have mixed : Tryd.prog.follows Departure.mixedOrders = true := by kernel_rfl
  obtain ⟨I, hI⟩ : ∃ I, posK x keys = I := ⟨_, rfl⟩
  have hIn : I ≤ n := by rw [← hI, ← hl]; exact posK_le x keys
  have hless : ∀ (t : Nat) (y : ByteArray), keys[t]? = some y → Op.bytesLess y.toList x.toList = decide (t < I) := by
    intro t y hy
    by_cases h : t < I
    · rw [decide_eq_true h]; exact posK_less x (by rw [hI]; exact h) hy
    · rw [decide_eq_false h]; exact posK_more x hr (by rw [hI]; omega) hy
  have hhas : hasK x keys = decide (keys[I]? = some x) := by
    rw [Bool.eq_iff_iff, hasK_iff, posK_here x hr, hI, decide_eq_true_iff]
  rw [hI, hhas]
  clear hhas hI hr
  have HL := Lib.hid hless
  clear hless
  go_enter Tryd.func36, Tryd.ntmps36
  go_wp2
  go_loopg [7, 8] n (fun g s7 s8 wr => ∃ lo hi q : Nat, s7 = .int .i64 lo ∧ s8 = .int .i64 hi ∧ lo ≤ I ∧ I ≤ hi ∧ hi ≤ n ∧ hi - lo ≤ g ∧ wr = w.drewN q)
  case atStart => exact ⟨0, n, 0, rfl, rfl, Nat.zero_le _, hIn, Nat.le_refl _, by omega, rfl⟩
  case round =>
    obtain ⟨lo, hi, q, rfl, rfl, hlo, hhi, hin, hg, rfl⟩ := hrel
    by_cases hlt : lo < hi
    · obtain ⟨y, hy⟩ : ∃ y, keys[(lo + hi) / 2]? = some y := ⟨_, List.getElem?_eq_getElem (by omega)⟩
      have cm : w.cell? ⟨b, o + (lo + hi) / 2, none⟩ = some (.string y) := hc _ _ hy
      have hyx := HL.out _ _ hy
      have HC := Lib.hid hc
      clear hc hy
      by_cases hm : (lo + hi) / 2 < I
      · rw [decide_eq_true hm] at hyx
        go_wp2_with (first | (go_at_call 48; refine (less_string _ _ _).mono ?_; rintro e w' ⟨rfl, rfl⟩) | (go_at_call 49; refine (nan_slices _ _).mono ?_; rintro e w' ⟨rfl, rfl⟩))
        go_roundg (hi - ((lo + hi) / 2 + 1))
        case measure => omega
        case rel => exact ⟨(lo + hi) / 2 + 1, hi, _, by rw [show ((lo : Int) + (hi : Int)) / 2 + 1 = (((lo + hi) / 2 + 1 : Nat) : Int) by omega], rfl, by omega, hhi, hin, Nat.le_refl _, rfl⟩
      · rw [decide_eq_false hm] at hyx
        go_wp2_with (first | (go_at_call 48; refine (less_string _ _ _).mono ?_; rintro e w' ⟨rfl, rfl⟩) | (go_at_call 49; refine (nan_slices _ _).mono ?_; rintro e w' ⟨rfl, rfl⟩))
        go_roundg ((lo + hi) / 2 - lo)
        case measure => omega
        case rel => exact ⟨lo, (lo + hi) / 2, _, rfl, by rw [show ((lo : Int) + (hi : Int)) / 2 = (((lo + hi) / 2 : Nat) : Int) by omega], hlo, by omega, by omega, Nat.le_refl _, rfl⟩
    · have e1 : lo = I := by omega
      have e2 : I = hi := by omega
      subst e1
      subst e2
      by_cases hn : lo < n
      · obtain ⟨y, hy⟩ : ∃ y, keys[lo]? = some y := ⟨_, List.getElem?_eq_getElem (by omega)⟩
        have cl : w.cell? ⟨b, o + lo, none⟩ = some (.string y) := hc _ _ hy
        have HC := Lib.hid hc
        clear hc
        have HK := Lib.hid hy
        by_cases hyx : y = x
        · subst hyx
          clear hy
          go_wp2_with (first | (go_at_call 48; refine (less_string _ _ _).mono ?_; rintro e w' ⟨rfl, rfl⟩) | (go_at_call 49; refine (nan_slices _ _).mono ?_; rintro e w' ⟨rfl, rfl⟩))
          go_ret2
          exact ⟨by rw [HK.out]; simp, _, rfl⟩
        · have hne : (y.toList == x.toList) = false := by
            rw [beq_eq_false_iff_ne]
            intro h
            rw [ByteArray.toList_eq, ByteArray.toList_eq] at h
            exact hyx (ByteArray.ext (Array.ext' h))
          clear hy
          go_wp2_with (first | (go_at_call 48; refine (less_string _ _ _).mono ?_; rintro e w' ⟨rfl, rfl⟩) | (go_at_call 49; refine (nan_slices _ _).mono ?_; rintro e w' ⟨rfl, rfl⟩))
          all_goals
            go_ret2
            exact ⟨by rw [HK.out]; simp [hyx], _, rfl⟩
      · have hnone : keys[lo]? = none := List.getElem?_eq_none (by omega)
        have HK := Lib.hid hnone
        clear hc hnone
        go_wp2_with (first | (go_at_call 48; refine (less_string _ _ _).mono ?_; rintro e w' ⟨rfl, rfl⟩) | (go_at_call 49; refine (nan_slices _ _).mono ?_; rintro e w' ⟨rfl, rfl⟩))
        go_ret2
        exact ⟨by rw [HK.out]; simp, _, rfl⟩

/-- Whether a path is valid, as the specification reads it. -/
theorem neq_empty {t : ByteArray} : (!(t.toList == (⟨#[]⟩ : ByteArray).toList)) = !decide (t = ⟨#[]⟩) := by rw [empty_eq]
end Go.Proofs.YtchadlbhdcpojaaDoor
