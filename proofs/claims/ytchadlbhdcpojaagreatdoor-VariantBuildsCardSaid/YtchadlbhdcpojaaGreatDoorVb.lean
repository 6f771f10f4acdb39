/- Steps: where a key belongs; the item of a step, both readings walked. -/
import Derived.Test.YtchadlbhdcpojaaGreatDoorVa
import Derived.Test.YtchadlbhdcpojaaGreatDoorWu
namespace Go.Proofs.YtchadlbhdcpojaaGreatDoor
open Go.RowKit

set_option maxHeartbeats 4000000 in
set_option maxRecDepth 1000000 in
theorem search_at (b o n c : Nat) (keys : List ByteArray) (x : ByteArray) (w : World) (hl : keys.length = n) (hbig : n ≤ 10000) (hr : Rising keys) (hc : ∀ (j : Nat) (y : ByteArray), keys[j]? = some y → w.cell? ⟨b, o + j, none⟩ = some (.string y)) :
    Calls Tryz.prog 42 #[.slice (some ⟨b, o, none⟩) n c, .string x] w fun e w' => e = .returned (.tuple #[.int .i64 (posK x keys : Nat), .bool (hasK x keys)]) ∧ ∃ q, w' = w.drewN q := by
  have mixed : Tryz.prog.follows Departure.mixedOrders = true := by kernel_rfl
  obtain ⟨I, hI⟩ : ∃ I, posK x keys = I := ⟨_, rfl⟩
  have hIn : I ≤ n := by rw [← hI, ← hl]; exact posK_le x keys
  have hless : ∀ (t : Nat) (y : ByteArray), keys[t]? = some y → Op.bytesLess y.toList x.toList = decide (t < I) := by
    intro t y hy
    by_cases h : t < I
    · rw [decide_eq_true h]; exact posK_less x (by rw [hI]; exact h) hy
    · rw [decide_eq_false h]; exact posK_more x hr (by rw [hI]; omega) hy
  have hhas : hasK x keys = decide (keys[I]? = some x) := by
    rw [Bool.eq_iff_iff, hasK_iff, posK_here x hr, hI, decide_eq_true_iff]
  rw [hI, hhas]
  clear hhas hI hr
  have HL := Lib.hid hless
  clear hless
  go_enter Tryz.func42, Tryz.ntmps42
  go_wp2
  go_loopg [7, 8] n (fun g s7 s8 wr => ∃ lo hi q : Nat, s7 = .int .i64 lo ∧ s8 = .int .i64 hi ∧ lo ≤ I ∧ I ≤ hi ∧ hi ≤ n ∧ hi - lo ≤ g ∧ wr = w.drewN q)
  case atStart => exact ⟨0, n, 0, rfl, rfl, Nat.zero_le _, hIn, Nat.le_refl _, by omega, rfl⟩
  case round =>
    obtain ⟨lo, hi, q, rfl, rfl, hlo, hhi, hin, hg, rfl⟩ := hrel
    by_cases hlt : lo < hi
    · obtain ⟨y, hy⟩ : ∃ y, keys[(lo + hi) / 2]? = some y := ⟨_, List.getElem?_eq_getElem (by omega)⟩
      have cm : w.cell? ⟨b, o + (lo + hi) / 2, none⟩ = some (.string y) := hc _ _ hy
      have hyx := HL.out _ _ hy
      have HC := Lib.hid hc
      clear hc hy
      by_cases hm : (lo + hi) / 2 < I
      · rw [decide_eq_true hm] at hyx
        go_wp2_with (first | (go_at_call 56; refine (less_string _ _ _).mono ?_; rintro e w' ⟨rfl, rfl⟩) | (go_at_call 57; refine (nan_slices _ _).mono ?_; rintro e w' ⟨rfl, rfl⟩))
        go_roundg (hi - ((lo + hi) / 2 + 1))
        case measure => omega
        case rel => exact ⟨(lo + hi) / 2 + 1, hi, _, by rw [show ((lo : Int) + (hi : Int)) / 2 + 1 = (((lo + hi) / 2 + 1 : Nat) : Int) by omega], rfl, by omega, hhi, hin, Nat.le_refl _, rfl⟩
      · rw [decide_eq_false hm] at hyx
        go_wp2_with (first | (go_at_call 56; refine (less_string _ _ _).mono ?_; rintro e w' ⟨rfl, rfl⟩) | (go_at_call 57; refine (nan_slices _ _).mono ?_; rintro e w' ⟨rfl, rfl⟩))
        go_roundg ((lo + hi) / 2 - lo)
        case measure => omega
        case rel => exact ⟨lo, (lo + hi) / 2, _, rfl, by rw [show ((lo : Int) + (hi : Int)) / 2 = (((lo + hi) / 2 : Nat) : Int) by omega], hlo, by omega, by omega, Nat.le_refl _, rfl⟩
    · have e1 : lo = I := by omega
      have e2 : I = hi := by omega
      subst e1
      subst e2
      by_cases hn : lo < n
      · obtain ⟨y, hy⟩ : ∃ y, keys[lo]? = some y := ⟨_, List.getElem?_eq_getElem (by omega)⟩
        have cl : w.cell? ⟨b, o + lo, none⟩ = some (.string y) := hc _ _ hy
        have HC := Lib.hid hc
        clear hc
        have HK := Lib.hid hy
        by_cases hyx : y = x
        · subst hyx
          clear hy
          go_wp2_with (first | (go_at_call 56; refine (less_string _ _ _).mono ?_; rintro e w' ⟨rfl, rfl⟩) | (go_at_call 57; refine (nan_slices _ _).mono ?_; rintro e w' ⟨rfl, rfl⟩))
          go_ret2
          exact ⟨by rw [HK.out]; simp, _, rfl⟩
        · have hne : (y.toList == x.toList) = false := by
            rw [beq_eq_false_iff_ne]
            intro h
            rw [ByteArray.toList_eq, ByteArray.toList_eq] at h
            exact hyx (ByteArray.ext (Array.ext' h))
          clear hy
          go_wp2_with (first | (go_at_call 56; refine (less_string _ _ _).mono ?_; rintro e w' ⟨rfl, rfl⟩) | (go_at_call 57; refine (nan_slices _ _).mono ?_; rintro e w' ⟨rfl, rfl⟩))
          all_goals
            go_ret2
            exact ⟨by rw [HK.out]; simp [hyx], _, rfl⟩
      · have hnone : keys[lo]? = none := List.getElem?_eq_none (by omega)
        have HK := Lib.hid hnone
        clear hc hnone
        go_wp2_with (first | (go_at_call 56; refine (less_string _ _ _).mono ?_; rintro e w' ⟨rfl, rfl⟩) | (go_at_call 57; refine (nan_slices _ _).mono ?_; rintro e w' ⟨rfl, rfl⟩))
        go_ret2
        exact ⟨by rw [HK.out]; simp, _, rfl⟩

set_option maxRecDepth 100000 in
set_option maxHeartbeats 4000000 in
theorem refPathValid_any (p : List Stp) (w : World) (A : Option Addr) (c : Nat) (h : PLies w w.heap.size A c p) :
    Calls Tryz.prog 21 #[.slice A p.length c] w fun e w' => e = .returned (.bool (pathB p)) ∧ w' = w := by
  obtain ⟨n, hn⟩ : ∃ n, n = p.length := ⟨_, rfl⟩
  have HN := Lib.hid hn
  have HP := Lib.hid h
  have hnl : n ≤ maxLen := by have := h.1; have := h.2.1; omega
  unfold maxLen at hnl
  rw [← hn]
  clear h hn
  by_cases hle : n ≤ 6
  · have hle' : (n : Int) ≤ 6 := by omega
    go_enter Tryz.func21, Tryz.ntmps21
    go_wp2_with fail
    go_loopw [3] (fun iv wr => ∃ j : Nat, iv = .int .i64 j ∧ j ≤ n ∧ Hid (wr = w ∧ (p.take j).all stepB = true)) (fun iv _ => n - (intOf iv).toNat)
    case atStart => exact ⟨0, rfl, Nat.zero_le _, Lib.hid ⟨rfl, by simp⟩⟩
    case round =>
      obtain ⟨j, rfl, hj, hI⟩ := hrel
      obtain ⟨rfl, hall⟩ := hI.out
      have HA := Lib.hid hall
      clear hI hall
      by_cases hlt : j < n
      · obtain ⟨s, hs⟩ : ∃ s, p[j]? = some s := ⟨_, List.getElem?_eq_getElem (by rw [← HN.out]; exact hlt)⟩
        obtain ⟨b, o, rfl, hbB, e0, e1, hsz⟩ := HP.out.at_ hs
        have HSJ := Lib.hid hs
        have HSR := Lib.hid (step_ref s)
        clear hs
        obtain ⟨i, t⟩ := s
        simp only at e0 e1 hsz HSR
        have hjn : (j : Int) < n := by omega
        have hj0 : 0 ≤ (j : Int) := by omega
        by_cases h1 : i < -1
        · have HF := Lib.hid (path_stop HSJ.out (by rw [HSR.out]; simp [h1]))
          go_wp2_with fail
          go_ret
          exact ⟨by rw [HF.out]; rfl, rfl⟩
        · by_cases h9 : 99 < i
          · have HF := Lib.hid (path_stop HSJ.out (by rw [HSR.out]; simp [h9]))
            go_wp2_with fail
            go_ret
            exact ⟨by rw [HF.out]; rfl, rfl⟩
          · by_cases h0 : 0 ≤ i
            · by_cases ht0 : t = ⟨#[]⟩
              rotate_left
              · have HF := Lib.hid (path_stop HSJ.out (by rw [HSR.out]; simp [h0, ht0]))
                have hz : (t.toList == ([] : List UInt8)) = false := by
                  have := @empty_eq t
                  rw [decide_eq_false ht0, show (⟨#[]⟩ : ByteArray).toList = [] by rw [ByteArray.toList_eq]] at this
                  exact this
                have hz1 : t.toList.isEmpty = false := by
                  cases hl : t.toList with
                  | nil => rw [hl] at hz; simp at hz
                  | cons a r => rfl
                have hz2 : ¬ t.toList = [] := fun e => by rw [e] at hz1; simp at hz1
                clear ht0
                go_wp2_with fail
                go_ret
                exact ⟨by rw [HF.out]; rfl, rfl⟩
              · subst ht0
                have HT := Lib.hid (show stepB (i, ⟨#[]⟩) = textB (⟨#[]⟩ : ByteArray).data.toList by rw [HSR.out]; simp [h1, h9])
                go_wp2_with fail
                refine (isText_any ⟨#[]⟩ _ hsz).mono ?_
                rintro e w' ⟨rfl, rfl⟩
                cases ht : textB (⟨#[]⟩ : ByteArray).data.toList
                · have HF := Lib.hid (path_stop HSJ.out (HT.out.trans ht))
                  go_wp2_with fail
                  go_ret
                  exact ⟨by rw [HF.out]; rfl, rfl⟩
                · have HX := Lib.hid (path_next HSJ.out (HT.out.trans ht) HA.out)
                  go_wp2_with fail
                  go_roundw
                  case rel => exact ⟨j + 1, by go_num, by omega, Lib.hid ⟨by trivial, HX.out⟩⟩
                  case measure => simp [intOf]; omega
            · have HT := Lib.hid (show stepB (i, t) = textB t.data.toList by rw [HSR.out]; simp [h1, h9, h0])
              go_wp2_with fail
              refine (isText_any t _ hsz).mono ?_
              rintro e w' ⟨rfl, rfl⟩
              cases ht : textB t.data.toList
              · have HF := Lib.hid (path_stop HSJ.out (HT.out.trans ht))
                go_wp2_with fail
                go_ret
                exact ⟨by rw [HF.out]; rfl, rfl⟩
              · have HX := Lib.hid (path_next HSJ.out (HT.out.trans ht) HA.out)
                go_wp2_with fail
                go_roundw
                case rel => exact ⟨j + 1, by go_num, by omega, Lib.hid ⟨by trivial, HX.out⟩⟩
                case measure => simp [intOf]; omega
      · have hjn : ¬ ((j : Int) < n) := by omega
        have HT := Lib.hid (path_all HN.out hle hj hlt HA.out)
        go_wp2_with fail
        go_ret
        exact ⟨by rw [HT.out]; rfl, rfl⟩
  · have hle' : ¬ (n : Int) ≤ 6 := by omega
    have HF := Lib.hid (path_short HN.out hle)
    go_enter Tryz.func21, Tryz.ntmps21
    go_wp2_with fail
    go_ret
    exact ⟨by rw [HF.out]; rfl, rfl⟩
end Go.Proofs.YtchadlbhdcpojaaGreatDoor
