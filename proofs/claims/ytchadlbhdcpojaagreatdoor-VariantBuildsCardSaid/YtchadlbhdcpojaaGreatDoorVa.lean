/- Paths: which ones are valid; both readings of it walked. -/
import Derived.Test.YtchadlbhdcpojaaGreatDoorZr
import Derived.Test.YtchadlbhdcpojaaGreatDoorYe
namespace Go.Proofs.YtchadlbhdcpojaaGreatDoor
open Go.RowKit

def stepV (s : Stp) : Value := .agg #[.int .i64 s.1, .string s.2]
theorem leaf_lies (w : World) (B : Nat) (k i : Int) {t : ByteArray} (ht : t.size ≤ maxLen) : Lies w B (leaf k i t) none 0 none 0 := by
  rw [leaf, Lies]
  exact ⟨ht, Nat.le_refl _, Nat.zero_le _, ⟨Nat.le_refl _, Nat.zero_le _, .inl rfl⟩, .inl rfl⟩
theorem text_valid3 (t : ByteArray) : (leaf 3 0 t).valid = textB t.data.toList := by
  simp [leaf, V.valid, V.fits, V.ok, V.okL, V.sound, V.nodes, V.nodesL, V.depth, V.depthL]
theorem empty_eq {t : ByteArray} : (t.toList == (⟨#[]⟩ : ByteArray).toList) = decide (t = ⟨#[]⟩) := by
  rw [ByteArray.toList_eq, ByteArray.toList_eq, Bool.eq_iff_iff, beq_iff_eq, decide_eq_true_eq]
  constructor
  · exact fun e => ByteArray.ext (Array.ext' e)
  · rintro rfl; rfl
set_option maxHeartbeats 1000000 in
theorem text_agg (t : ByteArray) (w : World) : Calls Tryz.prog 46 #[.string t] w fun e w' => e = .returned (aggOf (leaf 3 0 t) none 0 none 0) ∧ Below w.heap.size w w' := by
  go_enter Tryz.func46, Tryz.ntmps46
  go_wp2_with fail
  refine bodyPost_ret (v := aggOf (leaf 3 0 t) none 0 none 0) (by simp [results, Tryz.results46, go_sem, aggOf, leaf, V.kind, V.int, V.text, V.items, V.keys]) rfl ?_
  exact ⟨rfl, (Below.refl _ _).alloc (Nat.le_refl _) _⟩
set_option maxRecDepth 100000 in
set_option maxHeartbeats 2000000 in
theorem validStep_any (s : Stp) (w : World) (hs : s.2.size ≤ maxLen) : Calls Tryz.prog 29 #[stepV s] w fun e w' => e = .returned (.bool (stepB s)) ∧ Below w.heap.size w w' := by
  obtain ⟨i, t⟩ := s
  unfold stepV
  simp only
  by_cases hi : i = -1
  · subst hi
    have hb : stepB (-1, t) = textB t.data.toList := by simp [stepB]
    rw [hb]
    have HT := Lib.hid hs
    clear hs hb
    go_enter Tryz.func29, Tryz.ntmps29
    go_wp2_with fail
    refine (text_agg t _).mono ?_
    rintro e w1 ⟨rfl, h1⟩
    have HB1 := Lib.hid (below_on (below_al (Below.refl _ w) (.cells #[.int .i64 (-1), .string t] 34)) h1)
    clear h1
    go_wp2_with fail
    refine (valid_any (leaf 3 0 t) w1 none none 0 0 (leaf_lies w1 _ 3 0 HT.out)).mono ?_
    rintro e w2 ⟨rfl, h2⟩
    rw [text_valid3]
    have HB2 := Lib.hid (below_on HB1.out h2)
    clear h2
    go_wp2_with fail
    go_ret
    exact ⟨rfl, HB2.out⟩
  · have hi' : (i == -1) = false := by simpa using hi
    have HB := Lib.hid (below_al (Below.refl _ w) (.cells #[.int .i64 i, .string t] 34))
    obtain ⟨b, hb⟩ : ∃ b, (t.toList == (⟨#[]⟩ : ByteArray).toList) = b := ⟨_, rfl⟩
    have HS := Lib.hid (show stepB (i, t) = ((decide (0 ≤ i) && decide (i ≤ 99)) && b) by
      rw [← hb, empty_eq]; simp [stepB, hi])
    clear hs hi
    by_cases h0 : 0 ≤ i
    · by_cases h9 : i ≤ 99
      all_goals go_enter Tryz.func29, Tryz.ntmps29
      all_goals go_wp2_with fail
      all_goals go_ret
      all_goals exact ⟨by rw [HS.out, ← hb]; first | (simp [h0, h9]; done) | simp [h0, show ¬ i ≤ 99 by omega], HB.out⟩
    · go_enter Tryz.func29, Tryz.ntmps29
      go_wp2_with fail
      go_ret
      exact ⟨by rw [HS.out]; simp [show ¬ 0 ≤ i by omega], HB.out⟩
theorem path_short {p : List Stp} {n : Nat} (hn : n = p.length) (h : ¬ (n ≤ 6)) : pathB p = false := by
  unfold pathB; rw [← hn]; simp [h]
theorem path_stop {p : List Stp} {j : Nat} {s : Stp} (h : p[j]? = some s) (hb : stepB s = false) : pathB p = false := by
  unfold pathB
  rw [show p.all stepB = false by
    rw [List.all_eq_false]
    exact ⟨s, List.mem_of_getElem? h, by simp [hb]⟩]
  simp
theorem path_next {p : List Stp} {j : Nat} {s : Stp} (h : p[j]? = some s) (hb : stepB s = true) (hp : (p.take j).all stepB = true) : (p.take (j + 1)).all stepB = true := by
  rw [List.take_add_one, h]
  simp [hp, hb]
theorem path_all {p : List Stp} {n j : Nat} (hn : n = p.length) (h6 : n ≤ 6) (hj : j ≤ n) (hlt : ¬ j < n) (hp : (p.take j).all stepB = true) : pathB p = true := by
  rw [List.take_of_length_le (by omega)] at hp
  unfold pathB
  rw [hp, ← hn]
  simp [h6]
set_option maxRecDepth 100000 in
set_option maxHeartbeats 4000000 in
theorem pathValid_any (p : List Stp) (w : World) (A : Option Addr) (c : Nat) (h : PLies w w.heap.size A c p) :
    Calls Tryz.prog 16 #[.slice A p.length c] w fun e w' => e = .returned (.bool (pathB p)) ∧ Below w.heap.size w w' := by
  obtain ⟨n, hn⟩ : ∃ n, n = p.length := ⟨_, rfl⟩
  have HN := Lib.hid hn
  have HP := Lib.hid fun W (hW : Below w.heap.size w W) => h.on hW
  have hnl : n ≤ maxLen := by have := h.1; have := h.2.1; omega
  unfold maxLen at hnl
  rw [← hn]
  clear h hn
  by_cases hle : n ≤ 6
  · have hle' : (n : Int) ≤ 6 := by omega
    go_enter Tryz.func16, Tryz.ntmps16
    go_wp2_with fail
    go_loopw [10] (fun iv wr => ∃ j : Nat, iv = .int .i64 j ∧ j ≤ n ∧ Hid (Below w.heap.size w wr ∧ (p.take j).all stepB = true)) (fun iv _ => n - (intOf iv).toNat)
    case atStart => exact ⟨0, rfl, Nat.zero_le _, Lib.hid ⟨Below.refl _ w, by simp⟩⟩
    case round =>
      obtain ⟨j, rfl, hj, hI⟩ := hrel
      by_cases hlt : j < n
      · obtain ⟨s, hs⟩ : ∃ s, p[j]? = some s := ⟨_, List.getElem?_eq_getElem (by rw [← HN.out]; exact hlt)⟩
        obtain ⟨b, o, rfl, hbB, e0, e1, hsz⟩ := (HP.out _ hI.out.1).at_ hs
        have HSJ := Lib.hid hs
        clear hs
        have hjn : (j : Int) < n := by omega
        go_wp2_with fail
        refine (validStep_any s _ hsz).mono ?_
        rintro e w1 ⟨rfl, h1⟩
        have HB1 := Lib.hid (below_on (below_al hI.out.1 (.cells #[.int .i64 s.1, .string s.2] 34)) h1)
        clear h1 e0 e1 hsz
        cases hb : stepB s
        · have HF := Lib.hid (path_stop HSJ.out hb)
          go_wp2_with fail
          go_ret
          exact ⟨by rw [HF.out]; rfl, HB1.out⟩
        · have HT := Lib.hid (path_next HSJ.out hb hI.out.2)
          go_wp2_with fail
          go_roundw
          case rel => exact ⟨j + 1, by go_num, by omega, Lib.hid ⟨HB1.out, HT.out⟩⟩
          case measure => simp [intOf]; omega
      · have hjn : ¬ ((j : Int) < n) := by omega
        have HT := Lib.hid (path_all HN.out hle hj hlt hI.out.2)
        go_wp2_with fail
        go_ret
        exact ⟨by rw [HT.out]; rfl, hI.out.1⟩
  · have hle' : ¬ (n : Int) ≤ 6 := by omega
    have HF := Lib.hid (path_short HN.out hle)
    go_enter Tryz.func16, Tryz.ntmps16
    go_wp2_with fail
    go_ret
    exact ⟨by rw [HF.out]; rfl, Below.refl _ w⟩
/-- The specification's test of a step. -/
theorem step_ref (s : Stp) : stepB s = !(((decide (s.1 < -1) || decide (99 < s.1)) || (decide (0 ≤ s.1) && !decide (s.2 = ⟨#[]⟩))) || !textB s.2.data.toList) := by
  obtain ⟨i, t⟩ := s
  unfold stepB
  simp only
  by_cases hi : i = -1
  · subst hi; simp
  · rw [if_neg hi]
    by_cases h0 : 0 ≤ i
    · by_cases h9 : i ≤ 99
      · by_cases ht : t = ⟨#[]⟩
        · subst ht
          have : textB (⟨#[]⟩ : ByteArray).data.toList = true := by decide
          simp [h0, h9, this]; omega
        · simp [h0, h9, ht]
      · simp [h0, h9]
    · have : i < -1 := by omega
      simp [h0, this]
end Go.Proofs.YtchadlbhdcpojaaGreatDoor
