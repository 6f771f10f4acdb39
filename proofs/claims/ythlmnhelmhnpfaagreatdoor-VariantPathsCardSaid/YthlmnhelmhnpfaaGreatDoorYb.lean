/- A path's text read back, walked: where a step ends, what step a piece is. -/
import Derived.Test.YthlmnhelmhnpfaaGreatDoorYa
import Derived.Test.YthlmnhelmhnpfaaGreatDoorXc
namespace Go.Proofs.YthlmnhelmhnpfaaGreatDoor
open Go.RowKit

theorem endP_nil {q : Bool} : endP q [] = 0 := by rw [endP.eq_def]
theorem endP_34 {q : Bool} {c : UInt8} {r : List UInt8} (h : c = 34) : endP q (c :: r) = 1 + endP (!q) r := by rw [endP_cons, if_pos h]
theorem endP_92 {c : UInt8} {r : List UInt8} (h : c = 92) : endP true (c :: r) = 1 + (min 1 r.length + endP true (r.drop 1)) := by
  rw [endP_cons, if_neg (by rw [h]; decide), if_pos ⟨rfl, h⟩]
  cases r with
  | nil => rw [endP.eq_def]; rfl
  | cons x u => simp; omega
theorem endP_cut {c : UInt8} {r : List UInt8} (h : c = 46 ∨ c = 91) : endP false (c :: r) = 0 := by
  rw [endP_cons, if_neg (by rcases h with rfl | rfl <;> decide), if_neg (by simp), if_pos ⟨rfl, h⟩]
theorem endP_on {q : Bool} {c : UInt8} {r : List UInt8} (h : ¬ c = 34) (h2 : q = true → ¬ c = 92) (h3 : q = false → ¬ (c = 46 ∨ c = 91)) : endP q (c :: r) = 1 + endP q r := by
  rw [endP_cons, if_neg h, if_neg (fun e => h2 e.1 e.2), if_neg (fun e => h3 e.1 e.2)]
/-- Where the look for the step's end stands. -/
def EndAt (s : ByteArray) (q : Bool) (k : Nat) : Prop := min k s.size + endP q (sfx s k) = 1 + endP false (sfx s 1)
theorem EndAt.over {s : ByteArray} {q : Bool} {k : Nat} (h : EndAt s q k) (hk : ¬ k < s.size) : 1 + endP false (sfx s 1) = s.size := by
  unfold EndAt at h
  rw [sfx_nil hk, endP_nil] at h
  omega
theorem EndAt.cut {s : ByteArray} {k : Nat} (h : EndAt s false k) (hk : k < s.size) (hc : s[k] = 46 ∨ s[k] = 91) : 1 + endP false (sfx s 1) = k := by
  unfold EndAt at h
  rw [sfx_cons hk, endP_cut hc] at h
  omega
theorem EndAt.quote {s : ByteArray} {q : Bool} {k : Nat} (h : EndAt s q k) (hk : k < s.size) (hc : s[k] = 34) : EndAt s (!q) (k + 1) := by
  unfold EndAt at h ⊢
  rw [sfx_cons hk, endP_34 hc] at h
  omega
theorem EndAt.esc {s : ByteArray} {k : Nat} (h : EndAt s true k) (hk : k < s.size) (hc : s[k] = 92) : EndAt s true (k + 2) := by
  unfold EndAt at h ⊢
  rw [sfx_cons hk, endP_92 hc, sfx_drop, sfx_length, Nat.min_eq_left (by omega : k ≤ s.size), show k + 1 + 1 = k + 2 from rfl] at h
  by_cases h4 : k + 2 ≤ s.size
  · rw [Nat.min_eq_left h4]
    rw [Nat.min_eq_left (by omega : 1 ≤ s.size - (k + 1))] at h
    omega
  · rw [Nat.min_eq_right (by omega)]
    rw [show s.size - (k + 1) = 0 by omega, Nat.min_zero] at h
    omega
theorem EndAt.next {s : ByteArray} {q : Bool} {k : Nat} (h : EndAt s q k) (hk : k < s.size) (hc : ¬ s[k] = 34) (h2 : q = true → ¬ s[k] = 92) (h3 : q = false → ¬ (s[k] = 46 ∨ s[k] = 91)) : EndAt s q (k + 1) := by
  unfold EndAt at h ⊢
  rw [sfx_cons hk, endP_on hc h2 h3] at h
  omega
theorem byte_is {c d : UInt8} : ((c.toNat : Int) == (d.toNat : Int)) = decide (c = d) := by
  rw [Bool.eq_iff_iff, beq_iff_eq, decide_eq_true_eq]
  exact ⟨fun h => UInt8.toNat_inj.1 (by omega), fun h => by rw [h]⟩
theorem byte_eq {c : UInt8} {n : Int} (d : UInt8) (hd : (d.toNat : Int) = n) (h : c = d) : ((c.toNat : Int) == n) = true := by rw [← hd, byte_is]; simpa using h
theorem byte_no {c : UInt8} {n : Int} (d : UInt8) (hd : (d.toNat : Int) = n) (h : ¬ c = d) : ((c.toNat : Int) == n) = false := by rw [← hd, byte_is]; simpa using h
set_option maxRecDepth 100000 in
set_option maxHeartbeats 4000000 in
theorem stepEnd_any (s : ByteArray) (w : World) (n : Nat) (hn : n = 1 + endP false (sfx s 1)) (h1 : 1 ≤ s.size) (hs : s.size ≤ 1000000) :
    Calls Tryz.prog 65 #[.string s] w fun e w' => e = .returned (.int .i64 n) ∧ w' = w := by
  have HZ := Lib.hid hn
  clear hn
  have HE := Lib.hid (show EndAt s false 1 by unfold EndAt; omega)
  go_enter Tryz.func65, Tryz.ntmps65
  go_wp2_with fail
  go_loop [3, 4] (fun qv iv => ∃ (q : Bool) (k : Nat), qv = .bool q ∧ iv = .int .i64 k ∧ 1 ≤ k ∧ k ≤ s.size + 1 ∧ Hid (EndAt s q k)) (fun _ iv => s.size + 1 - (intOf iv).toNat)
  case atStart => exact ⟨false, 1, rfl, rfl, Nat.le_refl _, by omega, HE⟩
  case round =>
    obtain ⟨q, k, rfl, rfl, hk1, hk2, hI⟩ := hrel
    clear HE
    by_cases hlt : k < s.size
    · by_cases h34 : s[k] = 34
      · have c34 := byte_eq (n := 34) 34 rfl h34
        have HN := Lib.hid (hI.out.quote hlt h34)
        clear h34
        go_wp2_with fail
        go_round
        case rel => exact ⟨!q, k + 1, rfl, by go_num, by omega, by omega, HN⟩
        case measure => simp [intOf]; omega
      · have c34 := byte_no (n := 34) 34 rfl h34
        cases q
        · by_cases h46 : s[k] = 46
          · have c46 := byte_eq (n := 46) 46 rfl h46
            have HN := Lib.hid (hI.out.cut hlt (.inl h46))
            clear h46 h34
            go_wp2_with fail
            go_ret
            exact ⟨by rw [HZ.out.trans HN.out]; rfl, rfl⟩
          · have c46 := byte_no (n := 46) 46 rfl h46
            by_cases h91 : s[k] = 91
            · have c91 := byte_eq (n := 91) 91 rfl h91
              have HN := Lib.hid (hI.out.cut hlt (.inr h91))
              clear h46 h34 h91
              go_wp2_with fail
              go_ret
              exact ⟨by rw [HZ.out.trans HN.out]; rfl, rfl⟩
            · have c91 := byte_no (n := 91) 91 rfl h91
              have HN := Lib.hid (hI.out.next hlt h34 (fun e => by cases e) (fun _ e => e.elim h46 h91))
              clear h46 h34 h91
              go_wp2_with fail
              go_round
              case rel => exact ⟨false, k + 1, rfl, by go_num, by omega, by omega, HN⟩
              case measure => simp [intOf]; omega
        · by_cases h92 : s[k] = 92
          · have c92 := byte_eq (n := 92) 92 rfl h92
            have HN := Lib.hid (hI.out.esc hlt h92)
            clear h92 h34
            go_wp2_with fail
            go_round
            case rel => exact ⟨true, k + 2, rfl, by go_num, by omega, by omega, HN⟩
            case measure => simp [intOf]; omega
          · have c92 := byte_no (n := 92) 92 rfl h92
            have HN := Lib.hid (hI.out.next hlt h34 (fun _ => h92) (fun e => by cases e))
            clear h92 h34
            go_wp2_with fail
            go_round
            case rel => exact ⟨true, k + 1, rfl, by go_num, by omega, by omega, HN⟩
            case measure => simp [intOf]; omega
    · have HN := Lib.hid (hI.out.over hlt)
      go_wp2_with fail
      go_ret
      exact ⟨by rw [HZ.out.trans HN.out]; rfl, rfl⟩
end Go.Proofs.YthlmnhelmhnpfaaGreatDoor
