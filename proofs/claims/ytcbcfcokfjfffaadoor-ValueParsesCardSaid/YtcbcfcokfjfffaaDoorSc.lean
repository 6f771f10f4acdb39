/- The specification's reader: a key among keys. -/
import Derived.Test.YtcbcfcokfjfffaaDoorRy
namespace Go.Proofs.YtcbcfcokfjfffaaDoor
open Go.RowKit

theorem hasK_no {key : ByteArray} {ks : List ByteArray} (h : ∀ t, t < ks.length → ks[t]? ≠ some key) : hasK key ks = false := by
  cases e : hasK key ks
  · rfl
  · obtain ⟨t, ht, he⟩ := List.getElem_of_mem ((hasK_iff key ks).1 e)
    exact absurd (by rw [List.getElem?_eq_getElem ht, he]) (h t ht)
theorem hasK_yes {key : ByteArray} {ks : List ByteArray} {t : Nat} (h : ks[t]? = some key) : hasK key ks = true := (hasK_iff key ks).2 (List.mem_of_getElem? h)

set_option maxRecDepth 100000 in
set_option maxHeartbeats 4000000 in
theorem has_any (ks : List ByteArray) (K : Option Addr) (d : Nat) (key : ByteArray) (w : World) (hl : ks.length ≤ 1000000)
    (hK : ks = [] ∨ ∃ b o, K = some ⟨b, o, none⟩ ∧ ∀ j v, ks[j]? = some v → w.cell? ⟨b, o + j, none⟩ = some (.string v)) :
    Calls Tryd.prog 113 #[.slice K ks.length d, .string key] w fun e w' => e = .returned (.bool (hasK key ks)) ∧ ∃ q, w' = w.drewN q := by
  obtain ⟨n, hn⟩ : ∃ n, n = ks.length := ⟨_, rfl⟩
  have HN := Lib.hid hn
  have HK := Lib.hid hK
  rw [← hn] at hl ⊢
  clear hn hK
  go_enter Tryd.func113, Tryd.ntmps113
  go_wp2_with fail
  go_loopw [5] (fun iv wr => ∃ j : Nat, iv = .int .i64 j ∧ j ≤ n ∧ Hid ((∃ q, wr = w.drewN q) ∧ ∀ t, t < j → ks[t]? ≠ some key)) (fun iv _ => n - (intOf iv).toNat)
  case atStart => exact ⟨0, rfl, Nat.zero_le _, Lib.hid ⟨⟨0, rfl⟩, fun t ht => absurd ht (Nat.not_lt_zero t)⟩⟩
  case round =>
    obtain ⟨j, rfl, hj, hI⟩ := hrel
    obtain ⟨⟨q, rfl⟩, hno⟩ := hI.out
    have HNO := Lib.hid hno
    clear hno hI
    by_cases hlt : j < n
    · have hj2 : j < ks.length := by rw [← HN.out]; exact hlt
      obtain ⟨kk, hkk⟩ : ∃ kk, ks[j]? = some kk := ⟨_, List.getElem?_eq_getElem hj2⟩
      obtain ⟨b, o, rfl, hc⟩ : ∃ b o, K = some ⟨b, o, none⟩ ∧ ∀ j v, ks[j]? = some v → w.cell? ⟨b, o + j, none⟩ = some (.string v) := by
        rcases HK.out with rfl | h
        · simp at hj2
        · exact h
      have hv : (w.drewN q).cell? ⟨b, o + j, none⟩ = some (.string kk) := hc j kk hkk
      have h0 : 0 ≤ (j : Int) := by omega
      have hjn : (j : Int) < n := by omega
      have HC := Lib.hid hkk
      clear hkk hc hj2
      cases hkeq : (kk.toList == key.toList)
      · have HKQ : Hid (¬ kk = key) := Lib.hid (fun e => by rw [e] at hkeq; simp at hkeq)
        go_wp2_with fail
        go_roundw
        case rel =>
          refine ⟨j + 1, by go_num, by omega, Lib.hid ⟨⟨q, rfl⟩, fun t ht => ?_⟩⟩
          by_cases e : t = j
          · rw [e, HC.out]; exact fun e => HKQ.out (Option.some.inj e)
          · exact HNO.out t (by omega)
        case measure => simp [intOf]; omega
      · have HKQ : Hid (kk = key) := Lib.hid (by
          rw [beq_iff_eq, ByteArray.toList_eq, ByteArray.toList_eq] at hkeq
          exact ByteArray.ext (Array.ext' hkeq))
        go_wp2_with fail
        refine bodyPost_ret (v := .bool true) (by simp [results, Tryd.results113, go_sem]) rfl ⟨?_, q, rfl⟩
        rw [hasK_yes (by rw [HC.out, HKQ.out])]
    · have hjn : ¬ ((j : Int) < n) := by omega
      have HF := Lib.hid (hasK_no (key := key) (ks := ks) (fun t ht => HNO.out t (by have := HN.out; omega)))
      go_wp2_with fail
      refine bodyPost_ret (v := .bool false) (by simp [results, Tryd.results113, go_sem]) rfl ⟨by rw [HF.out], q, rfl⟩
end Go.Proofs.YtcbcfcokfjfffaaDoor
