/- The item of a step: both readings walked. -/
import Derived.Test.YtchadlbhdcpojaaGreatDoorVb
import Derived.Test.YtchadlbhdcpojaaGreatDoorMb
namespace Go.Proofs.YtchadlbhdcpojaaGreatDoor
open Go.RowKit

theorem neT {a b : ByteArray} (h : (a.toList == b.toList) = false) : ¬ a = b := fun e => by rw [e] at h; simp at h
theorem eqT {a b : ByteArray} (h : (a.toList == b.toList) = true) : a = b := by
  rw [beq_iff_eq, ByteArray.toList_eq, ByteArray.toList_eq] at h
  exact ByteArray.ext (Array.ext' h)
set_option maxRecDepth 100000 in
set_option maxHeartbeats 4000000 in
theorem find_any (x : V) (s : Stp) (w : World) (A K : Option Addr) (c d : Nat) (h : Lies w w.heap.size x A c K d) (hr : Rising x.keys) (hk : x.keys.length ≤ 10000) :
    Calls Tryz.prog 27 #[aggOf x A c K d, stepV s] w fun e w' => e = .returned (.tuple #[.int .i64 (findV x s).1, .bool (findV x s).2]) ∧ Below w.heap.size w w' := by
  obtain ⟨i, t⟩ := s
  unfold stepV aggOf
  simp only
  have hlen : x.items.length ≤ maxLen := by have := (lies_items h).1; have := (lies_items h).2.1; omega
  unfold maxLen at hlen
  have HB := Lib.hid (below_al (below_al (Below.refl _ w) (.cells #[.int .i64 x.kind, .int .i64 x.int, .string x.text, .slice A x.items.length c, .slice K x.keys.length d] 27)) (.cells #[.int .i64 i, .string t] 34))
  by_cases h0 : 0 ≤ i
  · have HF := Lib.hid (show findV x (i, t) = (i, decide (x.kind = 4) && decide (i < x.items.length)) by simp [findV, h0])
    clear h hr hk
    by_cases h4 : x.kind = 4
    · have hd : (x.kind == 4) = true := by simp [h4]
      have H4 := Lib.hid h4
      clear h4
      go_enter Tryz.func27, Tryz.ntmps27
      go_wp2_with fail
      go_quiet (fail)
      go_wp2_with fail
      go_ret2
      exact ⟨by rw [HF.out, H4.out]; simp, below_drewN HB.out _⟩
    · have hd : (x.kind == 4) = false := by simp [h4]
      have H4 := Lib.hid h4
      clear h4
      go_enter Tryz.func27, Tryz.ntmps27
      go_wp2_with fail
      go_quiet (fail)
      go_wp2_with fail
      go_ret2
      exact ⟨by rw [HF.out]; simp [H4.out], below_drewN HB.out _⟩
  · have HF := Lib.hid (show findV x (i, t) = (((posK t x.keys : Nat) : Int), hasK t x.keys) by simp [findV, h0])
    have HS := Lib.hid fun W (hW : Below w.heap.size w W) => show Calls Tryz.prog 42 #[.slice K x.keys.length d, .string t] W fun e w' => e = .returned (.tuple #[.int .i64 (posK t x.keys : Nat), .bool (hasK t x.keys)]) ∧ ∃ q, w' = W.drewN q by
      rcases (lies_keys (lies_on h hW)).2.2 with hn | ⟨b, o, rfl, hb, hf⟩
      · rw [hn]; exact search_nil K d t W
      · exact search_at b o _ d x.keys t W rfl hk hr fun j y hj => (hf.at_ hj).1
    clear h hr hk
    go_enter Tryz.func27, Tryz.ntmps27
    go_wp2_with fail
    refine (HS.out _ HB.out).mono ?_
    rintro e w1 ⟨rfl, q, rfl⟩
    go_wp2_with fail
    go_ret2
    exact ⟨by rw [HF.out]; rfl, below_drewN HB.out _⟩
end Go.Proofs.YtchadlbhdcpojaaGreatDoor
