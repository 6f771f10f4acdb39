/- The specification's comparison of a path with itself, walked. -/
import Derived.Test.YthlmnhelmhnpfaaGreatDoorYh
import Derived.Deep.RegionWith
namespace Go.Proofs.YthlmnhelmhnpfaaGreatDoor
open Go.RowKit

set_option maxRecDepth 100000 in
set_option maxHeartbeats 4000000 in
theorem refCompare_same (p : List Stp) (w : World) (A A' : Option Addr) (c c' : Nat) (hp : PLies w w.heap.size A c p) (hq : PLies w w.heap.size A' c' p) :
    Calls Tryz.prog 16 #[.slice A p.length c, .slice A' p.length c'] w fun e w' => e = .returned (.int .i64 0) ∧ Below w.heap.size w w' := by
  obtain ⟨n, hn⟩ : ∃ n, n = p.length := ⟨_, rfl⟩
  have HN := Lib.hid hn
  have HP := Lib.hid fun W (hW : Below w.heap.size w W) => hp.on hW
  have HQ := Lib.hid fun W (hW : Below w.heap.size w W) => hq.on hW
  have hnl : n ≤ maxLen := by have := hp.1; have := hp.2.1; omega
  unfold maxLen at hnl
  rw [← hn]
  clear hp hq hn
  go_enter Tryz.func16, Tryz.ntmps16
  go_wp2_with fail
  go_loopw [5] (fun iv wr => ∃ j : Nat, iv = .int .i64 j ∧ j ≤ n ∧ Hid (Below w.heap.size w wr)) (fun iv _ => n - (intOf iv).toNat)
  case atStart => exact ⟨0, rfl, Nat.zero_le _, Lib.hid (Below.refl _ w)⟩
  case round =>
    obtain ⟨j, rfl, hj1, hI⟩ := hrel
    by_cases hlt : j < n
    · obtain ⟨a, ha⟩ : ∃ a, p[j]? = some a := ⟨_, List.getElem?_eq_getElem (by rw [← HN.out]; exact hlt)⟩
      obtain ⟨ba, oa, rfl, hbA, a0, a1, -⟩ := (HP.out _ hI.out).at_ ha
      obtain ⟨bb, ob, rfl, hbB, b0, b1, -⟩ := (HQ.out _ hI.out).at_ ha
      have hji : (j : Int) < n := by omega
      have hj0 : 0 ≤ (j : Int) := by omega
      obtain ⟨i, t⟩ := a
      clear ha
      simp only at a0 a1 b0 b1
      have n1 := World.new_ne wr _ a0
      have n2 := World.new_ne wr _ b0
      go_wp2_with fail
      go_region_held3 (fun w' => w'.cell? ⟨ba, oa + j * 2, none⟩ = some (.int .i64 i) ∧ w'.cell? ⟨ba, oa + j * 2 + 1, none⟩ = some (.string t) ∧ w'.cell? ⟨bb, ob + j * 2, none⟩ = some (.int .i64 i) ∧ w'.cell? ⟨bb, ob + j * 2 + 1, none⟩ = some (.string t))
        (go_keep)
        (fail)
      all_goals
        clear n1 n2 a0 a1 b0 b1
        go_wp2_with fail
        go_roundw
        case rel => exact ⟨j + 1, by go_num, by omega, Lib.hid (by repeat (first | with_reducible exact hI.out.drew | with_reducible exact hI.out | with_reducible refine below_al ?_ _ | with_reducible refine Below.drew ?_))⟩
        case measure => simp [intOf]; omega
    · have hji : ¬ (j : Int) < n := by omega
      go_wp2_with fail
      go_ret
      exact ⟨rfl, hI.out⟩
end Go.Proofs.YthlmnhelmhnpfaaGreatDoor
