/- The definitions' Valid, depth, Size. -/
import Derived.Test.YtoddlacfbeckiaaDoorRb
import Derived.Deep.RegionHeld3
namespace Go.Proofs.YtoddlacfbeckiaaDoor
open Go.RowKit

theorem nodesR_valid (x : V) : (nodesR x 6 ≤ 60) ↔ x.valid = true := by
  unfold nodesR V.valid
  split
  · rename_i h
    have := h
    unfold V.fits at this
    simp at this
    simp [h]; omega
  · rename_i h; simp [h]

set_option maxHeartbeats 1000000 in
theorem refValid_any (x : V) (w : World) (A K : Option Addr) (c d : Nat) (h : Lies w w.heap.size x A c K d) :
    Calls Tryd.prog 17 #[.agg #[.int .i64 x.kind, .int .i64 x.int, .string x.text, .slice A x.items.length c, .slice K x.keys.length d]] w fun e w' => e = .returned (.bool x.valid) ∧ Below w.heap.size w w' := by
  have HS := Lib.hid fun W (hW : Below w.heap.size w W) => nodes_any x.nodes x W A K c d 6 (Nat.le_refl _) (Lies.keep (bcell hW) hW.size _ h) (by omega) 6 rfl
  go_enter Tryd.func17, Tryd.ntmps17
  go_wp2_with fail
  refine (HS.out _ ((Below.refl _ _).alloc (Nat.le_refl _) _)).mono ?_
  rintro e w' ⟨rfl, hb⟩
  go_wp2_with fail
  go_ret
  go_light
  refine ⟨ret_bool ?_, ((Below.refl _ _).alloc (Nat.le_refl _) _).trans (hb.mono (by simp))⟩
  have := nodesR_valid x
  cases hv : x.valid
  · rw [hv] at this; simp at this; simp; omega
  · rw [hv] at this; simp at this; simp; omega

/-- What the walk says of maxima. -/
theorem max_int (a b : Nat) : (if (a : Int) < (b : Int) then (b : Int) else (a : Int)) = ((max a b : Nat) : Int) := by split <;> omega

set_option maxRecDepth 100000 in
set_option maxHeartbeats 1000000 in
theorem depth_any (N : Nat) : ∀ (x : V) (w : World) (A K : Option Addr) (c d : Nat), x.nodes ≤ N → N ≤ 60 → Lies w w.heap.size x A c K d →
    Calls Tryd.prog 37 #[.agg #[.int .i64 x.kind, .int .i64 x.int, .string x.text, .slice A x.items.length c, .slice K x.keys.length d]] w fun e w' => e = .returned (.int .i64 x.depth) ∧ Below w.heap.size w w' := by
  induction N with
  | zero => intro x w A K c d hx; have := x.nodes_pos; omega
  | succ N ih =>
    intro x w A K c d hx hN hlies
    obtain ⟨k, i, t, items, keys⟩ := x
    simp only [V.kind, V.int, V.text, V.items, V.keys]
    rw [V.nodes] at hx
    rw [V.depth]
    obtain ⟨n, hn⟩ : ∃ n, n = items.length := ⟨_, rfl⟩
    have hn60 : n ≤ 60 := by have := V.length_le items; omega
    have HN := Lib.hid hn
    rw [← hn]
    clear hn
    have HL := Lib.hid hlies
    clear hlies
    go_enter Tryd.func37, Tryd.ntmps37
    go_wp2_with fail
    have H0 := Lib.hid (Below.refl (w.heap.size + 1) (w.alloc (.cells #[.int .i64 k, .int .i64 i, .string t, .slice A n c, .slice K keys.length d] 25)))
    go_loopw [3, 4] (fun a j wr => ∃ k' p : Nat, k' ≤ n ∧ j = .int .i64 k' ∧ a = .int .i64 p ∧ Hid (p = V.depthL (items.take k')) ∧ p ≤ 60 ∧ Hid (Below (w.heap.size + 1) (w.alloc (.cells #[.int .i64 k, .int .i64 i, .string t, .slice A n c, .slice K keys.length d] 25)) wr)) (fun _ j _ => n - (intOf j).toNat)
    case atStart => exact ⟨0, 0, Nat.zero_le _, rfl, rfl, Lib.hid (by simp [V.depthL]), by omega, H0⟩
    case round =>
      obtain ⟨k', p, hk, rfl, rfl, HA, hp, HW⟩ := hrel
      have hc := bcell HW.out
      have hbox : wr.cell? ⟨w.heap.size, 3, none⟩ = some (.slice A n c) := (hc w.heap.size 3 (by omega)).trans (by simp [go_sem])
      by_cases hlt : k' < n
      · have hlt' : k' < items.length := by rw [← HN.out]; exact hlt
        have hkr := HL.out.items.keep (w' := wr) (B' := wr.heap.size) (fun b o hb => (hc b o (by omega)).trans (World.cell?_alloc_lt _ _ _ hb)) (by have := HW.out.size; simp at this; omega)
        obtain ⟨b, o, rfl, hbB, hfrom⟩ := hkr.at_ (k := k') hlt'
        obtain ⟨y, hy⟩ : ∃ y, items[k']? = some y := ⟨_, List.getElem?_eq_getElem hlt'⟩
        obtain ⟨Ay, cy, Ky, dy, e0, e1, e2, e3, e4, hly⟩ := hfrom.at_ hy
        have hyn : y.nodes ≤ N := by have := V.nodes_mem (List.mem_of_getElem? hy); omega
        have IH0 := ih y wr Ay Ky cy dy hyn (by omega) hly
        have hyd : y.depth ≤ 60 := by have := V.depth_le_nodes y; omega
        obtain ⟨r, hr⟩ : ∃ r, r = y.depth := ⟨_, rfl⟩
        rw [← hr] at IH0 hyd
        have HR := Lib.hid hr
        have IH := Lib.hid IH0
        have HY := Lib.hid hy
        clear hc hlt' hkr hfrom hy hly hyn IH0 hr
        have hz := HW.out.size
        simp only [World.size_alloc] at hz
        by_cases hm : p < r
        all_goals go_wp2_with fail
        all_goals refine IH.out.mono ?_
        all_goals rintro e w1 ⟨rfl, hb1⟩
        all_goals have HB := Lib.hid hb1
        all_goals clear hb1
        all_goals go_wp2_with fail
        · go_roundw
          case rel => exact ⟨k' + 1, r, by omega, by go_num, rfl, Lib.hid (by rw [V.depthL_take_succ HY.out, ← HA.out, ← HR.out]; omega), hyd, Lib.hid (HW.out.trans (HB.out.mono (by omega)))⟩
          case measure => simp [intOf]; omega
        · go_roundw
          case rel => exact ⟨k' + 1, p, by omega, by go_num, rfl, Lib.hid (by rw [V.depthL_take_succ HY.out, ← HA.out, ← HR.out]; omega), hp, Lib.hid (HW.out.trans (HB.out.mono (by omega)))⟩
          case measure => simp [intOf]; omega
      · clear hc
        go_wp2_with fail
        go_ret
        go_light
        exact ⟨ret_int (by have h := HA.out; rw [List.take_of_length_le (by have := HN.out; omega)] at h; rw [← h]; omega), ((Below.refl _ _).alloc (Nat.le_refl _) _).trans (HW.out.mono (by omega))⟩
end Go.Proofs.YtoddlacfbeckiaaDoor
