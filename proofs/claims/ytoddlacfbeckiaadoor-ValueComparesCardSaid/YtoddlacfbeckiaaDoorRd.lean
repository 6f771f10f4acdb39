/- The definitions' Size. -/
import Derived.Test.YtoddlacfbeckiaaDoorRc
import Derived.Test.YtoddlacfbeckiaaDoorWe
namespace Go.Proofs.YtoddlacfbeckiaaDoor
open Go.RowKit

/-- The five cells of a boxed value, and all that was there: kept by a call that keeps all. -/
theorem keep6 {w wx w1 : World} {n : Nat} {v0 v1 v2 v3 v4 : Value}
    (h : (n + 1 ≤ wx.heap.size ∧ Hid (Below n w wx)) ∧ wx.cell? ⟨n, 0, none⟩ = some v0 ∧ wx.cell? ⟨n, 1, none⟩ = some v1 ∧ wx.cell? ⟨n, 2, none⟩ = some v2 ∧ wx.cell? ⟨n, 3, none⟩ = some v3 ∧ wx.cell? ⟨n, 4, none⟩ = some v4)
    (hb : Below wx.heap.size wx w1) :
    (n + 1 ≤ w1.heap.size ∧ Hid (Below n w w1)) ∧ w1.cell? ⟨n, 0, none⟩ = some v0 ∧ w1.cell? ⟨n, 1, none⟩ = some v1 ∧ w1.cell? ⟨n, 2, none⟩ = some v2 ∧ w1.cell? ⟨n, 3, none⟩ = some v3 ∧ w1.cell? ⟨n, 4, none⟩ = some v4 := by
  obtain ⟨⟨h1, h2⟩, c0, c1, c2, c3, c4⟩ := h
  have hk := bcell hb
  exact ⟨⟨Nat.le_trans h1 hb.size, h2.out.trans (hb.mono (by omega))⟩, (hk _ _ h1).trans c0, (hk _ _ h1).trans c1, (hk _ _ h1).trans c2, (hk _ _ h1).trans c3, (hk _ _ h1).trans c4⟩

set_option maxRecDepth 100000 in
set_option maxHeartbeats 1000000 in
theorem refSize_any (x : V) (w : World) (A K : Option Addr) (c d : Nat) (h : Lies w w.heap.size x A c K d) :
    Calls Tryd.prog 13 #[.agg #[.int .i64 x.kind, .int .i64 x.int, .string x.text, .slice A x.items.length c, .slice K x.keys.length d]] w (SizePost x w) := by
  have HV := Lib.hid fun W (hW : Below w.heap.size w W) => refValid_any x W A K c d (Lies.keep (bcell hW) hW.size _ h)
  cases hv : x.valid
  · rw [hv] at HV
    have HX := Lib.hid hv
    clear hv
    go_enter Tryd.func13, Tryd.ntmps13
    go_wp2_with fail
    refine (HV.out _ ((Below.refl _ _).alloc (Nat.le_refl _) _)).mono ?_
    rintro e w' ⟨rfl, hb⟩
    go_wp2_with fail
    go_ret3
    go_light
    exact ⟨by rw [HX.out]; rfl, ((Below.refl _ _).alloc (Nat.le_refl _) _).trans (hb.mono (by simp))⟩
  · have hn60 : x.nodes ≤ 60 := by unfold V.valid V.fits at hv; simp at hv; omega
    have HN := Lib.hid fun W (hW : Below w.heap.size w W) => nodes_any x.nodes x W A K c d 6 (Nat.le_refl _) (Lies.keep (bcell hW) hW.size _ h) (by omega) 6 rfl
    have HD := Lib.hid fun W (hW : Below w.heap.size w W) => depth_any x.nodes x W A K c d (Nat.le_refl _) hn60 (Lies.keep (bcell hW) hW.size _ h)
    have HR := Lib.hid (show nodesR x 6 = x.nodes by unfold nodesR; rw [show x.fits 60 6 = true from hv]; rfl)
    unfold NodesPost at HN
    rw [HR.out] at HN
    rw [hv] at HV
    have HX := Lib.hid hv
    clear hv
    go_enter Tryd.func13, Tryd.ntmps13
    go_wp2_with fail
    refine (HV.out _ ((Below.refl _ _).alloc (Nat.le_refl _) _)).mono ?_
    rintro e w' ⟨rfl, hb⟩
    have hz := hb.size
    simp only [World.size_alloc] at hz
    have hb0 : Below w.heap.size w w' := ((Below.refl _ _).alloc (Nat.le_refl _) _).trans (hb.mono (by simp))
    have HB0 := Lib.hid hb0
    have hc := bcell hb
    have q0 : w'.cell? ⟨w.heap.size, 0, none⟩ = some (.int .i64 x.kind) := (hc w.heap.size 0 (by simp)).trans (by simp [go_sem])
    have q1 : w'.cell? ⟨w.heap.size, 1, none⟩ = some (.int .i64 x.int) := (hc w.heap.size 1 (by simp)).trans (by simp [go_sem])
    have q2 : w'.cell? ⟨w.heap.size, 2, none⟩ = some (.string x.text) := (hc w.heap.size 2 (by simp)).trans (by simp [go_sem])
    have q3 : w'.cell? ⟨w.heap.size, 3, none⟩ = some (.slice A x.items.length c) := (hc w.heap.size 3 (by simp)).trans (by simp [go_sem])
    have q4 : w'.cell? ⟨w.heap.size, 4, none⟩ = some (.slice K x.keys.length d) := (hc w.heap.size 4 (by simp)).trans (by simp [go_sem])
    clear hb hc hb0
    go_wp2_with fail
    go_region_held3 (fun W => (w.heap.size + 1 ≤ W.heap.size ∧ Hid (Below w.heap.size w W)) ∧ W.cell? ⟨w.heap.size, 0, none⟩ = some (.int .i64 x.kind) ∧ W.cell? ⟨w.heap.size, 1, none⟩ = some (.int .i64 x.int) ∧ W.cell? ⟨w.heap.size, 2, none⟩ = some (.string x.text) ∧ W.cell? ⟨w.heap.size, 3, none⟩ = some (.slice A x.items.length c) ∧ W.cell? ⟨w.heap.size, 4, none⟩ = some (.slice K x.keys.length d))
      (first
        | (exact ⟨⟨hz, Lib.hid (Below.drew HB0.out)⟩, q0, q1, q2, q3, q4⟩)
        | (exact keep6 (by assumption) hb1))
      (first
        | (go_at_call 36; refine (HN.out _ ?_).mono ?_; (go_split_ands; exact Hid.out (by assumption)); rintro e w1 ⟨rfl, hb1⟩)
        | (go_at_call 37; refine (HD.out _ ?_).mono ?_; (go_split_ands; exact Hid.out (by assumption)); rintro e w1 ⟨rfl, hb1⟩))
    all_goals go_wp2_with fail
    all_goals go_ret3
    all_goals go_light
    all_goals go_split_ands
    all_goals exact ⟨by rw [HX.out]; rfl, Hid.out (by assumption)⟩
end Go.Proofs.YtoddlacfbeckiaaDoor
