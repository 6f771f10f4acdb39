/- Get, as the program and as the specification say it, walked. -/
import Derived.Test.YthlmnhelmhnpfaaGreatDoorVg
import Derived.Deep.RegionWith
import Derived.Deep.RegionHeld3
import Derived.Deep.DrawnRows
namespace Go.Proofs.YthlmnhelmhnpfaaGreatDoor
open Go.RowKit

theorem sets5 {w1 : World} {g : Nat} {t : TypeId} {a b c d e u0 u1 u2 u3 u4 : Value} (h : BlockIs w1 g t #[a, b, c, d, e]) : BlockIs (((((w1.setCell ⟨g, 0, none⟩ u0).setCell ⟨g, 1, none⟩ u1).setCell ⟨g, 2, none⟩ u2).setCell ⟨g, 3, none⟩ u3).setCell ⟨g, 4, none⟩ u4) g t #[u0, u1, u2, u3, u4] := by
  have := ((((h.set_ 0 u0).set_ 1 u1).set_ 2 u2).set_ 3 u3).set_ 4 u4
  simpa using this
theorem keepD {w0 wx w1 : World} (h : Hid (Below w0.heap.size w0 wx)) (hb : Below wx.heap.size wx w1) : Below w0.heap.size w0 w1 := h.out.trans (hb.mono h.out.size)
theorem keepS {n g : Nat} {w0 wx : World} {u0 u1 u2 u3 u4 : Value} (h : Hid (Below n w0 wx)) (hg : n ≤ g) : Below n w0 (((((wx.setCell ⟨g, 0, none⟩ u0).setCell ⟨g, 1, none⟩ u1).setCell ⟨g, 2, none⟩ u2).setCell ⟨g, 3, none⟩ u3).setCell ⟨g, 4, none⟩ u4) :=
  ((((h.out.setCell hg _).setCell hg _).setCell hg _).setCell hg _).setCell hg _
section
variable {w W : World} {B : Nat} {x y : V} {p : List Stp} {j : Nat} {A K : Option Addr} {c d : Nat} {u0 u1 u2 u3 u4 : Value}
theorem GS.ends (h : GS w B x p j y A c K d W) : Below w.heap.size w (put5 W (w.heap.size + 1) 0 u0 u1 u2 u3 u4) :=
  ((((h.old.setCell (by simp) _).setCell (by simp) _).setCell (by simp) _).setCell (by simp) _).setCell (by simp) _
theorem gs_facts (h : GS w B x p j y A c K d W) : ((W.cell? ⟨w.heap.size, 0, none⟩ = some (.int .i64 y.kind) ∧ W.cell? ⟨w.heap.size, 1, none⟩ = some (.int .i64 y.int) ∧ W.cell? ⟨w.heap.size, 2, none⟩ = some (.string y.text) ∧ W.cell? ⟨w.heap.size, 3, none⟩ = some (.slice A y.items.length c) ∧ W.cell? ⟨w.heap.size, 4, none⟩ = some (.slice K y.keys.length d)) ∧
    (W.cell? ⟨w.heap.size + 1, 0, none⟩ = some (.int .i64 0) ∧ W.cell? ⟨w.heap.size + 1, 1, none⟩ = some (.int .i64 0) ∧ W.cell? ⟨w.heap.size + 1, 2, none⟩ = some (.string ⟨#[]⟩) ∧ W.cell? ⟨w.heap.size + 1, 3, none⟩ = some (.slice none 0 0) ∧ W.cell? ⟨w.heap.size + 1, 4, none⟩ = some (.slice none 0 0))) ∧
    ((W.frozen? ⟨w.heap.size, 0, none⟩ = false ∧ W.frozen? ⟨w.heap.size, 1, none⟩ = false ∧ W.frozen? ⟨w.heap.size, 2, none⟩ = false ∧ W.frozen? ⟨w.heap.size, 3, none⟩ = false ∧ W.frozen? ⟨w.heap.size, 4, none⟩ = false) ∧
    (W.frozen? ⟨w.heap.size + 1, 0, none⟩ = false ∧ W.frozen? ⟨w.heap.size + 1, 1, none⟩ = false ∧ W.frozen? ⟨w.heap.size + 1, 2, none⟩ = false ∧ W.frozen? ⟨w.heap.size + 1, 3, none⟩ = false ∧ W.frozen? ⟨w.heap.size + 1, 4, none⟩ = false)) ∧ w.heap.size < W.heap.size ∧ w.heap.size + 1 < W.heap.size :=
  ⟨⟨five_of h.bv, five_of (show BlockIs W (w.heap.size + 1) 38 #[.int .i64 0, .int .i64 0, .string ⟨#[]⟩, .slice none 0 0, .slice none 0 0] from h.br)⟩, ⟨⟨h.bv.frozen 0, h.bv.frozen 1, h.bv.frozen 2, h.bv.frozen 3, h.bv.frozen 4⟩, h.br.frozen 0, h.br.frozen 1, h.br.frozen 2, h.br.frozen 3, h.br.frozen 4⟩, h.bv.lt, h.br.lt⟩
theorem GS.boxed {wr w1 : World} (h : GS w B x p j y A c K d wr) (hb : Below wr.heap.size wr w1) : GS w B x p j y A c K d (put5 w1 wr.heap.size 0 u0 u1 u2 u3 u4) :=
  h.below (((((hb.setCell (Nat.le_refl _) _).setCell (Nat.le_refl _) _).setCell (Nat.le_refl _) _).setCell (Nat.le_refl _) _).setCell (Nat.le_refl _) _)
theorem GS.there (h : GS w B x p j y A c K d W) : Lies (put5 W (w.heap.size + 1) 0 u0 u1 u2 u3 u4) B y A c K d :=
  Lies.keep (fun b o hb => World.cell?_of_block (put5_heap W (w.heap.size + 1) 0 _ _ _ _ _ (show b ≠ w.heap.size + 1 by have := h.le; omega))) (Nat.le_refl _) _ h.lies
end

attribute [local go_sem ↓] Go.wp_at_zero Go.wp_at_succ
end Go.Proofs.YthlmnhelmhnpfaaGreatDoor
