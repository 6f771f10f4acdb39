/- Along a path: what is there; where a look along a path stands. -/
import Derived.Test.YtmhijdpahejaiaaDoorVd
import Derived.Test.YtmhijdpahejaiaaDoorVf
namespace Go.Proofs.YtmhijdpahejaiaaDoor
open Go.RowKit

/-- Where a look along a path stands: the box of the part, the box of what is answered. -/
structure GS (w : World) (B : Nat) (x : V) (p : List Stp) (j : Nat) (y : V) (A : Option Addr) (c : Nat) (K : Option Addr) (d : Nat) (W : World) : Prop where
  old : Below w.heap.size w W
  bv : BlockIs W w.heap.size 25 #[.int .i64 y.kind, .int .i64 y.int, .string y.text, .slice A y.items.length c, .slice K y.keys.length d]
  br : BlockIs W (w.heap.size + 1) 25 zeroF
  lies : Lies W B y A c K d
  le : B ≤ w.heap.size
  ok : y.ok = true ∧ y.nodes ≤ 60
  at_ : atV y (p.drop j) = atV x p
section
variable {w W W' : World} {B : Nat} {x y z : V} {p : List Stp} {j : Nat} {s : Stp} {A K A' K' : Option Addr} {c d c' d' : Nat}
theorem GS.start (hB : B ≤ w.heap.size) (h : Lies w B x A c K d) (hok : x.ok = true) (hn : x.nodes ≤ 60) (p : List Stp) :
    GS w B x p 0 x A c K d ((w.alloc (.cells #[.int .i64 x.kind, .int .i64 x.int, .string x.text, .slice A x.items.length c, .slice K x.keys.length d] 25)).alloc (.cells zeroF 25)) := by
  have hb := below_al (below_al (Below.refl _ w) (.cells #[.int .i64 x.kind, .int .i64 x.int, .string x.text, .slice A x.items.length c, .slice K x.keys.length d] 25)) (.cells zeroF 25)
  exact ⟨hb, (BlockIs.new w _ _).alloc _, BlockIs.newAt _ _ _ (by simp), Lies.keep (fun b o hb' => bcell hb b o (by omega)) (Nat.le_refl _) _ h, hB, ⟨hok, hn⟩, rfl⟩
theorem GS.below (h : GS w B x p j y A c K d W) (hb : Below W.heap.size W W') : GS w B x p j y A c K d W' := by
  obtain ⟨h1, h2, h3, h4, hle, h5, h6⟩ := h
  have hz := h1.size
  exact ⟨below_on h1 hb, h2.below hb h2.lt, h3.below hb h3.lt, Lies.keep (fun b o hb' => bcell hb b o (by omega)) (Nat.le_refl _) _ h4, hle, h5, h6⟩
theorem GS.next (h : GS w B x p j y A c K d W) (hs : p[j]? = some s) (hi : itemV y s = some z) (hz : Lies W B z A' c' K' d') :
    GS w B x p (j + 1) z A' c' K' d' (put5 W w.heap.size 0 (.int .i64 z.kind) (.int .i64 z.int) (.string z.text) (.slice A' z.items.length c') (.slice K' z.keys.length d')) := by
  obtain ⟨h1, h2, h3, h4, hle, h5, h6⟩ := h
  have hm := item_mem hi
  refine ⟨((((h1.setCell (by simp) _).setCell (by simp) _).setCell (by simp) _).setCell (by simp) _).setCell (by simp) _, ?_, (put5_heap W w.heap.size 0 _ _ _ _ _ (by omega)).trans h3,
    Lies.keep (fun b o hb => World.cell?_of_block (put5_heap W w.heap.size 0 _ _ _ _ _ (show b ≠ w.heap.size by omega))) (Nat.le_refl _) _ hz, hle, ⟨okItems h5.1 z hm, ?_⟩, ?_⟩
  · have := ((((h2.set_ 0 (.int .i64 z.kind)).set_ 1 (.int .i64 z.int)).set_ 2 (.string z.text)).set_ 3 (.slice A' z.items.length c')).set_ 4 (.slice K' z.keys.length d')
    simpa [put5] using this
  · have := V.nodes_mem hm; have := nodes_items y; omega
  · rw [at_step hs, hi] at h6; exact h6
theorem GS.none (h : GS w B x p j y A c K d W) (hs : p[j]? = some s) (hi : itemV y s = none) : atV x p = none := by
  have := h.at_
  rw [at_step hs, hi] at this
  exact this.symm
theorem GS.over (h : GS w B x p j y A c K d W) {n : Nat} (hn : n = p.length) (hj : ¬ j < n) : atV x p = some y := h.at_.symm.trans (at_end hn hj)
end
/-- What both say of a path. -/
def getV (x : V) (p : List Stp) : V × Bool × Int := if (x.valid && pathB p) = true then (match atV x p with | none => (leaf 0 0 ⟨#[]⟩, false, 0) | some y => (y, true, 0)) else (leaf 0 0 ⟨#[]⟩, false, 1)
def GetPost (x : V) (p : List Stp) (w : World) (e : Ending) (w' : World) : Prop :=
  ∃ A c K d, e = .returned (.tuple #[aggOf (getV x p).1 A c K d, .bool (getV x p).2.1, .int .i64 (getV x p).2.2]) ∧ Lies w' w'.heap.size (getV x p).1 A c K d ∧ Below w.heap.size w w'
end Go.Proofs.YtmhijdpahejaiaaDoor
