/- Boxes of values; whether a value is valid, two values the same. -/
import Derived.Test.YtchadlbhdcpojaaGreatDoorXd
import Derived.Test.YtchadlbhdcpojaaGreatDoorZc
import Derived.Test.YtchadlbhdcpojaaGreatDoorPv
namespace Go.Proofs.YtchadlbhdcpojaaGreatDoor
open Go.RowKit

theorem box5 {w : World} {g : Nat} {t : TypeId} {a b c d e : Value} (h : BlockIs w g t #[a, b, c, d, e]) : w.cell? ⟨g, 0, none⟩ = some a ∧ w.cell? ⟨g, 1, none⟩ = some b ∧ w.cell? ⟨g, 2, none⟩ = some c ∧ w.cell? ⟨g, 3, none⟩ = some d ∧ w.cell? ⟨g, 4, none⟩ = some e :=
  ⟨h.cell 0, h.cell 1, h.cell 2, h.cell 3, h.cell 4⟩
/-- A value in a box of its own. -/
def Boxed (w : World) (g : Nat) (x : V) (A : Option Addr) (c : Nat) (K : Option Addr) (d : Nat) : Prop := BlockIs w g 27 #[.int .i64 x.kind, .int .i64 x.int, .string x.text, .slice A x.items.length c, .slice K x.keys.length d]
theorem Boxed.cells {w : World} {g : Nat} {x : V} {A K : Option Addr} {c d : Nat} (h : Boxed w g x A c K d) : w.cell? ⟨g, 0, none⟩ = some (.int .i64 x.kind) ∧ w.cell? ⟨g, 1, none⟩ = some (.int .i64 x.int) ∧ w.cell? ⟨g, 2, none⟩ = some (.string x.text) ∧ w.cell? ⟨g, 3, none⟩ = some (.slice A x.items.length c) ∧ w.cell? ⟨g, 4, none⟩ = some (.slice K x.keys.length d) := box5 h
theorem Boxed.lt {w : World} {g : Nat} {x : V} {A K : Option Addr} {c d : Nat} (h : Boxed w g x A c K d) : g < w.heap.size := BlockIs.lt h
theorem Boxed.on {w w' : World} {g : Nat} {x : V} {A K : Option Addr} {c d : Nat} (h : Boxed w g x A c K d) (hb : Below w.heap.size w w') : Boxed w' g x A c K d := BlockIs.below h hb (BlockIs.lt h)
theorem text_valid (x : V) (w : World) (A K : Option Addr) (c d : Nat) (h : Lies w w.heap.size x A c K d) (hp : Pow w) (hx : x.valid = true) :
    Calls Tryz.prog 45 #[aggOf x A c K d] w fun e w' => e = .returned (.tuple #[.string ⟨x.write.toArray⟩, .int .i64 0]) ∧ Below w.heap.size w w' := by
  refine (text_any x w A K c d h hp).mono ?_
  rintro e w' ⟨he, hb⟩
  rw [hx] at he
  exact ⟨he, hb⟩
theorem same_is (x y : V) (w : World) (A K : Option Addr) (c d : Nat) (A' K' : Option Addr) (c' d' : Nat) (h : Lies w w.heap.size x A c K d) (h' : Lies w w.heap.size y A' c' K' d') {r : Bool} (hr : r = true ↔ x = y) :
    Calls Tryz.prog 7 #[aggOf x A c K d, aggOf y A' c' K' d'] w fun e w' => e = .returned (.bool r) ∧ Below w.heap.size w w' := by
  refine (same_any x.nodes x y w A K c d A' K' c' d' (Nat.le_refl _) h h').mono ?_
  rintro e w' ⟨b, he, hb, hw⟩
  have : b = r := by
    rcases b <;> rcases r <;> simp_all
  subst this
  exact ⟨he, hw⟩

end Go.Proofs.YtchadlbhdcpojaaGreatDoor
