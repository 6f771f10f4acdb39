/- Boxes of values; whether a value is valid, two values the same. -/
import Derived.Test.YtchadlbhdcpojaaDoorXd
import Derived.Test.YtchadlbhdcpojaaDoorZc
import Derived.Test.YtchadlbhdcpojaaDoorPv
namespace Go.Proofs.YtchadlbhdcpojaaDoor
open Go.RowKit

theorem box5 {w : World} {g : Nat} {t : TypeId} {a b c d e : Value} (h : BlockIs w g t #[a, b, c, d, e]) : w.cell? ⟨g, 0, none⟩ = some a ∧ w.cell? ⟨g, 1, none⟩ = some b ∧ w.cell? ⟨g, 2, none⟩ = some c ∧ w.cell? ⟨g, 3, none⟩ = some d ∧ w.cell? ⟨g, 4, none⟩ = some e :=
  ⟨h.cell 0, h.cell 1, h.cell 2, h.cell 3, h.cell 4⟩
/-- A value in a box of its own. -/
def Boxed (w : World) (g : Nat) (x : V) (A : Option Addr) (c : Nat) (K : Option Addr) (d : Nat) : Prop := BlockIs w g 25 #[.int .i64 x.kind, .int .i64 x.int, .string x.text, .slice A x.items.length c, .slice K x.keys.length d]
theorem Boxed.cells {w : World} {g : Nat} {x : V} {A K : Option Addr} {c d : Nat} (h : Boxed w g x A c K d) : w.cell? ⟨g, 0, none⟩ = some (.int .i64 x.kind) ∧ w.cell? ⟨g, 1, none⟩ = some (.int .i64 x.int) ∧ w.cell? ⟨g, 2, none⟩ = some (.string x.text) ∧ w.cell? ⟨g, 3, none⟩ = some (.slice A x.items.length c) ∧ w.cell? ⟨g, 4, none⟩ = some (.slice K x.keys.length d) := box5 h
theorem Boxed.lt {w : World} {g : Nat} {x : V} {A K : Option Addr} {c d : Nat} (h : Boxed w g x A c K d) : g < w.heap.size := BlockIs.lt h
theorem Boxed.on {w w' : World} {g : Nat} {x : V} {A K : Option Addr} {c d : Nat} (h : Boxed w g x A c K d) (hb : Below w.heap.size w w') : Boxed w' g x A c K d := BlockIs.below h hb (BlockIs.lt h)
theorem order_facts {x y z : V} : ∃ a b c : Int, (x.cmp y = a ∧ y.cmp x = -a ∧ y.cmp z = b ∧ x.cmp z = c ∧ x.cmp x = 0) ∧ ((a = -1 ∨ a = 0 ∨ a = 1) ∧ (b = -1 ∨ b = 0 ∨ b = 1) ∧ (c = -1 ∨ c = 0 ∨ c = 1) ∧ (a ≤ 0 → b ≤ 0 → c ≤ 0 ∧ (a < 0 ∨ b < 0 → c < 0))) :=
  ⟨_, _, _, ⟨rfl, (cmp_order x y z).2.1, rfl, rfl, (cmp_order x y z).2.2.1⟩, (cmp_order x y z).1, (cmp_order y z x).1, (cmp_order x z y).1, (cmp_order x y z).2.2.2⟩
/-- What Compare answers of valid values. -/
theorem compare_valid (x y : V) (w : World) (A K : Option Addr) (c d : Nat) (A' K' : Option Addr) (c' d' : Nat) (h : Lies w w.heap.size x A c K d) (h' : Lies w w.heap.size y A' c' K' d') (hx : x.valid = true) (hy : y.valid = true) {r : Int} (hr : x.cmp y = r) :
    Calls Tryd.prog 63 #[aggOf x A c K d, aggOf y A' c' K' d'] w fun e w' => e = .returned (.tuple #[.int .i64 r, .int .i64 0]) ∧ Below w.heap.size w w' := by
  refine (compare_any x y w A K c d A' K' c' d' h h').mono ?_
  rintro e w' ⟨he, hb⟩
  rw [hx, hy, hr] at he
  exact ⟨he, hb⟩
theorem text_valid (x : V) (w : World) (A K : Option Addr) (c d : Nat) (h : Lies w w.heap.size x A c K d) (hp : Pow w) (hx : x.valid = true) :
    Calls Tryd.prog 39 #[aggOf x A c K d] w fun e w' => e = .returned (.tuple #[.string ⟨x.write.toArray⟩, .int .i64 0]) ∧ Below w.heap.size w w' := by
  refine (text_any x w A K c d h hp).mono ?_
  rintro e w' ⟨he, hb⟩
  rw [hx] at he
  exact ⟨he, hb⟩
theorem valid_is (x : V) (w : World) (A K : Option Addr) (c d : Nat) (h : Lies w w.heap.size x A c K d) {r : Bool} (hx : x.valid = r) :
    Calls Tryd.prog 4 #[aggOf x A c K d] w fun e w' => e = .returned (.bool r) ∧ Below w.heap.size w w' := by
  subst hx
  exact refValid_any x w A K c d h
theorem same_is (x y : V) (w : World) (A K : Option Addr) (c d : Nat) (A' K' : Option Addr) (c' d' : Nat) (h : Lies w w.heap.size x A c K d) (h' : Lies w w.heap.size y A' c' K' d') {r : Bool} (hr : r = true ↔ x = y) :
    Calls Tryd.prog 8 #[aggOf x A c K d, aggOf y A' c' K' d'] w fun e w' => e = .returned (.bool r) ∧ Below w.heap.size w w' := by
  refine (same_any x.nodes x y w A K c d A' K' c' d' (Nat.le_refl _) h h').mono ?_
  rintro e w' ⟨b, he, hb, hw⟩
  have : b = r := by
    rcases b <;> rcases r <;> simp_all
  subst this
  exact ⟨he, hw⟩

theorem two_boxes (x y : V) (w : World) (A0 K0 : Option Addr) (c0 m0 : Nat) (A1 K1 : Option Addr) (c1 m1 : Nat) : Below w.heap.size w ((w.alloc (.cells #[.int .i64 x.kind, .int .i64 x.int, .string x.text, .slice A0 x.items.length c0, .slice K0 x.keys.length m0] 25)).alloc (.cells #[.int .i64 y.kind, .int .i64 y.int, .string y.text, .slice A1 y.items.length c1, .slice K1 y.keys.length m1] 25)) ∧ Boxed ((w.alloc (.cells #[.int .i64 x.kind, .int .i64 x.int, .string x.text, .slice A0 x.items.length c0, .slice K0 x.keys.length m0] 25)).alloc (.cells #[.int .i64 y.kind, .int .i64 y.int, .string y.text, .slice A1 y.items.length c1, .slice K1 y.keys.length m1] 25)) w.heap.size x A0 c0 K0 m0 ∧ Boxed ((w.alloc (.cells #[.int .i64 x.kind, .int .i64 x.int, .string x.text, .slice A0 x.items.length c0, .slice K0 x.keys.length m0] 25)).alloc (.cells #[.int .i64 y.kind, .int .i64 y.int, .string y.text, .slice A1 y.items.length c1, .slice K1 y.keys.length m1] 25)) (w.heap.size + 1) y A1 c1 K1 m1 :=
  ⟨below_al (below_al (Below.refl _ w) _) _, (BlockIs.new w _ _).alloc _, BlockIs.newAt _ _ _ (by simp)⟩
theorem three_boxes (x y z : V) (w : World) (A0 K0 : Option Addr) (c0 m0 : Nat) (A1 K1 : Option Addr) (c1 m1 : Nat) (A2 K2 : Option Addr) (c2 m2 : Nat) : Below w.heap.size w (((w.alloc (.cells #[.int .i64 x.kind, .int .i64 x.int, .string x.text, .slice A0 x.items.length c0, .slice K0 x.keys.length m0] 25)).alloc (.cells #[.int .i64 y.kind, .int .i64 y.int, .string y.text, .slice A1 y.items.length c1, .slice K1 y.keys.length m1] 25)).alloc (.cells #[.int .i64 z.kind, .int .i64 z.int, .string z.text, .slice A2 z.items.length c2, .slice K2 z.keys.length m2] 25)) ∧ Boxed (((w.alloc (.cells #[.int .i64 x.kind, .int .i64 x.int, .string x.text, .slice A0 x.items.length c0, .slice K0 x.keys.length m0] 25)).alloc (.cells #[.int .i64 y.kind, .int .i64 y.int, .string y.text, .slice A1 y.items.length c1, .slice K1 y.keys.length m1] 25)).alloc (.cells #[.int .i64 z.kind, .int .i64 z.int, .string z.text, .slice A2 z.items.length c2, .slice K2 z.keys.length m2] 25)) w.heap.size x A0 c0 K0 m0 ∧ Boxed (((w.alloc (.cells #[.int .i64 x.kind, .int .i64 x.int, .string x.text, .slice A0 x.items.length c0, .slice K0 x.keys.length m0] 25)).alloc (.cells #[.int .i64 y.kind, .int .i64 y.int, .string y.text, .slice A1 y.items.length c1, .slice K1 y.keys.length m1] 25)).alloc (.cells #[.int .i64 z.kind, .int .i64 z.int, .string z.text, .slice A2 z.items.length c2, .slice K2 z.keys.length m2] 25)) (w.heap.size + 1) y A1 c1 K1 m1 ∧ Boxed (((w.alloc (.cells #[.int .i64 x.kind, .int .i64 x.int, .string x.text, .slice A0 x.items.length c0, .slice K0 x.keys.length m0] 25)).alloc (.cells #[.int .i64 y.kind, .int .i64 y.int, .string y.text, .slice A1 y.items.length c1, .slice K1 y.keys.length m1] 25)).alloc (.cells #[.int .i64 z.kind, .int .i64 z.int, .string z.text, .slice A2 z.items.length c2, .slice K2 z.keys.length m2] 25)) (w.heap.size + 2) z A2 c2 K2 m2 :=
  ⟨below_al (below_al (below_al (Below.refl _ w) _) _) _, ((BlockIs.new w _ _).alloc _).alloc _, (BlockIs.newAt _ _ _ (by simp)).alloc _, BlockIs.newAt _ _ _ (by simp)⟩
theorem b2_on {w0 w w' : World} {g h : Nat} {x y : V} {A0 K0 A1 K1 : Option Addr} {c0 m0 c1 m1 : Nat} (H : Below w0.heap.size w0 w ∧ Boxed w g x A0 c0 K0 m0 ∧ Boxed w h y A1 c1 K1 m1) (hb : Below w.heap.size w w') : Below w0.heap.size w0 w' ∧ Boxed w' g x A0 c0 K0 m0 ∧ Boxed w' h y A1 c1 K1 m1 :=
  ⟨below_on H.1 hb, H.2.1.on hb, H.2.2.on hb⟩
theorem b3_on {w0 w w' : World} {g h i : Nat} {x y z : V} {A0 K0 A1 K1 A2 K2 : Option Addr} {c0 m0 c1 m1 c2 m2 : Nat} (H : Below w0.heap.size w0 w ∧ Boxed w g x A0 c0 K0 m0 ∧ Boxed w h y A1 c1 K1 m1 ∧ Boxed w i z A2 c2 K2 m2) (hb : Below w.heap.size w w') : Below w0.heap.size w0 w' ∧ Boxed w' g x A0 c0 K0 m0 ∧ Boxed w' h y A1 c1 K1 m1 ∧ Boxed w' i z A2 c2 K2 m2 :=
  ⟨below_on H.1 hb, H.2.1.on hb, H.2.2.1.on hb, H.2.2.2.on hb⟩

end Go.Proofs.YtchadlbhdcpojaaDoor
