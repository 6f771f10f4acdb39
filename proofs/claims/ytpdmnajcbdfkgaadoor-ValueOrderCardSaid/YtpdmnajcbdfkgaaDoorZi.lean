/- The law on the order of values, walked. -/
import Derived.Test.YtpdmnajcbdfkgaaDoorZe
namespace Go.Proofs.YtpdmnajcbdfkgaaDoor
open Go.RowKit

set_option maxRecDepth 100000 in
set_option maxHeartbeats 8000000 in
theorem three_walk (x y z : V) (w : World) (A0 K0 : Option Addr) (c0 m0 : Nat) (A1 K1 : Option Addr) (c1 m1 : Nat) (A2 K2 : Option Addr) (c2 m2 : Nat) (p q r : Int)
    (HA : Hid (∀ W, Below w.heap.size w W → Calls Tryd.prog 12 #[] W fun e w' => e = .returned (.bool true) ∧ Below W.heap.size W w'))
    (HX : Hid (∀ W, Below w.heap.size w W → Lies W W.heap.size x A0 c0 K0 m0)) (HY : Hid (∀ W, Below w.heap.size w W → Lies W W.heap.size y A1 c1 K1 m1)) (HZ : Hid (∀ W, Below w.heap.size w W → Lies W W.heap.size z A2 c2 K2 m2))
    (HVx : Hid (x.valid = true)) (HVy : Hid (y.valid = true)) (HVz : Hid (z.valid = true))
    (Hxy : Hid (x.cmp y = p)) (Hyx : Hid (y.cmp x = -p)) (Hyz : Hid (y.cmp z = q)) (Hxz : Hid (x.cmp z = r)) (Hxx : Hid (x.cmp x = 0))
    (hp : p = 1 ∨ p = -1 ∧ q = 1 ∨ p = 0 ∧ q = 1 ∨ p = -1 ∧ q = -1 ∧ r = -1 ∨ p = -1 ∧ q = 0 ∧ r = -1 ∨ p = 0 ∧ q = -1 ∧ r = -1 ∨ p = 0 ∧ q = 0 ∧ r = 0 ∨ p = 0 ∧ q = 0 ∧ r = -1) :
    Calls Tryd.prog 7 #[aggOf x A0 c0 K0 m0, aggOf y A1 c1 K1 m1, aggOf z A2 c2 K2 m2] w fun e w' => e = .returned (.bool true) ∧ Below w.heap.size w w' := by
  have HB0 := Lib.hid (three_boxes x y z w A0 K0 c0 m0 A1 K1 c1 m1 A2 K2 c2 m2)
  unfold aggOf
  rcases hp with rfl | ⟨rfl, rfl⟩ | ⟨rfl, rfl⟩ | ⟨rfl, rfl, rfl⟩ | ⟨rfl, rfl, rfl⟩ | ⟨rfl, rfl, rfl⟩ | ⟨rfl, rfl, rfl⟩ | ⟨rfl, rfl, rfl⟩
  all_goals
    go_enter Tryd.func7, Tryd.ntmps7
    go_wp2_with fail
    refine (valid_is x _ _ _ _ _ (HX.out _ HB0.out.1) HVx.out).mono ?_
    rintro e w1 ⟨rfl, h1⟩
    have HB1 := Lib.hid (b3_on HB0.out h1)
    clear h1
    obtain ⟨y0, y1, y2, y3, y4⟩ := HB1.out.2.2.1.cells
    go_wp2_with fail
    refine (valid_is y _ _ _ _ _ (HY.out _ HB1.out.1) HVy.out).mono ?_
    rintro e w2 ⟨rfl, h2⟩
    have HB2 := Lib.hid (b3_on HB1.out h2)
    clear h2 y0 y1 y2 y3 y4
    obtain ⟨z0, z1, z2, z3, z4⟩ := HB2.out.2.2.2.cells
    go_wp2_with fail
    refine (valid_is z _ _ _ _ _ (HZ.out _ HB2.out.1) HVz.out).mono ?_
    rintro e w3 ⟨rfl, h3⟩
    have HB3 := Lib.hid (b3_on HB2.out h3)
    clear h3 z0 z1 z2 z3 z4
    obtain ⟨x0, x1, x2, x3, x4⟩ := HB3.out.2.1.cells
    obtain ⟨y0, y1, y2, y3, y4⟩ := HB3.out.2.2.1.cells
    go_wp2_with fail
    refine (compare_valid x y _ _ _ _ _ _ _ _ _ (HX.out _ HB3.out.1) (HY.out _ HB3.out.1) HVx.out HVy.out Hxy.out).mono ?_
    rintro e w4 ⟨rfl, h4⟩
    have HB4 := Lib.hid (b3_on HB3.out h4)
    clear h4 x0 x1 x2 x3 x4 y0 y1 y2 y3 y4
    obtain ⟨x0, x1, x2, x3, x4⟩ := HB4.out.2.1.cells
    obtain ⟨y0, y1, y2, y3, y4⟩ := HB4.out.2.2.1.cells
    go_wp2_with fail
    refine (compare_valid y x _ _ _ _ _ _ _ _ _ (HY.out _ HB4.out.1) (HX.out _ HB4.out.1) HVy.out HVx.out Hyx.out).mono ?_
    rintro e w5 ⟨rfl, h5⟩
    have HB5 := Lib.hid (b3_on HB4.out h5)
    clear h5 x0 x1 x2 x3 x4 y0 y1 y2 y3 y4
    obtain ⟨y0, y1, y2, y3, y4⟩ := HB5.out.2.2.1.cells
    obtain ⟨z0, z1, z2, z3, z4⟩ := HB5.out.2.2.2.cells
    go_wp2_with fail
    refine (compare_valid y z _ _ _ _ _ _ _ _ _ (HY.out _ HB5.out.1) (HZ.out _ HB5.out.1) HVy.out HVz.out Hyz.out).mono ?_
    rintro e w6 ⟨rfl, h6⟩
    have HB6 := Lib.hid (b3_on HB5.out h6)
    clear h6 y0 y1 y2 y3 y4 z0 z1 z2 z3 z4
    obtain ⟨x0, x1, x2, x3, x4⟩ := HB6.out.2.1.cells
    obtain ⟨z0, z1, z2, z3, z4⟩ := HB6.out.2.2.2.cells
    go_wp2_with fail
    refine (compare_valid x z _ _ _ _ _ _ _ _ _ (HX.out _ HB6.out.1) (HZ.out _ HB6.out.1) HVx.out HVz.out Hxz.out).mono ?_
    rintro e w7 ⟨rfl, h7⟩
    have HB7 := Lib.hid (b3_on HB6.out h7)
    clear h7 x0 x1 x2 x3 x4 z0 z1 z2 z3 z4
    obtain ⟨x0, x1, x2, x3, x4⟩ := HB7.out.2.1.cells
    go_wp2_with fail
    refine (compare_valid x x _ _ _ _ _ _ _ _ _ (HX.out _ HB7.out.1) (HX.out _ HB7.out.1) HVx.out HVx.out Hxx.out).mono ?_
    rintro e w8 ⟨rfl, h8⟩
    have HB8 := Lib.hid (below_on HB7.out.1 h8)
    clear h8 x0 x1 x2 x3 x4
    go_wp2_with fail
    refine (HA.out _ HB8.out).mono ?_
    rintro e w9 ⟨rfl, h9⟩
    have HB9 := Lib.hid (below_on HB8.out h9)
    clear h9
    go_wp2_with fail
    go_ret
    exact ⟨rfl, HB9.out⟩

set_option maxRecDepth 100000 in
set_option maxHeartbeats 8000000 in
theorem law_order (x y z : V) (w : World) (A0 K0 : Option Addr) (c0 m0 : Nat) (A1 K1 : Option Addr) (c1 m1 : Nat) (A2 K2 : Option Addr) (c2 m2 : Nat) (hx : Lies w w.heap.size x A0 c0 K0 m0) (hy : Lies w w.heap.size y A1 c1 K1 m1) (hz : Lies w w.heap.size z A2 c2 K2 m2) (hp : Pow w) :
    Calls Tryd.prog 7 #[aggOf x A0 c0 K0 m0, aggOf y A1 c1 K1 m1, aggOf z A2 c2 K2 m2] w fun e w' => e = .returned (.bool true) ∧ Below w.heap.size w w' := by
  have HA := Lib.hid fun W (hW : Below w.heap.size w W) => awake_any W (hp.on hW)
  have HB0 := Lib.hid (three_boxes x y z w A0 K0 c0 m0 A1 K1 c1 m1 A2 K2 c2 m2)
  have HX := Lib.hid fun W (hW : Below w.heap.size w W) => lies_on hx hW
  have HY := Lib.hid fun W (hW : Below w.heap.size w W) => lies_on hy hW
  have HZ := Lib.hid fun W (hW : Below w.heap.size w W) => lies_on hz hW
  have HHx := Lib.hid (Bool.eq_false_or_eq_true x.valid)
  have HHy := Lib.hid (Bool.eq_false_or_eq_true y.valid)
  have HHz := Lib.hid (Bool.eq_false_or_eq_true z.valid)
  clear hx hy hz hp
  rcases HHx.out with hv | hv
  · have HVx := Lib.hid hv
    clear hv
    rcases HHy.out with hv | hv
    · have HVy := Lib.hid hv
      clear hv
      rcases HHz.out with hv | hv
      · obtain ⟨a, b, c, ⟨e1, e2, e3, e4, e5⟩, ha, hb, hc, ht⟩ := order_facts (x := x) (y := y) (z := z)
        refine three_walk x y z w A0 K0 c0 m0 A1 K1 c1 m1 A2 K2 c2 m2 a b c HA HX HY HZ HVx HVy (Lib.hid hv) (Lib.hid e1) (Lib.hid e2) (Lib.hid e3) (Lib.hid e4) (Lib.hid e5) ?_
        omega
      · have HVz := Lib.hid hv
        clear hv HHx HHy HHz
        unfold aggOf
        go_enter Tryd.func7, Tryd.ntmps7
        go_wp2_with fail
        refine (valid_is x _ _ _ _ _ (HX.out _ HB0.out.1) HVx.out).mono ?_
        rintro e w1 ⟨rfl, h1⟩
        have HB1 := Lib.hid (b3_on HB0.out h1)
        clear h1
        obtain ⟨y0, y1, y2, y3, y4⟩ := HB1.out.2.2.1.cells
        go_wp2_with fail
        refine (valid_is y _ _ _ _ _ (HY.out _ HB1.out.1) HVy.out).mono ?_
        rintro e w2 ⟨rfl, h2⟩
        have HB2 := Lib.hid (b3_on HB1.out h2)
        clear h2 y0 y1 y2 y3 y4
        obtain ⟨z0, z1, z2, z3, z4⟩ := HB2.out.2.2.2.cells
        go_wp2_with fail
        refine (valid_is z _ _ _ _ _ (HZ.out _ HB2.out.1) HVz.out).mono ?_
        rintro e w3 ⟨rfl, h3⟩
        have HB3 := Lib.hid (below_on HB2.out.1 h3)
        clear h3 z0 z1 z2 z3 z4
        go_wp2_with fail
        refine (HA.out _ HB3.out).mono ?_
        rintro e w4 ⟨rfl, h4⟩
        have HB4 := Lib.hid (below_on HB3.out h4)
        clear h4
        go_wp2_with fail
        go_ret
        exact ⟨rfl, HB4.out⟩
    · have HVy := Lib.hid hv
      clear hv HHx HHy HHz
      unfold aggOf
      go_enter Tryd.func7, Tryd.ntmps7
      go_wp2_with fail
      refine (valid_is x _ _ _ _ _ (HX.out _ HB0.out.1) HVx.out).mono ?_
      rintro e w1 ⟨rfl, h1⟩
      have HB1 := Lib.hid (b3_on HB0.out h1)
      clear h1
      obtain ⟨y0, y1, y2, y3, y4⟩ := HB1.out.2.2.1.cells
      go_wp2_with fail
      refine (valid_is y _ _ _ _ _ (HY.out _ HB1.out.1) HVy.out).mono ?_
      rintro e w2 ⟨rfl, h2⟩
      have HB2 := Lib.hid (below_on HB1.out.1 h2)
      clear h2 y0 y1 y2 y3 y4
      go_wp2_with fail
      refine (HA.out _ HB2.out).mono ?_
      rintro e w3 ⟨rfl, h3⟩
      have HB3 := Lib.hid (below_on HB2.out h3)
      clear h3
      go_wp2_with fail
      go_ret
      exact ⟨rfl, HB3.out⟩
  · have HVx := Lib.hid hv
    clear hv HHx HHy HHz
    unfold aggOf
    go_enter Tryd.func7, Tryd.ntmps7
    go_wp2_with fail
    refine (valid_is x _ _ _ _ _ (HX.out _ HB0.out.1) HVx.out).mono ?_
    rintro e w1 ⟨rfl, h1⟩
    have HB1 := Lib.hid (below_on HB0.out.1 h1)
    clear h1
    go_wp2_with fail
    refine (HA.out _ HB1.out).mono ?_
    rintro e w2 ⟨rfl, h2⟩
    have HB2 := Lib.hid (below_on HB1.out h2)
    clear h2
    go_wp2_with fail
    go_ret
    exact ⟨rfl, HB2.out⟩
end Go.Proofs.YtpdmnajcbdfkgaaDoor
