/- The law on what is at a path, walked. -/
import Derived.Test.YtcibamcppplkpaaDoorVo
import Derived.Test.YtcibamcppplkpaaDoorVk
import Derived.Test.YtcibamcppplkpaaDoorYe
namespace Go.Proofs.YtcibamcppplkpaaDoor
open Go.RowKit

theorem GetPost.form {x y : V} {p : List Stp} {b : Bool} {n : Int} (hy : getV x p = (y, b, n)) {w w' : World} {e : Ending} (h : GetPost x p w e w') :
    ∃ A c K d, e = .returned (.tuple #[.agg #[.int .i64 y.kind, .int .i64 y.int, .string y.text, .slice A y.items.length c, .slice K y.keys.length d], .bool b, .int .i64 n]) ∧ Lies w' w'.heap.size y A c K d ∧ Below w.heap.size w w' := by
  unfold GetPost at h
  rw [hy] at h
  exact h
set_option maxRecDepth 100000 in
set_option maxHeartbeats 8000000 in
theorem law_gets (x : V) (p : List Stp) (w : World) (A0 K0 : Option Addr) (c0 m0 : Nat) (A1 : Option Addr) (c1 : Nat) (hx : Lies w w.heap.size x A0 c0 K0 m0) (hp : PLies w w.heap.size A1 c1 p) (hpw : Pow w) :
    Calls Tryd.prog 11 #[aggOf x A0 c0 K0 m0, .slice A1 p.length c1] w fun e w' => e = .returned (.bool true) ∧ Below w.heap.size w w' := by
  have HA := Lib.hid fun W (hW : Below w.heap.size w W) => awake2_any W (hpw.on hW)
  have HB0 := Lib.hid (show Below w.heap.size w (w.alloc (.cells #[.int .i64 x.kind, .int .i64 x.int, .string x.text, .slice A0 x.items.length c0, .slice K0 x.keys.length m0] 25)) ∧ Boxed (w.alloc (.cells #[.int .i64 x.kind, .int .i64 x.int, .string x.text, .slice A0 x.items.length c0, .slice K0 x.keys.length m0] 25)) w.heap.size x A0 c0 K0 m0 from ⟨below_al (Below.refl _ w) _, BlockIs.new w _ _⟩)
  obtain ⟨y, b, n, hy⟩ : ∃ y b n, getV x p = (y, b, n) := ⟨_, _, _, rfl⟩
  have HC := Lib.hid fun W (hW : Below w.heap.size w W) => (get_any x p W A0 K0 c0 m0 A1 c1 (lies_on hx hW) (hp.on hW)).mono fun _ _ h => GetPost.form hy h
  have HR := Lib.hid fun W (hW : Below w.heap.size w W) => (refGet_any x p W A0 K0 c0 m0 A1 c1 (lies_on hx hW) (hp.on hW)).mono fun _ _ h => GetPost.form hy h
  have HS := Lib.hid fun W A K c d A' K' c' d' (h : Lies W W.heap.size y A c K d) (h' : Lies W W.heap.size y A' c' K' d') => same_is y y W A K c d A' K' c' d' h h' (r := true) (by simp)
  clear hx hp hpw hy
  unfold aggOf
  go_enter Tryd.func11, Tryd.ntmps11
  go_wp2_with fail
  refine (HC.out _ HB0.out.1).mono ?_
  rintro e w1 ⟨A, c, K, d, rfl, hl1, h1⟩
  have HB1 := Lib.hid (And.intro (below_on HB0.out.1 h1) (HB0.out.2.on h1))
  have HW1 := Lib.hid (show Below w.heap.size w (w1.alloc (.cells #[.int .i64 y.kind, .int .i64 y.int, .string y.text, .slice A y.items.length c, .slice K y.keys.length d] 25)) ∧ Boxed (w1.alloc (.cells #[.int .i64 y.kind, .int .i64 y.int, .string y.text, .slice A y.items.length c, .slice K y.keys.length d] 25)) w1.heap.size y A c K d ∧ Lies (w1.alloc (.cells #[.int .i64 y.kind, .int .i64 y.int, .string y.text, .slice A y.items.length c, .slice K y.keys.length d] 25)) (w1.alloc (.cells #[.int .i64 y.kind, .int .i64 y.int, .string y.text, .slice A y.items.length c, .slice K y.keys.length d] 25)).heap.size y A c K d from ⟨below_al HB1.out.1 _, BlockIs.new w1 _ _, lies_alloc hl1 _⟩)
  clear h1 hl1
  obtain ⟨x0, x1, x2, x3, x4⟩ := HB1.out.2.cells
  have xl := HB1.out.2.lt
  go_wp2_with fail
  refine (HR.out _ HW1.out.1).mono ?_
  rintro e w2 ⟨A', c', K', d', rfl, hl2, h2⟩
  have HB2 := Lib.hid (And.intro (below_on HW1.out.1 h2) (And.intro (HW1.out.2.1.on h2) (And.intro (lies_on HW1.out.2.2 h2) hl2)))
  clear h2 hl2 x0 x1 x2 x3 x4 xl
  obtain ⟨x0, x1, x2, x3, x4⟩ := HB2.out.2.1.cells
  have xl := HB2.out.2.1.lt
  go_wp2_with fail
  refine (HS.out _ A K c d A' K' c' d' (lies_alloc HB2.out.2.2.1 _) (lies_alloc HB2.out.2.2.2 _)).mono ?_
  rintro e w3 ⟨rfl, h3⟩
  have HB3 := Lib.hid (below_on (below_al HB2.out.1 (.cells #[.int .i64 y.kind, .int .i64 y.int, .string y.text, .slice A' y.items.length c', .slice K' y.keys.length d'] 25)) h3)
  clear h3 x0 x1 x2 x3 x4 xl
  go_wp2_with fail
  refine (HA.out _ HB3.out).mono ?_
  rintro e w4 ⟨rfl, h4⟩
  have HB4 := Lib.hid (below_on HB3.out h4)
  clear h4
  go_wp2_with fail
  go_ret
  exact ⟨rfl, HB4.out⟩
end Go.Proofs.YtcibamcppplkpaaDoor
