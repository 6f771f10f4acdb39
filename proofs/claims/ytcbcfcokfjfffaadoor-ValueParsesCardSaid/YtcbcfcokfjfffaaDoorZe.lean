/- The laws on the order of values, on reading what is written, and on equal values, walked. -/
import Derived.Test.YtcbcfcokfjfffaaDoorXe
import Derived.Test.YtcbcfcokfjfffaaDoorZc
import Derived.Test.YtcbcfcokfjfffaaDoorPv
namespace Go.Proofs.YtcbcfcokfjfffaaDoor
open Go.RowKit

theorem box5 {w : World} {g : Nat} {t : TypeId} {a b c d e : Value} (h : BlockIs w g t #[a, b, c, d, e]) : w.cell? ⟨g, 0, none⟩ = some a ∧ w.cell? ⟨g, 1, none⟩ = some b ∧ w.cell? ⟨g, 2, none⟩ = some c ∧ w.cell? ⟨g, 3, none⟩ = some d ∧ w.cell? ⟨g, 4, none⟩ = some e :=
  ⟨h.cell 0, h.cell 1, h.cell 2, h.cell 3, h.cell 4⟩
/-- A value in a box of its own. -/
def Boxed (w : World) (g : Nat) (x : V) (A : Option Addr) (c : Nat) (K : Option Addr) (d : Nat) : Prop := BlockIs w g 25 #[.int .i64 x.kind, .int .i64 x.int, .string x.text, .slice A x.items.length c, .slice K x.keys.length d]
theorem Boxed.cells {w : World} {g : Nat} {x : V} {A K : Option Addr} {c d : Nat} (h : Boxed w g x A c K d) : w.cell? ⟨g, 0, none⟩ = some (.int .i64 x.kind) ∧ w.cell? ⟨g, 1, none⟩ = some (.int .i64 x.int) ∧ w.cell? ⟨g, 2, none⟩ = some (.string x.text) ∧ w.cell? ⟨g, 3, none⟩ = some (.slice A x.items.length c) ∧ w.cell? ⟨g, 4, none⟩ = some (.slice K x.keys.length d) := box5 h
theorem Boxed.lt {w : World} {g : Nat} {x : V} {A K : Option Addr} {c d : Nat} (h : Boxed w g x A c K d) : g < w.heap.size := BlockIs.lt h
theorem Boxed.on {w w' : World} {g : Nat} {x : V} {A K : Option Addr} {c d : Nat} (h : Boxed w g x A c K d) (hb : Below w.heap.size w w') : Boxed w' g x A c K d := BlockIs.below h hb (BlockIs.lt h)
theorem order_facts {x y z : V} : ∃ a b c : Int, (x.cmp y = a ∧ y.cmp x = -a ∧ y.cmp z = b ∧ x.cmp z = c ∧ x.cmp x = 0) ∧ ((a = -1 ∨ a = 0 ∨ a = 1) ∧ (b = -1 ∨ b = 0 ∨ b = 1) ∧ (c = -1 ∨ c = 0 ∨ c = 1) ∧ (a ≤ 0 → b ≤ 0 → c ≤ 0 ∧ (a < 0 ∨ b < 0 → c < 0))) :=
  ⟨_, _, _, ⟨rfl, (cmp_order x y z).2.1, rfl, rfl, (cmp_order x y z).2.2.1⟩, (cmp_order x y z).1, (cmp_order y z x).1, (cmp_order x z y).1, (cmp_order x y z).2.2.2⟩
/-- What Compare answers of valid values. -/
theorem compare_valid (x y : V) (w : World) (A K : Option Addr) (c d : Nat) (A' K' : Option Addr) (c' d' : Nat) (h : Lies w w.heap.size x A c K d) (h' : Lies w w.heap.size y A' c' K' d') (hx : x.valid = true) (hy : y.valid = true) {r : Int} (hr : x.cmp y = r) :
    Calls Tryd.prog 24 #[aggOf x A c K d, aggOf y A' c' K' d'] w fun e w' => e = .returned (.tuple #[.int .i64 r, .int .i64 0]) ∧ Below w.heap.size w w' := by
  refine (compare_any x y w A K c d A' K' c' d' h h').mono ?_
  rintro e w' ⟨he, hb⟩
  rw [hx, hy, hr] at he
  exact ⟨he, hb⟩
theorem text_valid (x : V) (w : World) (A K : Option Addr) (c d : Nat) (h : Lies w w.heap.size x A c K d) (hp : Pow w) (hx : x.valid = true) :
    Calls Tryd.prog 26 #[aggOf x A c K d] w fun e w' => e = .returned (.tuple #[.string ⟨x.write.toArray⟩, .int .i64 0]) ∧ Below w.heap.size w w' := by
  refine (text_any x w A K c d h hp).mono ?_
  rintro e w' ⟨he, hb⟩
  rw [hx] at he
  exact ⟨he, hb⟩
theorem valid_is (x : V) (w : World) (A K : Option Addr) (c d : Nat) (h : Lies w w.heap.size x A c K d) {r : Bool} (hx : x.valid = r) :
    Calls Tryd.prog 18 #[aggOf x A c K d] w fun e w' => e = .returned (.bool r) ∧ Below w.heap.size w w' := by
  subst hx
  exact refValid_any x w A K c d h
theorem same_is (x y : V) (w : World) (A K : Option Addr) (c d : Nat) (A' K' : Option Addr) (c' d' : Nat) (h : Lies w w.heap.size x A c K d) (h' : Lies w w.heap.size y A' c' K' d') {r : Bool} (hr : r = true ↔ x = y) :
    Calls Tryd.prog 21 #[aggOf x A c K d, aggOf y A' c' K' d'] w fun e w' => e = .returned (.bool r) ∧ Below w.heap.size w w' := by
  refine (same_any x.nodes x y w A K c d A' K' c' d' (Nat.le_refl _) h h').mono ?_
  rintro e w' ⟨b, he, hb, hw⟩
  have : b = r := by
    rcases b <;> rcases r <;> simp_all
  subst this
  exact ⟨he, hw⟩

set_option maxRecDepth 100000 in
set_option maxHeartbeats 8000000 in
theorem law_back (x : V) (w : World) (A0 K0 : Option Addr) (c0 m0 : Nat) (hx : Lies w w.heap.size x A0 c0 K0 m0) (hp : Pow w) :
    Calls Tryd.prog 8 #[aggOf x A0 c0 K0 m0] w fun e w' => e = .returned (.bool true) ∧ Below w.heap.size w w' := by
  have HA := Lib.hid fun W (hW : Below w.heap.size w W) => awake_any W (hp.on hW)
  have HB0 := Lib.hid (show Below w.heap.size w (w.alloc (.cells #[.int .i64 x.kind, .int .i64 x.int, .string x.text, .slice A0 x.items.length c0, .slice K0 x.keys.length m0] 25)) ∧ Boxed (w.alloc (.cells #[.int .i64 x.kind, .int .i64 x.int, .string x.text, .slice A0 x.items.length c0, .slice K0 x.keys.length m0] 25)) w.heap.size x A0 c0 K0 m0 from ⟨below_al (Below.refl _ w) _, BlockIs.new w _ _⟩)
  have HX := Lib.hid fun W (hW : Below w.heap.size w W) => lies_on hx hW
  have HP := Lib.hid fun W (hW : Below w.heap.size w W) => hp.on hW
  have hv := Bool.eq_false_or_eq_true x.valid
  clear hx hp
  have HH := Lib.hid hv
  clear hv
  rcases HH.out with hv | hv
  · have HV := Lib.hid hv
    have HS := Lib.hid (parse_back hv)
    have hlen : (⟨x.write.toArray⟩ : ByteArray).size ≤ 1000000 := by
      have h1 := V.write_len x (valid_ok hv)
      have h2 : x.nodes ≤ 60 := by unfold V.valid V.fits at hv; simp at hv; omega
      show x.write.toArray.size ≤ _
      rw [List.size_toArray]
      omega
    have HL := Lib.hid hlen
    clear hv hlen HH
    unfold aggOf
    go_enter Tryd.func8, Tryd.ntmps8
    go_wp2_with fail
    refine (valid_is x _ _ _ _ _ (HX.out _ HB0.out.1) HV.out).mono ?_
    rintro e w1 ⟨rfl, h1⟩
    have HB1 := Lib.hid (And.intro (below_on HB0.out.1 h1) (HB0.out.2.on h1))
    clear h1
    obtain ⟨x0, x1, x2, x3, x4⟩ := HB1.out.2.cells
    go_wp2_with fail
    refine (text_valid x _ _ _ _ _ (HX.out _ HB1.out.1) (HP.out _ HB1.out.1) HV.out).mono ?_
    rintro e w2 ⟨rfl, h2⟩
    have HB2 := Lib.hid (And.intro (below_on HB1.out.1 h2) (HB1.out.2.on h2))
    clear h2 x0 x1 x2 x3 x4
    obtain ⟨s, hs⟩ : ∃ s : ByteArray, s = ⟨x.write.toArray⟩ := ⟨_, rfl⟩
    rw [← hs]
    have HPS := Lib.hid fun W => show Calls Tryd.prog 28 #[.string s] W (PPost W (some x)) by
      have := parse_any s (by rw [hs]; exact HL.out) W
      rwa [show s.data.toList = x.write by rw [hs], HS.out] at this
    clear hs
    go_wp2_with fail
    refine (HPS.out _).mono ?_
    rintro e w3 ⟨A1, c1, K1, m1, rfl, hL, h3⟩
    have HB3 := Lib.hid (And.intro (below_on HB2.out.1 h3) (And.intro (HB2.out.2.on h3) (LiesIn.lies (fun b h => h.2) x hL)))
    clear h3 hL
    obtain ⟨x0, x1, x2, x3, x4⟩ := HB3.out.2.1.cells
    have z3 := HB3.out.2.1.lt
    unfold cellsOf
    go_wp2_with fail
    refine (same_is x x _ _ _ _ _ _ _ _ _ (lies_alloc (HX.out _ HB3.out.1) _) (lies_alloc HB3.out.2.2 _) (r := true) (by simp)).mono ?_
    rintro e w4 ⟨rfl, h4⟩
    have HB4 := Lib.hid (below_on (below_al HB3.out.1 (.cells #[.int .i64 x.kind, .int .i64 x.int, .string x.text, .slice A1 x.items.length c1, .slice K1 x.keys.length m1] 25)) h4)
    clear h4 x0 x1 x2 x3 x4 z3
    go_wp2_with fail
    refine (HA.out _ HB4.out).mono ?_
    rintro e w5 ⟨rfl, h5⟩
    have HB5 := Lib.hid (below_on HB4.out h5)
    clear h5
    go_wp2_with fail
    go_ret
    exact ⟨rfl, HB5.out⟩
  · have HV := Lib.hid hv
    clear hv HH
    unfold aggOf
    go_enter Tryd.func8, Tryd.ntmps8
    go_wp2_with fail
    refine (valid_is x _ _ _ _ _ (HX.out _ HB0.out.1) HV.out).mono ?_
    rintro e w1 ⟨rfl, h1⟩
    have HB1 := Lib.hid (below_on HB0.out.1 h1)
    clear h1
    go_wp2_with fail
    refine (HA.out _ HB1.out).mono ?_
    rintro e w2 ⟨rfl, h2⟩
    have HB2 := Lib.hid (below_on HB1.out h2)
    clear h2
    go_wp2_with fail
    go_ret
    exact ⟨rfl, HB2.out⟩

/-- The beginning of a law on two values: what their boxes hold. -/
theorem two_boxes (x y : V) (w : World) (A0 K0 : Option Addr) (c0 m0 : Nat) (A1 K1 : Option Addr) (c1 m1 : Nat) : Below w.heap.size w ((w.alloc (.cells #[.int .i64 x.kind, .int .i64 x.int, .string x.text, .slice A0 x.items.length c0, .slice K0 x.keys.length m0] 25)).alloc (.cells #[.int .i64 y.kind, .int .i64 y.int, .string y.text, .slice A1 y.items.length c1, .slice K1 y.keys.length m1] 25)) ∧ Boxed ((w.alloc (.cells #[.int .i64 x.kind, .int .i64 x.int, .string x.text, .slice A0 x.items.length c0, .slice K0 x.keys.length m0] 25)).alloc (.cells #[.int .i64 y.kind, .int .i64 y.int, .string y.text, .slice A1 y.items.length c1, .slice K1 y.keys.length m1] 25)) w.heap.size x A0 c0 K0 m0 ∧ Boxed ((w.alloc (.cells #[.int .i64 x.kind, .int .i64 x.int, .string x.text, .slice A0 x.items.length c0, .slice K0 x.keys.length m0] 25)).alloc (.cells #[.int .i64 y.kind, .int .i64 y.int, .string y.text, .slice A1 y.items.length c1, .slice K1 y.keys.length m1] 25)) (w.heap.size + 1) y A1 c1 K1 m1 :=
  ⟨below_al (below_al (Below.refl _ w) _) _, (BlockIs.new w _ _).alloc _, BlockIs.newAt _ _ _ (by simp)⟩
theorem three_boxes (x y z : V) (w : World) (A0 K0 : Option Addr) (c0 m0 : Nat) (A1 K1 : Option Addr) (c1 m1 : Nat) (A2 K2 : Option Addr) (c2 m2 : Nat) : Below w.heap.size w (((w.alloc (.cells #[.int .i64 x.kind, .int .i64 x.int, .string x.text, .slice A0 x.items.length c0, .slice K0 x.keys.length m0] 25)).alloc (.cells #[.int .i64 y.kind, .int .i64 y.int, .string y.text, .slice A1 y.items.length c1, .slice K1 y.keys.length m1] 25)).alloc (.cells #[.int .i64 z.kind, .int .i64 z.int, .string z.text, .slice A2 z.items.length c2, .slice K2 z.keys.length m2] 25)) ∧ Boxed (((w.alloc (.cells #[.int .i64 x.kind, .int .i64 x.int, .string x.text, .slice A0 x.items.length c0, .slice K0 x.keys.length m0] 25)).alloc (.cells #[.int .i64 y.kind, .int .i64 y.int, .string y.text, .slice A1 y.items.length c1, .slice K1 y.keys.length m1] 25)).alloc (.cells #[.int .i64 z.kind, .int .i64 z.int, .string z.text, .slice A2 z.items.length c2, .slice K2 z.keys.length m2] 25)) w.heap.size x A0 c0 K0 m0 ∧ Boxed (((w.alloc (.cells #[.int .i64 x.kind, .int .i64 x.int, .string x.text, .slice A0 x.items.length c0, .slice K0 x.keys.length m0] 25)).alloc (.cells #[.int .i64 y.kind, .int .i64 y.int, .string y.text, .slice A1 y.items.length c1, .slice K1 y.keys.length m1] 25)).alloc (.cells #[.int .i64 z.kind, .int .i64 z.int, .string z.text, .slice A2 z.items.length c2, .slice K2 z.keys.length m2] 25)) (w.heap.size + 1) y A1 c1 K1 m1 ∧ Boxed (((w.alloc (.cells #[.int .i64 x.kind, .int .i64 x.int, .string x.text, .slice A0 x.items.length c0, .slice K0 x.keys.length m0] 25)).alloc (.cells #[.int .i64 y.kind, .int .i64 y.int, .string y.text, .slice A1 y.items.length c1, .slice K1 y.keys.length m1] 25)).alloc (.cells #[.int .i64 z.kind, .int .i64 z.int, .string z.text, .slice A2 z.items.length c2, .slice K2 z.keys.length m2] 25)) (w.heap.size + 2) z A2 c2 K2 m2 :=
  ⟨below_al (below_al (below_al (Below.refl _ w) _) _) _, ((BlockIs.new w _ _).alloc _).alloc _, (BlockIs.newAt _ _ _ (by simp)).alloc _, BlockIs.newAt _ _ _ (by simp)⟩
theorem b2_on {w0 w w' : World} {g h : Nat} {x y : V} {A0 K0 A1 K1 : Option Addr} {c0 m0 c1 m1 : Nat} (H : Below w0.heap.size w0 w ∧ Boxed w g x A0 c0 K0 m0 ∧ Boxed w h y A1 c1 K1 m1) (hb : Below w.heap.size w w') : Below w0.heap.size w0 w' ∧ Boxed w' g x A0 c0 K0 m0 ∧ Boxed w' h y A1 c1 K1 m1 :=
  ⟨below_on H.1 hb, H.2.1.on hb, H.2.2.on hb⟩
theorem b3_on {w0 w w' : World} {g h i : Nat} {x y z : V} {A0 K0 A1 K1 A2 K2 : Option Addr} {c0 m0 c1 m1 c2 m2 : Nat} (H : Below w0.heap.size w0 w ∧ Boxed w g x A0 c0 K0 m0 ∧ Boxed w h y A1 c1 K1 m1 ∧ Boxed w i z A2 c2 K2 m2) (hb : Below w.heap.size w w') : Below w0.heap.size w0 w' ∧ Boxed w' g x A0 c0 K0 m0 ∧ Boxed w' h y A1 c1 K1 m1 ∧ Boxed w' i z A2 c2 K2 m2 :=
  ⟨below_on H.1 hb, H.2.1.on hb, H.2.2.1.on hb, H.2.2.2.on hb⟩

set_option maxRecDepth 100000 in
set_option maxHeartbeats 8000000 in
theorem law_fields (x y : V) (w : World) (A0 K0 : Option Addr) (c0 m0 : Nat) (A1 K1 : Option Addr) (c1 m1 : Nat) (hx : Lies w w.heap.size x A0 c0 K0 m0) (hy : Lies w w.heap.size y A1 c1 K1 m1) (hp : Pow w) :
    Calls Tryd.prog 10 #[aggOf x A0 c0 K0 m0, aggOf y A1 c1 K1 m1] w fun e w' => e = .returned (.bool true) ∧ Below w.heap.size w w' := by
  have HA := Lib.hid fun W (hW : Below w.heap.size w W) => awake_any W (hp.on hW)
  have HB0 := Lib.hid (two_boxes x y w A0 K0 c0 m0 A1 K1 c1 m1)
  have HX := Lib.hid fun W (hW : Below w.heap.size w W) => lies_on hx hW
  have HY := Lib.hid fun W (hW : Below w.heap.size w W) => lies_on hy hW
  have HP := Lib.hid fun W (hW : Below w.heap.size w W) => hp.on hW
  have HHx := Lib.hid (Bool.eq_false_or_eq_true x.valid)
  have HHy := Lib.hid (Bool.eq_false_or_eq_true y.valid)
  clear hx hy hp
  unfold aggOf
  rcases HHx.out with hv | hv
  · have HVx := Lib.hid hv
    clear hv
    rcases HHy.out with hv | hv
    · have HVy := Lib.hid hv
      clear hv HHx HHy
      have HE := Lib.hid (Classical.em (x = y))
      obtain ⟨s, hs⟩ : ∃ s : ByteArray, s = ⟨x.write.toArray⟩ := ⟨_, rfl⟩
      obtain ⟨t, ht⟩ : ∃ t : ByteArray, t = ⟨y.write.toArray⟩ := ⟨_, rfl⟩
      have HTx := Lib.hid fun W (hW : Below w.heap.size w W) => show Calls Tryd.prog 26 #[aggOf x A0 c0 K0 m0] W fun e w' => e = .returned (.tuple #[.string s, .int .i64 0]) ∧ Below W.heap.size W w' by
        rw [hs]; exact text_valid x W A0 K0 c0 m0 (HX.out W hW) (HP.out W hW) HVx.out
      have HTy := Lib.hid fun W (hW : Below w.heap.size w W) => show Calls Tryd.prog 26 #[aggOf y A1 c1 K1 m1] W fun e w' => e = .returned (.tuple #[.string t, .int .i64 0]) ∧ Below W.heap.size W w' by
        rw [ht]; exact text_valid y W A1 K1 c1 m1 (HY.out W hW) (HP.out W hW) HVy.out
      unfold aggOf at HTx HTy
      obtain ⟨r, HR⟩ : ∃ r : Bool, Hid (r = true ↔ x = y) := HE.out.elim (fun e => ⟨true, Lib.hid ⟨fun _ => e, fun _ => rfl⟩⟩) (fun e => ⟨false, Lib.hid ⟨fun q => Bool.noConfusion q, fun q => absurd q e⟩⟩)
      obtain ⟨n, HN⟩ : ∃ n : Int, Hid (x.cmp y = n) := ⟨_, Lib.hid rfl⟩
      have hn : (n == 0) = r := by
        rw [Bool.eq_iff_iff, HR.out, beq_iff_eq, ← HN.out]
        exact cmp_zero (valid_ok HVx.out) (valid_ok HVy.out)
      have hst : (s.toList == t.toList) = r := by
        rw [Bool.eq_iff_iff, HR.out, beq_iff_eq, hs, ht, ByteArray.toList_eq, ByteArray.toList_eq]
        exact ⟨fun e => write_inj HVx.out HVy.out (by simpa using e), fun e => by rw [e]⟩
      clear hs ht HE
      go_enter Tryd.func10, Tryd.ntmps10
      go_wp2_with fail
      refine (valid_is x _ _ _ _ _ (HX.out _ HB0.out.1) HVx.out).mono ?_
      rintro e w1 ⟨rfl, h1⟩
      have HB1 := Lib.hid (b2_on HB0.out h1)
      clear h1
      obtain ⟨y0, y1, y2, y3, y4⟩ := HB1.out.2.2.cells
      go_wp2_with fail
      refine (valid_is y _ _ _ _ _ (HY.out _ HB1.out.1) HVy.out).mono ?_
      rintro e w2 ⟨rfl, h2⟩
      have HB2 := Lib.hid (b2_on HB1.out h2)
      clear h2 y0 y1 y2 y3 y4
      obtain ⟨x0, x1, x2, x3, x4⟩ := HB2.out.2.1.cells
      obtain ⟨y0, y1, y2, y3, y4⟩ := HB2.out.2.2.cells
      go_wp2_with fail
      refine (compare_valid x y _ _ _ _ _ _ _ _ _ (HX.out _ HB2.out.1) (HY.out _ HB2.out.1) HVx.out HVy.out HN.out).mono ?_
      rintro e w3 ⟨rfl, h3⟩
      have HB3 := Lib.hid (b2_on HB2.out h3)
      clear h3 x0 x1 x2 x3 x4 y0 y1 y2 y3 y4
      obtain ⟨x0, x1, x2, x3, x4⟩ := HB3.out.2.1.cells
      go_wp2_with fail
      refine (HTx.out _ HB3.out.1).mono ?_
      rintro e w4 ⟨rfl, h4⟩
      have HB4 := Lib.hid (b2_on HB3.out h4)
      clear h4 x0 x1 x2 x3 x4
      obtain ⟨y0, y1, y2, y3, y4⟩ := HB4.out.2.2.cells
      go_wp2_with fail
      refine (HTy.out _ HB4.out.1).mono ?_
      rintro e w5 ⟨rfl, h5⟩
      have HB5 := Lib.hid (b2_on HB4.out h5)
      clear h5 y0 y1 y2 y3 y4
      obtain ⟨x0, x1, x2, x3, x4⟩ := HB5.out.2.1.cells
      obtain ⟨y0, y1, y2, y3, y4⟩ := HB5.out.2.2.cells
      go_wp2_with fail
      refine (same_is x y _ _ _ _ _ _ _ _ _ (HX.out _ HB5.out.1) (HY.out _ HB5.out.1) HR.out).mono ?_
      rintro e w6 ⟨rfl, h6⟩
      have HB6 := Lib.hid (below_on HB5.out.1 h6)
      clear h6 x0 x1 x2 x3 x4 y0 y1 y2 y3 y4
      go_wp2_with fail
      refine (HA.out _ HB6.out).mono ?_
      rintro e w7 ⟨rfl, h7⟩
      have HB7 := Lib.hid (below_on HB6.out h7)
      clear h7
      go_wp2_with fail
      go_ret
      exact ⟨rfl, HB7.out⟩
    · have HVy := Lib.hid hv
      clear hv HHx HHy
      go_enter Tryd.func10, Tryd.ntmps10
      go_wp2_with fail
      refine (valid_is x _ _ _ _ _ (HX.out _ HB0.out.1) HVx.out).mono ?_
      rintro e w1 ⟨rfl, h1⟩
      have HB1 := Lib.hid (b2_on HB0.out h1)
      clear h1
      obtain ⟨y0, y1, y2, y3, y4⟩ := HB1.out.2.2.cells
      go_wp2_with fail
      refine (valid_is y _ _ _ _ _ (HY.out _ HB1.out.1) HVy.out).mono ?_
      rintro e w2 ⟨rfl, h2⟩
      have HB2 := Lib.hid (below_on HB1.out.1 h2)
      clear h2 y0 y1 y2 y3 y4
      go_wp2_with fail
      refine (HA.out _ HB2.out).mono ?_
      rintro e w3 ⟨rfl, h3⟩
      have HB3 := Lib.hid (below_on HB2.out h3)
      clear h3
      go_wp2_with fail
      go_ret
      exact ⟨rfl, HB3.out⟩
  · have HVx := Lib.hid hv
    clear hv HHx HHy
    go_enter Tryd.func10, Tryd.ntmps10
    go_wp2_with fail
    refine (valid_is x _ _ _ _ _ (HX.out _ HB0.out.1) HVx.out).mono ?_
    rintro e w1 ⟨rfl, h1⟩
    have HB1 := Lib.hid (below_on HB0.out.1 h1)
    clear h1
    go_wp2_with fail
    refine (HA.out _ HB1.out).mono ?_
    rintro e w2 ⟨rfl, h2⟩
    have HB2 := Lib.hid (below_on HB1.out h2)
    clear h2
    go_wp2_with fail
    go_ret
    exact ⟨rfl, HB2.out⟩
end Go.Proofs.YtcbcfcokfjfffaaDoor
