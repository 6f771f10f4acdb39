/- The law on the texts of values, walked. -/
import Derived.Test.YtpdmnajcbdfkgaaDoorRu
namespace Go.Proofs.YtpdmnajcbdfkgaaDoor
open Go.RowKit

set_option maxRecDepth 100000 in
set_option maxHeartbeats 2000000 in
theorem refText_any (x : V) (w : World) (A K : Option Addr) (c d : Nat) (h : Lies w w.heap.size x A c K d) :
    Calls Tryd.prog 27 #[aggOf x A c K d] w (TextPost x w) := by
  have HB0 := Lib.hid (show Below w.heap.size w (w.alloc (.cells #[.int .i64 x.kind, .int .i64 x.int, .string x.text, .slice A x.items.length c, .slice K x.keys.length d] 25)) ∧ Boxed (w.alloc (.cells #[.int .i64 x.kind, .int .i64 x.int, .string x.text, .slice A x.items.length c, .slice K x.keys.length d] 25)) w.heap.size x A c K d from ⟨below_al (Below.refl _ w) _, BlockIs.new w _ _⟩)
  have HX := Lib.hid fun W (hW : Below w.heap.size w W) => lies_on h hW
  have HH := Lib.hid (Bool.eq_false_or_eq_true x.valid)
  clear h
  unfold aggOf
  rcases HH.out with hv | hv
  · have HV := Lib.hid hv
    have HN := Lib.hid (show x.nodes ≤ 60 by unfold V.valid V.fits at hv; simp at hv; exact hv.1.2)
    clear hv HH
    go_enter Tryd.func27, Tryd.ntmps27
    go_wp2_with fail
    refine (valid_is x _ _ _ _ _ (HX.out _ HB0.out.1) HV.out).mono ?_
    rintro e w1 ⟨rfl, h1⟩
    have HB1 := Lib.hid (And.intro (below_on HB0.out.1 h1) (HB0.out.2.on h1))
    clear h1
    obtain ⟨x0, x1, x2, x3, x4⟩ := HB1.out.2.cells
    go_wp2_with fail
    refine (written_any 60 x _ _ _ _ _ HN.out (Nat.le_refl _) (valid_ok HV.out) (HX.out _ HB1.out.1)).mono ?_
    rintro e w2 ⟨rfl, h2⟩
    have HB2 := Lib.hid (below_on HB1.out.1 h2)
    clear h2 x0 x1 x2 x3 x4
    go_wp2_with fail
    go_ret2
    refine ⟨?_, HB2.out⟩
    rw [HV.out]
    rfl
  · have HV := Lib.hid hv
    clear hv HH
    go_enter Tryd.func27, Tryd.ntmps27
    go_wp2_with fail
    refine (valid_is x _ _ _ _ _ (HX.out _ HB0.out.1) HV.out).mono ?_
    rintro e w1 ⟨rfl, h1⟩
    have HB1 := Lib.hid (below_on HB0.out.1 h1)
    clear h1
    go_wp2_with fail
    go_ret2
    refine ⟨?_, HB1.out⟩
    rw [HV.out]
    rfl

set_option maxRecDepth 100000 in
set_option maxHeartbeats 8000000 in
theorem law_texts (x : V) (w : World) (A0 K0 : Option Addr) (c0 m0 : Nat) (hx : Lies w w.heap.size x A0 c0 K0 m0) (hp : Pow w) :
    Calls Tryd.prog 5 #[aggOf x A0 c0 K0 m0] w fun e w' => e = .returned (.bool true) ∧ Below w.heap.size w w' := by
  have HA := Lib.hid fun W (hW : Below w.heap.size w W) => awake_any W (hp.on hW)
  have HB0 := Lib.hid (show Below w.heap.size w (w.alloc (.cells #[.int .i64 x.kind, .int .i64 x.int, .string x.text, .slice A0 x.items.length c0, .slice K0 x.keys.length m0] 25)) ∧ Boxed (w.alloc (.cells #[.int .i64 x.kind, .int .i64 x.int, .string x.text, .slice A0 x.items.length c0, .slice K0 x.keys.length m0] 25)) w.heap.size x A0 c0 K0 m0 from ⟨below_al (Below.refl _ w) _, BlockIs.new w _ _⟩)
  obtain ⟨r, n, hr⟩ : ∃ (r : ByteArray) (n : Int), (if x.valid then Value.tuple #[.string ⟨x.write.toArray⟩, .int .i64 0] else .tuple #[.string ⟨#[]⟩, .int .i64 1]) = .tuple #[.string r, .int .i64 n] := by
    split
    · exact ⟨_, _, rfl⟩
    · exact ⟨_, _, rfl⟩
  have HT : ∀ e W W', TextPost x W e W' → e = .returned (.tuple #[.string r, .int .i64 n]) ∧ Below W.heap.size W W' := by
    rintro e W W' ⟨he, hb⟩
    rw [hr] at he
    exact ⟨he, hb⟩
  have HC := Lib.hid fun W (hW : Below w.heap.size w W) => (text_any x W A0 K0 c0 m0 (lies_on hx hW) (hp.on hW)).mono (HT · W ·)
  have HR := Lib.hid fun W (hW : Below w.heap.size w W) => (refText_any x W A0 K0 c0 m0 (lies_on hx hW)).mono (HT · W ·)
  clear hx hp hr HT
  unfold aggOf at HR
  unfold aggOf
  go_enter Tryd.func5, Tryd.ntmps5
  go_wp2_with fail
  refine (HC.out _ HB0.out.1).mono ?_
  rintro e w1 ⟨rfl, h1⟩
  have HB1 := Lib.hid (And.intro (below_on HB0.out.1 h1) (HB0.out.2.on h1))
  clear h1
  obtain ⟨x0, x1, x2, x3, x4⟩ := HB1.out.2.cells
  go_wp2_with fail
  refine (HR.out _ HB1.out.1).mono ?_
  rintro e w2 ⟨rfl, h2⟩
  have HB2 := Lib.hid (below_on HB1.out.1 h2)
  clear h2 x0 x1 x2 x3 x4
  go_wp2_with fail
  refine (HA.out _ HB2.out).mono ?_
  rintro e w3 ⟨rfl, h3⟩
  have HB3 := Lib.hid (below_on HB2.out h3)
  clear h3
  go_wp2_with fail
  go_ret
  exact ⟨rfl, HB3.out⟩
end Go.Proofs.YtpdmnajcbdfkgaaDoor
