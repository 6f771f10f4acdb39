/- The law on the checks of values, walked. -/
import Derived.Test.YtpdmnajcbdfkgaaDoorZe
namespace Go.Proofs.YtpdmnajcbdfkgaaDoor
open Go.RowKit

/-- What is known while the checks are compared: nothing old has turned, and what lies in the three boxes. -/
def CkF (w0 : World) (g h i : Nat) (x : V) (A : Option Addr) (c : Nat) (K : Option Addr) (d : Nat) (p q : Int) (W : World) : Prop :=
  Below w0.heap.size w0 W ∧ Boxed W g x A c K d ∧ BlockIs W h 25 #[.int .i64 p, .int .i64 q, .string ⟨#[]⟩, .slice none 0 0, .slice none 0 0] ∧ BlockIs W i 25 #[.int .i64 p, .int .i64 q, .string ⟨#[]⟩, .slice none 0 0, .slice none 0 0]
section
variable {w0 W W' : World} {g h i : Nat} {x : V} {A K : Option Addr} {c d : Nat} {p q : Int}
theorem ck_on (H : CkF w0 g h i x A c K d p q W) (hb : Below W.heap.size W W') : CkF w0 g h i x A c K d p q W' :=
  ⟨below_on H.1 hb, H.2.1.on hb, H.2.2.1.below hb H.2.2.1.lt, H.2.2.2.below hb H.2.2.2.lt⟩
theorem ck_drew (H : CkF w0 g h i x A c K d p q W) : CkF w0 g h i x A c K d p q W.drew := ck_on H (Below.refl _ _).drew
theorem ck_mk (H : CkF w0 g h i x A c K d p q W) : Hid (CkF w0 g h i x A c K d p q W) ∧
    (W.cell? ⟨g, 0, none⟩ = some (.int .i64 x.kind) ∧ W.cell? ⟨g, 1, none⟩ = some (.int .i64 x.int) ∧ W.cell? ⟨g, 2, none⟩ = some (.string x.text) ∧ W.cell? ⟨g, 3, none⟩ = some (.slice A x.items.length c) ∧ W.cell? ⟨g, 4, none⟩ = some (.slice K x.keys.length d)) ∧
    (W.cell? ⟨h, 0, none⟩ = some (.int .i64 p) ∧ W.cell? ⟨h, 1, none⟩ = some (.int .i64 q) ∧ W.cell? ⟨h, 2, none⟩ = some (.string ⟨#[]⟩) ∧ W.cell? ⟨h, 3, none⟩ = some (.slice none 0 0) ∧ W.cell? ⟨h, 4, none⟩ = some (.slice none 0 0)) ∧
    (W.cell? ⟨i, 0, none⟩ = some (.int .i64 p) ∧ W.cell? ⟨i, 1, none⟩ = some (.int .i64 q) ∧ W.cell? ⟨i, 2, none⟩ = some (.string ⟨#[]⟩) ∧ W.cell? ⟨i, 3, none⟩ = some (.slice none 0 0) ∧ W.cell? ⟨i, 4, none⟩ = some (.slice none 0 0)) :=
  ⟨Lib.hid H, H.2.1.cells, box5 H.2.2.1, box5 H.2.2.2⟩
end

set_option maxRecDepth 100000 in
set_option maxHeartbeats 8000000 in
theorem checks_walk (x : V) (t n : Int) (s : ByteArray) (w : World) (A0 K0 : Option Addr) (c0 m0 : Nat) (hs : s.size ≤ 2000) (p q : Int) (er s1 s2 s3 : Int) (vb fb wb : Bool)
    (HA : Hid (∀ W, Below w.heap.size w W → Calls Tryd.prog 12 #[] W fun e w' => e = .returned (.bool true) ∧ Below W.heap.size W w'))
    (H1 : Hid (∀ W, Below w.heap.size w W → Calls Tryd.prog 13 #[aggOf x A0 c0 K0 m0] W fun e w' => e = .returned (.tuple #[.int .i64 s1, .int .i64 s2, .int .i64 s3]) ∧ Below W.heap.size W w'))
    (H2 : Hid (∀ W, Below w.heap.size w W → Calls Tryd.prog 14 #[aggOf x A0 c0 K0 m0] W fun e w' => e = .returned (.tuple #[.int .i64 s1, .int .i64 s2, .int .i64 s3]) ∧ Below W.heap.size W w'))
    (H3 : Hid (∀ W, Calls Tryd.prog 15 #[.int .i64 n] W fun e w' => e = .returned (.tuple #[.agg #[.int .i64 p, .int .i64 q, .string ⟨#[]⟩, .slice none 0 0, .slice none 0 0], .int .i64 er]) ∧ Below W.heap.size W w'))
    (H4 : Hid (∀ W, Calls Tryd.prog 16 #[.int .i64 n] W fun e w' => e = .returned (.tuple #[.agg #[.int .i64 p, .int .i64 q, .string ⟨#[]⟩, .slice none 0 0, .slice none 0 0], .int .i64 er]) ∧ Below W.heap.size W w'))
    (H5 : Hid (∀ W, Below w.heap.size w W → Calls Tryd.prog 17 #[aggOf x A0 c0 K0 m0] W fun e w' => e = .returned (.bool vb) ∧ Below W.heap.size W w'))
    (H6 : Hid (∀ W, Below w.heap.size w W → Calls Tryd.prog 18 #[aggOf x A0 c0 K0 m0] W fun e w' => e = .returned (.bool vb) ∧ Below W.heap.size W w'))
    (H7 : Hid (∀ W, Below w.heap.size w W → Calls Tryd.prog 19 #[aggOf x A0 c0 K0 m0, .int .i64 t] W fun e w' => e = .returned (.bool fb) ∧ Below W.heap.size W w'))
    (H8 : Hid (∀ W, Below w.heap.size w W → Calls Tryd.prog 20 #[aggOf x A0 c0 K0 m0, .int .i64 t] W fun e w' => e = .returned (.bool fb) ∧ Below W.heap.size W w'))
    (H9 : Hid (∀ W, Calls Tryd.prog 21 #[.agg #[.int .i64 p, .int .i64 q, .string ⟨#[]⟩, .slice none 0 0, .slice none 0 0], .agg #[.int .i64 p, .int .i64 q, .string ⟨#[]⟩, .slice none 0 0, .slice none 0 0]] W fun e w' => e = .returned (.bool true) ∧ Below W.heap.size W w'))
    (H10 : Hid (∀ W, Calls Tryd.prog 22 #[.string s] W fun e w' => e = .returned (.bool wb) ∧ w' = W))
    (H11 : Hid (∀ W, Calls Tryd.prog 23 #[.string s] W fun e w' => e = .returned (.bool wb) ∧ w' = W)) :
    Calls Tryd.prog 3 #[aggOf x A0 c0 K0 m0, .int .i64 t, .int .i64 n, .string s] w fun e w' => e = .returned (.bool true) ∧ Below w.heap.size w w' := by
  have HB0 := Lib.hid (show Below w.heap.size w (w.alloc (.cells #[.int .i64 x.kind, .int .i64 x.int, .string x.text, .slice A0 x.items.length c0, .slice K0 x.keys.length m0] 25)) ∧ Boxed (w.alloc (.cells #[.int .i64 x.kind, .int .i64 x.int, .string x.text, .slice A0 x.items.length c0, .slice K0 x.keys.length m0] 25)) w.heap.size x A0 c0 K0 m0 from ⟨below_al (Below.refl _ w) _, BlockIs.new w _ _⟩)
  unfold aggOf at H1 H2 H5 H6 H7 H8
  unfold aggOf
  go_enter Tryd.func3, Tryd.ntmps3
  go_wp2_with fail
  refine (H1.out _ HB0.out.1).mono ?_
  rintro e w1 ⟨rfl, h1⟩
  have HB1 := Lib.hid (And.intro (below_on HB0.out.1 h1) (HB0.out.2.on h1))
  clear h1
  obtain ⟨x0, x1, x2, x3, x4⟩ := HB1.out.2.cells
  go_wp2_with fail
  refine (H2.out _ HB1.out.1).mono ?_
  rintro e w2 ⟨rfl, h2⟩
  have HB2 := Lib.hid (And.intro (below_on HB1.out.1 h2) (HB1.out.2.on h2))
  clear h2 x0 x1 x2 x3 x4
  go_wp2_with fail
  refine (H3.out _).mono ?_
  rintro e w3 ⟨rfl, h3⟩
  have HB3 := Lib.hid (And.intro (below_on HB2.out.1 h3) (HB2.out.2.on h3))
  clear h3
  go_wp2_with fail
  refine (H4.out _).mono ?_
  rintro e w4 ⟨rfl, h4⟩
  have z4 : w3.heap.size + 1 ≤ w4.heap.size := by simpa using h4.size
  have HB4 := Lib.hid (And.intro (below_on (below_al HB3.out.1 (.cells #[.int .i64 p, .int .i64 q, .string ⟨#[]⟩, .slice none 0 0, .slice none 0 0] 25)) h4) (And.intro ((HB3.out.2.on (Below.refl _ _ |>.alloc (Nat.le_refl _) (.cells #[.int .i64 p, .int .i64 q, .string ⟨#[]⟩, .slice none 0 0, .slice none 0 0] 25))).on h4)
    ((BlockIs.new w3 25 #[.int .i64 p, .int .i64 q, .string ⟨#[]⟩, .slice none 0 0, .slice none 0 0]).below h4 (by simp))))
  clear h4
  have HF := Lib.hid (show CkF w w.heap.size w3.heap.size w4.heap.size x A0 c0 K0 m0 p q (w4.alloc (.cells #[.int .i64 p, .int .i64 q, .string ⟨#[]⟩, .slice none 0 0, .slice none 0 0] 25)) from
    ⟨below_al HB4.out.1 _, HB4.out.2.1.on (Below.refl _ _ |>.alloc (Nat.le_refl _) _), HB4.out.2.2.alloc _, BlockIs.new w4 _ _⟩)
  go_wp2_with fail
  go_region_held3 (fun W => Hid (CkF w w.heap.size w3.heap.size w4.heap.size x A0 c0 K0 m0 p q W) ∧
    (W.cell? ⟨w.heap.size, 0, none⟩ = some (.int .i64 x.kind) ∧ W.cell? ⟨w.heap.size, 1, none⟩ = some (.int .i64 x.int) ∧ W.cell? ⟨w.heap.size, 2, none⟩ = some (.string x.text) ∧ W.cell? ⟨w.heap.size, 3, none⟩ = some (.slice A0 x.items.length c0) ∧ W.cell? ⟨w.heap.size, 4, none⟩ = some (.slice K0 x.keys.length m0)) ∧
    (W.cell? ⟨w3.heap.size, 0, none⟩ = some (.int .i64 p) ∧ W.cell? ⟨w3.heap.size, 1, none⟩ = some (.int .i64 q) ∧ W.cell? ⟨w3.heap.size, 2, none⟩ = some (.string ⟨#[]⟩) ∧ W.cell? ⟨w3.heap.size, 3, none⟩ = some (.slice none 0 0) ∧ W.cell? ⟨w3.heap.size, 4, none⟩ = some (.slice none 0 0)) ∧
    (W.cell? ⟨w4.heap.size, 0, none⟩ = some (.int .i64 p) ∧ W.cell? ⟨w4.heap.size, 1, none⟩ = some (.int .i64 q) ∧ W.cell? ⟨w4.heap.size, 2, none⟩ = some (.string ⟨#[]⟩) ∧ W.cell? ⟨w4.heap.size, 3, none⟩ = some (.slice none 0 0) ∧ W.cell? ⟨w4.heap.size, 4, none⟩ = some (.slice none 0 0)))
    (first
      | (exact ck_mk (ck_drew HF.out))
      | (exact ck_mk (ck_on (Hid.out (And.left (by assumption))) hb3))
      | assumption)
    (first
      | (go_at_call 17; refine (H5.out _ ?_).mono ?_; (go_split_ands; exact And.left (Hid.out (by assumption))); rintro e w' ⟨rfl, hb3⟩)
      | (go_at_call 18; refine (H6.out _ ?_).mono ?_; (go_split_ands; exact And.left (Hid.out (by assumption))); rintro e w' ⟨rfl, hb3⟩)
      | (go_at_call 19; refine (H7.out _ ?_).mono ?_; (go_split_ands; exact And.left (Hid.out (by assumption))); rintro e w' ⟨rfl, hb3⟩)
      | (go_at_call 20; refine (H8.out _ ?_).mono ?_; (go_split_ands; exact And.left (Hid.out (by assumption))); rintro e w' ⟨rfl, hb3⟩)
      | (go_at_call 21; refine (H9.out _).mono ?_; rintro e w' ⟨rfl, hb3⟩)
      | (go_at_call 22; refine (H10.out _).mono ?_; rintro e w' ⟨rfl, rfl⟩)
      | (go_at_call 23; refine (H11.out _).mono ?_; rintro e w' ⟨rfl, rfl⟩)
      | (go_at_call 12; refine (HA.out _ ?_).mono ?_; (go_split_ands; exact And.left (Hid.out (by assumption))); rintro e w' ⟨rfl, hb3⟩))
  all_goals
    have HE : Hid (CkF w w.heap.size w3.heap.size w4.heap.size x A0 c0 K0 m0 p q w') := And.left (by assumption)
    go_wp2_with fail
    go_ret
    exact ⟨rfl, HE.out.1⟩

set_option maxRecDepth 100000 in
set_option maxHeartbeats 8000000 in
theorem law_checks (x : V) (t n : Int) (s : ByteArray) (w : World) (A0 K0 : Option Addr) (c0 m0 : Nat) (hx : Lies w w.heap.size x A0 c0 K0 m0) (hs : s.size ≤ maxLen) (hp : Pow w) :
    Calls Tryd.prog 3 #[aggOf x A0 c0 K0 m0, .int .i64 t, .int .i64 n, .string s] w fun e w' => e = .returned (.bool true) ∧ Below w.heap.size w w' := by
  have HA := Lib.hid fun W (hW : Below w.heap.size w W) => awake_any W (hp.on hW)
  by_cases hlen : s.size ≤ 2000
  · obtain ⟨s1, s2, s3, hz⟩ : ∃ s1 s2 s3 : Int, (if x.valid then Value.tuple #[.int .i64 x.nodes, .int .i64 x.depth, .int .i64 0] else .tuple #[.int .i64 0, .int .i64 0, .int .i64 1]) = .tuple #[.int .i64 s1, .int .i64 s2, .int .i64 s3] := by
      split
      · exact ⟨_, _, _, rfl⟩
      · exact ⟨_, _, _, rfl⟩
    have hS : ∀ e W W', SizePost x W e W' → e = .returned (.tuple #[.int .i64 s1, .int .i64 s2, .int .i64 s3]) ∧ Below W.heap.size W W' := by
      rintro e W W' ⟨he, hb⟩
      rw [hz] at he
      exact ⟨he, hb⟩
    have hN : ∃ p q er : Int, (if withinB n then Value.tuple #[numV n, .int .i64 0] else .tuple #[zeroV, .int .i64 3]) = .tuple #[.agg #[.int .i64 p, .int .i64 q, .string ⟨#[]⟩, .slice none 0 0, .slice none 0 0], .int .i64 er] := by
      split
      · exact ⟨_, _, _, rfl⟩
      · exact ⟨_, _, _, rfl⟩
    obtain ⟨p, q, er, hq⟩ := hN
    have hN : ∀ e W W', NumPost (withinB n) n W e W' → e = .returned (.tuple #[.agg #[.int .i64 p, .int .i64 q, .string ⟨#[]⟩, .slice none 0 0, .slice none 0 0], .int .i64 er]) ∧ Below W.heap.size W W' := by
      rintro e W W' ⟨he, hb⟩
      rw [hq] at he
      exact ⟨he, hb⟩
    have hY : ∀ W : World, Lies W W.heap.size (.mk p q ⟨#[]⟩ [] []) none 0 none 0 := fun W => ⟨sz0, Nat.le_refl _, by simp [maxLen], ⟨Nat.le_refl _, by simp [maxLen], .inl rfl⟩, .inl rfl⟩
    exact checks_walk x t n s w A0 K0 c0 m0 hlen p q er s1 s2 s3 x.valid (fitsB x.valid x.kind t) (wordB s.data.toList) HA
      (Lib.hid fun W hW => (size_any x W A0 K0 c0 m0 (lies_on hx hW)).mono (hS · W ·))
      (Lib.hid fun W hW => (refSize_any x W A0 K0 c0 m0 (lies_on hx hW)).mono (hS · W ·))
      (Lib.hid fun W => (valNumber_any n W).mono (hN · W ·))
      (Lib.hid fun W => (refNumber_any n W).mono (hN · W ·))
      (Lib.hid fun W hW => valid_any x W A0 K0 c0 m0 (lies_on hx hW))
      (Lib.hid fun W hW => refValid_any x W A0 K0 c0 m0 (lies_on hx hW))
      (Lib.hid fun W hW => fits_any x t W A0 K0 c0 m0 (lies_on hx hW))
      (Lib.hid fun W hW => refFits_any x t W A0 K0 c0 m0 (lies_on hx hW))
      (Lib.hid fun W => same_is (.mk p q ⟨#[]⟩ [] []) (.mk p q ⟨#[]⟩ [] []) W none none 0 0 none none 0 0 (hY W) (hY W) (r := true) (by simp))
      (Lib.hid fun W => word_any s W hs)
      (Lib.hid fun W => refWord_any s W hs)
  · unfold maxLen at hs
    unfold aggOf
    go_enter Tryd.func3, Tryd.ntmps3
    go_wp2_with fail
    refine (HA.out _ (below_al (Below.refl _ w) _)).mono ?_
    rintro e w2 ⟨rfl, h2⟩
    have HB2 := Lib.hid (below_on (below_al (Below.refl _ w) (.cells #[.int .i64 x.kind, .int .i64 x.int, .string x.text, .slice A0 x.items.length c0, .slice K0 x.keys.length m0] 25)) h2)
    clear h2
    go_wp2_with fail
    go_ret
    exact ⟨rfl, HB2.out⟩
end Go.Proofs.YtpdmnajcbdfkgaaDoor
