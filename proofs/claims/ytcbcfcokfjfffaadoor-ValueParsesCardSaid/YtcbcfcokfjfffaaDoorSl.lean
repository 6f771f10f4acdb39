/- The law on Parse, walked. -/
import Derived.Test.YtcbcfcokfjfffaaDoorSk
namespace Go.Proofs.YtcbcfcokfjfffaaDoor
open Go.RowKit

/-- What both readings answer: a value and an error. -/
def parseV : Option V → V × Int
  | none => (leaf 0 0 ⟨#[]⟩, 14)
  | some x => (x, 0)
theorem PPost.form {W w' : World} {R : Option V} {e : Ending} {x : V} {n : Int} (hR : parseV R = (x, n)) (h : PPost W R e w') :
    ∃ A c K q, e = .returned (.tuple #[cellsOf x A c K q, .int .i64 n]) ∧ LiesIn (Fresh W w') w' x A c K q ∧ Below W.heap.size W w' := by
  rcases R with _ | y
  · obtain ⟨rfl, rfl⟩ : leaf 0 0 ⟨#[]⟩ = x ∧ (14 : Int) = n := by simpa [parseV] using hR
    obtain ⟨he, hb⟩ := h
    exact ⟨none, 0, none, 0, he, leaf_in _ _ _ _ (by decide), hb⟩
  · obtain ⟨rfl, rfl⟩ : y = x ∧ (0 : Int) = n := by simpa [parseV] using hR
    exact h

set_option maxRecDepth 100000 in
set_option maxHeartbeats 8000000 in
theorem law_parses (s : ByteArray) (w : World) (hs : s.size ≤ maxLen) (hp : Pow w) :
    Calls Tryd.prog 6 #[.string s] w fun e w' => e = .returned (.bool true) ∧ Below w.heap.size w w' := by
  have HA := Lib.hid fun W (hW : Below w.heap.size w W) => awake_any W (hp.on hW)
  have hzw := Nat.le_refl w.heap.size
  unfold maxLen at hs
  clear hp
  by_cases hlen : s.size ≤ 20000
  · obtain ⟨x, n, hx⟩ : ∃ x n, parseV (parseP s.data.toList) = (x, n) := ⟨_, _, rfl⟩
    have HS := Lib.hid fun W => (parse_any s (by omega) W).mono (fun e w' h => PPost.form hx h)
    have HT := Lib.hid fun W => (refParse_any s (by omega) W).mono (fun e w' h => PPost.form hx h)
    clear hx
    go_enter Tryd.func6, Tryd.ntmps6
    go_wp2_with fail
    refine (HS.out _).mono ?_
    rintro e w1 ⟨A1, c1, K1, m1, rfl, hL, h1⟩
    have HB1 := Lib.hid (show Below w.heap.size w (w1.alloc (.cells #[.int .i64 x.kind, .int .i64 x.int, .string x.text, .slice A1 x.items.length c1, .slice K1 x.keys.length m1] 25)) ∧ Boxed (w1.alloc (.cells #[.int .i64 x.kind, .int .i64 x.int, .string x.text, .slice A1 x.items.length c1, .slice K1 x.keys.length m1] 25)) w1.heap.size x A1 c1 K1 m1 ∧ Lies (w1.alloc (.cells #[.int .i64 x.kind, .int .i64 x.int, .string x.text, .slice A1 x.items.length c1, .slice K1 x.keys.length m1] 25)) (w1.alloc (.cells #[.int .i64 x.kind, .int .i64 x.int, .string x.text, .slice A1 x.items.length c1, .slice K1 x.keys.length m1] 25)).heap.size x A1 c1 K1 m1 from
      ⟨below_al (below_on (Below.refl _ w) h1) _, BlockIs.new w1 _ _, lies_alloc (LiesIn.lies (fun b h => h.2) x hL) _⟩)
    clear hL h1
    unfold cellsOf
    go_wp2_with fail
    refine (HT.out _).mono ?_
    rintro e w3 ⟨A2, c2, K2, m2, rfl, hL, h3⟩
    have z3 : w1.heap.size < w3.heap.size := by have := h3.size; simp at this; omega
    have HB3 := Lib.hid (show Below w.heap.size w (w3.alloc (.cells #[.int .i64 x.kind, .int .i64 x.int, .string x.text, .slice A2 x.items.length c2, .slice K2 x.keys.length m2] 25)) ∧
        (Boxed (w3.alloc (.cells #[.int .i64 x.kind, .int .i64 x.int, .string x.text, .slice A2 x.items.length c2, .slice K2 x.keys.length m2] 25)) w1.heap.size x A1 c1 K1 m1 ∧ Lies (w3.alloc (.cells #[.int .i64 x.kind, .int .i64 x.int, .string x.text, .slice A2 x.items.length c2, .slice K2 x.keys.length m2] 25)) (w3.alloc (.cells #[.int .i64 x.kind, .int .i64 x.int, .string x.text, .slice A2 x.items.length c2, .slice K2 x.keys.length m2] 25)).heap.size x A1 c1 K1 m1) ∧
        (Boxed (w3.alloc (.cells #[.int .i64 x.kind, .int .i64 x.int, .string x.text, .slice A2 x.items.length c2, .slice K2 x.keys.length m2] 25)) w3.heap.size x A2 c2 K2 m2 ∧ Lies (w3.alloc (.cells #[.int .i64 x.kind, .int .i64 x.int, .string x.text, .slice A2 x.items.length c2, .slice K2 x.keys.length m2] 25)) (w3.alloc (.cells #[.int .i64 x.kind, .int .i64 x.int, .string x.text, .slice A2 x.items.length c2, .slice K2 x.keys.length m2] 25)).heap.size x A2 c2 K2 m2) from
      ⟨below_al (below_on HB1.out.1 h3) _, ⟨(HB1.out.2.1.on h3).on ((Below.refl _ _).alloc (Nat.le_refl _) _), lies_alloc (lies_on HB1.out.2.2 h3) _⟩, BlockIs.new w3 _ _, lies_alloc (LiesIn.lies (fun b h => h.2) x hL) _⟩)
    clear hL h3
    unfold cellsOf
    obtain ⟨x0, x1, x2, x3, x4⟩ := HB3.out.2.1.1.cells
    obtain ⟨y0, y1, y2, y3, y4⟩ := HB3.out.2.2.1.cells
    have hnn : (n == n) = true := by simp
    go_wp2_with fail
    refine (same_is x x _ _ _ _ _ _ _ _ _ HB3.out.2.1.2 HB3.out.2.2.2 (r := true) (by simp)).mono ?_
    rintro e w6 ⟨rfl, h6⟩
    have HB6 := Lib.hid (below_on HB3.out.1 h6)
    clear h6 x0 x1 x2 x3 x4 y0 y1 y2 y3 y4
    go_wp2_with fail
    refine (HA.out _ HB6.out).mono ?_
    rintro e w7 ⟨rfl, h7⟩
    have HB7 := Lib.hid (below_on HB6.out h7)
    clear h7
    go_wp2_with fail
    go_ret
    exact ⟨rfl, HB7.out⟩
  · go_enter Tryd.func6, Tryd.ntmps6
    go_wp2_with fail
    refine (HA.out _ (Below.refl _ w)).mono ?_
    rintro e w2 ⟨rfl, h2⟩
    have HB2 := Lib.hid h2
    clear h2
    go_wp2_with fail
    go_ret
    exact ⟨rfl, HB2.out⟩
end Go.Proofs.YtcbcfcokfjfffaaDoor
