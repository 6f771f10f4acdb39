/- The law on reading again what was read, walked to its end. -/
import Derived.Test.YtpdmnajcbdfkgaaDoorZo
namespace Go.Proofs.YtpdmnajcbdfkgaaDoor
open Go.RowKit

theorem again_facts {l : List UInt8} {x : V} (h : parseP l = some x) : x.write.length = (bareP false l).length ∧ (x.objs = true ∨ x.write = bareP false l) := by
  have := parse_bare h
  refine ⟨this.1, ?_⟩
  cases ho : x.objs
  · exact .inr (this.2 ho)
  · exact .inl rfl

set_option maxRecDepth 100000 in
set_option maxHeartbeats 8000000 in
theorem law_again (s : ByteArray) (w : World) (hs : s.size ≤ maxLen) (hp : Pow w) :
    Calls Tryd.prog 9 #[.string s] w fun e w' => e = .returned (.bool true) ∧ Below w.heap.size w w' := by
  have HA := Lib.hid fun W (hW : Below w.heap.size w W) => awake_any W (hp.on hW)
  have HP := Lib.hid fun W (hW : Below w.heap.size w W) => hp.on hW
  have hzw := Nat.le_refl w.heap.size
  unfold maxLen at hs
  clear hp
  by_cases hlen : s.size ≤ 20000
  · cases hR : parseP s.data.toList with
    | none =>
      have HS := Lib.hid fun W => show Calls Tryd.prog 28 #[.string s] W fun e w' => e = .returned (.tuple #[.agg #[.int .i64 0, .int .i64 0, .string ⟨#[]⟩, .slice none 0 0, .slice none 0 0], .int .i64 14]) ∧ Below W.heap.size W w' by
        have := parse_any s (by omega) W
        rw [hR] at this
        exact this
      clear hR
      go_enter Tryd.func9, Tryd.ntmps9
      go_wp2_with fail
      refine (HS.out _).mono ?_
      rintro e w1 ⟨rfl, h1⟩
      have HB1 := Lib.hid (below_on (Below.refl _ w) h1)
      clear h1
      go_wp2_with fail
      refine (HA.out _ (below_al HB1.out _)).mono ?_
      rintro e w2 ⟨rfl, h2⟩
      have HB2 := Lib.hid (below_on (below_al HB1.out (.cells #[.int .i64 0, .int .i64 0, .string ⟨#[]⟩, .slice none 0 0, .slice none 0 0] 25)) h2)
      clear h2
      go_wp2_with fail
      go_ret
      exact ⟨rfl, HB2.out⟩
    | some x =>
      have hv := parse_valid hR
      have hf := again_facts hR
      have HV := Lib.hid hv
      have HS := Lib.hid fun W => show Calls Tryd.prog 28 #[.string s] W (PPost W (some x)) by
        have := parse_any s (by omega) W
        rwa [hR] at this
      have hwl : x.write.length ≤ 24600 := by
        have h1 := V.write_len x (valid_ok hv)
        have h2 : x.nodes ≤ 60 := by unfold V.valid V.fits at hv; simp at hv; omega
        omega
      obtain ⟨T, hT⟩ : ∃ T : ByteArray, T = ⟨x.write.toArray⟩ := ⟨_, rfl⟩
      obtain ⟨b, hb⟩ : ∃ b : ByteArray, b = ⟨(bareP false s.data.toList).toArray⟩ := ⟨_, rfl⟩
      have HT := Lib.hid fun W (A K : Option Addr) (c d : Nat) (hL : Lies W W.heap.size x A c K d) (hp : Pow W) => show Calls Tryd.prog 26 #[aggOf x A c K d] W fun e w' => e = .returned (.tuple #[.string T, .int .i64 0]) ∧ Below W.heap.size W w' by
        rw [hT]; exact text_valid x W A K c d hL hp hv
      have HPS := Lib.hid fun W => show Calls Tryd.prog 28 #[.string T] W (PPost W (some x)) by
        have := parse_any T (by rw [hT]; show x.write.toArray.size ≤ _; rw [List.size_toArray]; omega) W
        rwa [show T.data.toList = x.write by rw [hT], parse_back hv] at this
      have HBS := Lib.hid fun W => show Calls Tryd.prog 30 #[.string s] W fun e w' => e = .returned (.string b) ∧ Below W.heap.size W w' by
        rw [hb]; exact bare_any s W (by omega)
      have HO := Lib.hid fun W (A K : Option Addr) (c d : Nat) (hL : Lies W W.heap.size x A c K d) => objects_any x.nodes x W A K c d (Nat.le_refl _) hL
      have hll : ((T.size : Int) == (b.size : Int)) = true := by
        rw [hT, hb]
        show ((x.write.toArray.size : Int) == ((bareP false s.data.toList).toArray.size : Int)) = true
        rw [List.size_toArray, List.size_toArray, hf.1]
        simp
      obtain ⟨r, hr⟩ : ∃ r, (T.toList == b.toList) = r := ⟨_, rfl⟩
      have hro : r = true ∨ r = false ∧ x.objs = true := by
        rcases hf.2 with ho | ho
        · cases r
          · exact .inr ⟨rfl, ho⟩
          · exact .inl rfl
        · left
          rw [← hr, hT, hb, ho]
          simp
      have HRO := Lib.hid hro
      clear hR hf hv hT hb hwl hro
      go_enter Tryd.func9, Tryd.ntmps9
      go_wp2_with fail
      refine (HS.out _).mono ?_
      rintro e w1 ⟨A1, c1, K1, m1, rfl, hL, h1⟩
      have HB1 := Lib.hid (show Below w.heap.size w (w1.alloc (.cells #[.int .i64 x.kind, .int .i64 x.int, .string x.text, .slice A1 x.items.length c1, .slice K1 x.keys.length m1] 25)) ∧ Boxed (w1.alloc (.cells #[.int .i64 x.kind, .int .i64 x.int, .string x.text, .slice A1 x.items.length c1, .slice K1 x.keys.length m1] 25)) w1.heap.size x A1 c1 K1 m1 ∧ Lies (w1.alloc (.cells #[.int .i64 x.kind, .int .i64 x.int, .string x.text, .slice A1 x.items.length c1, .slice K1 x.keys.length m1] 25)) (w1.alloc (.cells #[.int .i64 x.kind, .int .i64 x.int, .string x.text, .slice A1 x.items.length c1, .slice K1 x.keys.length m1] 25)).heap.size x A1 c1 K1 m1 from
        ⟨below_al (below_on (Below.refl _ w) h1) _, BlockIs.new w1 _ _, lies_alloc (LiesIn.lies (fun b h => h.2) x hL) _⟩)
      clear hL h1
      unfold cellsOf
      go_wp2_with fail
      refine (HT.out _ _ _ _ _ HB1.out.2.2 (HP.out _ HB1.out.1)).mono ?_
      rintro e w2 ⟨rfl, h2⟩
      have HB2 := Lib.hid (And.intro (below_on HB1.out.1 h2) (And.intro (HB1.out.2.1.on h2) (lies_on HB1.out.2.2 h2)))
      have z2 : w1.heap.size < w2.heap.size := by have := h2.size; simp at this; omega
      clear h2
      go_wp2_with fail
      refine (HPS.out _).mono ?_
      rintro e w3 ⟨A2, c2, K2, m2, rfl, hL, h3⟩
      have z3 : w1.heap.size < w3.heap.size := by have := h3.size; omega
      have HB3 := Lib.hid (show Below w.heap.size w (w3.alloc (.cells #[.int .i64 x.kind, .int .i64 x.int, .string x.text, .slice A2 x.items.length c2, .slice K2 x.keys.length m2] 25)) ∧
          (Boxed (w3.alloc (.cells #[.int .i64 x.kind, .int .i64 x.int, .string x.text, .slice A2 x.items.length c2, .slice K2 x.keys.length m2] 25)) w1.heap.size x A1 c1 K1 m1 ∧ Lies (w3.alloc (.cells #[.int .i64 x.kind, .int .i64 x.int, .string x.text, .slice A2 x.items.length c2, .slice K2 x.keys.length m2] 25)) (w3.alloc (.cells #[.int .i64 x.kind, .int .i64 x.int, .string x.text, .slice A2 x.items.length c2, .slice K2 x.keys.length m2] 25)).heap.size x A1 c1 K1 m1) ∧
          (Boxed (w3.alloc (.cells #[.int .i64 x.kind, .int .i64 x.int, .string x.text, .slice A2 x.items.length c2, .slice K2 x.keys.length m2] 25)) w3.heap.size x A2 c2 K2 m2 ∧ Lies (w3.alloc (.cells #[.int .i64 x.kind, .int .i64 x.int, .string x.text, .slice A2 x.items.length c2, .slice K2 x.keys.length m2] 25)) (w3.alloc (.cells #[.int .i64 x.kind, .int .i64 x.int, .string x.text, .slice A2 x.items.length c2, .slice K2 x.keys.length m2] 25)).heap.size x A2 c2 K2 m2) from
        ⟨below_al (below_on HB2.out.1 h3) _, ⟨(HB2.out.2.1.on h3).on ((Below.refl _ _).alloc (Nat.le_refl _) _), lies_alloc (lies_on HB2.out.2.2 h3) _⟩, BlockIs.new w3 _ _, lies_alloc (LiesIn.lies (fun b h => h.2) x hL) _⟩)
      clear hL h3
      unfold cellsOf
      go_wp2_with fail
      refine (HBS.out _).mono ?_
      rintro e w4 ⟨rfl, h4⟩
      have HB4 := Lib.hid (And.intro (below_on HB3.out.1 h4) (And.intro (And.intro (HB3.out.2.1.1.on h4) (lies_on HB3.out.2.1.2 h4)) (And.intro (HB3.out.2.2.1.on h4) (lies_on HB3.out.2.2.2 h4))))
      clear h4
      obtain ⟨x0, x1, x2, x3, x4⟩ := HB4.out.2.1.1.cells
      go_wp2_with fail
      refine (valid_is x _ _ _ _ _ HB4.out.2.1.2 HV.out).mono ?_
      rintro e w5 ⟨rfl, h5⟩
      have HB5 := Lib.hid (And.intro (below_on HB4.out.1 h5) (And.intro (And.intro (HB4.out.2.1.1.on h5) (lies_on HB4.out.2.1.2 h5)) (And.intro (HB4.out.2.2.1.on h5) (lies_on HB4.out.2.2.2 h5))))
      clear h5 x0 x1 x2 x3 x4
      obtain ⟨x0, x1, x2, x3, x4⟩ := HB5.out.2.1.1.cells
      obtain ⟨y0, y1, y2, y3, y4⟩ := HB5.out.2.2.1.cells
      go_wp2_with fail
      refine (same_is x x _ _ _ _ _ _ _ _ _ HB5.out.2.1.2 HB5.out.2.2.2 (r := true) (by simp)).mono ?_
      rintro e w6 ⟨rfl, h6⟩
      have HB6 := Lib.hid (And.intro (below_on HB5.out.1 h6) (And.intro (HB5.out.2.1.1.on h6) (lies_on HB5.out.2.1.2 h6)))
      clear h6 x0 x1 x2 x3 x4 y0 y1 y2 y3 y4
      rcases HRO.out with hq | ⟨hq, ho⟩
      · subst hq
        clear HRO
        go_wp2_with fail
        refine (HA.out _ HB6.out.1).mono ?_
        rintro e w7 ⟨rfl, h7⟩
        have HB7 := Lib.hid (below_on HB6.out.1 h7)
        clear h7
        go_wp2_with fail
        go_ret
        exact ⟨rfl, HB7.out⟩
      · subst hq
        have HOO := Lib.hid ho
        clear HRO ho
        obtain ⟨x0, x1, x2, x3, x4⟩ := HB6.out.2.1.cells
        go_wp2_with fail
        refine (HO.out _ _ _ _ _ HB6.out.2.2).mono ?_
        rintro e w7 ⟨rfl, h7⟩
        rw [HOO.out]
        have HB7 := Lib.hid (below_on HB6.out.1 h7)
        clear h7 x0 x1 x2 x3 x4
        go_wp2_with fail
        refine (HA.out _ HB7.out).mono ?_
        rintro e w8 ⟨rfl, h8⟩
        have HB8 := Lib.hid (below_on HB7.out h8)
        clear h8
        go_wp2_with fail
        go_ret
        exact ⟨rfl, HB8.out⟩
  · go_enter Tryd.func9, Tryd.ntmps9
    go_wp2_with fail
    refine (HA.out _ (Below.refl _ w)).mono ?_
    rintro e w2 ⟨rfl, h2⟩
    have HB2 := Lib.hid h2
    clear h2
    go_wp2_with fail
    go_ret
    exact ⟨rfl, HB2.out⟩
end Go.Proofs.YtpdmnajcbdfkgaaDoor
