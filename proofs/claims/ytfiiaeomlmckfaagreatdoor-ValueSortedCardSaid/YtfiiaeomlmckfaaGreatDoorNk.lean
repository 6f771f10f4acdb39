/- The law on sorting values, walked. -/
import Derived.Test.YtfiiaeomlmckfaaGreatDoorNj
import Derived.Test.YtfiiaeomlmckfaaGreatDoorXe
import Derived.Test.YtfiiaeomlmckfaaGreatDoorZc
namespace Go.Proofs.YtfiiaeomlmckfaaGreatDoor
open Go.RowKit

theorem sameL_is (l : List V) (w : World) (A A' : Option Addr) (c c' : Nat) (h : LiesL w w.heap.size A c l) (h' : LiesL w w.heap.size A' c' l) :
    Calls Tryz.prog 10 #[.slice A l.length c, .slice A' l.length c'] w fun e w' => e = .returned (.bool true) ∧ Below w.heap.size w w' := by
  refine (sameL_any l l w A A' c c' h h').mono ?_
  rintro e w' ⟨b, rfl, hb, h2⟩
  rw [hb.2 rfl]
  exact ⟨rfl, h2⟩
set_option maxRecDepth 100000 in
set_option maxHeartbeats 4000000 in
theorem law_sorts (l : List V) (w : World) (A : Option Addr) (c : Nat) (h : LiesL w w.heap.size A c l) (hp : Pow w) :
    Calls Tryz.prog 3 #[.slice A l.length c] w fun e w' => e = .returned (.bool true) ∧ Below w.heap.size w w' := by
  have HA := Lib.hid fun W (hW : Below w.heap.size w W) => awake_any W (hp.on hW)
  have HL := Lib.hid h
  clear hp h
  by_cases hl : l.length ≤ 200
  · have H1 := Lib.hid fun W (hW : Below w.heap.size w W) => sort_ans l W A c (by omega) (HL.out.on hW)
    have H2 := Lib.hid fun W (hW : Below w.heap.size w W) => refSort_ans l W A c (by omega) (HL.out.on hW)
    have H3 := Lib.hid fun W (hW : Below w.heap.size w W) => distinct_ans l W A c (by omega) (HL.out.on hW)
    have H4 := Lib.hid fun W (hW : Below w.heap.size w W) => refDistinct_ans l W A c (by omega) (HL.out.on hW)
    obtain ⟨n, hn⟩ : ∃ n, n = l.length := ⟨_, rfl⟩
    rw [← hn] at H1 H2 H3 H4 ⊢
    have hn2 : ¬ (200 < (n : Int)) := by omega
    generalize ansL l (sortV l) = s at H1 H2
    generalize ansL l (onceV (sortV l)) = d at H3 H4
    generalize codeL l = k at H1 H2 H3 H4
    clear hn hl
    go_enter Tryz.func3, Tryz.ntmps3
    go_wp2_with fail
    refine (H1.out _ (Below.refl _ w)).mono ?_
    rintro e w1 ⟨A1, c1, rfl, hl1, hb1⟩
    have L1 := Lib.hid hl1
    have B1 := Lib.hid hb1
    clear hl1 hb1
    go_wp2_with fail
    refine (H2.out _ B1.out).mono ?_
    rintro e w2 ⟨A2, c2, rfl, hl2, hb2⟩
    have L2 := Lib.hid hl2
    have L12 := Lib.hid (L1.out.on hb2)
    have B2 := Lib.hid (below_on B1.out hb2)
    clear hl2 hb2
    go_wp2_with fail
    refine (H3.out _ B2.out).mono ?_
    rintro e w3 ⟨A3, c3, rfl, hl3, hb3⟩
    have L3 := Lib.hid hl3
    have L13 := Lib.hid (L12.out.on hb3)
    have L23 := Lib.hid (L2.out.on hb3)
    have B3 := Lib.hid (below_on B2.out hb3)
    clear hl3 hb3
    go_wp2_with fail
    refine (H4.out _ B3.out).mono ?_
    rintro e w4 ⟨A4, c4, rfl, hl4, hb4⟩
    have S1 := Lib.hid (sameL_is s _ A1 A2 c1 c2 (L13.out.on hb4) (L23.out.on hb4))
    have S2 := Lib.hid fun W (hW : Below w4.heap.size w4 W) => sameL_is d W A3 A4 c3 c4 ((L3.out.on hb4).on hW) (hl4.on hW)
    have B4 := Lib.hid (below_on B3.out hb4)
    clear hl4 hb4
    go_wp2_with fail
    refine S1.out.mono ?_
    rintro e w5 ⟨rfl, hb5⟩
    have B5 := Lib.hid (And.intro hb5 (below_on B4.out hb5))
    clear hb5
    go_wp2_with fail
    refine (S2.out _ B5.out.1).mono ?_
    rintro e w6 ⟨rfl, hb6⟩
    have B6 := Lib.hid (below_on B5.out.2 hb6)
    clear hb6
    go_wp2_with fail
    refine (HA.out _ B6.out).mono ?_
    rintro e w7 ⟨rfl, hb7⟩
    have B7 := Lib.hid (below_on B6.out hb7)
    clear hb7
    go_wp2_with fail
    go_ret
    exact ⟨rfl, B7.out⟩
  · have hlm : l.length ≤ 9223372036854775807 := by have h1 := HL.out.1; have h2 := HL.out.2.1; unfold maxLen at h2; omega
    obtain ⟨n, hn⟩ : ∃ n, n = l.length := ⟨_, rfl⟩
    rw [← hn] at hl hlm ⊢
    have hn2 : 200 < (n : Int) := by omega
    clear hn
    go_enter Tryz.func3, Tryz.ntmps3
    go_wp2_with fail
    refine (HA.out _ (Below.refl _ w)).mono ?_
    rintro e w1 ⟨rfl, hb1⟩
    have B1 := Lib.hid hb1
    clear hb1
    go_wp2_with fail
    go_ret
    exact ⟨rfl, B1.out⟩
end Go.Proofs.YtfiiaeomlmckfaaGreatDoor
