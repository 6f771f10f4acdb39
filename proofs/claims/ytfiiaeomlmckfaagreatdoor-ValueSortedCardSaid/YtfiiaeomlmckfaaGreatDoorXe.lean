/- The chapter's examples, run. -/
import Derived.Test.YtfiiaeomlmckfaaGreatDoorXd
import Derived.Deep.RegionHeld3
import Derived.Deep.DrawnRows
namespace Go.Proofs.YtfiiaeomlmckfaaGreatDoor
open Go.RowKit

section
variable {w W wI2 wI1 wO : World} {A K : Option Addr} {c q : Nat}
theorem way1 (h2 : Below (W.alloc (.cells #[.string ⟨#[97]⟩, .string ⟨#[98]⟩] 9)).drew.heap.size (W.alloc (.cells #[.string ⟨#[97]⟩, .string ⟨#[98]⟩] 9)).drew wI2) (h1 : Below wI2.heap.size wI2 wI1) (hO : Below (wI1.alloc (.cells #[.int .i64 2, .int .i64 2, .string ⟨#[]⟩, .slice none 0 0, .slice none 0 0, .int .i64 2, .int .i64 1, .string ⟨#[]⟩, .slice none 0 0, .slice none 0 0] 35)).heap.size (wI1.alloc (.cells #[.int .i64 2, .int .i64 2, .string ⟨#[]⟩, .slice none 0 0, .slice none 0 0, .int .i64 2, .int .i64 1, .string ⟨#[]⟩, .slice none 0 0, .slice none 0 0] 35)) wO) (hB : Below w.heap.size w W) (hL : Lies W W.heap.size exD A c K q) : Lies wO wO.heap.size exD A c K q ∧ Lies wO wO.heap.size exD (some ⟨wI1.heap.size, 0, none⟩) 2 (some ⟨W.heap.size, 0, none⟩) 2 ∧ Below w.heap.size w wO := by
  have s2 := h2.size
  have s1 := h1.size
  have s0 := hO.size
  have hk : BlockIs (W.alloc (.cells #[.string ⟨#[97]⟩, .string ⟨#[98]⟩] 9)).drew W.heap.size 9 #[.string ⟨#[97]⟩, .string ⟨#[98]⟩] := BlockIs.new W _ _
  have hkl : W.heap.size < (W.alloc (.cells #[.string ⟨#[97]⟩, .string ⟨#[98]⟩] 9)).drew.heap.size := hk.lt
  have hj : BlockIs (wI1.alloc (.cells #[.int .i64 2, .int .i64 2, .string ⟨#[]⟩, .slice none 0 0, .slice none 0 0, .int .i64 2, .int .i64 1, .string ⟨#[]⟩, .slice none 0 0, .slice none 0 0] 35)) wI1.heap.size 35 (numC 2 ++ numC 1).toArray := BlockIs.new wI1 _ _
  have hjl := hj.lt
  exact ⟨lies_on (lies_alloc (lies_on (lies_on (lies_drew (lies_alloc hL _)) h2) h1) _) hO, lies_exD ((((hk.below h2 hkl).below h1 (by omega)).alloc _).below hO (by simp at *; omega)) (hj.below hO hjl) (by omega) (by omega), below_on (below_al (below_on (below_on (below_al hB _).drew h2) h1) _) hO⟩
theorem way2 (h2 : Below W.drew.heap.size W.drew wI2) (h1 : Below (wI2.alloc (.cells #[.string ⟨#[97]⟩, .string ⟨#[98]⟩] 9)).heap.size (wI2.alloc (.cells #[.string ⟨#[97]⟩, .string ⟨#[98]⟩] 9)) wI1) (hO : Below (wI1.alloc (.cells #[.int .i64 2, .int .i64 2, .string ⟨#[]⟩, .slice none 0 0, .slice none 0 0, .int .i64 2, .int .i64 1, .string ⟨#[]⟩, .slice none 0 0, .slice none 0 0] 35)).heap.size (wI1.alloc (.cells #[.int .i64 2, .int .i64 2, .string ⟨#[]⟩, .slice none 0 0, .slice none 0 0, .int .i64 2, .int .i64 1, .string ⟨#[]⟩, .slice none 0 0, .slice none 0 0] 35)) wO) (hB : Below w.heap.size w W) (hL : Lies W W.heap.size exD A c K q) : Lies wO wO.heap.size exD A c K q ∧ Lies wO wO.heap.size exD (some ⟨wI1.heap.size, 0, none⟩) 2 (some ⟨wI2.heap.size, 0, none⟩) 2 ∧ Below w.heap.size w wO := by
  have s2 := h2.size
  have s1 := h1.size
  have s0 := hO.size
  have hk : BlockIs (wI2.alloc (.cells #[.string ⟨#[97]⟩, .string ⟨#[98]⟩] 9)) wI2.heap.size 9 #[.string ⟨#[97]⟩, .string ⟨#[98]⟩] := BlockIs.new wI2 _ _
  have hkl := hk.lt
  have hj : BlockIs (wI1.alloc (.cells #[.int .i64 2, .int .i64 2, .string ⟨#[]⟩, .slice none 0 0, .slice none 0 0, .int .i64 2, .int .i64 1, .string ⟨#[]⟩, .slice none 0 0, .slice none 0 0] 35)) wI1.heap.size 35 (numC 2 ++ numC 1).toArray := BlockIs.new wI1 _ _
  have hjl := hj.lt
  exact ⟨lies_on (lies_alloc (lies_on (lies_alloc (lies_on (lies_drew hL) h2) _) h1) _) hO, lies_exD (((hk.below h1 hkl).alloc _).below hO (by simp at *; omega)) (hj.below hO hjl) (by omega) (by omega), below_on (below_al (below_on (below_al (below_on hB.drew h2) _) h1) _) hO⟩
theorem way3 (h2 : Below W.drew.heap.size W.drew wI2) (h1 : Below wI2.heap.size wI2 wI1) (hO : Below ((wI1.alloc (.cells #[.string ⟨#[97]⟩, .string ⟨#[98]⟩] 9)).alloc (.cells #[.int .i64 2, .int .i64 2, .string ⟨#[]⟩, .slice none 0 0, .slice none 0 0, .int .i64 2, .int .i64 1, .string ⟨#[]⟩, .slice none 0 0, .slice none 0 0] 35)).heap.size ((wI1.alloc (.cells #[.string ⟨#[97]⟩, .string ⟨#[98]⟩] 9)).alloc (.cells #[.int .i64 2, .int .i64 2, .string ⟨#[]⟩, .slice none 0 0, .slice none 0 0, .int .i64 2, .int .i64 1, .string ⟨#[]⟩, .slice none 0 0, .slice none 0 0] 35)) wO) (hB : Below w.heap.size w W) (hL : Lies W W.heap.size exD A c K q) : Lies wO wO.heap.size exD A c K q ∧ Lies wO wO.heap.size exD (some ⟨wI1.heap.size + 1, 0, none⟩) 2 (some ⟨wI1.heap.size, 0, none⟩) 2 ∧ Below w.heap.size w wO := by
  have s2 := h2.size
  have s1 := h1.size
  have s0 := hO.size
  have hk : BlockIs ((wI1.alloc (.cells #[.string ⟨#[97]⟩, .string ⟨#[98]⟩] 9)).alloc (.cells #[.int .i64 2, .int .i64 2, .string ⟨#[]⟩, .slice none 0 0, .slice none 0 0, .int .i64 2, .int .i64 1, .string ⟨#[]⟩, .slice none 0 0, .slice none 0 0] 35)) wI1.heap.size 9 #[.string ⟨#[97]⟩, .string ⟨#[98]⟩] := (BlockIs.new wI1 _ _).alloc _
  have hkl := hk.lt
  have hj : BlockIs ((wI1.alloc (.cells #[.string ⟨#[97]⟩, .string ⟨#[98]⟩] 9)).alloc (.cells #[.int .i64 2, .int .i64 2, .string ⟨#[]⟩, .slice none 0 0, .slice none 0 0, .int .i64 2, .int .i64 1, .string ⟨#[]⟩, .slice none 0 0, .slice none 0 0] 35)) (wI1.heap.size + 1) 35 (numC 2 ++ numC 1).toArray := BlockIs.newAt _ _ _ (by simp)
  have hjl := hj.lt
  exact ⟨lies_on (lies_alloc (lies_alloc (lies_on (lies_on (lies_drew hL) h2) h1) _) _) hO, lies_exD (hk.below hO hkl) (hj.below hO hjl) (by omega) (by omega), below_on (below_al (below_al (below_on (below_on hB.drew h2) h1) _) _) hO⟩
theorem way4 (h2 : Below W.drew.heap.size W.drew wI2) (h1 : Below wI2.heap.size wI2 wI1) (hO : Below ((wI1.alloc (.cells #[.int .i64 2, .int .i64 2, .string ⟨#[]⟩, .slice none 0 0, .slice none 0 0, .int .i64 2, .int .i64 1, .string ⟨#[]⟩, .slice none 0 0, .slice none 0 0] 35)).alloc (.cells #[.string ⟨#[97]⟩, .string ⟨#[98]⟩] 9)).heap.size ((wI1.alloc (.cells #[.int .i64 2, .int .i64 2, .string ⟨#[]⟩, .slice none 0 0, .slice none 0 0, .int .i64 2, .int .i64 1, .string ⟨#[]⟩, .slice none 0 0, .slice none 0 0] 35)).alloc (.cells #[.string ⟨#[97]⟩, .string ⟨#[98]⟩] 9)) wO) (hB : Below w.heap.size w W) (hL : Lies W W.heap.size exD A c K q) : Lies wO wO.heap.size exD A c K q ∧ Lies wO wO.heap.size exD (some ⟨wI1.heap.size, 0, none⟩) 2 (some ⟨wI1.heap.size + 1, 0, none⟩) 2 ∧ Below w.heap.size w wO := by
  have s2 := h2.size
  have s1 := h1.size
  have s0 := hO.size
  have hk : BlockIs ((wI1.alloc (.cells #[.int .i64 2, .int .i64 2, .string ⟨#[]⟩, .slice none 0 0, .slice none 0 0, .int .i64 2, .int .i64 1, .string ⟨#[]⟩, .slice none 0 0, .slice none 0 0] 35)).alloc (.cells #[.string ⟨#[97]⟩, .string ⟨#[98]⟩] 9)) (wI1.heap.size + 1) 9 #[.string ⟨#[97]⟩, .string ⟨#[98]⟩] := BlockIs.newAt _ _ _ (by simp)
  have hkl := hk.lt
  have hj : BlockIs ((wI1.alloc (.cells #[.int .i64 2, .int .i64 2, .string ⟨#[]⟩, .slice none 0 0, .slice none 0 0, .int .i64 2, .int .i64 1, .string ⟨#[]⟩, .slice none 0 0, .slice none 0 0] 35)).alloc (.cells #[.string ⟨#[97]⟩, .string ⟨#[98]⟩] 9)) wI1.heap.size 35 (numC 2 ++ numC 1).toArray := (BlockIs.new wI1 _ _).alloc _
  have hjl := hj.lt
  exact ⟨lies_on (lies_alloc (lies_alloc (lies_on (lies_on (lies_drew hL) h2) h1) _) _) hO, lies_exD (hk.below hO hkl) (hj.below hO hjl) (by omega) (by omega), below_on (below_al (below_al (below_on (below_on hB.drew h2) h1) _) _) hO⟩
end
attribute [local go_sem ↓] Go.wp_at_zero Go.wp_at_succ
set_option maxRecDepth 100000 in
set_option maxHeartbeats 4000000 in
theorem awake_any (w : World) (hp : Pow w) : Calls Tryz.prog 5 #[] w fun e w' => e = .returned (.bool true) ∧ Below w.heap.size w w' := by
  have HP := Lib.hid hp
  have HPL := Lib.hid hp.lt
  clear hp
  go_enter Tryz.func5, Tryz.ntmps5
  go_wp2_with fail
  refine (refInt_any 1 _).mono ?_
  rintro e w2 ⟨rfl, h2⟩
  have s2 : w.heap.size + 1 ≤ w2.heap.size := by simpa using h2.size
  have F2 := Lib.hid (And.intro ((((Below.refl _ w).alloc (Nat.le_refl _) (.cells #[.string ⟨#[97]⟩] 9))).trans (h2.mono (by simp))) ((BlockIs.new w 9 #[.string ⟨#[97]⟩]).below h2 (by simp)))
  clear h2
  unfold numV
  go_wp2_with fail
  refine (refNull_any _).mono ?_
  rintro e w3 ⟨rfl, h3⟩
  have s3 := h3.size
  have F3 := Lib.hid (And.intro (F2.out.1.trans (h3.mono (by omega))) (F2.out.2.below h3 (by omega)))
  clear h3
  go_wp2_with fail
  refine (refList_any _ _ _ _).mono ?_
  rintro e w4 ⟨rfl, h4⟩
  have s4 : w3.heap.size + 1 ≤ w4.heap.size := by simpa using h4.size
  have F4 := Lib.hid (And.intro ((F3.out.1.alloc (by omega) (.cells (numC 1 ++ nullC).toArray 35)).trans (h4.mono (by simp; omega))) (And.intro ((F3.out.2.alloc _).below h4 (by simp; omega)) ((BlockIs.new w3 35 (numC 1 ++ nullC).toArray).below h4 (by simp))))
  clear h4
  go_wp2_with fail
  refine (refObject_any _ _ _ _ _ _ _).mono ?_
  rintro e w5 ⟨rfl, h5⟩
  have s5 : w4.heap.size + 1 ≤ w5.heap.size := by simpa using h5.size
  have F5 := Lib.hid (And.intro ((F4.out.1.alloc (by omega) (.cells #[.int .i64 4, .int .i64 0, .string ⟨#[]⟩, .slice (some ⟨w3.heap.size, 0, none⟩) 2 2, .slice none 0 0] 35)).trans (h5.mono (by simp; omega)))
    (lies_exA ((F4.out.2.1.alloc _).below h5 (by simp; omega)) ((F4.out.2.2.alloc _).below h5 (by simp; omega)) ((BlockIs.new w4 35 #[.int .i64 4, .int .i64 0, .string ⟨#[]⟩, .slice (some ⟨w3.heap.size, 0, none⟩) 2 2, .slice none 0 0]).below h5 (by simp)) (B := w5.heap.size) (by omega) (by omega) (by omega)))
  clear h5
  go_wp2_with fail
  refine (text_exA _ _ _ _ _ (lies_alloc F5.out.2 _) (HP.out.on (below_al F5.out.1 _))).mono ?_
  rintro e w6 ⟨rfl, h6⟩
  have s6 : w5.heap.size + 1 ≤ w6.heap.size := by simpa using h6.size
  have F6 := Lib.hid (And.intro (below_on (below_al F5.out.1 (.cells #[.int .i64 5, .int .i64 0, .string ⟨#[]⟩, .slice (some ⟨w4.heap.size, 0, none⟩) 1 1, .slice (some ⟨w.heap.size, 0, none⟩) 1 1] 35)) h6) (And.intro (lies_on (lies_alloc F5.out.2 (.cells #[.int .i64 5, .int .i64 0, .string ⟨#[]⟩, .slice (some ⟨w4.heap.size, 0, none⟩) 1 1, .slice (some ⟨w.heap.size, 0, none⟩) 1 1] 35)) h6) ((BlockIs.new w5 35 #[.int .i64 5, .int .i64 0, .string ⟨#[]⟩, .slice (some ⟨w4.heap.size, 0, none⟩) 1 1, .slice (some ⟨w.heap.size, 0, none⟩) 1 1]).below h6 (by simp))))
  have v0 : w6.cell? ⟨w5.heap.size, 0, none⟩ = some (.int .i64 5) := F6.out.2.2.cell 0
  have v1 : w6.cell? ⟨w5.heap.size, 1, none⟩ = some (.int .i64 0) := F6.out.2.2.cell 1
  have v2 : w6.cell? ⟨w5.heap.size, 2, none⟩ = some (.string ⟨#[]⟩) := F6.out.2.2.cell 2
  have v3 : w6.cell? ⟨w5.heap.size, 3, none⟩ = some (.slice (some ⟨w4.heap.size, 0, none⟩) 1 1) := F6.out.2.2.cell 3
  have v4 : w6.cell? ⟨w5.heap.size, 4, none⟩ = some (.slice (some ⟨w.heap.size, 0, none⟩) 1 1) := F6.out.2.2.cell 4
  clear h6
  go_wp2_with fail
  refine (size_exA _ _ _ _ _ F6.out.2.1).mono ?_
  rintro e w7 ⟨rfl, h7⟩
  have F7 := Lib.hid (below_on F6.out.1 h7)
  clear h7 v0 v1 v2 v3 v4
  go_wp2_with fail
  refine (refInt_any 2 _).mono ?_
  rintro e w8 ⟨rfl, h8⟩
  have F8 := Lib.hid (below_on F7.out h8)
  clear h8
  unfold numV
  go_wp2_with fail
  refine (refList_any _ _ _ _).mono ?_
  rintro e w9 ⟨rfl, h9⟩
  have s9 : w8.heap.size + 1 ≤ w9.heap.size := by simpa using h9.size
  have F9 := Lib.hid (And.intro (below_on (below_al F8.out (.cells (numC 2).toArray 35)) h9) ((BlockIs.new w8 35 (numC 2).toArray).below h9 (by simp)))
  clear h9
  go_wp2_with fail
  refine (refInt_any 2 _).mono ?_
  rintro e w10 ⟨rfl, h10⟩
  have s10 := h10.size
  have F10 := Lib.hid (And.intro (below_on F9.out.1 h10) (F9.out.2.below h10 (by omega)))
  clear h10
  unfold numV
  go_wp2_with fail
  refine (refNull_any _).mono ?_
  rintro e w11 ⟨rfl, h11⟩
  have s11 := h11.size
  have F11 := Lib.hid (And.intro (below_on F10.out.1 h11) (F10.out.2.below h11 (by omega)))
  clear h11
  go_wp2_with fail
  refine (refList_any _ _ _ _).mono ?_
  rintro e w12 ⟨rfl, h12⟩
  have s12 : w11.heap.size + 1 ≤ w12.heap.size := by simpa using h12.size
  have F12 := Lib.hid (And.intro (below_on (below_al F11.out.1 (.cells (numC 2 ++ nullC).toArray 35)) h12) (And.intro ((F11.out.2.alloc _).below h12 (by simp; omega)) ((BlockIs.new w11 35 (numC 2 ++ nullC).toArray).below h12 (by simp))))
  clear h12
  go_wp2_with fail
  refine (cmp_exBC _ _ _ _ _ (lies_exB F12.out.2.1 (by omega)) (lies_exC F12.out.2.2 (by omega))).mono ?_
  rintro e w13 ⟨rfl, h13⟩
  have F13 := Lib.hid (below_on F12.out.1 h13)
  clear h13
  go_wp2_with fail
  refine (parse_exD _).mono ?_
  rintro e w14 ⟨A, c, K, q, rfl, hL, h14⟩
  have F14 := Lib.hid (And.intro (below_on F13.out h14) hL)
  clear h14 hL
  go_wp2_with fail
  refine (parse_bad _).mono ?_
  rintro e w15 ⟨rfl, h15⟩
  have s15 : w14.heap.size + 1 ≤ w15.heap.size := by simpa using h15.size
  have F15 := Lib.hid (And.intro (below_on (below_al F14.out.1 (.cells #[.int .i64 5, .int .i64 0, .string ⟨#[]⟩, .slice A 2 c, .slice K 2 q] 35)) h15) (And.intro (lies_on (lies_alloc F14.out.2 (.cells #[.int .i64 5, .int .i64 0, .string ⟨#[]⟩, .slice A 2 c, .slice K 2 q] 35)) h15) ((BlockIs.new w14 35 #[.int .i64 5, .int .i64 0, .string ⟨#[]⟩, .slice A 2 c, .slice K 2 q]).below h15 (by simp))))
  clear h15
  go_wp2_with fail
  obtain ⟨W, hW⟩ : ∃ W, W = w15.alloc (.cells #[.int .i64 0, .int .i64 0, .string ⟨#[]⟩, .slice none 0 0, .slice none 0 0] 35) := ⟨_, rfl⟩
  rw [← hW]
  have B0 := F15.out.2.2.alloc (.cells #[.int .i64 0, .int .i64 0, .string ⟨#[]⟩, .slice none 0 0, .slice none 0 0] 35)
  rw [← hW] at B0
  have s16 : w14.heap.size + 1 ≤ W.heap.size := by rw [hW]; simp; omega
  have FW := Lib.hid (show Below w.heap.size w W ∧ Lies W W.heap.size exD A c K q ∧ BlockIs W w14.heap.size 35 #[.int .i64 5, .int .i64 0, .string ⟨#[]⟩, .slice A 2 c, .slice K 2 q] by
    refine ⟨?_, ?_, B0⟩
    · rw [hW]; exact below_al F15.out.1 _
    · rw [hW]; exact lies_alloc F15.out.2.1 _)
  clear hW B0
  have v0 : W.cell? ⟨w14.heap.size, 0, none⟩ = some (.int .i64 5) := FW.out.2.2.cell 0
  have v1 : W.cell? ⟨w14.heap.size, 1, none⟩ = some (.int .i64 0) := FW.out.2.2.cell 1
  have v2 : W.cell? ⟨w14.heap.size, 2, none⟩ = some (.string ⟨#[]⟩) := FW.out.2.2.cell 2
  have v3 : W.cell? ⟨w14.heap.size, 3, none⟩ = some (.slice A 2 c) := FW.out.2.2.cell 3
  have v4 : W.cell? ⟨w14.heap.size, 4, none⟩ = some (.slice K 2 q) := FW.out.2.2.cell 4
  clear s2 s3 s4 s5 s6 s9 s10 s11 s12 s15 F2 F3 F4 F5 F6 F7 F8 F9 F10 F11 F12 F13 F14 F15
  go_region_held3 (fun w' => w'.cell? ⟨w14.heap.size, 0, none⟩ = some (.int .i64 5) ∧ w'.cell? ⟨w14.heap.size, 1, none⟩ = some (.int .i64 0) ∧ w'.cell? ⟨w14.heap.size, 2, none⟩ = some (.string ⟨#[]⟩) ∧ w'.cell? ⟨w14.heap.size, 3, none⟩ = some (.slice A 2 c) ∧ w'.cell? ⟨w14.heap.size, 4, none⟩ = some (.slice K 2 q))
    (first
      | go_keep
      | (go_split_ands; refine ⟨?_, ?_, ?_, ?_, ?_⟩ <;> first | (rw [bcell hS _ _ (by first | omega | (simp; omega))]; assumption) | (rw [bcell hO _ _ (by first | omega | (simp; omega))]; assumption) | (rw [bcell hI1 _ _ (by first | omega | (simp; omega))]; assumption) | (rw [bcell hI2 _ _ (by first | omega | (simp; omega))]; assumption)))
    ((first
      | (go_at_call 16; refine (refInt_any 2 _).mono ?_; rintro e wI2 ⟨rfl, hI2⟩; unfold numV; have sI2 := hI2.size; try simp at sI2)
      | (go_at_call 16; refine (refInt_any 1 _).mono ?_; rintro e wI1 ⟨rfl, hI1⟩; unfold numV; have sI1 := hI1.size; try simp at sI1)
      | (go_at_call 14; refine (refObject_any _ _ _ _ _ _ _).mono ?_; rintro e wO ⟨rfl, hO⟩; have sO := hO.size; try simp at sO)
      | (go_at_call 21; refine (same_exD _ _ _ _ _ _ _ _ _
            (by first | exact (way1 hI2 hI1 hO FW.out.1 FW.out.2.1).1 | exact (way2 hI2 hI1 hO FW.out.1 FW.out.2.1).1 | exact (way3 hI2 hI1 hO FW.out.1 FW.out.2.1).1 | exact (way4 hI2 hI1 hO FW.out.1 FW.out.2.1).1) (by first | exact (way1 hI2 hI1 hO FW.out.1 FW.out.2.1).2.1 | exact (way2 hI2 hI1 hO FW.out.1 FW.out.2.1).2.1 | exact (way3 hI2 hI1 hO FW.out.1 FW.out.2.1).2.1 | exact (way4 hI2 hI1 hO FW.out.1 FW.out.2.1).2.1)).mono ?_; rintro e wS ⟨rfl, hS⟩)))
  all_goals
    have hB : Below w.heap.size w wS := by first | exact below_on (way1 hI2 hI1 hO FW.out.1 FW.out.2.1).2.2 hS | exact below_on (way2 hI2 hI1 hO FW.out.1 FW.out.2.1).2.2 hS | exact below_on (way3 hI2 hI1 hO FW.out.1 FW.out.2.1).2.2 hS | exact below_on (way4 hI2 hI1 hO FW.out.1 FW.out.2.1).2.2 hS
    clear v0 v1 v2 v3 v4 hI2 hI1 hO hS
    go_wp2_with fail
    go_ret
    exact ⟨rfl, hB⟩
end Go.Proofs.YtfiiaeomlmckfaaGreatDoor
