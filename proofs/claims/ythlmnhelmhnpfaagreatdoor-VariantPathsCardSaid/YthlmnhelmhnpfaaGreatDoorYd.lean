/- The order of steps, walked. -/
import Derived.Test.YthlmnhelmhnpfaaGreatDoorYc
import Derived.Test.YthlmnhelmhnpfaaGreatDoorVn
import Derived.Test.YthlmnhelmhnpfaaGreatDoorRk
import Derived.Deep.RegionHeld3
import Derived.Deep.DrawnRows
namespace Go.Proofs.YthlmnhelmhnpfaaGreatDoor
open Go.RowKit

/-- The kind that a step selects in; the order of steps, of paths. -/
def holdI (i : Int) : Int := if i < 0 then 5 else 4
def cmpStepP (a b : Stp) : Int := if cmpI (holdI a.1) (holdI b.1) = 0 then (if cmpI a.1 b.1 = 0 then cmpS a.2 b.2 else cmpI a.1 b.1) else cmpI (holdI a.1) (holdI b.1)
def cmpPathP : List Stp → List Stp → Int
  | [], [] => 0
  | [], _ :: _ => -1
  | _ :: _, [] => 1
  | a :: p, b :: q => if cmpStepP a b = 0 then cmpPathP p q else cmpStepP a b
theorem cmpI_zero {a b : Int} : cmpI a b = 0 ↔ a = b := by
  unfold cmpI; split
  · constructor <;> intro h <;> omega
  · split
    · constructor <;> intro h <;> omega
    · constructor <;> intro h <;> omega
theorem cmpS_zero {a b : ByteArray} : cmpS a b = 0 ↔ a = b := by
  unfold cmpS; split
  · rename_i h
    constructor
    · intro e; cases e
    · rintro rfl; rw [ltB_irrefl] at h; cases h
  · by_cases h : (a.toList == b.toList) = true
    · rw [if_pos h]; exact ⟨fun _ => eqT h, fun _ => rfl⟩
    · rw [if_neg h]
      constructor
      · intro e; cases e
      · rintro rfl; simp at h
theorem cmpStepP_zero {a b : Stp} : cmpStepP a b = 0 ↔ a = b := by
  obtain ⟨i, t⟩ := a
  obtain ⟨j, u⟩ := b
  unfold cmpStepP
  simp only
  split
  · split
    · rename_i h1 h2
      rw [cmpS_zero]
      have := cmpI_zero.1 h2
      subst this
      constructor
      · rintro rfl; rfl
      · intro e; exact (Prod.mk.inj e).2
    · rename_i h1 h2
      constructor
      · intro e; exact absurd e h2
      · intro e; exact absurd (cmpI_zero.2 (Prod.mk.inj e).1) h2
  · rename_i h1
    constructor
    · intro e; exact absurd e h1
    · intro e; rw [(Prod.mk.inj e).1] at h1; exact absurd (cmpI_zero.2 rfl) h1
theorem cmpPathP_zero : ∀ {p q : List Stp}, cmpPathP p q = 0 ↔ p = q
  | [], [] => by simp [cmpPathP]
  | [], _ :: _ => by simp [cmpPathP]
  | _ :: _, [] => by simp [cmpPathP]
  | a :: p, b :: q => by
    rw [cmpPathP]
    split
    · rename_i h
      rw [cmpPathP_zero, cmpStepP_zero.1 h]
      simp
    · rename_i h
      constructor
      · intro e; exact absurd e h
      · intro e; exact absurd (cmpStepP_zero.2 (List.cons.inj e).1) h
set_option maxHeartbeats 1000000 in
theorem holder_any (i : Int) (t : ByteArray) (w : World) : Calls Tryz.prog 55 #[.agg #[.int .i64 i, .string t]] w fun e w' => e = .returned (.int .i64 (holdI i)) ∧ Below w.heap.size w w' := by
  have HB := Lib.hid (below_al (Below.refl _ w) (.cells #[.int .i64 i, .string t] 46))
  by_cases h : i < 0
  all_goals
    have HH := Lib.hid (show holdI i = if i < 0 then 5 else 4 from rfl)
    go_enter Tryz.func55, Tryz.ntmps55
    go_wp2_with fail
    go_ret
    exact ⟨by rw [HH.out]; simp [h], HB.out⟩
/-- The cells of two boxes of steps. -/
theorem keep2 {w w' : World} {g h : Nat} {a0 a1 b0 b1 : Value} (hb : Below w.heap.size w w') (hg : g < w.heap.size) (hh : h < w.heap.size)
    (hS : w.cell? ⟨g, 0, none⟩ = some a0 ∧ w.cell? ⟨g, 1, none⟩ = some a1 ∧ w.cell? ⟨h, 0, none⟩ = some b0 ∧ w.cell? ⟨h, 1, none⟩ = some b1) :
    w'.cell? ⟨g, 0, none⟩ = some a0 ∧ w'.cell? ⟨g, 1, none⟩ = some a1 ∧ w'.cell? ⟨h, 0, none⟩ = some b0 ∧ w'.cell? ⟨h, 1, none⟩ = some b1 :=
  ⟨(bcell hb _ _ hg).trans hS.1, (bcell hb _ _ hg).trans hS.2.1, (bcell hb _ _ hh).trans hS.2.2.1, (bcell hb _ _ hh).trans hS.2.2.2⟩
set_option maxRecDepth 100000 in
set_option maxHeartbeats 4000000 in
theorem orderSteps_any (a b : Stp) (w : World) : Calls Tryz.prog 32 #[.agg #[.int .i64 a.1, .string a.2], .agg #[.int .i64 b.1, .string b.2]] w fun e w' => e = .returned (.int .i64 (cmpStepP a b)) ∧ Below w.heap.size w w' := by
  obtain ⟨i, t⟩ := a
  obtain ⟨j, u⟩ := b
  simp only
  obtain ⟨W, hW⟩ : ∃ W, W = (w.alloc (.cells #[.int .i64 i, .string t] 46)).alloc (.cells #[.int .i64 j, .string u] 46) := ⟨_, rfl⟩
  have HW := Lib.hid hW
  have HB := Lib.hid (show Below w.heap.size w W by rw [hW]; exact below_al (below_al (Below.refl _ w) _) _)
  have HX := Lib.hid (show BlockIs W w.heap.size 46 #[.int .i64 i, .string t] by rw [hW]; exact (BlockIs.new w _ _).alloc _)
  have HY := Lib.hid (show BlockIs W (w.heap.size + 1) 46 #[.int .i64 j, .string u] by rw [hW]; exact BlockIs.newAt _ _ _ (by simp))
  have HS := Lib.hid (show cmpStepP (i, t) (j, u) = if cmpI (holdI i) (holdI j) = 0 then (if cmpI i j = 0 then cmpS t u else cmpI i j) else cmpI (holdI i) (holdI j) from rfl)
  have hwl : w.heap.size + 1 < W.heap.size := HY.out.lt
  obtain ⟨a0, ha0⟩ : ∃ n, n = holdI i := ⟨_, rfl⟩
  obtain ⟨b0, hb0⟩ : ∃ n, n = holdI j := ⟨_, rfl⟩
  have HHA := Lib.hid fun W => holder_any i t W
  have HHB := Lib.hid fun W => holder_any j u W
  rw [← ha0] at HHA HS
  rw [← hb0] at HHB HS
  obtain ⟨c1, hc1⟩ : ∃ n, n = cmpI a0 b0 := ⟨_, rfl⟩
  have HC := Lib.hid fun W => (cmpInt_any a0 b0 W).mono (R' := fun e w' => e = .returned (.int .i64 (cmpI a0 b0)) ∧ W = w') fun _ _ h => ⟨h.1, h.2.symm⟩
  rw [← hc1] at HC HS
  obtain ⟨c2, hc2⟩ : ∃ n, n = cmpI i j := ⟨_, rfl⟩
  have HC2 := Lib.hid fun W => (cmpInt_any i j W).mono (R' := fun e w' => e = .returned (.int .i64 (cmpI i j)) ∧ W = w') fun _ _ h => ⟨h.1, h.2.symm⟩
  rw [← hc2] at HC2 HS
  have HC3 := Lib.hid fun W => (cmpStr_any t u W).mono (R' := fun e w' => e = .returned (.int .i64 (cmpS t u)) ∧ W = w') fun _ _ h => ⟨h.1, h.2.symm⟩
  clear hW ha0 hb0 hc1 hc2
  go_enter Tryz.func32, Tryz.ntmps32
  go_upto_region 1 with (fail)
  rw [← HW.out]
  have x0 : W.cell? ⟨w.heap.size, 0, none⟩ = some (.int .i64 i) := HX.out.cell 0
  have x1 : W.cell? ⟨w.heap.size, 1, none⟩ = some (.string t) := HX.out.cell 1
  have y0 : W.cell? ⟨w.heap.size + 1, 0, none⟩ = some (.int .i64 j) := HY.out.cell 0
  have y1 : W.cell? ⟨w.heap.size + 1, 1, none⟩ = some (.string u) := HY.out.cell 1
  have tok1 : True := trivial
  go_region_held3 (fun w' => w'.cell? ⟨w.heap.size, 0, none⟩ = some (.int .i64 i) ∧ w'.cell? ⟨w.heap.size, 1, none⟩ = some (.string t) ∧ w'.cell? ⟨w.heap.size + 1, 0, none⟩ = some (.int .i64 j) ∧ w'.cell? ⟨w.heap.size + 1, 1, none⟩ = some (.string u))
    (first
      | go_keep
      | (with_reducible exact keep2 h2 (by simp at *; omega) (by simp at *; omega) (by assumption))
      | (with_reducible exact keep2 h1 (by simp at *; omega) (by simp at *; omega) (by assumption)))
    ((first
      | (go_at_call 55; have _t := tok1; refine (HHA.out _).mono ?_; rintro e w1 ⟨rfl, h1⟩; clear tok1 _t; have s1 := h1.size; try simp at s1)
      | (go_at_call 55; refine (HHB.out _).mono ?_; rintro e w2 ⟨rfl, h2⟩; have s2 := h2.size; try simp at s2)
      | (go_at_call 54; refine (HC.out _).mono ?_; rintro e w3 ⟨rfl, rfl⟩)))
  have HB2 := Lib.hid (below_on (below_on HB.out.drew h1) h2)
  have HX2 := Lib.hid (bi_on (bi_on (bi_drew HX.out) h1) h2)
  have HY2 := Lib.hid (bi_on (bi_on (bi_drew HY.out) h1) h2)
  clear x0 x1 y0 y1 h1 h2
  have x0 := HX2.out.cell 0
  have x1 := HX2.out.cell 1
  have y0 := HY2.out.cell 0
  have y1 := HY2.out.cell 1
  by_cases h1 : c1 = 0
  · have k1 : (c1 != 0) = false := by simp [h1]
    by_cases h2 : c2 = 0
    · have k2 : (c2 != 0) = false := by simp [h2]
      have HE := Lib.hid (HS.out.trans (by rw [if_pos h1, if_pos h2]))
      clear h1 h2
      go_wp2_with fail
      refine (HC2.out _).mono ?_
      rintro e w3 ⟨rfl, rfl⟩
      go_wp2_with fail
      refine (HC3.out _).mono ?_
      rintro e w3 ⟨rfl, rfl⟩
      go_wp2_with fail
      go_ret
      exact ⟨by rw [HE.out]; rfl, HB2.out⟩
    · have k2 : (c2 != 0) = true := by simp [h2]
      have HE := Lib.hid (HS.out.trans (by rw [if_pos h1, if_neg h2]))
      clear h1 h2
      go_wp2_with fail
      refine (HC2.out _).mono ?_
      rintro e w3 ⟨rfl, rfl⟩
      go_wp2_with fail
      go_ret
      exact ⟨by rw [HE.out]; rfl, HB2.out⟩
  · have k1 : (c1 != 0) = true := by simp [h1]
    have HE := Lib.hid (HS.out.trans (by rw [if_neg h1]))
    clear h1
    go_wp2_with fail
    go_ret
    exact ⟨by rw [HE.out]; rfl, HB2.out⟩
end Go.Proofs.YthlmnhelmhnpfaaGreatDoor
