/- A path's text read back, walked: what step a piece of text is. -/
import Derived.Test.YthlmnhelmhnpfaaGreatDoorYb
import Derived.Test.YthlmnhelmhnpfaaGreatDoorVm
namespace Go.Proofs.YthlmnhelmhnpfaaGreatDoor
open Go.RowKit

set_option maxHeartbeats 1000000 in
theorem stepOf_any (k : ByteArray) (w : World) : Calls Tryz.prog 81 #[.string k] w fun e w' => e = .returned (.agg #[.int .i64 (-1), .string k]) ∧ Below w.heap.size w w' := by
  go_enter Tryz.func81, Tryz.ntmps81
  go_wp2_with fail
  exact bodyPost_ret (v := .agg #[.int .i64 (-1), .string k]) (by simp [results, Tryz.results81, go_sem]) rfl ⟨rfl, (Below.refl _ _).alloc (Nat.le_refl _) _⟩
/-- What the reading of a step leaves. -/
def StepPost (r : Option Stp) (w : World) (e : Ending) (w' : World) : Prop :=
  Below w.heap.size w w' ∧ match r with
    | none => e = .returned (.tuple #[.agg #[.int .i64 0, .string ⟨#[]⟩], .bool false])
    | some s => e = .returned (.tuple #[.agg #[.int .i64 s.1, .string s.2], .bool true]) ∧ s.2.size ≤ 1000000
theorem StepPost.no {r : Option Stp} {w w' : World} (h : r = none) (hb : Below w.heap.size w w') : StepPost r w (.returned (.tuple #[.agg #[.int .i64 0, .string ⟨#[]⟩], .bool false])) w' := by
  subst h; exact ⟨hb, rfl⟩
theorem StepPost.yes {r : Option Stp} {i : Int} {t : ByteArray} {w w' : World} (h : r = some (i, t)) (ht : t.size ≤ 1000000) (hb : Below w.heap.size w w') : StepPost r w (.returned (.tuple #[.agg #[.int .i64 i, .string t], .bool true])) w' := by
  subst h; exact ⟨hb, rfl, ht⟩
theorem tail_sfx (s : ByteArray) : s.data.toList.tail = sfx s 1 := by unfold sfx; rw [List.drop_one]
theorem ba_of {t : ByteArray} {l : List UInt8} (h : t.data.toList = l) : t = ⟨l.toArray⟩ := by
  subst h; rfl
theorem readStep_dot {s : ByteArray} (h1 : 0 < s.size) (h : s[0] = 46) : readStepP s.data.toList = some (-1, s.extract 1 s.size) := by
  unfold readStepP
  rw [head_eq s h1, if_pos h, tail_sfx, ← sfx_extract, ← ba_of rfl]
theorem readStep_nosuf {s : ByteArray} (h1 : 0 < s.size) (h : ¬ s[0] = 46) (h2 : Lib.hasSuffix (sfx s 1) [93] = false) : readStepP s.data.toList = none := by
  unfold readStepP
  rw [head_eq s h1, if_neg h, tail_sfx, if_neg (by rw [h2]; simp)]
def ofV : Option V → Option Stp
  | none => none
  | some v => if v.kind = 3 then some (-1, v.text) else if v.kind = 2 then some (v.int, ⟨#[]⟩) else none
theorem readStep_suf {s : ByteArray} (h1 : 0 < s.size) (h : ¬ s[0] = 46) (h2 : Lib.hasSuffix (sfx s 1) [93] = true) {r : Option V} (hr : parseP (Lib.trimSuffix (sfx s 1) [93]) = r) :
    readStepP s.data.toList = ofV r := by
  unfold readStepP
  rw [head_eq s h1, if_neg h, tail_sfx, if_pos h2, hr]
  cases r <;> rfl
theorem trim_len (l p : List UInt8) : (Lib.trimSuffix l p).length ≤ l.length := by
  unfold Lib.trimSuffix
  split
  · simp
  · exact Nat.le_refl _
theorem textB_of {x : V} (h : x.valid = true) : x.text.size ≤ 1000000 := by
  have hok := (valid_nodes h).1
  obtain ⟨k, i, t, l, ks⟩ := x
  rw [V.ok, Bool.and_eq_true] at hok
  have hs := hok.1
  show t.size ≤ 1000000
  have he : t.data.toList.isEmpty = true → t.size ≤ 1000000 := fun e => by
    have h0 : t.data.toList.length = 0 := by rw [List.isEmpty_iff.1 e]; rfl
    have h1 : t.data.toList.length = t.size := by simp
    omega
  simp only [V.sound] at hs
  split at hs
  · simp only [Bool.and_eq_true] at hs; exact he hs.1.2
  · split at hs
    · simp only [Bool.and_eq_true] at hs; exact he hs.1.2
    · split at hs
      · simp only [Bool.and_eq_true] at hs; exact he hs.1.2
      · split at hs
        · simp only [Bool.and_eq_true] at hs
          have := text_size (t := t) hs.1.2
          omega
        · split at hs
          · simp only [Bool.and_eq_true] at hs; exact he hs.1.2
          · split at hs
            · simp only [Bool.and_eq_true] at hs; exact he hs.1.1.2
            · cases hs
/-- The box of the step that is answered. -/
structure SB (w W : World) : Prop where
  old : Below w.heap.size w W
  br : BlockIs W w.heap.size 46 #[.int .i64 0, .string ⟨#[]⟩]
section
variable {w W W' : World}
theorem SB.start (w : World) : SB w (w.alloc (.cells #[.int .i64 0, .string ⟨#[]⟩] 46)) := ⟨below_al (Below.refl _ w) _, BlockIs.new w _ _⟩
theorem SB.on (h : SB w W) (hb : Below W.heap.size W W') : SB w W' := ⟨below_on h.old hb, h.br.below hb h.br.lt⟩
theorem SB.al (h : SB w W) (o : Obj) : SB w (W.alloc o) := h.on (below_al (Below.refl _ W) o)
theorem SB.ends (h : SB w W) (u0 u1 : Value) : Below w.heap.size w ((W.setCell ⟨w.heap.size, 0, none⟩ u0).setCell ⟨w.heap.size, 1, none⟩ u1) := (h.old.setCell (by simp) _).setCell (by simp) _
theorem SB.put (h : SB w W) (u0 u1 : Value) : BlockIs ((W.setCell ⟨w.heap.size, 0, none⟩ u0).setCell ⟨w.heap.size, 1, none⟩ u1) w.heap.size 46 #[u0, u1] := by
  have := (h.br.set_ 0 u0).set_ 1 u1
  simpa using this
theorem SB.cells (h : SB w W) (u0 u1 : Value) (o : Obj) : (((W.setCell ⟨w.heap.size, 0, none⟩ u0).setCell ⟨w.heap.size, 1, none⟩ u1).alloc o).cell? ⟨w.heap.size, 0, none⟩ = some u0 ∧ (((W.setCell ⟨w.heap.size, 0, none⟩ u0).setCell ⟨w.heap.size, 1, none⟩ u1).alloc o).cell? ⟨w.heap.size, 1, none⟩ = some u1 :=
  ⟨((h.put u0 u1).alloc o).cell 0, ((h.put u0 u1).alloc o).cell 1⟩
theorem SB.two (h : SB w W) : W.cell? ⟨w.heap.size, 0, none⟩ = some (.int .i64 0) ∧ W.cell? ⟨w.heap.size, 1, none⟩ = some (.string ⟨#[]⟩) ∧ W.frozen? ⟨w.heap.size, 0, none⟩ = false ∧ W.frozen? ⟨w.heap.size, 1, none⟩ = false ∧ w.heap.size < W.heap.size :=
  ⟨h.br.cell 0, h.br.cell 1, h.br.frozen 0, h.br.frozen 1, h.br.lt⟩
end
theorem step_alloc {w a : World} (h : Below w.heap.size w a) (o : Obj) : Below w.heap.size w (a.alloc o) := below_al h o
set_option maxRecDepth 100000 in
set_option maxHeartbeats 4000000 in
theorem readStep_any (s : ByteArray) (w : World) (h1 : 1 ≤ s.size) (hs : s.size ≤ 1000000) :
    Calls Tryz.prog 66 #[.string s] w (StepPost (readStepP s.data.toList) w) := by
  have hz : 0 < s.size := h1
  have HB0 := Lib.hid (SB.start w)
  by_cases h46 : s[0] = 46
  · have c46 := byte_eq (n := 46) 46 rfl h46
    have HR := Lib.hid (readStep_dot hz h46)
    have HL := Lib.hid (show (s.extract 1 s.size).size ≤ 1000000 by simp; omega)
    clear h46
    obtain ⟨t, ht⟩ : ∃ t, t = s.extract 1 s.size := ⟨_, rfl⟩
    have HT := Lib.hid ht
    rw [← ht] at HR HL
    clear ht
    go_enter Tryz.func66, Tryz.ntmps66
    go_wp2_with fail
    rw [← HT.out]
    refine (stepOf_any t _).mono ?_
    rintro e w1 ⟨rfl, hb1⟩
    have HB1 := Lib.hid (HB0.out.on hb1)
    clear hb1
    obtain ⟨z0, z1, f0, f1, zl⟩ := HB1.out.two
    go_wp2_with fail
    refine bodyPost_ret (v := .tuple #[.agg #[.int .i64 (-1), .string t], .bool true]) (by simp [results, Tryz.results66, go_sem, z0, z1]) rfl ?_
    exact StepPost.yes HR.out HL.out (HB1.out.ends _ _)
  · have c46 := byte_no (n := 46) 46 rfl h46
    obtain ⟨b, hb⟩ : ∃ b, b = Lib.hasSuffix (sfx s 1) [93] := ⟨_, rfl⟩
    obtain ⟨l, hl⟩ : ∃ l, l = Lib.trimSuffix (sfx s 1) [93] := ⟨_, rfl⟩
    have hll : l.length ≤ 1000000 := by
      have := trim_len (sfx s 1) [93]
      rw [sfx_length] at this
      rw [hl]; omega
    obtain ⟨u, hu⟩ : ∃ u, u = s.extract 1 s.size := ⟨_, rfl⟩
    have HU := Lib.hid hu
    have HCUT := Lib.hid fun W => show Calls Tryz.prog 94 #[.string u, .string ⟨#[93]⟩] W fun e w' => e = .returned (.tuple #[.string ⟨l.toArray⟩, .bool b]) ∧ w' = W by
      have := Tryz.strings_CutSuffix u ⟨#[93]⟩ W (by rw [hu]; simp; omega)
      rw [hu, sfx_extract] at this
      rw [hb, hl, hu]
      exact this
    clear hu
    cases b
    · have HR := Lib.hid (readStep_nosuf hz h46 hb.symm)
      clear h46 hb hl
      go_enter Tryz.func66, Tryz.ntmps66
      go_wp2_with fail
      rw [← HU.out]
      refine (HCUT.out _).mono ?_
      rintro e w1 ⟨rfl, rfl⟩
      go_wp2_with fail
      refine bodyPost_ret (v := .tuple #[.agg #[.int .i64 0, .string ⟨#[]⟩], .bool false]) (by simp [results, Tryz.results66, go_sem]) rfl ?_
      exact StepPost.no HR.out HB0.out.old
    · obtain ⟨r, hr⟩ : ∃ r, parseP (Lib.trimSuffix (sfx s 1) [93]) = r := ⟨_, rfl⟩
      have HR := Lib.hid (readStep_suf hz h46 hb.symm hr)
      have HV := Lib.hid (show ∀ v, r = some v → v.text.size ≤ 1000000 from fun v e => textB_of (parse_valid (hr.trans e)))
      have HPA := Lib.hid fun W => show Calls Tryz.prog 95 #[.string ⟨l.toArray⟩] W (PPost W r) by
        have := parse_any ⟨l.toArray⟩ (by show l.toArray.size ≤ _; simpa using hll) W
        rw [show (⟨l.toArray⟩ : ByteArray).data.toList = l from rfl, hl, hr] at this
        rw [hl]
        exact this
      clear h46 hb hl hr
      go_enter Tryz.func66, Tryz.ntmps66
      go_wp2_with fail
      rw [← HU.out]
      refine (HCUT.out _).mono ?_
      rintro e w1 ⟨rfl, rfl⟩
      go_wp2_with fail
      refine (HPA.out _).mono ?_
      intro e w2 hp
      cases r with
      | none =>
        obtain ⟨rfl, h2⟩ := hp
        have HB2 := Lib.hid (HB0.out.on h2)
        clear h2
        obtain ⟨z0, z1, f0, f1, zl⟩ := HB2.out.two
        unfold cellsOf
        go_wp2_with fail
        refine bodyPost_ret (v := .tuple #[.agg #[.int .i64 0, .string ⟨#[]⟩], .bool false]) (by simp [results, Tryz.results66, go_sem, (HB2.out.cells _ _ _).1, (HB2.out.cells _ _ _).2]) rfl ?_
        exact StepPost.no HR.out (step_alloc (HB2.out.ends _ _) _)
      | some v =>
        obtain ⟨A, c, K, q, rfl, -, h2⟩ := hp
        have HB2 := Lib.hid (HB0.out.on h2)
        clear h2
        obtain ⟨z0, z1, f0, f1, zl⟩ := HB2.out.two
        unfold cellsOf
        by_cases h3 : v.kind = 3
        · have k3 : (v.kind == 3) = true := by simp [h3]
          have HR3 := Lib.hid (show readStepP s.data.toList = some (-1, v.text) by rw [HR.out, ofV, if_pos h3])
          have HB3 := Lib.hid (HB2.out.al (.cells #[.int .i64 v.kind, .int .i64 v.int, .string v.text, .slice A v.items.length c, .slice K v.keys.length q] 38))
          clear h3
          go_wp2_with fail
          refine (stepOf_any v.text _).mono ?_
          rintro e w3 ⟨rfl, hb3⟩
          have HB4 := Lib.hid (HB3.out.on hb3)
          clear hb3 z0 z1 f0 f1 zl
          obtain ⟨z0, z1, f0, f1, zl⟩ := HB4.out.two
          go_wp2_with fail
          refine bodyPost_ret (v := .tuple #[.agg #[.int .i64 (-1), .string v.text], .bool true]) (by simp [results, Tryz.results66, go_sem, z0, z1]) rfl ?_
          exact StepPost.yes HR3.out (HV.out v rfl) (HB4.out.ends _ _)
        · have k3 : (v.kind == 3) = false := by simp [h3]
          by_cases h2 : v.kind = 2
          · have k2 : (v.kind == 2) = true := by simp [h2]
            have HR2 := Lib.hid (show readStepP s.data.toList = some (v.int, ⟨#[]⟩) by rw [HR.out, ofV, if_neg h3, if_pos h2])
            clear h3 h2
            go_wp2_with fail
            refine bodyPost_ret (v := .tuple #[.agg #[.int .i64 v.int, .string ⟨#[]⟩], .bool true]) (by simp [results, Tryz.results66, go_sem, (HB2.out.cells _ _ _).1, (HB2.out.cells _ _ _).2]) rfl ?_
            exact StepPost.yes HR2.out (by decide) (step_alloc (HB2.out.ends _ _) _)
          · have k2 : (v.kind == 2) = false := by simp [h2]
            have HR0 := Lib.hid (show readStepP s.data.toList = none by rw [HR.out, ofV, if_neg h3, if_neg h2])
            clear h3 h2
            go_wp2_with fail
            refine bodyPost_ret (v := .tuple #[.agg #[.int .i64 0, .string ⟨#[]⟩], .bool false]) (by simp [results, Tryz.results66, go_sem, (HB2.out.cells _ _ _).1, (HB2.out.cells _ _ _).2]) rfl ?_
            exact StepPost.no HR0.out (step_alloc (HB2.out.ends _ _) _)
end Go.Proofs.YthlmnhelmhnpfaaGreatDoor
