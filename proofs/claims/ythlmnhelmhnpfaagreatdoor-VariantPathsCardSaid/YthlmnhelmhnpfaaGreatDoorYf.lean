/- The order of paths, walked. -/
import Derived.Test.YthlmnhelmhnpfaaGreatDoorYd
namespace Go.Proofs.YthlmnhelmhnpfaaGreatDoor
open Go.RowKit

theorem cmpPath_step {p q : List Stp} {j : Nat} {a b : Stp} (ha : p[j]? = some a) (hb : q[j]? = some b) : cmpPathP (p.drop j) (q.drop j) = if cmpStepP a b = 0 then cmpPathP (p.drop (j + 1)) (q.drop (j + 1)) else cmpStepP a b := by
  rw [drop_at ha, drop_at hb, cmpPathP]
theorem cmpPath_end {p q : List Stp} {j n m : Nat} (hn : n = p.length) (hm : m = q.length) (h1 : j ≤ n) (h2 : j ≤ m) (h : ¬ (j < n ∧ j < m)) : cmpPathP (p.drop j) (q.drop j) = cmpI n m := by
  by_cases h3 : n ≤ j
  · rw [List.drop_eq_nil_of_le (by omega : p.length ≤ j)]
    by_cases h4 : m ≤ j
    · rw [List.drop_eq_nil_of_le (by omega : q.length ≤ j), cmpPathP, (cmpI_zero).2 (by omega)]
    · obtain ⟨b, hb⟩ : ∃ b, q[j]? = some b := ⟨_, List.getElem?_eq_getElem (by omega)⟩
      rw [drop_at hb, cmpPathP]
      unfold cmpI
      rw [if_pos (by omega)]
  · have h4 : m ≤ j := by omega
    obtain ⟨a, ha⟩ : ∃ a, p[j]? = some a := ⟨_, List.getElem?_eq_getElem (by omega)⟩
    rw [List.drop_eq_nil_of_le (by omega : q.length ≤ j), drop_at ha, cmpPathP]
    unfold cmpI
    rw [if_neg (by omega), if_pos (by omega)]
set_option maxRecDepth 100000 in
set_option maxHeartbeats 4000000 in
theorem orderLists_any (p q : List Stp) (w : World) (A A' : Option Addr) (c c' : Nat) (hp : PLies w w.heap.size A c p) (hq : PLies w w.heap.size A' c' q) :
    Calls Tryz.prog 31 #[.slice A p.length c, .slice A' q.length c', .func (.func 32) #[] #[]] w fun e w' => e = .returned (.int .i64 (cmpPathP p q)) ∧ Below w.heap.size w w' := by
  obtain ⟨n, hn⟩ : ∃ n, n = p.length := ⟨_, rfl⟩
  obtain ⟨m, hm⟩ : ∃ m, m = q.length := ⟨_, rfl⟩
  have HN := Lib.hid hn
  have HM := Lib.hid hm
  have HP := Lib.hid fun W (hW : Below w.heap.size w W) => hp.on hW
  have HQ := Lib.hid fun W (hW : Below w.heap.size w W) => hq.on hW
  have hnl : n ≤ maxLen := by have := hp.1; have := hp.2.1; omega
  have hml : m ≤ maxLen := by have := hq.1; have := hq.2.1; omega
  unfold maxLen at hnl hml
  obtain ⟨R, hR⟩ : ∃ R, R = cmpPathP p q := ⟨_, rfl⟩
  have HR0 := Lib.hid (show cmpPathP (p.drop 0) (q.drop 0) = R by rw [hR]; rfl)
  rw [← hn, ← hm, ← hR]
  clear hp hq hn hm hR
  go_enter Tryz.func31, Tryz.ntmps31
  go_wp2_with fail
  go_loopw [14] (fun iv wr => ∃ j : Nat, iv = .int .i64 j ∧ j ≤ n ∧ j ≤ m ∧ Hid (Below w.heap.size w wr ∧ cmpPathP (p.drop j) (q.drop j) = R)) (fun iv _ => n - (intOf iv).toNat)
  case atStart => exact ⟨0, rfl, Nat.zero_le _, Nat.zero_le _, Lib.hid ⟨Below.refl _ w, HR0.out⟩⟩
  case round =>
    obtain ⟨j, rfl, hj1, hj2, hI⟩ := hrel
    clear HR0
    by_cases hlt : j < n ∧ j < m
    · obtain ⟨hl1, hl2⟩ := hlt
      obtain ⟨a, ha⟩ : ∃ a, p[j]? = some a := ⟨_, List.getElem?_eq_getElem (by rw [← HN.out]; exact hl1)⟩
      obtain ⟨b, hb⟩ : ∃ b, q[j]? = some b := ⟨_, List.getElem?_eq_getElem (by rw [← HM.out]; exact hl2)⟩
      have HST := Lib.hid (cmpPath_step ha hb)
      obtain ⟨ba, oa, rfl, hbA, a0, a1, -⟩ := (HP.out _ hI.out.1).at_ ha
      obtain ⟨bb, ob, rfl, hbB, b0, b1, -⟩ := (HQ.out _ hI.out.1).at_ hb
      have hjn : (j : Int) < min (n : Int) (m : Int) := by omega
      have hji : (j : Int) < n := by omega
      have hji2 : (j : Int) < m := by omega
      have hj0 : 0 ≤ (j : Int) := by omega
      obtain ⟨r, hr⟩ : ∃ r, r = cmpStepP a b := ⟨_, rfl⟩
      have HC := Lib.hid fun W => orderSteps_any a b W
      rw [← hr] at HC HST
      obtain ⟨i, t⟩ := a
      obtain ⟨i', t'⟩ := b
      clear ha hb hr
      simp only at HC a0 a1 b0 b1
      go_wp2_with fail
      go_region_held3 (fun w' => w'.cell? ⟨ba, oa + j * 2, none⟩ = some (.int .i64 i) ∧ w'.cell? ⟨ba, oa + j * 2 + 1, none⟩ = some (.string t) ∧ w'.cell? ⟨bb, ob + j * 2, none⟩ = some (.int .i64 i') ∧ w'.cell? ⟨bb, ob + j * 2 + 1, none⟩ = some (.string t'))
        (first
          | go_keep
          | (refine ⟨?_, ?_, ?_, ?_⟩ <;> rw [bcell h1 _ _ (by simpa using (by assumption))] <;> simp [*]))
        ((first
          | (go_at_call 32; refine (HC.out _).mono ?_; rintro e w1 ⟨rfl, h1⟩)))
      have HB1 := Lib.hid (below_on hI.out.1.drew h1)
      clear h1 a0 a1 b0 b1
      by_cases h0 : r = 0
      · have k0 : (r != 0) = false := by simp [h0]
        have HN1 := Lib.hid (show cmpPathP (p.drop (j + 1)) (q.drop (j + 1)) = R by have := HST.out; rw [if_pos h0] at this; rw [← this]; exact hI.out.2)
        clear h0
        go_wp2_with fail
        go_roundw
        case rel => exact ⟨j + 1, by go_num, by omega, by omega, Lib.hid ⟨HB1.out, HN1.out⟩⟩
        case measure => simp [intOf]; omega
      · have k0 : (r != 0) = true := by simp [h0]
        have HN1 := Lib.hid (show R = r by have := HST.out; rw [if_neg h0] at this; rw [← this]; exact hI.out.2.symm)
        clear h0
        go_wp2_with fail
        go_ret
        exact ⟨by rw [HN1.out]; rfl, HB1.out⟩
    · have hjn : ¬ ((j : Int) < min (n : Int) (m : Int)) := by omega
      have HE := Lib.hid (show R = cmpI n m by rw [← hI.out.2]; exact cmpPath_end HN.out HM.out hj1 hj2 hlt)
      have HC := Lib.hid fun W => (cmpInt_any n m W).mono (R' := fun e w' => e = .returned (.int .i64 (cmpI n m)) ∧ W = w') fun _ _ h => ⟨h.1, h.2.symm⟩
      clear hlt
      go_wp2_with fail
      refine (HC.out _).mono ?_
      rintro e w3 ⟨rfl, rfl⟩
      go_wp2_with fail
      go_ret
      exact ⟨by rw [HE.out]; rfl, hI.out.1⟩
/-- What Order answers. -/
def OrdPost (p q : List Stp) (w : World) (e : Ending) (w' : World) : Prop := e = .returned (if (pathB p && pathB q) = true then .tuple #[.int .i64 (cmpPathP p q), .int .i64 0] else .tuple #[.int .i64 0, .int .i64 1]) ∧ Below w.heap.size w w'
theorem OrdPost.no {p q : List Stp} {w w' : World} (h : (pathB p && pathB q) = false) (hb : Below w.heap.size w w') : OrdPost p q w (.returned (.tuple #[.int .i64 0, .int .i64 1])) w' := ⟨by rw [if_neg (by rw [h]; simp)], hb⟩
theorem OrdPost.yes {p q : List Stp} {w w' : World} {r : Int} (hr : r = cmpPathP p q) (h : (pathB p && pathB q) = true) (hb : Below w.heap.size w w') : OrdPost p q w (.returned (.tuple #[.int .i64 r, .int .i64 0])) w' := ⟨by rw [if_pos h, hr], hb⟩
theorem pathValid_is (p : List Stp) (w : World) (A : Option Addr) (c : Nat) (h : PLies w w.heap.size A c p) {r : Bool} (hr : pathB p = r) :
    Calls Tryz.prog 14 #[.slice A p.length c] w fun e w' => e = .returned (.bool r) ∧ Below w.heap.size w w' := by
  subst hr; exact pathValid_any p w A c h
set_option maxRecDepth 100000 in
set_option maxHeartbeats 4000000 in
theorem pathOrder_any (p q : List Stp) (w : World) (A A' : Option Addr) (c c' : Nat) (hp : PLies w w.heap.size A c p) (hq : PLies w w.heap.size A' c' q) :
    Calls Tryz.prog 8 #[.slice A p.length c, .slice A' q.length c'] w (OrdPost p q w) := by
  obtain ⟨b, hb⟩ : ∃ b, pathB p = b := ⟨_, rfl⟩
  obtain ⟨b', hb'⟩ : ∃ b, pathB q = b := ⟨_, rfl⟩
  have HP := Lib.hid fun W (hW : Below w.heap.size w W) => pathValid_is p W A c (hp.on hW) hb
  have HQ := Lib.hid fun W (hW : Below w.heap.size w W) => pathValid_is q W A' c' (hq.on hW) hb'
  have HO := Lib.hid fun W (hW : Below w.heap.size w W) => orderLists_any p q W A A' c c' (hp.on hW) (hq.on hW)
  obtain ⟨r, hr⟩ : ∃ r, r = cmpPathP p q := ⟨_, rfl⟩
  have HR := Lib.hid hr
  obtain ⟨n, hn⟩ : ∃ n, n = p.length := ⟨_, rfl⟩
  obtain ⟨m, hm⟩ : ∃ m, m = q.length := ⟨_, rfl⟩
  have HB := Lib.hid (And.intro hb hb')
  rw [← hr] at HO
  rw [← hn] at HP HO
  rw [← hm] at HQ HO
  rw [← hn, ← hm]
  clear hp hq hr hn hm hb hb'
  cases b
  · have HF := Lib.hid (show (pathB p && pathB q) = false by rw [HB.out.1]; rfl)
    go_enter Tryz.func8, Tryz.ntmps8
    go_wp2_with fail
    refine (HP.out _ (Below.refl _ w)).mono ?_
    rintro e w1 ⟨rfl, h1⟩
    have HB1 := Lib.hid h1
    clear h1
    go_wp2_with fail
    go_ret2
    exact OrdPost.no HF.out HB1.out
  · cases b'
    · have HF := Lib.hid (show (pathB p && pathB q) = false by rw [HB.out.1, HB.out.2]; rfl)
      go_enter Tryz.func8, Tryz.ntmps8
      go_wp2_with fail
      refine (HP.out _ (Below.refl _ w)).mono ?_
      rintro e w1 ⟨rfl, h1⟩
      have HB1 := Lib.hid h1
      clear h1
      go_wp2_with fail
      refine (HQ.out _ HB1.out).mono ?_
      rintro e w2 ⟨rfl, h2⟩
      have HB2 := Lib.hid (below_on HB1.out h2)
      clear h2
      go_wp2_with fail
      go_ret2
      exact OrdPost.no HF.out HB2.out
    · have HF := Lib.hid (show (pathB p && pathB q) = true by rw [HB.out.1, HB.out.2]; rfl)
      go_enter Tryz.func8, Tryz.ntmps8
      go_wp2_with fail
      refine (HP.out _ (Below.refl _ w)).mono ?_
      rintro e w1 ⟨rfl, h1⟩
      have HB1 := Lib.hid h1
      clear h1
      go_wp2_with fail
      refine (HQ.out _ HB1.out).mono ?_
      rintro e w2 ⟨rfl, h2⟩
      have HB2 := Lib.hid (below_on HB1.out h2)
      clear h2
      go_wp2_with fail
      refine (HO.out _ HB2.out).mono ?_
      rintro e w3 ⟨rfl, h3⟩
      have HB3 := Lib.hid (below_on HB2.out h3)
      clear h3
      go_wp2_with fail
      go_ret2
      exact OrdPost.yes HR.out HF.out HB3.out
end Go.Proofs.YthlmnhelmhnpfaaGreatDoor
