/- The specification's comparison of paths, walked. -/
import Derived.Test.YtdlmphbaolejcaaDoorVc
import Derived.Deep.RegionLaw
import Derived.Deep.RegionWith
namespace Go.Proofs.YtdlmphbaolejcaaDoor
open Go.RowKit

/-- The specification's order of steps, of paths. -/
def refStepP (a b : Stp) : Int := if a = b then 0 else if (0 ≤ a.1 ∧ (b.1 < 0 ∨ a.1 < b.1)) ∨ (a.1 < 0 ∧ b.1 < 0 ∧ ltB a.2 b.2 = true) then -1 else 1
def refCmpP : List Stp → List Stp → Int
  | [], [] => 0
  | [], _ :: _ => -1
  | _ :: _, [] => 1
  | a :: p, b :: q => if a = b then refCmpP p q else refStepP a b
theorem refCmp_step {p q : List Stp} {j : Nat} {a b : Stp} (ha : p[j]? = some a) (hb : q[j]? = some b) : refCmpP (p.drop j) (q.drop j) = if a = b then refCmpP (p.drop (j + 1)) (q.drop (j + 1)) else refStepP a b := by
  rw [drop_at ha, drop_at hb, refCmpP]
theorem refCmp_end {p q : List Stp} {j n m : Nat} (hn : n = p.length) (hm : m = q.length) (h1 : j ≤ n) (h2 : j ≤ m) (h : ¬ (j < n ∧ j < m)) : refCmpP (p.drop j) (q.drop j) = if n < m then -1 else if m < n then 1 else 0 := by
  by_cases h3 : n ≤ j
  · rw [List.drop_eq_nil_of_le (by omega : p.length ≤ j)]
    by_cases h4 : m ≤ j
    · rw [List.drop_eq_nil_of_le (by omega : q.length ≤ j), refCmpP, if_neg (by omega), if_neg (by omega)]
    · obtain ⟨b, hb⟩ : ∃ b, q[j]? = some b := ⟨_, List.getElem?_eq_getElem (by omega)⟩
      rw [drop_at hb, refCmpP, if_pos (by omega)]
  · have h4 : m ≤ j := by omega
    obtain ⟨a, ha⟩ : ∃ a, p[j]? = some a := ⟨_, List.getElem?_eq_getElem (by omega)⟩
    rw [List.drop_eq_nil_of_le (by omega : q.length ≤ j), drop_at ha, refCmpP, if_neg (by omega), if_pos (by omega)]
theorem refCmp_same : ∀ p : List Stp, refCmpP p p = 0
  | [] => rfl
  | a :: p => by rw [refCmpP, if_pos rfl, refCmp_same p]
set_option maxRecDepth 100000 in
set_option maxHeartbeats 8000000 in
theorem refPathCompare_any (p q : List Stp) (w : World) (A A' : Option Addr) (c c' : Nat) (hp : PLies w w.heap.size A c p) (hq : PLies w w.heap.size A' c' q) :
    Calls Tryd.prog 49 #[.slice A p.length c, .slice A' q.length c'] w fun e w' => e = .returned (.int .i64 (refCmpP p q)) ∧ Below w.heap.size w w' := by
  obtain ⟨n, hn⟩ : ∃ n, n = p.length := ⟨_, rfl⟩
  obtain ⟨m, hm⟩ : ∃ n, n = q.length := ⟨_, rfl⟩
  have HN := Lib.hid hn
  have HM := Lib.hid hm
  have HP := Lib.hid fun W (hW : Below w.heap.size w W) => hp.on hW
  have HQ := Lib.hid fun W (hW : Below w.heap.size w W) => hq.on hW
  have hnl : n ≤ maxLen := by have := hp.1; have := hp.2.1; omega
  have hml : m ≤ maxLen := by have := hq.1; have := hq.2.1; omega
  unfold maxLen at hnl hml
  obtain ⟨R, hR⟩ : ∃ R, R = refCmpP p q := ⟨_, rfl⟩
  have HR0 := Lib.hid (show refCmpP (p.drop 0) (q.drop 0) = R by rw [hR]; rfl)
  rw [← hn, ← hm, ← hR]
  clear hp hq hn hm hR
  go_enter Tryd.func49, Tryd.ntmps49
  go_wp2_with fail
  go_loopw [5] (fun iv wr => ∃ j : Nat, iv = .int .i64 j ∧ j ≤ n ∧ j ≤ m ∧ Hid (Below w.heap.size w wr ∧ refCmpP (p.drop j) (q.drop j) = R)) (fun iv _ => n - (intOf iv).toNat)
  case atStart => exact ⟨0, rfl, Nat.zero_le _, Nat.zero_le _, Lib.hid ⟨Below.refl _ w, HR0.out⟩⟩
  case round =>
    obtain ⟨j, rfl, hj1, hj2, hI⟩ := hrel
    clear HR0
    by_cases hlt : j < n ∧ j < m
    · obtain ⟨hl1, hl2⟩ := hlt
      obtain ⟨a, ha⟩ : ∃ a, p[j]? = some a := ⟨_, List.getElem?_eq_getElem (by rw [← HN.out]; exact hl1)⟩
      obtain ⟨b, hb⟩ : ∃ b, q[j]? = some b := ⟨_, List.getElem?_eq_getElem (by rw [← HM.out]; exact hl2)⟩
      have HST := Lib.hid (refCmp_step ha hb)
      obtain ⟨ba, oa, rfl, hbA, a0, a1, -⟩ := (HP.out _ hI.out.1).at_ ha
      obtain ⟨bb, ob, rfl, hbB, b0, b1, -⟩ := (HQ.out _ hI.out.1).at_ hb
      have hji : (j : Int) < n := by omega
      have hji2 : (j : Int) < m := by omega
      have hj0 : 0 ≤ (j : Int) := by omega
      obtain ⟨i, t⟩ := a
      obtain ⟨i', t'⟩ := b
      clear ha hb
      simp only at a0 a1 b0 b1
      have n1 := World.new_ne wr _ a0
      have n2 := World.new_ne wr _ b0
      go_wp2_with fail
      go_region_held3 (fun w' => w'.cell? ⟨ba, oa + j * 2, none⟩ = some (.int .i64 i) ∧ w'.cell? ⟨ba, oa + j * 2 + 1, none⟩ = some (.string t) ∧ w'.cell? ⟨bb, ob + j * 2, none⟩ = some (.int .i64 i') ∧ w'.cell? ⟨bb, ob + j * 2 + 1, none⟩ = some (.string t'))
        (go_keep)
        (fail)
      all_goals
        clear n1 n2 a0 a1 b0 b1
        by_cases hab : ((i, t) : Stp) = (i', t')
        · have HN1 := Lib.hid (show refCmpP (p.drop (j + 1)) (q.drop (j + 1)) = R by have := HST.out; rw [if_pos hab] at this; rw [← this]; exact hI.out.2)
          obtain ⟨rfl, rfl⟩ := Prod.mk.inj hab
          clear hab
          go_wp2_with fail
          go_roundw
          case rel => exact ⟨j + 1, by go_num, by omega, by omega, Lib.hid ⟨by repeat (first | with_reducible exact hI.out.1.drew | with_reducible exact hI.out.1 | with_reducible refine below_al ?_ _ | with_reducible refine Below.drew ?_), HN1.out⟩⟩
          case measure => simp [intOf]; omega
        · have HN1 := Lib.hid (show R = refStepP (i, t) (i', t') by have := HST.out; rw [if_neg hab] at this; rw [← this]; exact hI.out.2.symm)
          have HV := Lib.hid (HN1.out.trans (show refStepP (i, t) (i', t') = if (0 ≤ i ∧ (i' < 0 ∨ i < i')) ∨ (i < 0 ∧ i' < 0 ∧ ltB t t' = true) then -1 else 1 by rw [refStepP, if_neg hab]))
          have HB := Lib.hid (show Below w.heap.size w ((wr.alloc (.cells #[.int .i64 i, .string t] 51)).alloc (.cells #[.int .i64 i', .string t'] 51)).drew ∧ Below w.heap.size w ((wr.alloc (.cells #[.int .i64 i', .string t'] 51)).alloc (.cells #[.int .i64 i, .string t] 51)).drew from ⟨(below_al (below_al hI.out.1 _) _).drew, (below_al (below_al hI.out.1 _) _).drew⟩)
          obtain ⟨b, hb⟩ : ∃ b, Op.bytesLess t.toList t'.toList = b := ⟨_, rfl⟩
          have HLT := Lib.hid (show ltB t t' = b from hb)
          have HT := Lib.hid (show i = i' → (t.toList == t'.toList) = false from fun e => by
            rw [beq_eq_false_iff_ne]
            exact fun e2 => hab (by rw [e, eqT (beq_iff_eq.2 e2)]))
          clear hab HN1 HST
          by_cases hii : i = i'
          · have kt := HT.out hii
            subst hii
            by_cases h0 : 0 ≤ i
            · go_wp2_with fail
              go_ret
              exact ⟨by (rw [HV.out, if_neg (by omega)]) <;> rfl, by first | exact HB.out.1 | exact HB.out.2⟩
            · have h1 : i < 0 := by omega
              cases b
              · go_wp2_with fail
                go_ret
                exact ⟨by (rw [HV.out, if_neg (by rw [HLT.out]; simp <;> omega)]) <;> rfl, by first | exact HB.out.1 | exact HB.out.2⟩
              · go_wp2_with fail
                go_ret
                exact ⟨by rw [HV.out, if_pos (.inr ⟨h1, h1, HLT.out⟩)]; rfl, by first | exact HB.out.1 | exact HB.out.2⟩
          · have ki : (i == i') = false := by simpa using hii
            have HII := Lib.hid hii
            clear hii
            by_cases h0 : 0 ≤ i
            · by_cases h1 : i' < 0
              · go_wp2_with fail
                go_ret
                exact ⟨by rw [HV.out, if_pos (.inl ⟨h0, .inl h1⟩)]; rfl, by first | exact HB.out.1 | exact HB.out.2⟩
              · by_cases h2 : i < i'
                · go_wp2_with fail
                  go_ret
                  exact ⟨by rw [HV.out, if_pos (.inl ⟨h0, .inr h2⟩)]; rfl, by first | exact HB.out.1 | exact HB.out.2⟩
                · go_wp2_with fail
                  go_ret
                  exact ⟨by (rw [HV.out, if_neg (by omega)]) <;> rfl, by first | exact HB.out.1 | exact HB.out.2⟩
            · have h3 : i < 0 := by omega
              by_cases h1 : i' < 0
              · cases b
                · go_wp2_with fail
                  go_ret
                  exact ⟨by (rw [HV.out, if_neg (by rw [HLT.out]; simp <;> omega)]) <;> rfl, by first | exact HB.out.1 | exact HB.out.2⟩
                · go_wp2_with fail
                  go_ret
                  exact ⟨by rw [HV.out, if_pos (.inr ⟨h3, h1, HLT.out⟩)]; rfl, by first | exact HB.out.1 | exact HB.out.2⟩
              · go_wp2_with fail
                go_ret
                exact ⟨by (rw [HV.out, if_neg (by omega)]) <;> rfl, by first | exact HB.out.1 | exact HB.out.2⟩
    · have HE := Lib.hid (show R = if n < m then -1 else if m < n then 1 else 0 by rw [← hI.out.2]; exact refCmp_end HN.out HM.out hj1 hj2 hlt)
      by_cases hl1 : j < n
      · have hji : (j : Int) < n := by omega
        have hji2 : ¬ (j : Int) < m := by omega
        have hnm : ¬ (n : Int) < m := by omega
        have hmn : (m : Int) < n := by omega
        go_wp2_with fail
        go_ret
        exact ⟨by (rw [HE.out, if_neg (by omega), if_pos (by omega)]) <;> rfl, hI.out.1⟩
      · have hji : ¬ (j : Int) < n := by omega
        by_cases h1 : (n : Int) < m
        · go_wp2_with fail
          go_ret
          exact ⟨by rw [HE.out, if_pos (by omega)]; rfl, hI.out.1⟩
        · by_cases h2 : (m : Int) < n
          · omega
          · go_wp2_with fail
            go_ret
            exact ⟨by (rw [HE.out, if_neg (by omega), if_neg (by omega)]) <;> rfl, hI.out.1⟩
end Go.Proofs.YtdlmphbaolejcaaDoor
