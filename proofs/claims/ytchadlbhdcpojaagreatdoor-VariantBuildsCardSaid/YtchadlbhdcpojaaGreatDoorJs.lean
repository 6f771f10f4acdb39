/- The definition's comparison of lists of leaves that are the same, walked. -/
import Derived.Test.YtchadlbhdcpojaaGreatDoorJg
import Derived.Test.YtchadlbhdcpojaaGreatDoorYe
import Derived.Deep.RegionHeld3
import Derived.Test.YtchadlbhdcpojaaGreatDoorVc
import Derived.Deep.RegionLaw
import Derived.Deep.RegionWith
import Derived.Test.YtchadlbhdcpojaaGreatDoorJq
namespace Go.Proofs.YtchadlbhdcpojaaGreatDoor
open Go.RowKit
/-- The cells of two leaves. -/
theorem leaf_cells {wr W : World} {b1 q1 b2 q2 : Nat} {x0 x1 x2 x3 x4 x5 y0 y1 y2 y3 y4 y5 : Value} (hb : Below wr.heap.size wr W) (h1 : b1 < wr.heap.size) (h2 : b2 < wr.heap.size)
    (hx : wr.cell? ⟨b1, q1, none⟩ = some x0 ∧ wr.cell? ⟨b1, q1 + 1, none⟩ = some x1 ∧ wr.cell? ⟨b1, q1 + 2, none⟩ = some x2 ∧ wr.cell? ⟨b1, q1 + 3, none⟩ = some x3 ∧ wr.cell? ⟨b1, q1 + 4, none⟩ = some x4 ∧ wr.cell? ⟨b1, q1 + 5, none⟩ = some x5)
    (hy : wr.cell? ⟨b2, q2, none⟩ = some y0 ∧ wr.cell? ⟨b2, q2 + 1, none⟩ = some y1 ∧ wr.cell? ⟨b2, q2 + 2, none⟩ = some y2 ∧ wr.cell? ⟨b2, q2 + 3, none⟩ = some y3 ∧ wr.cell? ⟨b2, q2 + 4, none⟩ = some y4 ∧ wr.cell? ⟨b2, q2 + 5, none⟩ = some y5) :
    Hid (Below wr.heap.size wr W) ∧ (W.cell? ⟨b1, q1, none⟩ = some x0 ∧ W.cell? ⟨b1, q1 + 1, none⟩ = some x1 ∧ W.cell? ⟨b1, q1 + 2, none⟩ = some x2 ∧ W.cell? ⟨b1, q1 + 3, none⟩ = some x3 ∧ W.cell? ⟨b1, q1 + 4, none⟩ = some x4 ∧ W.cell? ⟨b1, q1 + 5, none⟩ = some x5) ∧ (W.cell? ⟨b2, q2, none⟩ = some y0 ∧ W.cell? ⟨b2, q2 + 1, none⟩ = some y1 ∧ W.cell? ⟨b2, q2 + 2, none⟩ = some y2 ∧ W.cell? ⟨b2, q2 + 3, none⟩ = some y3 ∧ W.cell? ⟨b2, q2 + 4, none⟩ = some y4 ∧ W.cell? ⟨b2, q2 + 5, none⟩ = some y5) := by
  obtain ⟨e0, e1, e2, e3, e4, e5⟩ := hx
  obtain ⟨f0, f1, f2, f3, f4, f5⟩ := hy
  exact ⟨Lib.hid hb, ⟨(bcell hb _ _ h1).trans e0, (bcell hb _ _ h1).trans e1, (bcell hb _ _ h1).trans e2, (bcell hb _ _ h1).trans e3, (bcell hb _ _ h1).trans e4, (bcell hb _ _ h1).trans e5⟩, (bcell hb _ _ h2).trans f0, (bcell hb _ _ h2).trans f1, (bcell hb _ _ h2).trans f2, (bcell hb _ _ h2).trans f3, (bcell hb _ _ h2).trans f4, (bcell hb _ _ h2).trans f5⟩
theorem LeafRow.on {w w' : World} {A : Option Addr} {c : Nat} {l : List Lf} (h : LeafRow (fun b => b < w.heap.size) w A c l) (hb : Below w.heap.size w w') : LeafRow (fun b => b < w'.heap.size) w' A c l :=
  h.keep (fun b o hlt => bcell hb b o hlt) (fun b hlt => by have := hb.size; omega)
open Go.RowKit
/-- The specification's order of steps, of paths. -/
def refStepP (a b : Stp) : Int := if a = b then 0 else if (0 ≤ a.1 ∧ (b.1 < 0 ∨ a.1 < b.1)) ∨ (a.1 < 0 ∧ b.1 < 0 ∧ ltB a.2 b.2 = true) then -1 else 1
def refCmpP : List Stp → List Stp → Int
  | [], [] => 0
  | [], _ :: _ => -1
  | _ :: _, [] => 1
  | a :: p, b :: q => if a = b then refCmpP p q else refStepP a b
theorem refCmp_step {p q : List Stp} {j : Nat} {a b : Stp} (ha : p[j]? = some a) (hb : q[j]? = some b) : refCmpP (p.drop j) (q.drop j) = if a = b then refCmpP (p.drop (j + 1)) (q.drop (j + 1)) else refStepP a b := by
  rw [drop_at ha, drop_at hb, refCmpP]
theorem refCmp_end {p q : List Stp} {j n m : Nat} (hn : n = p.length) (hm : m = q.length) (h1 : j ≤ n) (h2 : j ≤ m) (h : ¬ (j < n ∧ j < m)) : refCmpP (p.drop j) (q.drop j) = if n < m then -1 else if m < n then 1 else 0 := by
  by_cases h3 : n ≤ j
  · rw [List.drop_eq_nil_of_le (by omega : p.length ≤ j)]
    by_cases h4 : m ≤ j
    · rw [List.drop_eq_nil_of_le (by omega : q.length ≤ j), refCmpP, if_neg (by omega), if_neg (by omega)]
    · obtain ⟨b, hb⟩ : ∃ b, q[j]? = some b := ⟨_, List.getElem?_eq_getElem (by omega)⟩
      rw [drop_at hb, refCmpP, if_pos (by omega)]
  · have h4 : m ≤ j := by omega
    obtain ⟨a, ha⟩ : ∃ a, p[j]? = some a := ⟨_, List.getElem?_eq_getElem (by omega)⟩
    rw [List.drop_eq_nil_of_le (by omega : q.length ≤ j), drop_at ha, refCmpP, if_neg (by omega), if_pos (by omega)]
set_option maxRecDepth 100000 in
set_option maxHeartbeats 8000000 in
theorem refPathCompare_any (p q : List Stp) (w : World) (A A' : Option Addr) (c c' : Nat) (hp : PLies w w.heap.size A c p) (hq : PLies w w.heap.size A' c' q) :
    Calls Tryz.prog 39 #[.slice A p.length c, .slice A' q.length c'] w fun e w' => e = .returned (.int .i64 (refCmpP p q)) ∧ Below w.heap.size w w' := by
  obtain ⟨n, hn⟩ : ∃ n, n = p.length := ⟨_, rfl⟩
  obtain ⟨m, hm⟩ : ∃ n, n = q.length := ⟨_, rfl⟩
  have HN := Lib.hid hn
  have HM := Lib.hid hm
  have HP := Lib.hid fun W (hW : Below w.heap.size w W) => hp.on hW
  have HQ := Lib.hid fun W (hW : Below w.heap.size w W) => hq.on hW
  have hnl : n ≤ maxLen := by have := hp.1; have := hp.2.1; omega
  have hml : m ≤ maxLen := by have := hq.1; have := hq.2.1; omega
  unfold maxLen at hnl hml
  obtain ⟨R, hR⟩ : ∃ R, R = refCmpP p q := ⟨_, rfl⟩
  have HR0 := Lib.hid (show refCmpP (p.drop 0) (q.drop 0) = R by rw [hR]; rfl)
  rw [← hn, ← hm, ← hR]
  clear hp hq hn hm hR
  go_enter Tryz.func39, Tryz.ntmps39
  go_wp2_with fail
  go_loopw [5] (fun iv wr => ∃ j : Nat, iv = .int .i64 j ∧ j ≤ n ∧ j ≤ m ∧ Hid (Below w.heap.size w wr ∧ refCmpP (p.drop j) (q.drop j) = R)) (fun iv _ => n - (intOf iv).toNat)
  case atStart => exact ⟨0, rfl, Nat.zero_le _, Nat.zero_le _, Lib.hid ⟨Below.refl _ w, HR0.out⟩⟩
  case round =>
    obtain ⟨j, rfl, hj1, hj2, hI⟩ := hrel
    clear HR0
    by_cases hlt : j < n ∧ j < m
    · obtain ⟨hl1, hl2⟩ := hlt
      obtain ⟨a, ha⟩ : ∃ a, p[j]? = some a := ⟨_, List.getElem?_eq_getElem (by rw [← HN.out]; exact hl1)⟩
      obtain ⟨b, hb⟩ : ∃ b, q[j]? = some b := ⟨_, List.getElem?_eq_getElem (by rw [← HM.out]; exact hl2)⟩
      have HST := Lib.hid (refCmp_step ha hb)
      obtain ⟨ba, oa, rfl, hbA, a0, a1, -⟩ := (HP.out _ hI.out.1).at_ ha
      obtain ⟨bb, ob, rfl, hbB, b0, b1, -⟩ := (HQ.out _ hI.out.1).at_ hb
      have hji : (j : Int) < n := by omega
      have hji2 : (j : Int) < m := by omega
      have hj0 : 0 ≤ (j : Int) := by omega
      obtain ⟨i, t⟩ := a
      obtain ⟨i', t'⟩ := b
      clear ha hb
      simp only at a0 a1 b0 b1
      have n1 := World.new_ne wr _ a0
      have n2 := World.new_ne wr _ b0
      go_wp2_with fail
      go_region_held3 (fun w' => w'.cell? ⟨ba, oa + j * 2, none⟩ = some (.int .i64 i) ∧ w'.cell? ⟨ba, oa + j * 2 + 1, none⟩ = some (.string t) ∧ w'.cell? ⟨bb, ob + j * 2, none⟩ = some (.int .i64 i') ∧ w'.cell? ⟨bb, ob + j * 2 + 1, none⟩ = some (.string t'))
        (go_keep)
        (fail)
      all_goals
        clear n1 n2 a0 a1 b0 b1
        by_cases hab : ((i, t) : Stp) = (i', t')
        · have HN1 := Lib.hid (show refCmpP (p.drop (j + 1)) (q.drop (j + 1)) = R by have := HST.out; rw [if_pos hab] at this; rw [← this]; exact hI.out.2)
          obtain ⟨rfl, rfl⟩ := Prod.mk.inj hab
          clear hab
          go_wp2_with fail
          go_roundw
          case rel => exact ⟨j + 1, by go_num, by omega, by omega, Lib.hid ⟨by repeat (first | with_reducible exact hI.out.1.drew | with_reducible exact hI.out.1 | with_reducible refine below_al ?_ _ | with_reducible refine Below.drew ?_), HN1.out⟩⟩
          case measure => simp [intOf]; omega
        · have HN1 := Lib.hid (show R = refStepP (i, t) (i', t') by have := HST.out; rw [if_neg hab] at this; rw [← this]; exact hI.out.2.symm)
          have HV := Lib.hid (HN1.out.trans (show refStepP (i, t) (i', t') = if (0 ≤ i ∧ (i' < 0 ∨ i < i')) ∨ (i < 0 ∧ i' < 0 ∧ ltB t t' = true) then -1 else 1 by rw [refStepP, if_neg hab]))
          have HB := Lib.hid (show Below w.heap.size w ((wr.alloc (.cells #[.int .i64 i, .string t] 34)).alloc (.cells #[.int .i64 i', .string t'] 34)).drew ∧ Below w.heap.size w ((wr.alloc (.cells #[.int .i64 i', .string t'] 34)).alloc (.cells #[.int .i64 i, .string t] 34)).drew from ⟨(below_al (below_al hI.out.1 _) _).drew, (below_al (below_al hI.out.1 _) _).drew⟩)
          obtain ⟨b, hb⟩ : ∃ b, Op.bytesLess t.toList t'.toList = b := ⟨_, rfl⟩
          have HLT := Lib.hid (show ltB t t' = b from hb)
          have HT := Lib.hid (show i = i' → (t.toList == t'.toList) = false from fun e => by
            rw [beq_eq_false_iff_ne]
            exact fun e2 => hab (by rw [e, eqT (beq_iff_eq.2 e2)]))
          clear hab HN1 HST
          by_cases hii : i = i'
          · have kt := HT.out hii
            subst hii
            by_cases h0 : 0 ≤ i
            · go_wp2_with fail
              go_ret
              exact ⟨by (rw [HV.out, if_neg (by omega)]) <;> rfl, by first | exact HB.out.1 | exact HB.out.2⟩
            · have h1 : i < 0 := by omega
              cases b
              · go_wp2_with fail
                go_ret
                exact ⟨by (rw [HV.out, if_neg (by rw [HLT.out]; simp <;> omega)]) <;> rfl, by first | exact HB.out.1 | exact HB.out.2⟩
              · go_wp2_with fail
                go_ret
                exact ⟨by rw [HV.out, if_pos (.inr ⟨h1, h1, HLT.out⟩)]; rfl, by first | exact HB.out.1 | exact HB.out.2⟩
          · have ki : (i == i') = false := by simpa using hii
            have HII := Lib.hid hii
            clear hii
            by_cases h0 : 0 ≤ i
            · by_cases h1 : i' < 0
              · go_wp2_with fail
                go_ret
                exact ⟨by rw [HV.out, if_pos (.inl ⟨h0, .inl h1⟩)]; rfl, by first | exact HB.out.1 | exact HB.out.2⟩
              · by_cases h2 : i < i'
                · go_wp2_with fail
                  go_ret
                  exact ⟨by rw [HV.out, if_pos (.inl ⟨h0, .inr h2⟩)]; rfl, by first | exact HB.out.1 | exact HB.out.2⟩
                · go_wp2_with fail
                  go_ret
                  exact ⟨by (rw [HV.out, if_neg (by omega)]) <;> rfl, by first | exact HB.out.1 | exact HB.out.2⟩
            · have h3 : i < 0 := by omega
              by_cases h1 : i' < 0
              · cases b
                · go_wp2_with fail
                  go_ret
                  exact ⟨by (rw [HV.out, if_neg (by rw [HLT.out]; simp <;> omega)]) <;> rfl, by first | exact HB.out.1 | exact HB.out.2⟩
                · go_wp2_with fail
                  go_ret
                  exact ⟨by rw [HV.out, if_pos (.inr ⟨h3, h1, HLT.out⟩)]; rfl, by first | exact HB.out.1 | exact HB.out.2⟩
              · go_wp2_with fail
                go_ret
                exact ⟨by (rw [HV.out, if_neg (by omega)]) <;> rfl, by first | exact HB.out.1 | exact HB.out.2⟩
    · have HE := Lib.hid (show R = if n < m then -1 else if m < n then 1 else 0 by rw [← hI.out.2]; exact refCmp_end HN.out HM.out hj1 hj2 hlt)
      by_cases hl1 : j < n
      · have hji : (j : Int) < n := by omega
        have hji2 : ¬ (j : Int) < m := by omega
        have hnm : ¬ (n : Int) < m := by omega
        have hmn : (m : Int) < n := by omega
        go_wp2_with fail
        go_ret
        exact ⟨by (rw [HE.out, if_neg (by omega), if_pos (by omega)]) <;> rfl, hI.out.1⟩
      · have hji : ¬ (j : Int) < n := by omega
        by_cases h1 : (n : Int) < m
        · go_wp2_with fail
          go_ret
          exact ⟨by rw [HE.out, if_pos (by omega)]; rfl, hI.out.1⟩
        · by_cases h2 : (m : Int) < n
          · omega
          · go_wp2_with fail
            go_ret
            exact ⟨by (rw [HE.out, if_neg (by omega), if_neg (by omega)]) <;> rfl, hI.out.1⟩
open Go.RowKit
theorem refCmp_zero : ∀ {p q : List Stp}, refCmpP p q = 0 ↔ p = q
  | [], [] => by simp [refCmpP]
  | [], _ :: _ => by simp [refCmpP]
  | _ :: _, [] => by simp [refCmpP]
  | a :: p, b :: q => by
    rw [refCmpP]
    by_cases h : a = b
    · rw [if_pos h, refCmp_zero, h]; simp
    · rw [if_neg h, refStepP, if_neg h]
      constructor
      · intro e
        split at e <;> cases e
      · intro e
        exact absurd (List.cons.inj e).1 h
set_option maxRecDepth 100000 in
set_option maxHeartbeats 4000000 in
theorem refSameLeaves_any (l m : List Lf) (hl : ∀ x ∈ l, OkL x) (hm : ∀ x ∈ m, OkL x) (w : World) (A A' : Option Addr) (c c' : Nat) (h : LeafRow (fun b => b < w.heap.size) w A c l) (h' : LeafRow (fun b => b < w.heap.size) w A' c' m) :
    Calls Tryz.prog 24 #[.slice A l.length c, .slice A' m.length c'] w fun e w' => e = .returned (.bool (sameLs l m)) ∧ Below w.heap.size w w' := by
  obtain ⟨n, hn⟩ : ∃ n, n = l.length := ⟨_, rfl⟩
  obtain ⟨k, hk⟩ : ∃ k, k = m.length := ⟨_, rfl⟩
  obtain ⟨r, hr⟩ : ∃ r, r = sameLs l m := ⟨_, rfl⟩
  have HN := Lib.hid (And.intro hn (And.intro hk hr))
  have HOK := Lib.hid (And.intro hl hm)
  have HP := Lib.hid fun W (hW : Below w.heap.size w W) => h.on hW
  have HQ := Lib.hid fun W (hW : Below w.heap.size w W) => h'.on hW
  have hnl : n ≤ maxLen := by have := h.1; have := h.2.1; omega
  have hkl : k ≤ maxLen := by have := h'.1; have := h'.2.1; omega
  have hnc : n ≤ c := by have := h.1; omega
  have hnc' : k ≤ c' := by have := h'.1; omega
  have HC := Lib.hid fun (p q : List Stp) W A c A' c' (h : PLies W W.heap.size A c p) (h' : PLies W W.heap.size A' c' q) => refPathCompare_any p q W A A' c c' h h'
  unfold maxLen at hnl hkl
  rw [← hn, ← hk, ← hr]
  clear h h' hn hk hr hl hm
  by_cases hnk : n = k
  · subst hnk
    have hnkb : ((n : Int) != (n : Int)) = false := by simp
    go_enter Tryz.func24, Tryz.ntmps24
    go_wp2_with fail
    go_loopw [5] (fun iv wr => ∃ j : Nat, iv = .int .i64 j ∧ j ≤ n ∧ Hid (Below w.heap.size w wr ∧ ∀ (i : Nat) (x y : Lf), i < j → l[i]? = some x → m[i]? = some y → sameL x y = true)) (fun iv _ => n - (intOf iv).toNat)
    case atStart => exact ⟨0, rfl, Nat.zero_le _, Lib.hid ⟨Below.refl _ w, fun i x y h => by omega⟩⟩
    case round =>
      obtain ⟨j, rfl, hj1, hI⟩ := hrel
      by_cases hlt : j < n
      · obtain ⟨x, hx⟩ : ∃ x, l[j]? = some x := ⟨_, List.getElem?_eq_getElem (by rw [← HN.out.1]; exact hlt)⟩
        obtain ⟨y, hy⟩ : ∃ y, m[j]? = some y := ⟨_, List.getElem?_eq_getElem (by rw [← HN.out.2.1]; exact hlt)⟩
        obtain ⟨b1, o1, Ap, cp, A1, c1, K1, d1, rfl, hb1, hc1, hp1, hl1⟩ := (HP.out _ hI.out.1).at_ hx
        obtain ⟨b2, o2, Aq, cq, A2, c2, K2, d2, rfl, hb2, hc2, hp2, hl2⟩ := (HQ.out _ hI.out.1).at_ hy
        obtain ⟨s, hs⟩ : ∃ s, s = refCmpP x.1 y.1 := ⟨_, rfl⟩
        have hxo := HOK.out.1 x (List.mem_of_getElem? hx)
        have hyo := HOK.out.2 y (List.mem_of_getElem? hy)
        have HL := Lib.hid fun X (hX : Below wr.heap.size wr X) => leaf_cells hX hb1 hb2 hc1 hc2
        have HC1 := Lib.hid fun X (hX : Below wr.heap.size wr X) => show Calls Tryz.prog 39 #[.slice Ap x.1.length cp, .slice Aq y.1.length cq] X (fun e w' => e = .returned (.int .i64 s) ∧ Below X.heap.size X w') from by
          rw [hs]; exact HC.out x.1 y.1 X Ap cp Aq cq ((hp1.lies (fun _ h => h)).on hX) ((hp2.lies (fun _ h => h)).on hX)
        have hji : (j : Int) < n := by omega
        have hj0 : 0 ≤ (j : Int) := by omega
        have HX := Lib.hid (And.intro hx hy)
        by_cases h0 : s = 0
        · obtain ⟨t, ht⟩ : ∃ t : Bool, t = true ↔ x.2 = y.2 := by
            by_cases e : x.2 = y.2
            · exact ⟨true, by simp [e]⟩
            · exact ⟨false, by simp [e]⟩
          have HS1 := Lib.hid fun X (hX : Below wr.heap.size wr X) => show Calls Tryz.prog 7 #[.agg #[.int .i64 x.2.kind, .int .i64 x.2.int, .string x.2.text, .slice A1 x.2.items.length c1, .slice K1 x.2.keys.length d1], .agg #[.int .i64 y.2.kind, .int .i64 y.2.int, .string y.2.text, .slice A2 y.2.items.length c2, .slice K2 y.2.keys.length d2]] X (fun e w' => e = .returned (.bool t) ∧ Below X.heap.size X w') from
            same_is x.2 y.2 X A1 K1 c1 d1 A2 K2 c2 d2 (lies_on (LiesIn.lies (fun _ h => h) _ hl1) hX) (lies_on (LiesIn.lies (fun _ h => h) _ hl2) hX) ht
          have k0 : (s != 0) = false := by simp [h0]
          have HT := Lib.hid (show sameL x y = t from by
            have e1 : x.1 = y.1 := refCmp_zero.1 (by rw [← hs, h0])
            cases t
            · cases hh : sameL x y
              · rfl
              · have := (sameL_iff hxo hyo).1 hh
                exact absurd (ht.2 (by rw [this])) (by simp)
            · exact (sameL_iff hxo hyo).2 (Prod.ext e1 (ht.1 rfl)))
          clear hx hy hp1 hp2 hl1 hl2 hc1 hc2 hs hxo hyo ht h0
          cases t
          · go_upto_region 6 with (fail)
            refine wp_region_held_drew (S := (fun X : World => Hid (Below wr.heap.size wr X) ∧ (X.cell? ⟨b1, o1 + j * 6, none⟩ = some (.slice Ap x.1.length cp) ∧ X.cell? ⟨b1, o1 + j * 6 + 1, none⟩ = some (.int .i64 x.2.kind) ∧ X.cell? ⟨b1, o1 + j * 6 + 2, none⟩ = some (.int .i64 x.2.int) ∧ X.cell? ⟨b1, o1 + j * 6 + 3, none⟩ = some (.string x.2.text) ∧ X.cell? ⟨b1, o1 + j * 6 + 4, none⟩ = some (.slice A1 x.2.items.length c1) ∧ X.cell? ⟨b1, o1 + j * 6 + 5, none⟩ = some (.slice K1 x.2.keys.length d1)) ∧ (X.cell? ⟨b2, o2 + j * 6, none⟩ = some (.slice Aq y.1.length cq) ∧ X.cell? ⟨b2, o2 + j * 6 + 1, none⟩ = some (.int .i64 y.2.kind) ∧ X.cell? ⟨b2, o2 + j * 6 + 2, none⟩ = some (.int .i64 y.2.int) ∧ X.cell? ⟨b2, o2 + j * 6 + 3, none⟩ = some (.string y.2.text) ∧ X.cell? ⟨b2, o2 + j * 6 + 4, none⟩ = some (.slice A2 y.2.items.length c2) ∧ X.cell? ⟨b2, o2 + j * 6 + 5, none⟩ = some (.slice K2 y.2.keys.length d2)))) (by kernel_rfl) (HL.out _ (Below.drew (Below.refl _ wr))) (fun hH0 => ?_)
            refine wpAnyH_take (i := 0) (oi := { dst := some 17, op := Go.Op.move (Go.Operand.tmp 0), type := 22, pos := "ref.go:219", after := #[], guard := none }) (v := ?_) rfl (by kernel_rfl) (by kernel_rfl) (by kernel_rfl) (fun _ _ _ h => h) (Or.inl ⟨by rfl, ?_⟩) (by assumption) ?_
            rotate_left
            · (intro w hSw; (try dsimp only at hSw); go_simp; try with_reducible rfl)
            (try simp only [Act.put, List.setIfInBounds_toArray, List.set_cons_zero, List.set_cons_succ])
            refine wpAnyH_take (i := 1) (oi := { dst := some 18, op := Go.Op.move (Go.Operand.tmp 5), type := 3, pos := "ref.go:219", after := #[], guard := none }) (v := ?_) rfl (by kernel_rfl) (by kernel_rfl) (by kernel_rfl) (fun _ _ _ h => h) (Or.inl ⟨by rfl, ?_⟩) (by assumption) ?_
            rotate_left
            · (intro w hSw; (try dsimp only at hSw); go_simp; try with_reducible rfl)
            (try simp only [Act.put, List.setIfInBounds_toArray, List.set_cons_zero, List.set_cons_succ])
            refine wpAnyH_take (i := 2) (oi := { dst := some 19, op := Go.Op.indexAddr 22 (Go.Operand.tmp 17) (Go.Operand.tmp 18), type := 0, pos := "ref.go:219", after := #[{ on := 0, ground := Go.Ground.data }, { on := 1, ground := Go.Ground.data }], guard := none }) (v := ?_) rfl (by kernel_rfl) (by kernel_rfl) (by kernel_rfl) (fun _ _ _ h => h) (Or.inl ⟨by rfl, ?_⟩) (by assumption) ?_
            rotate_left
            · (intro w hSw; (try dsimp only at hSw); go_simp; try with_reducible rfl)
            (try simp only [Act.put, List.setIfInBounds_toArray, List.set_cons_zero, List.set_cons_succ])
            refine wpAnyH_take (i := 3) (oi := { dst := some 20, op := Go.Op.fieldAddr 47 (Go.Operand.tmp 19) 0, type := 0, pos := "ref.go:219", after := #[{ on := 2, ground := Go.Ground.data }], guard := none }) (v := ?_) rfl (by kernel_rfl) (by kernel_rfl) (by kernel_rfl) (fun _ _ _ h => h) (Or.inl ⟨by rfl, ?_⟩) (by assumption) ?_
            rotate_left
            · (intro w hSw; (try dsimp only at hSw); go_simp; try with_reducible rfl)
            (try simp only [Act.put, List.setIfInBounds_toArray, List.set_cons_zero, List.set_cons_succ])
            refine wpAnyH_take (i := 4) (oi := { dst := some 21, op := Go.Op.load 36 (Go.Operand.tmp 20), type := 36, pos := "ref.go:219", after := #[{ on := 3, ground := Go.Ground.data }], guard := none }) (v := ?_) rfl (by kernel_rfl) (by kernel_rfl) (by kernel_rfl) (fun _ _ _ h => h) (Or.inl ⟨by rfl, ?_⟩) (by assumption) ?_
            rotate_left
            · (intro w hSw; (try dsimp only at hSw); go_simp; try with_reducible rfl)
            (try simp only [Act.put, List.setIfInBounds_toArray, List.set_cons_zero, List.set_cons_succ])
            refine wpAnyH_take (i := 5) (oi := { dst := some 22, op := Go.Op.move (Go.Operand.tmp 1), type := 22, pos := "ref.go:219", after := #[], guard := none }) (v := ?_) rfl (by kernel_rfl) (by kernel_rfl) (by kernel_rfl) (fun _ _ _ h => h) (Or.inl ⟨by rfl, ?_⟩) (by assumption) ?_
            rotate_left
            · (intro w hSw; (try dsimp only at hSw); go_simp; try with_reducible rfl)
            (try simp only [Act.put, List.setIfInBounds_toArray, List.set_cons_zero, List.set_cons_succ])
            refine wpAnyH_take (i := 6) (oi := { dst := some 23, op := Go.Op.move (Go.Operand.tmp 5), type := 3, pos := "ref.go:219", after := #[], guard := none }) (v := ?_) rfl (by kernel_rfl) (by kernel_rfl) (by kernel_rfl) (fun _ _ _ h => h) (Or.inl ⟨by rfl, ?_⟩) (by assumption) ?_
            rotate_left
            · (intro w hSw; (try dsimp only at hSw); go_simp; try with_reducible rfl)
            (try simp only [Act.put, List.setIfInBounds_toArray, List.set_cons_zero, List.set_cons_succ])
            refine wpAnyH_take (i := 7) (oi := { dst := some 24, op := Go.Op.indexAddr 22 (Go.Operand.tmp 22) (Go.Operand.tmp 23), type := 0, pos := "ref.go:219", after := #[{ on := 5, ground := Go.Ground.data }, { on := 6, ground := Go.Ground.data }], guard := none }) (v := ?_) rfl (by kernel_rfl) (by kernel_rfl) (by kernel_rfl) (fun _ _ _ h => h) (Or.inl ⟨by rfl, ?_⟩) (by assumption) ?_
            rotate_left
            · (intro w hSw; (try dsimp only at hSw); go_simp; try with_reducible rfl)
            (try simp only [Act.put, List.setIfInBounds_toArray, List.set_cons_zero, List.set_cons_succ])
            refine wpAnyH_take (i := 8) (oi := { dst := some 25, op := Go.Op.fieldAddr 47 (Go.Operand.tmp 24) 0, type := 0, pos := "ref.go:219", after := #[{ on := 7, ground := Go.Ground.data }], guard := none }) (v := ?_) rfl (by kernel_rfl) (by kernel_rfl) (by kernel_rfl) (fun _ _ _ h => h) (Or.inl ⟨by rfl, ?_⟩) (by assumption) ?_
            rotate_left
            · (intro w hSw; (try dsimp only at hSw); go_simp; try with_reducible rfl)
            (try simp only [Act.put, List.setIfInBounds_toArray, List.set_cons_zero, List.set_cons_succ])
            refine wpAnyH_take (i := 9) (oi := { dst := some 26, op := Go.Op.load 36 (Go.Operand.tmp 25), type := 36, pos := "ref.go:219", after := #[{ on := 8, ground := Go.Ground.data }], guard := none }) (v := ?_) rfl (by kernel_rfl) (by kernel_rfl) (by kernel_rfl) (fun _ _ _ h => h) (Or.inl ⟨by rfl, ?_⟩) (by assumption) ?_
            rotate_left
            · (intro w hSw; (try dsimp only at hSw); go_simp; try with_reducible rfl)
            (try simp only [Act.put, List.setIfInBounds_toArray, List.set_cons_zero, List.set_cons_succ])
            refine wpAnyH_ready (rs := [10]) (by kernel_rfl) (by simp) ?_
            refine AllReadyH.cons (o := { dst := some 27, op := Go.Op.call { callee := Go.Callee.value (Go.Operand.func 39), args := #[Go.Operand.tmp 21, Go.Operand.tmp 26], argTypes := #[36, 36] }, type := 3, pos := "ref.go:219", after := #[{ on := 4, ground := Go.Ground.data }, { on := 9, ground := Go.Ground.data }], guard := none }) rfl (fun KK hK => ?_) (AllReadyH.nil)
            · go_simp
              refine (HC1.out _ hH0.1.out).mono ?_
              rintro e w1 ⟨rfl, h1⟩
              have hb1w := below_on hH0.1.out h1
              (try go_wp2_with fail)
              refine hK.out _ _ (HL.out _ hb1w) (fun hH1 => ?_)
              clear hK KK
              (try simp only [Act.put, List.setIfInBounds_toArray, List.set_cons_zero, List.set_cons_succ])
              refine wpAnyH_take (i := 11) (oi := { dst := some 28, op := Go.Op.binOp Go.BinOp.neq 3 (Go.Operand.tmp 27) (Go.Operand.const (Go.Value.int Go.IntKind.i64 0)) 3, type := 4, pos := "ref.go:219", after := #[{ on := 10, ground := Go.Ground.data }], guard := none }) (v := ?_) rfl (by kernel_rfl) (by kernel_rfl) (by kernel_rfl) (fun _ _ _ h => h) (Or.inl ⟨by rfl, ?_⟩) (by assumption) ?_
              rotate_left
              · (intro w hSw; (try dsimp only at hSw); go_simp; try with_reducible rfl)
              (try simp only [Act.put, List.setIfInBounds_toArray, List.set_cons_zero, List.set_cons_succ])
              refine wpAnyH_take (i := 12) (oi := { dst := some 29, op := Go.Op.move (Go.Operand.tmp 28), type := 4, pos := "ref.go:219", after := #[{ on := 11, ground := Go.Ground.data }, { on := 10, ground := Go.Ground.chain }], guard := none }) (v := ?_) rfl (by kernel_rfl) (by kernel_rfl) (by kernel_rfl) (fun _ _ _ h => h) (Or.inl ⟨by rfl, ?_⟩) (by assumption) ?_
              rotate_left
              · (intro w hSw; (try dsimp only at hSw); go_simp; try with_reducible rfl)
              (try simp only [Act.put, List.setIfInBounds_toArray, List.set_cons_zero, List.set_cons_succ])
              refine wpAnyH_take (i := 13) (oi := { dst := some 30, op := Go.Op.move (Go.Operand.tmp 0), type := 22, pos := "ref.go:219", after := #[{ on := 12, ground := Go.Ground.guard }], guard := some (12, false) }) (v := ?_) rfl (by kernel_rfl) (by kernel_rfl) (by kernel_rfl) (fun _ _ _ h => h) (Or.inl ⟨by rfl, ?_⟩) (by assumption) ?_
              rotate_left
              · (intro w hSw; (try dsimp only at hSw); go_simp; try with_reducible rfl)
              (try simp only [Act.put, List.setIfInBounds_toArray, List.set_cons_zero, List.set_cons_succ])
              refine wpAnyH_take (i := 14) (oi := { dst := some 31, op := Go.Op.move (Go.Operand.tmp 5), type := 3, pos := "ref.go:219", after := #[{ on := 12, ground := Go.Ground.guard }], guard := some (12, false) }) (v := ?_) rfl (by kernel_rfl) (by kernel_rfl) (by kernel_rfl) (fun _ _ _ h => h) (Or.inl ⟨by rfl, ?_⟩) (by assumption) ?_
              rotate_left
              · (intro w hSw; (try dsimp only at hSw); go_simp; try with_reducible rfl)
              (try simp only [Act.put, List.setIfInBounds_toArray, List.set_cons_zero, List.set_cons_succ])
              refine wpAnyH_take (i := 15) (oi := { dst := some 32, op := Go.Op.indexAddr 22 (Go.Operand.tmp 30) (Go.Operand.tmp 31), type := 0, pos := "ref.go:219", after := #[{ on := 13, ground := Go.Ground.data }, { on := 14, ground := Go.Ground.data }, { on := 12, ground := Go.Ground.guard }], guard := some (12, false) }) (v := ?_) rfl (by kernel_rfl) (by kernel_rfl) (by kernel_rfl) (fun _ _ _ h => h) (Or.inl ⟨by rfl, ?_⟩) (by assumption) ?_
              rotate_left
              · (intro w hSw; (try dsimp only at hSw); go_simp; try with_reducible rfl)
              (try simp only [Act.put, List.setIfInBounds_toArray, List.set_cons_zero, List.set_cons_succ])
              refine wpAnyH_take (i := 16) (oi := { dst := some 33, op := Go.Op.fieldAddr 47 (Go.Operand.tmp 32) 1, type := 0, pos := "ref.go:219", after := #[{ on := 15, ground := Go.Ground.data }, { on := 12, ground := Go.Ground.guard }], guard := some (12, false) }) (v := ?_) rfl (by kernel_rfl) (by kernel_rfl) (by kernel_rfl) (fun _ _ _ h => h) (Or.inl ⟨by rfl, ?_⟩) (by assumption) ?_
              rotate_left
              · (intro w hSw; (try dsimp only at hSw); go_simp; try with_reducible rfl)
              (try simp only [Act.put, List.setIfInBounds_toArray, List.set_cons_zero, List.set_cons_succ])
              refine wpAnyH_take (i := 17) (oi := { dst := some 34, op := Go.Op.load 27 (Go.Operand.tmp 33), type := 27, pos := "ref.go:219", after := #[{ on := 16, ground := Go.Ground.data }, { on := 12, ground := Go.Ground.guard }], guard := some (12, false) }) (v := ?_) rfl (by kernel_rfl) (by kernel_rfl) (by kernel_rfl) (fun _ _ _ h => h) (Or.inl ⟨by rfl, ?_⟩) (by assumption) ?_
              rotate_left
              · (intro w hSw; (try dsimp only at hSw); go_simp; try with_reducible rfl)
              (try simp only [Act.put, List.setIfInBounds_toArray, List.set_cons_zero, List.set_cons_succ])
              refine wpAnyH_take (i := 18) (oi := { dst := some 35, op := Go.Op.move (Go.Operand.tmp 1), type := 22, pos := "ref.go:219", after := #[{ on := 12, ground := Go.Ground.guard }], guard := some (12, false) }) (v := ?_) rfl (by kernel_rfl) (by kernel_rfl) (by kernel_rfl) (fun _ _ _ h => h) (Or.inl ⟨by rfl, ?_⟩) (by assumption) ?_
              rotate_left
              · (intro w hSw; (try dsimp only at hSw); go_simp; try with_reducible rfl)
              (try simp only [Act.put, List.setIfInBounds_toArray, List.set_cons_zero, List.set_cons_succ])
              refine wpAnyH_take (i := 19) (oi := { dst := some 36, op := Go.Op.move (Go.Operand.tmp 5), type := 3, pos := "ref.go:219", after := #[{ on := 12, ground := Go.Ground.guard }], guard := some (12, false) }) (v := ?_) rfl (by kernel_rfl) (by kernel_rfl) (by kernel_rfl) (fun _ _ _ h => h) (Or.inl ⟨by rfl, ?_⟩) (by assumption) ?_
              rotate_left
              · (intro w hSw; (try dsimp only at hSw); go_simp; try with_reducible rfl)
              (try simp only [Act.put, List.setIfInBounds_toArray, List.set_cons_zero, List.set_cons_succ])
              refine wpAnyH_take (i := 20) (oi := { dst := some 37, op := Go.Op.indexAddr 22 (Go.Operand.tmp 35) (Go.Operand.tmp 36), type := 0, pos := "ref.go:219", after := #[{ on := 18, ground := Go.Ground.data }, { on := 19, ground := Go.Ground.data }, { on := 12, ground := Go.Ground.guard }], guard := some (12, false) }) (v := ?_) rfl (by kernel_rfl) (by kernel_rfl) (by kernel_rfl) (fun _ _ _ h => h) (Or.inl ⟨by rfl, ?_⟩) (by assumption) ?_
              rotate_left
              · (intro w hSw; (try dsimp only at hSw); go_simp; try with_reducible rfl)
              (try simp only [Act.put, List.setIfInBounds_toArray, List.set_cons_zero, List.set_cons_succ])
              refine wpAnyH_take (i := 21) (oi := { dst := some 38, op := Go.Op.fieldAddr 47 (Go.Operand.tmp 37) 1, type := 0, pos := "ref.go:219", after := #[{ on := 20, ground := Go.Ground.data }, { on := 12, ground := Go.Ground.guard }], guard := some (12, false) }) (v := ?_) rfl (by kernel_rfl) (by kernel_rfl) (by kernel_rfl) (fun _ _ _ h => h) (Or.inl ⟨by rfl, ?_⟩) (by assumption) ?_
              rotate_left
              · (intro w hSw; (try dsimp only at hSw); go_simp; try with_reducible rfl)
              (try simp only [Act.put, List.setIfInBounds_toArray, List.set_cons_zero, List.set_cons_succ])
              refine wpAnyH_take (i := 22) (oi := { dst := some 39, op := Go.Op.load 27 (Go.Operand.tmp 38), type := 27, pos := "ref.go:219", after := #[{ on := 21, ground := Go.Ground.data }, { on := 12, ground := Go.Ground.guard }], guard := some (12, false) }) (v := ?_) rfl (by kernel_rfl) (by kernel_rfl) (by kernel_rfl) (fun _ _ _ h => h) (Or.inl ⟨by rfl, ?_⟩) (by assumption) ?_
              rotate_left
              · (intro w hSw; (try dsimp only at hSw); go_simp; try with_reducible rfl)
              (try simp only [Act.put, List.setIfInBounds_toArray, List.set_cons_zero, List.set_cons_succ])
              refine wpAnyH_ready (rs := [23]) (by kernel_rfl) (by simp) ?_
              refine AllReadyH.cons (o := { dst := some 40, op := Go.Op.call { callee := Go.Callee.value (Go.Operand.func 7), args := #[Go.Operand.tmp 34, Go.Operand.tmp 39], argTypes := #[27, 27] }, type := 4, pos := "ref.go:219", after := #[{ on := 17, ground := Go.Ground.data }, { on := 22, ground := Go.Ground.data }, { on := 12, ground := Go.Ground.chain }, { on := 12, ground := Go.Ground.guard }], guard := some (12, false) }) rfl (fun KK hK => ?_) (AllReadyH.nil)
              · go_simp
                refine (HS1.out _ hH1.1.out).mono ?_
                rintro e w2 ⟨rfl, h2⟩
                have hb2w := below_on hH1.1.out h2
                (try go_wp2_with fail)
                refine hK.out _ _ (HL.out _ hb2w) (fun hH2 => ?_)
                clear hK KK
                (try simp only [Act.put, List.setIfInBounds_toArray, List.set_cons_zero, List.set_cons_succ])
                refine wpAnyH_take (i := 24) (oi := { dst := some 41, op := Go.Op.unOp Go.UnOp.not 4 (Go.Operand.tmp 40), type := 4, pos := "ref.go:219", after := #[{ on := 23, ground := Go.Ground.data }, { on := 12, ground := Go.Ground.guard }], guard := some (12, false) }) (v := ?_) rfl (by kernel_rfl) (by kernel_rfl) (by kernel_rfl) (fun _ _ _ h => h) (Or.inl ⟨by rfl, ?_⟩) (by assumption) ?_
                rotate_left
                · (intro w hSw; (try dsimp only at hSw); go_simp; try with_reducible rfl)
                (try simp only [Act.put, List.setIfInBounds_toArray, List.set_cons_zero, List.set_cons_succ])
                refine wpAnyH_take (i := 25) (oi := { dst := some 42, op := Go.Op.pick (Go.Operand.tmp 29) (Go.Operand.const (Go.Value.bool true)) (Go.Operand.tmp 41), type := 4, pos := "ref.go:219", after := #[{ on := 12, ground := Go.Ground.data }, { on := 24, ground := Go.Ground.data }], guard := none }) (v := ?_) rfl (by kernel_rfl) (by kernel_rfl) (by kernel_rfl) (fun _ _ _ h => h) (Or.inl ⟨by rfl, ?_⟩) (by assumption) ?_
                rotate_left
                · (intro w hSw; (try dsimp only at hSw); go_simp; try with_reducible rfl)
                (try simp only [Act.put, List.setIfInBounds_toArray, List.set_cons_zero, List.set_cons_succ])
                refine wpAnyH_done (by kernel_rfl) ?_ _
                have HB9 := Lib.hid (below_on hI.out.1 hb2w)
                have HR := Lib.hid (show r = false by rw [HN.out.2.2]; exact sameLs_ne HX.out.1 HX.out.2 HT.out)
                clear hH0 hH1 hH2 h1 h2 hb1w hb2w HL HC1 HS1
                go_wp2_with fail
                go_ret
                exact ⟨by rw [HR.out]; rfl, HB9.out⟩
          · go_upto_region 6 with (fail)
            refine wp_region_held_drew (S := (fun X : World => Hid (Below wr.heap.size wr X) ∧ (X.cell? ⟨b1, o1 + j * 6, none⟩ = some (.slice Ap x.1.length cp) ∧ X.cell? ⟨b1, o1 + j * 6 + 1, none⟩ = some (.int .i64 x.2.kind) ∧ X.cell? ⟨b1, o1 + j * 6 + 2, none⟩ = some (.int .i64 x.2.int) ∧ X.cell? ⟨b1, o1 + j * 6 + 3, none⟩ = some (.string x.2.text) ∧ X.cell? ⟨b1, o1 + j * 6 + 4, none⟩ = some (.slice A1 x.2.items.length c1) ∧ X.cell? ⟨b1, o1 + j * 6 + 5, none⟩ = some (.slice K1 x.2.keys.length d1)) ∧ (X.cell? ⟨b2, o2 + j * 6, none⟩ = some (.slice Aq y.1.length cq) ∧ X.cell? ⟨b2, o2 + j * 6 + 1, none⟩ = some (.int .i64 y.2.kind) ∧ X.cell? ⟨b2, o2 + j * 6 + 2, none⟩ = some (.int .i64 y.2.int) ∧ X.cell? ⟨b2, o2 + j * 6 + 3, none⟩ = some (.string y.2.text) ∧ X.cell? ⟨b2, o2 + j * 6 + 4, none⟩ = some (.slice A2 y.2.items.length c2) ∧ X.cell? ⟨b2, o2 + j * 6 + 5, none⟩ = some (.slice K2 y.2.keys.length d2)))) (by kernel_rfl) (HL.out _ (Below.drew (Below.refl _ wr))) (fun hH0 => ?_)
            refine wpAnyH_take (i := 0) (oi := { dst := some 17, op := Go.Op.move (Go.Operand.tmp 0), type := 22, pos := "ref.go:219", after := #[], guard := none }) (v := ?_) rfl (by kernel_rfl) (by kernel_rfl) (by kernel_rfl) (fun _ _ _ h => h) (Or.inl ⟨by rfl, ?_⟩) (by assumption) ?_
            rotate_left
            · (intro w hSw; (try dsimp only at hSw); go_simp; try with_reducible rfl)
            (try simp only [Act.put, List.setIfInBounds_toArray, List.set_cons_zero, List.set_cons_succ])
            refine wpAnyH_take (i := 1) (oi := { dst := some 18, op := Go.Op.move (Go.Operand.tmp 5), type := 3, pos := "ref.go:219", after := #[], guard := none }) (v := ?_) rfl (by kernel_rfl) (by kernel_rfl) (by kernel_rfl) (fun _ _ _ h => h) (Or.inl ⟨by rfl, ?_⟩) (by assumption) ?_
            rotate_left
            · (intro w hSw; (try dsimp only at hSw); go_simp; try with_reducible rfl)
            (try simp only [Act.put, List.setIfInBounds_toArray, List.set_cons_zero, List.set_cons_succ])
            refine wpAnyH_take (i := 2) (oi := { dst := some 19, op := Go.Op.indexAddr 22 (Go.Operand.tmp 17) (Go.Operand.tmp 18), type := 0, pos := "ref.go:219", after := #[{ on := 0, ground := Go.Ground.data }, { on := 1, ground := Go.Ground.data }], guard := none }) (v := ?_) rfl (by kernel_rfl) (by kernel_rfl) (by kernel_rfl) (fun _ _ _ h => h) (Or.inl ⟨by rfl, ?_⟩) (by assumption) ?_
            rotate_left
            · (intro w hSw; (try dsimp only at hSw); go_simp; try with_reducible rfl)
            (try simp only [Act.put, List.setIfInBounds_toArray, List.set_cons_zero, List.set_cons_succ])
            refine wpAnyH_take (i := 3) (oi := { dst := some 20, op := Go.Op.fieldAddr 47 (Go.Operand.tmp 19) 0, type := 0, pos := "ref.go:219", after := #[{ on := 2, ground := Go.Ground.data }], guard := none }) (v := ?_) rfl (by kernel_rfl) (by kernel_rfl) (by kernel_rfl) (fun _ _ _ h => h) (Or.inl ⟨by rfl, ?_⟩) (by assumption) ?_
            rotate_left
            · (intro w hSw; (try dsimp only at hSw); go_simp; try with_reducible rfl)
            (try simp only [Act.put, List.setIfInBounds_toArray, List.set_cons_zero, List.set_cons_succ])
            refine wpAnyH_take (i := 4) (oi := { dst := some 21, op := Go.Op.load 36 (Go.Operand.tmp 20), type := 36, pos := "ref.go:219", after := #[{ on := 3, ground := Go.Ground.data }], guard := none }) (v := ?_) rfl (by kernel_rfl) (by kernel_rfl) (by kernel_rfl) (fun _ _ _ h => h) (Or.inl ⟨by rfl, ?_⟩) (by assumption) ?_
            rotate_left
            · (intro w hSw; (try dsimp only at hSw); go_simp; try with_reducible rfl)
            (try simp only [Act.put, List.setIfInBounds_toArray, List.set_cons_zero, List.set_cons_succ])
            refine wpAnyH_take (i := 5) (oi := { dst := some 22, op := Go.Op.move (Go.Operand.tmp 1), type := 22, pos := "ref.go:219", after := #[], guard := none }) (v := ?_) rfl (by kernel_rfl) (by kernel_rfl) (by kernel_rfl) (fun _ _ _ h => h) (Or.inl ⟨by rfl, ?_⟩) (by assumption) ?_
            rotate_left
            · (intro w hSw; (try dsimp only at hSw); go_simp; try with_reducible rfl)
            (try simp only [Act.put, List.setIfInBounds_toArray, List.set_cons_zero, List.set_cons_succ])
            refine wpAnyH_take (i := 6) (oi := { dst := some 23, op := Go.Op.move (Go.Operand.tmp 5), type := 3, pos := "ref.go:219", after := #[], guard := none }) (v := ?_) rfl (by kernel_rfl) (by kernel_rfl) (by kernel_rfl) (fun _ _ _ h => h) (Or.inl ⟨by rfl, ?_⟩) (by assumption) ?_
            rotate_left
            · (intro w hSw; (try dsimp only at hSw); go_simp; try with_reducible rfl)
            (try simp only [Act.put, List.setIfInBounds_toArray, List.set_cons_zero, List.set_cons_succ])
            refine wpAnyH_take (i := 7) (oi := { dst := some 24, op := Go.Op.indexAddr 22 (Go.Operand.tmp 22) (Go.Operand.tmp 23), type := 0, pos := "ref.go:219", after := #[{ on := 5, ground := Go.Ground.data }, { on := 6, ground := Go.Ground.data }], guard := none }) (v := ?_) rfl (by kernel_rfl) (by kernel_rfl) (by kernel_rfl) (fun _ _ _ h => h) (Or.inl ⟨by rfl, ?_⟩) (by assumption) ?_
            rotate_left
            · (intro w hSw; (try dsimp only at hSw); go_simp; try with_reducible rfl)
            (try simp only [Act.put, List.setIfInBounds_toArray, List.set_cons_zero, List.set_cons_succ])
            refine wpAnyH_take (i := 8) (oi := { dst := some 25, op := Go.Op.fieldAddr 47 (Go.Operand.tmp 24) 0, type := 0, pos := "ref.go:219", after := #[{ on := 7, ground := Go.Ground.data }], guard := none }) (v := ?_) rfl (by kernel_rfl) (by kernel_rfl) (by kernel_rfl) (fun _ _ _ h => h) (Or.inl ⟨by rfl, ?_⟩) (by assumption) ?_
            rotate_left
            · (intro w hSw; (try dsimp only at hSw); go_simp; try with_reducible rfl)
            (try simp only [Act.put, List.setIfInBounds_toArray, List.set_cons_zero, List.set_cons_succ])
            refine wpAnyH_take (i := 9) (oi := { dst := some 26, op := Go.Op.load 36 (Go.Operand.tmp 25), type := 36, pos := "ref.go:219", after := #[{ on := 8, ground := Go.Ground.data }], guard := none }) (v := ?_) rfl (by kernel_rfl) (by kernel_rfl) (by kernel_rfl) (fun _ _ _ h => h) (Or.inl ⟨by rfl, ?_⟩) (by assumption) ?_
            rotate_left
            · (intro w hSw; (try dsimp only at hSw); go_simp; try with_reducible rfl)
            (try simp only [Act.put, List.setIfInBounds_toArray, List.set_cons_zero, List.set_cons_succ])
            refine wpAnyH_ready (rs := [10]) (by kernel_rfl) (by simp) ?_
            refine AllReadyH.cons (o := { dst := some 27, op := Go.Op.call { callee := Go.Callee.value (Go.Operand.func 39), args := #[Go.Operand.tmp 21, Go.Operand.tmp 26], argTypes := #[36, 36] }, type := 3, pos := "ref.go:219", after := #[{ on := 4, ground := Go.Ground.data }, { on := 9, ground := Go.Ground.data }], guard := none }) rfl (fun KK hK => ?_) (AllReadyH.nil)
            · go_simp
              refine (HC1.out _ hH0.1.out).mono ?_
              rintro e w1 ⟨rfl, h1⟩
              have hb1w := below_on hH0.1.out h1
              (try go_wp2_with fail)
              refine hK.out _ _ (HL.out _ hb1w) (fun hH1 => ?_)
              clear hK KK
              (try simp only [Act.put, List.setIfInBounds_toArray, List.set_cons_zero, List.set_cons_succ])
              refine wpAnyH_take (i := 11) (oi := { dst := some 28, op := Go.Op.binOp Go.BinOp.neq 3 (Go.Operand.tmp 27) (Go.Operand.const (Go.Value.int Go.IntKind.i64 0)) 3, type := 4, pos := "ref.go:219", after := #[{ on := 10, ground := Go.Ground.data }], guard := none }) (v := ?_) rfl (by kernel_rfl) (by kernel_rfl) (by kernel_rfl) (fun _ _ _ h => h) (Or.inl ⟨by rfl, ?_⟩) (by assumption) ?_
              rotate_left
              · (intro w hSw; (try dsimp only at hSw); go_simp; try with_reducible rfl)
              (try simp only [Act.put, List.setIfInBounds_toArray, List.set_cons_zero, List.set_cons_succ])
              refine wpAnyH_take (i := 12) (oi := { dst := some 29, op := Go.Op.move (Go.Operand.tmp 28), type := 4, pos := "ref.go:219", after := #[{ on := 11, ground := Go.Ground.data }, { on := 10, ground := Go.Ground.chain }], guard := none }) (v := ?_) rfl (by kernel_rfl) (by kernel_rfl) (by kernel_rfl) (fun _ _ _ h => h) (Or.inl ⟨by rfl, ?_⟩) (by assumption) ?_
              rotate_left
              · (intro w hSw; (try dsimp only at hSw); go_simp; try with_reducible rfl)
              (try simp only [Act.put, List.setIfInBounds_toArray, List.set_cons_zero, List.set_cons_succ])
              refine wpAnyH_take (i := 13) (oi := { dst := some 30, op := Go.Op.move (Go.Operand.tmp 0), type := 22, pos := "ref.go:219", after := #[{ on := 12, ground := Go.Ground.guard }], guard := some (12, false) }) (v := ?_) rfl (by kernel_rfl) (by kernel_rfl) (by kernel_rfl) (fun _ _ _ h => h) (Or.inl ⟨by rfl, ?_⟩) (by assumption) ?_
              rotate_left
              · (intro w hSw; (try dsimp only at hSw); go_simp; try with_reducible rfl)
              (try simp only [Act.put, List.setIfInBounds_toArray, List.set_cons_zero, List.set_cons_succ])
              refine wpAnyH_take (i := 14) (oi := { dst := some 31, op := Go.Op.move (Go.Operand.tmp 5), type := 3, pos := "ref.go:219", after := #[{ on := 12, ground := Go.Ground.guard }], guard := some (12, false) }) (v := ?_) rfl (by kernel_rfl) (by kernel_rfl) (by kernel_rfl) (fun _ _ _ h => h) (Or.inl ⟨by rfl, ?_⟩) (by assumption) ?_
              rotate_left
              · (intro w hSw; (try dsimp only at hSw); go_simp; try with_reducible rfl)
              (try simp only [Act.put, List.setIfInBounds_toArray, List.set_cons_zero, List.set_cons_succ])
              refine wpAnyH_take (i := 15) (oi := { dst := some 32, op := Go.Op.indexAddr 22 (Go.Operand.tmp 30) (Go.Operand.tmp 31), type := 0, pos := "ref.go:219", after := #[{ on := 13, ground := Go.Ground.data }, { on := 14, ground := Go.Ground.data }, { on := 12, ground := Go.Ground.guard }], guard := some (12, false) }) (v := ?_) rfl (by kernel_rfl) (by kernel_rfl) (by kernel_rfl) (fun _ _ _ h => h) (Or.inl ⟨by rfl, ?_⟩) (by assumption) ?_
              rotate_left
              · (intro w hSw; (try dsimp only at hSw); go_simp; try with_reducible rfl)
              (try simp only [Act.put, List.setIfInBounds_toArray, List.set_cons_zero, List.set_cons_succ])
              refine wpAnyH_take (i := 16) (oi := { dst := some 33, op := Go.Op.fieldAddr 47 (Go.Operand.tmp 32) 1, type := 0, pos := "ref.go:219", after := #[{ on := 15, ground := Go.Ground.data }, { on := 12, ground := Go.Ground.guard }], guard := some (12, false) }) (v := ?_) rfl (by kernel_rfl) (by kernel_rfl) (by kernel_rfl) (fun _ _ _ h => h) (Or.inl ⟨by rfl, ?_⟩) (by assumption) ?_
              rotate_left
              · (intro w hSw; (try dsimp only at hSw); go_simp; try with_reducible rfl)
              (try simp only [Act.put, List.setIfInBounds_toArray, List.set_cons_zero, List.set_cons_succ])
              refine wpAnyH_take (i := 17) (oi := { dst := some 34, op := Go.Op.load 27 (Go.Operand.tmp 33), type := 27, pos := "ref.go:219", after := #[{ on := 16, ground := Go.Ground.data }, { on := 12, ground := Go.Ground.guard }], guard := some (12, false) }) (v := ?_) rfl (by kernel_rfl) (by kernel_rfl) (by kernel_rfl) (fun _ _ _ h => h) (Or.inl ⟨by rfl, ?_⟩) (by assumption) ?_
              rotate_left
              · (intro w hSw; (try dsimp only at hSw); go_simp; try with_reducible rfl)
              (try simp only [Act.put, List.setIfInBounds_toArray, List.set_cons_zero, List.set_cons_succ])
              refine wpAnyH_take (i := 18) (oi := { dst := some 35, op := Go.Op.move (Go.Operand.tmp 1), type := 22, pos := "ref.go:219", after := #[{ on := 12, ground := Go.Ground.guard }], guard := some (12, false) }) (v := ?_) rfl (by kernel_rfl) (by kernel_rfl) (by kernel_rfl) (fun _ _ _ h => h) (Or.inl ⟨by rfl, ?_⟩) (by assumption) ?_
              rotate_left
              · (intro w hSw; (try dsimp only at hSw); go_simp; try with_reducible rfl)
              (try simp only [Act.put, List.setIfInBounds_toArray, List.set_cons_zero, List.set_cons_succ])
              refine wpAnyH_take (i := 19) (oi := { dst := some 36, op := Go.Op.move (Go.Operand.tmp 5), type := 3, pos := "ref.go:219", after := #[{ on := 12, ground := Go.Ground.guard }], guard := some (12, false) }) (v := ?_) rfl (by kernel_rfl) (by kernel_rfl) (by kernel_rfl) (fun _ _ _ h => h) (Or.inl ⟨by rfl, ?_⟩) (by assumption) ?_
              rotate_left
              · (intro w hSw; (try dsimp only at hSw); go_simp; try with_reducible rfl)
              (try simp only [Act.put, List.setIfInBounds_toArray, List.set_cons_zero, List.set_cons_succ])
              refine wpAnyH_take (i := 20) (oi := { dst := some 37, op := Go.Op.indexAddr 22 (Go.Operand.tmp 35) (Go.Operand.tmp 36), type := 0, pos := "ref.go:219", after := #[{ on := 18, ground := Go.Ground.data }, { on := 19, ground := Go.Ground.data }, { on := 12, ground := Go.Ground.guard }], guard := some (12, false) }) (v := ?_) rfl (by kernel_rfl) (by kernel_rfl) (by kernel_rfl) (fun _ _ _ h => h) (Or.inl ⟨by rfl, ?_⟩) (by assumption) ?_
              rotate_left
              · (intro w hSw; (try dsimp only at hSw); go_simp; try with_reducible rfl)
              (try simp only [Act.put, List.setIfInBounds_toArray, List.set_cons_zero, List.set_cons_succ])
              refine wpAnyH_take (i := 21) (oi := { dst := some 38, op := Go.Op.fieldAddr 47 (Go.Operand.tmp 37) 1, type := 0, pos := "ref.go:219", after := #[{ on := 20, ground := Go.Ground.data }, { on := 12, ground := Go.Ground.guard }], guard := some (12, false) }) (v := ?_) rfl (by kernel_rfl) (by kernel_rfl) (by kernel_rfl) (fun _ _ _ h => h) (Or.inl ⟨by rfl, ?_⟩) (by assumption) ?_
              rotate_left
              · (intro w hSw; (try dsimp only at hSw); go_simp; try with_reducible rfl)
              (try simp only [Act.put, List.setIfInBounds_toArray, List.set_cons_zero, List.set_cons_succ])
              refine wpAnyH_take (i := 22) (oi := { dst := some 39, op := Go.Op.load 27 (Go.Operand.tmp 38), type := 27, pos := "ref.go:219", after := #[{ on := 21, ground := Go.Ground.data }, { on := 12, ground := Go.Ground.guard }], guard := some (12, false) }) (v := ?_) rfl (by kernel_rfl) (by kernel_rfl) (by kernel_rfl) (fun _ _ _ h => h) (Or.inl ⟨by rfl, ?_⟩) (by assumption) ?_
              rotate_left
              · (intro w hSw; (try dsimp only at hSw); go_simp; try with_reducible rfl)
              (try simp only [Act.put, List.setIfInBounds_toArray, List.set_cons_zero, List.set_cons_succ])
              refine wpAnyH_ready (rs := [23]) (by kernel_rfl) (by simp) ?_
              refine AllReadyH.cons (o := { dst := some 40, op := Go.Op.call { callee := Go.Callee.value (Go.Operand.func 7), args := #[Go.Operand.tmp 34, Go.Operand.tmp 39], argTypes := #[27, 27] }, type := 4, pos := "ref.go:219", after := #[{ on := 17, ground := Go.Ground.data }, { on := 22, ground := Go.Ground.data }, { on := 12, ground := Go.Ground.chain }, { on := 12, ground := Go.Ground.guard }], guard := some (12, false) }) rfl (fun KK hK => ?_) (AllReadyH.nil)
              · go_simp
                refine (HS1.out _ hH1.1.out).mono ?_
                rintro e w2 ⟨rfl, h2⟩
                have hb2w := below_on hH1.1.out h2
                (try go_wp2_with fail)
                refine hK.out _ _ (HL.out _ hb2w) (fun hH2 => ?_)
                clear hK KK
                (try simp only [Act.put, List.setIfInBounds_toArray, List.set_cons_zero, List.set_cons_succ])
                refine wpAnyH_take (i := 24) (oi := { dst := some 41, op := Go.Op.unOp Go.UnOp.not 4 (Go.Operand.tmp 40), type := 4, pos := "ref.go:219", after := #[{ on := 23, ground := Go.Ground.data }, { on := 12, ground := Go.Ground.guard }], guard := some (12, false) }) (v := ?_) rfl (by kernel_rfl) (by kernel_rfl) (by kernel_rfl) (fun _ _ _ h => h) (Or.inl ⟨by rfl, ?_⟩) (by assumption) ?_
                rotate_left
                · (intro w hSw; (try dsimp only at hSw); go_simp; try with_reducible rfl)
                (try simp only [Act.put, List.setIfInBounds_toArray, List.set_cons_zero, List.set_cons_succ])
                refine wpAnyH_take (i := 25) (oi := { dst := some 42, op := Go.Op.pick (Go.Operand.tmp 29) (Go.Operand.const (Go.Value.bool true)) (Go.Operand.tmp 41), type := 4, pos := "ref.go:219", after := #[{ on := 12, ground := Go.Ground.data }, { on := 24, ground := Go.Ground.data }], guard := none }) (v := ?_) rfl (by kernel_rfl) (by kernel_rfl) (by kernel_rfl) (fun _ _ _ h => h) (Or.inl ⟨by rfl, ?_⟩) (by assumption) ?_
                rotate_left
                · (intro w hSw; (try dsimp only at hSw); go_simp; try with_reducible rfl)
                (try simp only [Act.put, List.setIfInBounds_toArray, List.set_cons_zero, List.set_cons_succ])
                refine wpAnyH_done (by kernel_rfl) ?_ _
                have HB9 := Lib.hid (below_on hI.out.1 hb2w)
                clear hH0 hH1 hH2 h1 h2 hb1w hb2w HL HC1 HS1
                go_wp2_with fail
                go_roundw
                case rel =>
                  refine ⟨j + 1, by go_num, by omega, Lib.hid ⟨HB9.out, fun i u v hi hu hv => ?_⟩⟩
                  by_cases e : i = j
                  · subst e
                    rw [HX.out.1] at hu
                    rw [HX.out.2] at hv
                    cases hu
                    cases hv
                    exact HT.out
                  · exact hI.out.2 i u v (by omega) hu hv
                case measure => simp [intOf]; omega
        · have k0 : (s != 0) = true := by simp [h0]
          have HR := Lib.hid (show r = false by
            rw [HN.out.2.2]
            refine sameLs_ne hx hy ?_
            cases hh : sameL x y
            · rfl
            · have := (sameL_iff hxo hyo).1 hh
              exact absurd (by rw [hs, this]; exact refCmp_zero.2 rfl) h0)
          clear hx hy hp1 hp2 hl1 hl2 hc1 hc2 hs hxo hyo h0
          go_upto_region 6 with (fail)
          refine wp_region_held_drew (S := (fun X : World => Hid (Below wr.heap.size wr X) ∧ (X.cell? ⟨b1, o1 + j * 6, none⟩ = some (.slice Ap x.1.length cp) ∧ X.cell? ⟨b1, o1 + j * 6 + 1, none⟩ = some (.int .i64 x.2.kind) ∧ X.cell? ⟨b1, o1 + j * 6 + 2, none⟩ = some (.int .i64 x.2.int) ∧ X.cell? ⟨b1, o1 + j * 6 + 3, none⟩ = some (.string x.2.text) ∧ X.cell? ⟨b1, o1 + j * 6 + 4, none⟩ = some (.slice A1 x.2.items.length c1) ∧ X.cell? ⟨b1, o1 + j * 6 + 5, none⟩ = some (.slice K1 x.2.keys.length d1)) ∧ (X.cell? ⟨b2, o2 + j * 6, none⟩ = some (.slice Aq y.1.length cq) ∧ X.cell? ⟨b2, o2 + j * 6 + 1, none⟩ = some (.int .i64 y.2.kind) ∧ X.cell? ⟨b2, o2 + j * 6 + 2, none⟩ = some (.int .i64 y.2.int) ∧ X.cell? ⟨b2, o2 + j * 6 + 3, none⟩ = some (.string y.2.text) ∧ X.cell? ⟨b2, o2 + j * 6 + 4, none⟩ = some (.slice A2 y.2.items.length c2) ∧ X.cell? ⟨b2, o2 + j * 6 + 5, none⟩ = some (.slice K2 y.2.keys.length d2)))) (by kernel_rfl) (HL.out _ (Below.drew (Below.refl _ wr))) (fun hH0 => ?_)
          refine wpAnyH_take (i := 0) (oi := { dst := some 17, op := Go.Op.move (Go.Operand.tmp 0), type := 22, pos := "ref.go:219", after := #[], guard := none }) (v := ?_) rfl (by kernel_rfl) (by kernel_rfl) (by kernel_rfl) (fun _ _ _ h => h) (Or.inl ⟨by rfl, ?_⟩) (by assumption) ?_
          rotate_left
          · (intro w hSw; (try dsimp only at hSw); go_simp; try with_reducible rfl)
          (try simp only [Act.put, List.setIfInBounds_toArray, List.set_cons_zero, List.set_cons_succ])
          refine wpAnyH_take (i := 1) (oi := { dst := some 18, op := Go.Op.move (Go.Operand.tmp 5), type := 3, pos := "ref.go:219", after := #[], guard := none }) (v := ?_) rfl (by kernel_rfl) (by kernel_rfl) (by kernel_rfl) (fun _ _ _ h => h) (Or.inl ⟨by rfl, ?_⟩) (by assumption) ?_
          rotate_left
          · (intro w hSw; (try dsimp only at hSw); go_simp; try with_reducible rfl)
          (try simp only [Act.put, List.setIfInBounds_toArray, List.set_cons_zero, List.set_cons_succ])
          refine wpAnyH_take (i := 2) (oi := { dst := some 19, op := Go.Op.indexAddr 22 (Go.Operand.tmp 17) (Go.Operand.tmp 18), type := 0, pos := "ref.go:219", after := #[{ on := 0, ground := Go.Ground.data }, { on := 1, ground := Go.Ground.data }], guard := none }) (v := ?_) rfl (by kernel_rfl) (by kernel_rfl) (by kernel_rfl) (fun _ _ _ h => h) (Or.inl ⟨by rfl, ?_⟩) (by assumption) ?_
          rotate_left
          · (intro w hSw; (try dsimp only at hSw); go_simp; try with_reducible rfl)
          (try simp only [Act.put, List.setIfInBounds_toArray, List.set_cons_zero, List.set_cons_succ])
          refine wpAnyH_take (i := 3) (oi := { dst := some 20, op := Go.Op.fieldAddr 47 (Go.Operand.tmp 19) 0, type := 0, pos := "ref.go:219", after := #[{ on := 2, ground := Go.Ground.data }], guard := none }) (v := ?_) rfl (by kernel_rfl) (by kernel_rfl) (by kernel_rfl) (fun _ _ _ h => h) (Or.inl ⟨by rfl, ?_⟩) (by assumption) ?_
          rotate_left
          · (intro w hSw; (try dsimp only at hSw); go_simp; try with_reducible rfl)
          (try simp only [Act.put, List.setIfInBounds_toArray, List.set_cons_zero, List.set_cons_succ])
          refine wpAnyH_take (i := 4) (oi := { dst := some 21, op := Go.Op.load 36 (Go.Operand.tmp 20), type := 36, pos := "ref.go:219", after := #[{ on := 3, ground := Go.Ground.data }], guard := none }) (v := ?_) rfl (by kernel_rfl) (by kernel_rfl) (by kernel_rfl) (fun _ _ _ h => h) (Or.inl ⟨by rfl, ?_⟩) (by assumption) ?_
          rotate_left
          · (intro w hSw; (try dsimp only at hSw); go_simp; try with_reducible rfl)
          (try simp only [Act.put, List.setIfInBounds_toArray, List.set_cons_zero, List.set_cons_succ])
          refine wpAnyH_take (i := 5) (oi := { dst := some 22, op := Go.Op.move (Go.Operand.tmp 1), type := 22, pos := "ref.go:219", after := #[], guard := none }) (v := ?_) rfl (by kernel_rfl) (by kernel_rfl) (by kernel_rfl) (fun _ _ _ h => h) (Or.inl ⟨by rfl, ?_⟩) (by assumption) ?_
          rotate_left
          · (intro w hSw; (try dsimp only at hSw); go_simp; try with_reducible rfl)
          (try simp only [Act.put, List.setIfInBounds_toArray, List.set_cons_zero, List.set_cons_succ])
          refine wpAnyH_take (i := 6) (oi := { dst := some 23, op := Go.Op.move (Go.Operand.tmp 5), type := 3, pos := "ref.go:219", after := #[], guard := none }) (v := ?_) rfl (by kernel_rfl) (by kernel_rfl) (by kernel_rfl) (fun _ _ _ h => h) (Or.inl ⟨by rfl, ?_⟩) (by assumption) ?_
          rotate_left
          · (intro w hSw; (try dsimp only at hSw); go_simp; try with_reducible rfl)
          (try simp only [Act.put, List.setIfInBounds_toArray, List.set_cons_zero, List.set_cons_succ])
          refine wpAnyH_take (i := 7) (oi := { dst := some 24, op := Go.Op.indexAddr 22 (Go.Operand.tmp 22) (Go.Operand.tmp 23), type := 0, pos := "ref.go:219", after := #[{ on := 5, ground := Go.Ground.data }, { on := 6, ground := Go.Ground.data }], guard := none }) (v := ?_) rfl (by kernel_rfl) (by kernel_rfl) (by kernel_rfl) (fun _ _ _ h => h) (Or.inl ⟨by rfl, ?_⟩) (by assumption) ?_
          rotate_left
          · (intro w hSw; (try dsimp only at hSw); go_simp; try with_reducible rfl)
          (try simp only [Act.put, List.setIfInBounds_toArray, List.set_cons_zero, List.set_cons_succ])
          refine wpAnyH_take (i := 8) (oi := { dst := some 25, op := Go.Op.fieldAddr 47 (Go.Operand.tmp 24) 0, type := 0, pos := "ref.go:219", after := #[{ on := 7, ground := Go.Ground.data }], guard := none }) (v := ?_) rfl (by kernel_rfl) (by kernel_rfl) (by kernel_rfl) (fun _ _ _ h => h) (Or.inl ⟨by rfl, ?_⟩) (by assumption) ?_
          rotate_left
          · (intro w hSw; (try dsimp only at hSw); go_simp; try with_reducible rfl)
          (try simp only [Act.put, List.setIfInBounds_toArray, List.set_cons_zero, List.set_cons_succ])
          refine wpAnyH_take (i := 9) (oi := { dst := some 26, op := Go.Op.load 36 (Go.Operand.tmp 25), type := 36, pos := "ref.go:219", after := #[{ on := 8, ground := Go.Ground.data }], guard := none }) (v := ?_) rfl (by kernel_rfl) (by kernel_rfl) (by kernel_rfl) (fun _ _ _ h => h) (Or.inl ⟨by rfl, ?_⟩) (by assumption) ?_
          rotate_left
          · (intro w hSw; (try dsimp only at hSw); go_simp; try with_reducible rfl)
          (try simp only [Act.put, List.setIfInBounds_toArray, List.set_cons_zero, List.set_cons_succ])
          refine wpAnyH_ready (rs := [10]) (by kernel_rfl) (by simp) ?_
          refine AllReadyH.cons (o := { dst := some 27, op := Go.Op.call { callee := Go.Callee.value (Go.Operand.func 39), args := #[Go.Operand.tmp 21, Go.Operand.tmp 26], argTypes := #[36, 36] }, type := 3, pos := "ref.go:219", after := #[{ on := 4, ground := Go.Ground.data }, { on := 9, ground := Go.Ground.data }], guard := none }) rfl (fun KK hK => ?_) (AllReadyH.nil)
          · go_simp
            refine (HC1.out _ hH0.1.out).mono ?_
            rintro e w1 ⟨rfl, h1⟩
            have hb1w := below_on hH0.1.out h1
            (try go_wp2_with fail)
            refine hK.out _ _ (HL.out _ hb1w) (fun hH1 => ?_)
            clear hK KK
            (try simp only [Act.put, List.setIfInBounds_toArray, List.set_cons_zero, List.set_cons_succ])
            refine wpAnyH_take (i := 11) (oi := { dst := some 28, op := Go.Op.binOp Go.BinOp.neq 3 (Go.Operand.tmp 27) (Go.Operand.const (Go.Value.int Go.IntKind.i64 0)) 3, type := 4, pos := "ref.go:219", after := #[{ on := 10, ground := Go.Ground.data }], guard := none }) (v := ?_) rfl (by kernel_rfl) (by kernel_rfl) (by kernel_rfl) (fun _ _ _ h => h) (Or.inl ⟨by rfl, ?_⟩) (by assumption) ?_
            rotate_left
            · (intro w hSw; (try dsimp only at hSw); go_simp; try with_reducible rfl)
            (try simp only [Act.put, List.setIfInBounds_toArray, List.set_cons_zero, List.set_cons_succ])
            refine wpAnyH_take (i := 12) (oi := { dst := some 29, op := Go.Op.move (Go.Operand.tmp 28), type := 4, pos := "ref.go:219", after := #[{ on := 11, ground := Go.Ground.data }, { on := 10, ground := Go.Ground.chain }], guard := none }) (v := ?_) rfl (by kernel_rfl) (by kernel_rfl) (by kernel_rfl) (fun _ _ _ h => h) (Or.inl ⟨by rfl, ?_⟩) (by assumption) ?_
            rotate_left
            · (intro w hSw; (try dsimp only at hSw); go_simp; try with_reducible rfl)
            (try simp only [Act.put, List.setIfInBounds_toArray, List.set_cons_zero, List.set_cons_succ])
            refine wpAnyH_take (i := 13) (oi := { dst := some 30, op := Go.Op.move (Go.Operand.tmp 0), type := 22, pos := "ref.go:219", after := #[{ on := 12, ground := Go.Ground.guard }], guard := some (12, false) }) (v := undef) rfl (by kernel_rfl) (by kernel_rfl) (by kernel_rfl) (fun _ _ _ h => h) (Or.inr ⟨by rfl, rfl⟩) (by assumption) ?_
            (try simp only [Act.put, List.setIfInBounds_toArray, List.set_cons_zero, List.set_cons_succ])
            refine wpAnyH_take (i := 14) (oi := { dst := some 31, op := Go.Op.move (Go.Operand.tmp 5), type := 3, pos := "ref.go:219", after := #[{ on := 12, ground := Go.Ground.guard }], guard := some (12, false) }) (v := undef) rfl (by kernel_rfl) (by kernel_rfl) (by kernel_rfl) (fun _ _ _ h => h) (Or.inr ⟨by rfl, rfl⟩) (by assumption) ?_
            (try simp only [Act.put, List.setIfInBounds_toArray, List.set_cons_zero, List.set_cons_succ])
            refine wpAnyH_take (i := 15) (oi := { dst := some 32, op := Go.Op.indexAddr 22 (Go.Operand.tmp 30) (Go.Operand.tmp 31), type := 0, pos := "ref.go:219", after := #[{ on := 13, ground := Go.Ground.data }, { on := 14, ground := Go.Ground.data }, { on := 12, ground := Go.Ground.guard }], guard := some (12, false) }) (v := undef) rfl (by kernel_rfl) (by kernel_rfl) (by kernel_rfl) (fun _ _ _ h => h) (Or.inr ⟨by rfl, rfl⟩) (by assumption) ?_
            (try simp only [Act.put, List.setIfInBounds_toArray, List.set_cons_zero, List.set_cons_succ])
            refine wpAnyH_take (i := 16) (oi := { dst := some 33, op := Go.Op.fieldAddr 47 (Go.Operand.tmp 32) 1, type := 0, pos := "ref.go:219", after := #[{ on := 15, ground := Go.Ground.data }, { on := 12, ground := Go.Ground.guard }], guard := some (12, false) }) (v := undef) rfl (by kernel_rfl) (by kernel_rfl) (by kernel_rfl) (fun _ _ _ h => h) (Or.inr ⟨by rfl, rfl⟩) (by assumption) ?_
            (try simp only [Act.put, List.setIfInBounds_toArray, List.set_cons_zero, List.set_cons_succ])
            refine wpAnyH_take (i := 17) (oi := { dst := some 34, op := Go.Op.load 27 (Go.Operand.tmp 33), type := 27, pos := "ref.go:219", after := #[{ on := 16, ground := Go.Ground.data }, { on := 12, ground := Go.Ground.guard }], guard := some (12, false) }) (v := undef) rfl (by kernel_rfl) (by kernel_rfl) (by kernel_rfl) (fun _ _ _ h => h) (Or.inr ⟨by rfl, rfl⟩) (by assumption) ?_
            (try simp only [Act.put, List.setIfInBounds_toArray, List.set_cons_zero, List.set_cons_succ])
            refine wpAnyH_take (i := 18) (oi := { dst := some 35, op := Go.Op.move (Go.Operand.tmp 1), type := 22, pos := "ref.go:219", after := #[{ on := 12, ground := Go.Ground.guard }], guard := some (12, false) }) (v := undef) rfl (by kernel_rfl) (by kernel_rfl) (by kernel_rfl) (fun _ _ _ h => h) (Or.inr ⟨by rfl, rfl⟩) (by assumption) ?_
            (try simp only [Act.put, List.setIfInBounds_toArray, List.set_cons_zero, List.set_cons_succ])
            refine wpAnyH_take (i := 19) (oi := { dst := some 36, op := Go.Op.move (Go.Operand.tmp 5), type := 3, pos := "ref.go:219", after := #[{ on := 12, ground := Go.Ground.guard }], guard := some (12, false) }) (v := undef) rfl (by kernel_rfl) (by kernel_rfl) (by kernel_rfl) (fun _ _ _ h => h) (Or.inr ⟨by rfl, rfl⟩) (by assumption) ?_
            (try simp only [Act.put, List.setIfInBounds_toArray, List.set_cons_zero, List.set_cons_succ])
            refine wpAnyH_take (i := 20) (oi := { dst := some 37, op := Go.Op.indexAddr 22 (Go.Operand.tmp 35) (Go.Operand.tmp 36), type := 0, pos := "ref.go:219", after := #[{ on := 18, ground := Go.Ground.data }, { on := 19, ground := Go.Ground.data }, { on := 12, ground := Go.Ground.guard }], guard := some (12, false) }) (v := undef) rfl (by kernel_rfl) (by kernel_rfl) (by kernel_rfl) (fun _ _ _ h => h) (Or.inr ⟨by rfl, rfl⟩) (by assumption) ?_
            (try simp only [Act.put, List.setIfInBounds_toArray, List.set_cons_zero, List.set_cons_succ])
            refine wpAnyH_take (i := 21) (oi := { dst := some 38, op := Go.Op.fieldAddr 47 (Go.Operand.tmp 37) 1, type := 0, pos := "ref.go:219", after := #[{ on := 20, ground := Go.Ground.data }, { on := 12, ground := Go.Ground.guard }], guard := some (12, false) }) (v := undef) rfl (by kernel_rfl) (by kernel_rfl) (by kernel_rfl) (fun _ _ _ h => h) (Or.inr ⟨by rfl, rfl⟩) (by assumption) ?_
            (try simp only [Act.put, List.setIfInBounds_toArray, List.set_cons_zero, List.set_cons_succ])
            refine wpAnyH_take (i := 22) (oi := { dst := some 39, op := Go.Op.load 27 (Go.Operand.tmp 38), type := 27, pos := "ref.go:219", after := #[{ on := 21, ground := Go.Ground.data }, { on := 12, ground := Go.Ground.guard }], guard := some (12, false) }) (v := undef) rfl (by kernel_rfl) (by kernel_rfl) (by kernel_rfl) (fun _ _ _ h => h) (Or.inr ⟨by rfl, rfl⟩) (by assumption) ?_
            (try simp only [Act.put, List.setIfInBounds_toArray, List.set_cons_zero, List.set_cons_succ])
            refine wpAnyH_take (i := 23) (oi := { dst := some 40, op := Go.Op.call { callee := Go.Callee.value (Go.Operand.func 7), args := #[Go.Operand.tmp 34, Go.Operand.tmp 39], argTypes := #[27, 27] }, type := 4, pos := "ref.go:219", after := #[{ on := 17, ground := Go.Ground.data }, { on := 22, ground := Go.Ground.data }, { on := 12, ground := Go.Ground.chain }, { on := 12, ground := Go.Ground.guard }], guard := some (12, false) }) (v := undef) rfl (by kernel_rfl) (by kernel_rfl) (by kernel_rfl) (fun _ _ _ h => h) (Or.inr ⟨by rfl, rfl⟩) (by assumption) ?_
            (try simp only [Act.put, List.setIfInBounds_toArray, List.set_cons_zero, List.set_cons_succ])
            refine wpAnyH_take (i := 24) (oi := { dst := some 41, op := Go.Op.unOp Go.UnOp.not 4 (Go.Operand.tmp 40), type := 4, pos := "ref.go:219", after := #[{ on := 23, ground := Go.Ground.data }, { on := 12, ground := Go.Ground.guard }], guard := some (12, false) }) (v := undef) rfl (by kernel_rfl) (by kernel_rfl) (by kernel_rfl) (fun _ _ _ h => h) (Or.inr ⟨by rfl, rfl⟩) (by assumption) ?_
            (try simp only [Act.put, List.setIfInBounds_toArray, List.set_cons_zero, List.set_cons_succ])
            refine wpAnyH_take (i := 25) (oi := { dst := some 42, op := Go.Op.pick (Go.Operand.tmp 29) (Go.Operand.const (Go.Value.bool true)) (Go.Operand.tmp 41), type := 4, pos := "ref.go:219", after := #[{ on := 12, ground := Go.Ground.data }, { on := 24, ground := Go.Ground.data }], guard := none }) (v := ?_) rfl (by kernel_rfl) (by kernel_rfl) (by kernel_rfl) (fun _ _ _ h => h) (Or.inl ⟨by rfl, ?_⟩) (by assumption) ?_
            rotate_left
            · (intro w hSw; (try dsimp only at hSw); go_simp; try with_reducible rfl)
            (try simp only [Act.put, List.setIfInBounds_toArray, List.set_cons_zero, List.set_cons_succ])
            refine wpAnyH_done (by kernel_rfl) ?_ _
            have HB9 := Lib.hid (below_on hI.out.1 hb1w)
            clear hH0 hH1 h1 hb1w HL HC1
            go_wp2_with fail
            go_ret
            exact ⟨by rw [HR.out]; rfl, HB9.out⟩
      · have hji : ¬ (j : Int) < n := by omega
        have HR := Lib.hid (show r = true by
          rw [HN.out.2.2]
          refine sameLs_all (by rw [← HN.out.1, ← HN.out.2.1]) fun i x y hx hy => hI.out.2 i x y ?_ hx hy
          have := (List.getElem?_eq_some_iff.1 hx).1
          rw [← HN.out.1] at this
          omega)
        go_wp2_with fail
        go_ret
        exact ⟨by rw [HR.out]; rfl, hI.out.1⟩
  · have hnkb : ((n : Int) != (k : Int)) = true := by
      rw [bne_iff_ne]; omega
    have HR := Lib.hid (show r = false by
      rw [HN.out.2.2]
      cases hh : sameLs l m
      · rfl
      · have := sameLs_len hh
        rw [← HN.out.1, ← HN.out.2.1] at this
        exact absurd this hnk)
    go_enter Tryz.func24, Tryz.ntmps24
    go_wp2_with fail
    go_ret
    exact ⟨by rw [HR.out]; rfl, Below.refl _ w⟩
end Go.Proofs.YtchadlbhdcpojaaGreatDoor
