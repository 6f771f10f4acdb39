/- The specification's reader: a list, walked. -/
import Derived.Test.YtcbcfcokfjfffaaDoorSd
namespace Go.Proofs.YtcbcfcokfjfffaaDoor
open Go.RowKit

/-- What is left to read, once nothing is wrong. -/
def leftOf (g : Nat) (n : Nat) (w : World) : Nat := match w.cell? ⟨g, 3, none⟩ with | some (.bool true) => 0 | _ => n + 1 - posOf g w
theorem RAt.left {w : World} {g : Nat} {s : ByteArray} {k : Nat} {bl bd : Bool} (h : RAt w g s k bl bd) : leftOf g s.size w = if bd = true then 0 else s.size + 1 - k := by
  have h3 := h.cells.1.2.2.2
  unfold leftOf
  rw [h3, h.pos]
  cases bd <;> rfl
/-- How far the reading of a list has come. -/
def LrAt (w : World) (G g : Nat) (s : ByteArray) (bl : Bool) (f : List UInt8 → Option (V × List UInt8)) (R : Option (List V × List UInt8)) (W : World) : Prop :=
  ∃ k bd acc rI css, k ≤ s.size ∧ LS w G g s bl k bd acc rI css W ∧ (bd = false → acc.length ≤ k ∧ ∃ F, itemsR f bl F acc (sfx s k) = R ∧ (sfx s k).length < F) ∧ (bd = true → R = none)
section
variable {f : List UInt8 → Option (V × List UInt8)} {bl : Bool} {F : Nat} {acc : List V} {l : List UInt8} {R : Option (List V × List UInt8)} {x : V} {r : List UInt8}
theorem lr_none (h : itemsR f bl F acc l = R) (hF : l.length < F) (hf : f l = none) : R = none := by
  cases F with
  | zero => omega
  | succ F => rw [itemsR, hf] at h; exact h.symm
theorem lr_end (h : itemsR f bl F acc l = R) (hF : l.length < F) (hf : f l = some (x, r)) (ht : takesP 93 (skipB bl r) = true) : R = some (acc ++ [x], tailP 93 (skipB bl r)) := by
  cases F with
  | zero => omega
  | succ F => rw [itemsR, hf] at h; simp only [ht, if_true] at h; exact h.symm
theorem lr_more (h : itemsR f bl F acc l = R) (hF : l.length < F) (hf : f l = some (x, r)) (hr : r.length < l.length) (ht : takesP 93 (skipB bl r) = false) (ht2 : takesP 44 (skipB bl r) = true) : ∃ F', itemsR f bl F' (acc ++ [x]) (tailP 44 (skipB bl r)) = R ∧ (tailP 44 (skipB bl r)).length < F' := by
  cases F with
  | zero => omega
  | succ F =>
    rw [itemsR, hf] at h
    simp only [ht, ht2, if_true, Bool.false_eq_true, if_false] at h
    refine ⟨F, h, ?_⟩
    have h1 := skipB_len bl r
    have h2 : (tailP 44 (skipB bl r)).length ≤ (skipB bl r).length := by
      cases skipB bl r with
      | nil => simp [tailP]
      | cons a t => simp only [tailP]; split <;> simp
    omega
theorem lr_bad (h : itemsR f bl F acc l = R) (hF : l.length < F) (hf : f l = some (x, r)) (ht : takesP 93 (skipB bl r) = false) (ht2 : takesP 44 (skipB bl r) = false) : R = none := by
  cases F with
  | zero => omega
  | succ F => rw [itemsR, hf] at h; simp only [ht, ht2, Bool.false_eq_true, if_false] at h; exact h.symm
end

set_option maxRecDepth 100000 in
set_option maxHeartbeats 16000000 in
theorem list_walkR (g : Nat) (s : ByteArray) (hs : s.size ≤ 1000000) (bl bd0 : Bool) (L : Nat) (hL6 : L ≤ 6) (f : List UInt8 → Option (V × List UInt8)) (heat : Eats f)
    (hval : ∀ (k : Nat) (W : World), RAt W g s k bl false → k ≤ s.size → Calls Tryd.prog 55 #[.pointer (some ⟨g, 0, none⟩), .int .i64 L] W (RPost g s bl false W (f (sfx s k))))
    (k : Nat) (w : World) (h : RAt w g s k bl bd0) (hk : k ≤ s.size) :
    Calls Tryd.prog 89 #[.pointer (some ⟨g, 0, none⟩), .int .i64 ((L : Int) + 1)] w (RPost g s bl false w (if bd0 = true then none else listR f bl (sfx s k))) := by
  have hg := h.lt
  obtain ⟨iv0, hiv, hzv0, hzv1, hzv2⟩ := info_parts (P := Tryd.prog) (e := 25) (z := .agg zeroF) (size := 5) (bytes := 80) (by kernel_rfl)
  have HV := Lib.hid hval
  have HE := Lib.hid heat
  have HP := Lib.hid h
  obtain ⟨RR, hRR⟩ : ∃ RR, RR = if bd0 = true then none else listR f bl (sfx s k) := ⟨_, rfl⟩
  rw [← hRR]
  have HRR := Lib.hid hRR
  clear hval heat h hRR
  go_enter Tryd.func89, Tryd.ntmps89
  go_wp2_with fail
  refine (refList_any none 0 0 _).mono ?_
  rintro e w2 ⟨rfl, h2⟩
  have hz2 : w.heap.size + 1 ≤ w2.heap.size := by have := h2.size; simpa using this
  obtain ⟨W0, hW0⟩ : ∃ W0, W0 = w2.alloc (.cells #[.int .i64 4, .int .i64 0, .string ⟨#[]⟩, .slice none 0 0, .slice none 0 0] 25) := ⟨_, rfl⟩
  have HL0 := Lib.hid (show LS w w2.heap.size g s bl k bd0 [] (.slice none 0 0) [] W0 by
    rw [hW0]
    exact ⟨(((RWent.refl HP.out).alloc _).below h2).alloc _, hz2, ((BlockIs.new w _ _).below h2 (by simp)).alloc _, BlockIs.new w2 _ _, World.ownsRow_nil _ _ _ _, trivial⟩)
  clear h2 HP
  go_wp2_with fail
  rw [← hW0]
  refine (next_sign g s k bl bd0 93 93 rfl W0 HL0.out.went.2 hk hs).mono ?_
  rintro e w4 ⟨rfl, k1, hk1, hsk1, hW⟩
  have HL1 := Lib.hid (HL0.out.step hg hW)
  have HS1 := Lib.hid hsk1
  clear hW hsk1 HL0 hW0 W0
  cases ht : takesP 93 (skipB bl (sfx s k))
  · obtain ⟨R, hR⟩ : ∃ R, R = if bd0 = true then none else itemsR f bl ((sfx s k).length + 1) [] (skipB bl (sfx s k)) := ⟨_, rfl⟩
    have HR := Lib.hid (show RR = R.map fun q => (V.mk 4 0 ⟨#[]⟩ q.1 [], q.2) by
      rw [HRR.out, hR]
      cases bd0
      · simp only [Bool.false_eq_true, if_false]
        rw [listR, if_neg (by rw [ht]; simp)]
      · rfl)
    have H0 := Lib.hid (show LrAt w w2.heap.size g s bl f R w4 from ⟨k1, bd0, [], _, _, hk1, HL1.out, fun e => ⟨Nat.zero_le _, (sfx s k).length + 1, by rw [HS1.out, tailP_not ht, hR, e]; simp, by rw [HS1.out, tailP_not ht]; have := skipB_len bl (sfx s k); omega⟩, fun e => by rw [hR, e]; rfl⟩)
    clear HL1 HS1 ht hR
    go_wp2_with fail
    go_loopw [] (fun wr => Hid (LrAt w w2.heap.size g s bl f R wr)) (fun wr => leftOf g s.size wr)
    case atStart => exact H0
    case round =>
      clear H0
      obtain ⟨j, bd, acc, rI, css, hj, hLS, hgood, hbad⟩ := hrel.out
      have HLS := Lib.hid hLS
      have HG := Lib.hid hgood
      have HBD := Lib.hid hbad
      clear hLS hgood hbad hrel
      obtain ⟨⟨c0, c1, c2, c3⟩, f1, f3⟩ := HLS.out.went.2.cells
      have hM := Lib.hid HLS.out.went.2.left
      cases bd
      · obtain ⟨hacc, F, hF, hFl⟩ := HG.out rfl
        have HF0 := Lib.hid (And.intro hF hFl)
        clear HBD HG hF hFl
        have hal : acc.length ≤ 1000000 := by omega
        go_wp2_with fail
        refine (HV.out j wr HLS.out.went.2 hj).mono ?_
        intro e w5 hp
        obtain ⟨x, A, c, K, q, k2, bd2, rfl, hx, hk2, hW, hor⟩ : ∃ x A c K q k2 bd2, e = .returned (cellsOf x A c K q) ∧ LiesIn (Fresh wr w5) w5 x A c K q ∧ k2 ≤ s.size ∧ RWent g s k2 bl bd2 wr w5 ∧ ((bd2 = true ∧ f (sfx s j) = none) ∨ (bd2 = false ∧ f (sfx s j) = some (x, sfx s k2))) := by
          rcases hst : f (sfx s j) with _ | ⟨x, r⟩
          · rw [hst] at hp
            obtain ⟨x, A, c, K, q, he, hx, k2, hk2, hW⟩ := hp
            exact ⟨x, A, c, K, q, k2, true, he, hx, hk2, hW, .inl ⟨rfl, rfl⟩⟩
          · rw [hst] at hp
            obtain ⟨A, c, K, q, he, hx, k2, hk2, hr, hW⟩ := hp
            exact ⟨x, A, c, K, q, k2, false, he, hx, hk2, hW, .inr ⟨rfl, by rw [hr]⟩⟩
        have HX := Lib.hid hx
        have HW := Lib.hid hW
        have HOR := Lib.hid hor
        obtain ⟨RA, rc, rfl⟩ := own_form HLS.out.items
        have HL2 := Lib.hid (HLS.out.step hg HW.out)
        have g3 : w5.cell? ⟨w2.heap.size, 3, none⟩ = some (.slice RA acc.length rc) := HL2.out.bG.cell 3
        have gf : w5.frozen? ⟨w2.heap.size, 3, none⟩ = false := HL2.out.bG.frozen 3
        have gl : w2.heap.size < w5.heap.size := HL2.out.bG.lt
        clear hx hW hor hp c0 c1 c2 c3 f1 f3
        unfold cellsOf
        go_upto_region 6 with (fail)
        obtain ⟨W6, hW6⟩ : ∃ W6, W6 = w5.alloc (.cells #[.int .i64 x.kind, .int .i64 x.int, .string x.text, .slice A x.items.length c, .slice K x.keys.length q] 25) := ⟨_, rfl⟩
        have hal6 : w5.grownBy W6 none := by rw [hW6]; exact World.grownBy_alloc _ _ _
        obtain ⟨y0, y1, y2, y3, y4⟩ := five_cells (show BlockIs W6 w5.heap.size 25 #[.int .i64 x.kind, .int .i64 x.int, .string x.text, .slice A x.items.length c, .slice K x.keys.length q] by rw [hW6]; exact BlockIs.new _ _ _)
        have HB6 := Lib.hid (HL2.out.bG.grown hal6 (by simp))
        have HO6 := Lib.hid (show W6.ownsRow (w2.heap.size + 1) 25 5 (.slice RA acc.length rc) acc.length css.flatten by rw [hW6]; exact World.ownsRow.alloc HL2.out.items _)
        have g3 : W6.cell? ⟨w2.heap.size, 3, none⟩ = some (.slice RA acc.length rc) := HB6.out.cell 3
        have gf : W6.frozen? ⟨w2.heap.size, 3, none⟩ = false := HB6.out.frozen 3
        have gl : w2.heap.size < W6.heap.size := HB6.out.lt
        rw [← hW6]
        clear hW6
        have HAL := Lib.hid hal6
        clear hal6
        go_wp2_with (at_builtin; refine wpList_append_lies _ rfl _ _ 22 rfl (w2.heap.size + 1) 25 iv0 (.agg zeroF) 5 80 Tryd.underlying22 hiv hzv0 hzv1 hzv2 rfl (by decide) _ _ _ rfl (World.ownsRow.alloc HO6.out _) _ 1 1 (fieldsL x A c K q) rfl rfl ?n1 ?n2 ?n3 ?n4 ?n5 ?n6 _ rfl ?_)
        case n1 =>
          intro i u hj
          match i, hj with
          | 0, hj => simp [fieldsL] at hj; subst hj; simp [Addr.add]
          | 1, hj => simp [fieldsL] at hj; subst hj; simp [Addr.add]
          | 2, hj => simp [fieldsL] at hj; subst hj; simp [Addr.add]
          | 3, hj => simp [fieldsL] at hj; subst hj; simp [Addr.add]
          | 4, hj => simp [fieldsL] at hj; subst hj; simp [Addr.add]
          | i + 5, hj => simp [fieldsL] at hj
        case n2 => intro u hu; simp [fieldsL] at hu; rcases hu with rfl | rfl | rfl | rfl | rfl <;> rfl
        case n3 => omega
        case n4 => unfold maxLen; omega
        case n5 => omega
        case n6 => simp; omega
        intro g' cap w6 hown hgrow hat _
        have hb6 := (HB6.out.alloc _).grown hgrow (own_ge HLS.out.items (by omega))
        have gc : w6.cell? ⟨w2.heap.size, 3, none⟩ = some _ := BlockIs.cell hb6 3
        have gf' : w6.frozen? ⟨w2.heap.size, 3, none⟩ = false := BlockIs.frozen hb6 3
        have gl' : w2.heap.size < w6.heap.size := BlockIs.lt hb6
        have HL3 := Lib.hid (HLS.out.item hg HW.out HX.out (grow_alloc HAL.out _) hgrow (by simpa using hat) hown)
        clear hown hgrow hat hb6 y0 y1 y2 y3 y4 g3 gf gl HB6 HO6 HAL HLS HL2 HX
        go_upto_region 7 with (fail)
        obtain ⟨W7, hW7⟩ : ∃ W7, W7 = w6.setCell ⟨w2.heap.size, 3, none⟩ (.slice (some ⟨g', 0, none⟩) (acc.length + 1) cap) := ⟨_, rfl⟩
        rw [← hW7] at HL3 ⊢
        clear hW7 gc gf' gl'
        go_wp2_with fail
        refine (next_sign g s k2 bl bd2 93 93 rfl W7 HL3.out.went.2 hk2 hs).mono ?_
        rintro e w8 ⟨rfl, k3, hk3, hsk3, hW3⟩
        have HL4 := Lib.hid (HL3.out.step hg hW3)
        have HS3 := Lib.hid hsk3
        clear HL3 hW3 hsk3 HW
        cases ht : takesP 93 (skipB bl (sfx s k2))
        · have HT := Lib.hid ht
          have HSK := Lib.hid (show skipB bl (sfx s k3) = skipB bl (sfx s k2) by rw [HS3.out, tailP_not ht, skipB_skip])
          clear ht
          go_wp2_with fail
          refine (next_sign g s k3 bl bd2 44 44 rfl w8 HL4.out.went.2 hk3 hs).mono ?_
          rintro e w9 ⟨rfl, k4, hk4, hsk4, hW4⟩
          have HL5 := Lib.hid (HL4.out.step hg hW4)
          have HS4 := Lib.hid hsk4
          clear HL4 hW4 hsk4
          cases ht2 : takesP 44 (skipB bl (sfx s k3))
          · have HRN := Lib.hid (show R = none by
              rcases HOR.out with ⟨_, hn⟩ | ⟨_, hn⟩
              · exact lr_none HF0.out.1 HF0.out.2 hn
              · exact lr_bad HF0.out.1 HF0.out.2 hn HT.out (by rw [← HSK.out]; exact ht2))
            have HL6 := Lib.hid (HL5.out.step hg (RWent.refl HL5.out.went.2).wrong)
            obtain ⟨⟨c0, c1, c2, c3⟩, f1, f3⟩ := HL5.out.went.2.cells
            have gz : g < w9.heap.size := HL5.out.went.2.lt
            clear HL5 ht2
            go_wp2_with fail
            go_roundw
            case rel => exact Lib.hid ⟨k4, true, acc ++ [x], _, _, hk4, HL6.out, fun e => (by cases e), fun _ => HRN.out⟩
            case measure => rw [HL6.out.went.2.left, hM.out]; simp; omega
          · have HT2 := Lib.hid (show takesP 44 (skipB bl (sfx s k2)) = true by rw [← HSK.out]; exact ht2)
            clear ht2
            have HN := Lib.hid (show LrAt w w2.heap.size g s bl f R w9 ∧ leftOf g s.size w9 < leftOf g s.size wr by
              rw [hM.out, HL5.out.went.2.left]
              rcases HOR.out with ⟨rfl, hn⟩ | ⟨rfl, hn⟩
              · exact ⟨⟨k4, true, acc ++ [x], _, _, hk4, HL5.out, fun e => (by cases e), fun _ => lr_none HF0.out.1 HF0.out.2 hn⟩, by simp; omega⟩
              · have h1 := HE.out _ _ _ hn
                obtain ⟨F', h2, h3⟩ := lr_more HF0.out.1 HF0.out.2 hn h1 HT.out HT2.out
                have h4 : (sfx s k4).length ≤ (sfx s k2).length := by
                  rw [HS4.out, HSK.out]
                  have := skipB_len bl (sfx s k2)
                  have h5 : (tailP 44 (skipB bl (sfx s k2))).length ≤ (skipB bl (sfx s k2)).length := by
                    cases skipB bl (sfx s k2) with
                    | nil => simp [tailP]
                    | cons a t => simp only [tailP]; split <;> simp
                  omega
                rw [sfx_length, sfx_length] at h1 h4
                exact ⟨⟨k4, false, acc ++ [x], _, _, hk4, HL5.out, fun _ => ⟨by simp; omega, F', by rw [HS4.out, HSK.out]; exact h2, by rw [HS4.out, HSK.out]; exact h3⟩, fun e => by cases e⟩, by simp; omega⟩)
            clear HL5
            go_wp2_with fail
            go_roundw
            case rel => exact Lib.hid HN.out.1
            case measure => exact HN.out.2
        · have HT := Lib.hid ht
          clear ht
          obtain ⟨o0, o1, o2, o3, o4⟩ := five_cells HL4.out.bG
          obtain ⟨z0, z1, z2, z3, z4⟩ := five_cells (show BlockIs w8 w.heap.size 25 #[.int .i64 0, .int .i64 0, .string ⟨#[]⟩, .slice none 0 0, .slice none 0 0] from HL4.out.b0)
          have x0 := HL4.out.b0.frozen 0
          have x1 := HL4.out.b0.frozen 1
          have x2 := HL4.out.b0.frozen 2
          have x3 := HL4.out.b0.frozen 3
          have x4 := HL4.out.b0.frozen 4
          obtain ⟨A9, c9, e1, hF⟩ := HL4.out.done hg
          rw [e1] at o3
          have HF := Lib.hid hF
          clear HL4 e1 hF
          go_wp2_with fail
          refine bodyPost_ret (v := cellsOf (V.mk 4 0 ⟨#[]⟩ (acc ++ [x]) []) A9 c9 none 0) (by simp [results, Tryd.results89, go_sem, cellsOf, V.kind, V.int, V.text, V.items, V.keys, z0, z1, z2, z3, z4]) rfl ?_
          rw [HR.out]
          rcases HOR.out with ⟨rfl, hn⟩ | ⟨rfl, hn⟩
          · rw [lr_none HF0.out.1 HF0.out.2 hn]
            exact ⟨_, _, _, _, _, rfl, (HF.out _ _ _ _ _).1, k3, hk3, (HF.out _ _ _ _ _).2⟩
          · rw [lr_end HF0.out.1 HF0.out.2 hn HT.out]
            exact ⟨A9, c9, none, 0, rfl, (HF.out _ _ _ _ _).1, k3, hk3, HS3.out, (HF.out _ _ _ _ _).2⟩
      · have HRN := Lib.hid (HBD.out rfl)
        clear HG HBD
        obtain ⟨o0, o1, o2, o3, o4⟩ := five_cells HLS.out.bG
        obtain ⟨z0, z1, z2, z3, z4⟩ := five_cells (show BlockIs wr w.heap.size 25 #[.int .i64 0, .int .i64 0, .string ⟨#[]⟩, .slice none 0 0, .slice none 0 0] from HLS.out.b0)
        have x0 := HLS.out.b0.frozen 0
        have x1 := HLS.out.b0.frozen 1
        have x2 := HLS.out.b0.frozen 2
        have x3 := HLS.out.b0.frozen 3
        have x4 := HLS.out.b0.frozen 4
        obtain ⟨A9, c9, e1, hF⟩ := HLS.out.done hg
        rw [e1] at o3
        have HF := Lib.hid hF
        clear HLS e1 hF
        go_wp2_with fail
        refine bodyPost_ret (v := cellsOf (V.mk 4 0 ⟨#[]⟩ acc []) A9 c9 none 0) (by simp [results, Tryd.results89, go_sem, cellsOf, V.kind, V.int, V.text, V.items, V.keys, z0, z1, z2, z3, z4]) rfl ?_
        rw [HR.out, HRN.out]
        exact ⟨_, _, _, _, _, rfl, (HF.out _ _ _ _ _).1, j, hj, (HF.out _ _ _ _ _).2⟩
  · obtain ⟨o0, o1, o2, o3, o4⟩ := five_cells HL1.out.bG
    obtain ⟨z0, z1, z2, z3, z4⟩ := five_cells (show BlockIs w4 w.heap.size 25 #[.int .i64 0, .int .i64 0, .string ⟨#[]⟩, .slice none 0 0, .slice none 0 0] from HL1.out.b0)
    have x0 := HL1.out.b0.frozen 0
    have x1 := HL1.out.b0.frozen 1
    have x2 := HL1.out.b0.frozen 2
    have x3 := HL1.out.b0.frozen 3
    have x4 := HL1.out.b0.frozen 4
    obtain ⟨A9, c9, e1, hF⟩ := HL1.out.done hg
    rw [e1] at o3
    have HF := Lib.hid hF
    clear HL1 e1 hF
    go_wp2_with fail
    refine bodyPost_ret (v := cellsOf (V.mk 4 0 ⟨#[]⟩ [] []) A9 c9 none 0) (by simp [results, Tryd.results89, go_sem, cellsOf, V.kind, V.int, V.text, V.items, V.keys, z0, z1, z2, z3, z4]) rfl ?_
    rw [HRR.out]
    cases bd0
    · simp only [Bool.false_eq_true, if_false]
      rw [listR, if_pos ht]
      exact ⟨A9, c9, none, 0, rfl, (HF.out _ _ _ _ _).1, k1, hk1, HS1.out, (HF.out _ _ _ _ _).2⟩
    · exact ⟨_, A9, c9, none, 0, rfl, (HF.out _ _ _ _ _).1, k1, hk1, (HF.out _ _ _ _ _).2⟩
end Go.Proofs.YtcbcfcokfjfffaaDoor
