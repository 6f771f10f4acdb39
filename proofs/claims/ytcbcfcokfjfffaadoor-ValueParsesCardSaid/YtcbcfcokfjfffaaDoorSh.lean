/- The specification's reader: an object, walked. -/
import Derived.Test.YtcbcfcokfjfffaaDoorSi
import Derived.Test.YtcbcfcokfjfffaaDoorRz
namespace Go.Proofs.YtcbcfcokfjfffaaDoor
open Go.RowKit

set_option maxRecDepth 100000 in
set_option maxHeartbeats 16000000 in
theorem object_walkR (g : Nat) (s : ByteArray) (hs : s.size ≤ 1000000) (bl bd0 : Bool) (L : Nat) (hL6 : L ≤ 6) (f : List UInt8 → Option (V × List UInt8)) (heat : Eats f)
    (hval : ∀ (bd : Bool) (k : Nat) (W : World), RAt W g s k bl bd → k ≤ s.size → Calls Tryd.prog 55 #[.pointer (some ⟨g, 0, none⟩), .int .i64 L] W (RPost g s bl false W (if bd = true then none else f (sfx s k))))
    (k : Nat) (w : World) (h : RAt w g s k bl bd0) (hk : k ≤ s.size) :
    Calls Tryd.prog 90 #[.pointer (some ⟨g, 0, none⟩), .int .i64 ((L : Int) + 1)] w (RPost g s bl false w (if bd0 = true then none else objectR f bl (sfx s k))) := by
  have hg := h.lt
  have HV := Lib.hid (fun bd k W hW hk => value_form g s bl bd L f k W (hval bd k W hW hk))
  have HE := Lib.hid heat
  have HP := Lib.hid h
  obtain ⟨RR, hRR⟩ : ∃ RR, RR = if bd0 = true then none else objectR f bl (sfx s k) := ⟨_, rfl⟩
  rw [← hRR]
  have HRR := Lib.hid hRR
  clear hval heat h hRR
  go_enter Tryd.func90, Tryd.ntmps90
  go_wp2_with fail
  refine (refObject_any none none 0 0 0 0 _).mono ?_
  rintro e w2 ⟨rfl, h2⟩
  have hz2 : w.heap.size + 1 ≤ w2.heap.size := by have := h2.size; simpa using this
  obtain ⟨W0, hW0⟩ : ∃ W0, W0 = w2.alloc (.cells #[.int .i64 5, .int .i64 0, .string ⟨#[]⟩, .slice none 0 0, .slice none 0 0] 25) := ⟨_, rfl⟩
  have HL0 := Lib.hid (show OS w w2.heap.size g s bl k bd0 ([], []) none 0 none 0 W0 by
    rw [hW0]
    exact ⟨(((RWent.refl HP.out).alloc _).below h2).alloc _, hz2, ((BlockIs.new w _ _).below h2 (by simp)).alloc _, BlockIs.new w2 _ _, by rw [LiesIn]; exact ⟨by decide, Nat.le_refl _, by simp [maxLen], ⟨Nat.le_refl _, by simp [maxLen], .inl rfl⟩, .inl rfl⟩⟩)
  clear h2 HP
  go_wp2_with fail
  rw [← hW0]
  refine (next_sign g s k bl bd0 125 125 rfl W0 HL0.out.went.2 hk hs).mono ?_
  rintro e w4 ⟨rfl, k1, hk1, hsk1, hW⟩
  have HL1 := Lib.hid (HL0.out.step hg hW)
  have HS1 := Lib.hid hsk1
  clear hW hsk1 HL0 hW0 W0
  cases ht : takesP 125 (skipB bl (sfx s k))
  · obtain ⟨R, hR⟩ : ∃ R, R = if bd0 = true then none else entriesR f bl ((sfx s k).length + 1) ([], []) (skipB bl (sfx s k)) := ⟨_, rfl⟩
    have HR := Lib.hid (show RR = R.map fun q => (V.mk 5 0 ⟨#[]⟩ q.1.2 q.1.1, q.2) by
      rw [HRR.out, hR]
      cases bd0
      · simp only [Bool.false_eq_true, if_false]
        rw [objectR, if_neg (by rw [ht]; simp)]
      · rfl)
    have H0 := Lib.hid (show OrAt w w2.heap.size g s bl f R w4 from ⟨k1, bd0, ([], []), _, _, _, _, hk1, HL1.out, rfl, fun e => ⟨Nat.zero_le _, (sfx s k).length + 1, by rw [HS1.out, tailP_not ht, hR, e]; simp, by rw [HS1.out, tailP_not ht]; have := skipB_len bl (sfx s k); omega⟩, fun e => by rw [hR, e]; rfl⟩)
    clear HL1 HS1 ht hR
    go_wp2_with fail
    go_loopw [] (fun wr => Hid (OrAt w w2.heap.size g s bl f R wr)) (fun wr => leftOf g s.size wr)
    case atStart => exact H0
    case round =>
      clear H0
      obtain ⟨j, bd, st, A, c, K, d, hj, hOS, hlen, hgood, hbad⟩ := hrel.out
      have HLS := Lib.hid hOS
      have HN := Lib.hid hlen
      have HG := Lib.hid hgood
      have HBD := Lib.hid hbad
      clear hOS hgood hbad hrel hlen
      obtain ⟨⟨c0, c1, c2, c3⟩, f1, f3⟩ := HLS.out.went.2.cells
      have hM := Lib.hid HLS.out.went.2.left
      cases bd
      · obtain ⟨hst, F, hF, hFl⟩ := HG.out rfl
        have HF0 := Lib.hid (And.intro hF hFl)
        clear HBD HG hF hFl
        go_wp2_with fail
        refine (next_sign g s j bl false 34 34 rfl wr HLS.out.went.2 hj hs).mono ?_
        rintro e w3 ⟨rfl, k1, hk1, hsk1, hW1⟩
        have HO1 := Lib.hid (HLS.out.step hg hW1)
        have HS1 := Lib.hid hsk1
        clear hW1 hsk1 c0 c1 c2 c3 f1 f3 HLS
        cases ht1 : takesP 34 (skipB bl (sfx s j))
        · have HRN := Lib.hid (er_quote HF0.out.1 HF0.out.2 ht1)
          clear ht1
          have HQ := Lib.hid (HO1.out.step hg (RWent.refl HO1.out.went.2).wrong)
          obtain ⟨⟨c0, c1, c2, c3⟩, f1, f3⟩ := HO1.out.went.2.cells
          have gz : g < w3.heap.size := HO1.out.went.2.lt
          clear HO1
          go_upto_region 18 with (fail)
          obtain ⟨W9, hW9⟩ : ∃ W9, W9 = w3.setCell ⟨g, 3, none⟩ (.bool true) := ⟨_, rfl⟩
          rw [← hW9] at HQ ⊢
          clear hW9 c0 c1 c2 c3 f1 f3 gz
          obtain ⟨o0, o1, o2, o3, o4⟩ := five_cells HQ.out.bG
          obtain ⟨z0, z1, z2, z3, z4⟩ := five_cells (show BlockIs W9 w.heap.size 25 #[.int .i64 0, .int .i64 0, .string ⟨#[]⟩, .slice none 0 0, .slice none 0 0] from HQ.out.b0)
          have x0 := HQ.out.b0.frozen 0
          have x1 := HQ.out.b0.frozen 1
          have x2 := HQ.out.b0.frozen 2
          have x3 := HQ.out.b0.frozen 3
          have x4 := HQ.out.b0.frozen 4
          have HF := Lib.hid (HQ.out.done hg)
          clear HQ
          go_wp2_with fail
          refine bodyPost_ret (v := cellsOf (V.mk 5 0 ⟨#[]⟩ st.2 st.1) A c K d) (by simp [results, Tryd.results90, go_sem, cellsOf, V.kind, V.int, V.text, V.items, V.keys, z0, z1, z2, z3, z4]) rfl ?_
          rw [HR.out, HRN.out]
          exact ⟨_, _, _, _, _, rfl, (HF.out _ _ _ _ _).1, k1, by assumption, (HF.out _ _ _ _ _).2⟩
        · have HT1 := Lib.hid ht1
          clear ht1
          go_wp2_with fail
          refine (str_form g s hs bl false k1 w3 HO1.out.went.2 hk1).mono ?_
          rintro e w4 ⟨t, k2, bd2, rfl, htm, hk2, hW2, HT⟩
          have HO2 := Lib.hid (HO1.out.step hg hW2)
          clear HO1 hW2
          go_wp2_with fail
          refine (next_sign g s k2 bl bd2 58 58 rfl w4 HO2.out.went.2 hk2 hs).mono ?_
          rintro e w5 ⟨rfl, k3, hk3, hsk3, hW3⟩
          have HO3 := Lib.hid (HO2.out.step hg hW3)
          have HS3 := Lib.hid hsk3
          clear HO2 hW3 hsk3
          cases ht3 : takesP 58 (skipB bl (sfx s k2))
          · have HRN := Lib.hid (show R = none by
              rcases HT.out with ⟨_, hn⟩ | ⟨_, T, _, hn⟩
              · exact er_text HF0.out.1 HF0.out.2 HT1.out (by rw [← HS1.out]; exact hn)
              · exact er_colon HF0.out.1 HF0.out.2 HT1.out (by rw [← HS1.out]; exact hn) ht3)
            clear ht3
            have HQ := Lib.hid (HO3.out.step hg (RWent.refl HO3.out.went.2).wrong)
            obtain ⟨⟨c0, c1, c2, c3⟩, f1, f3⟩ := HO3.out.went.2.cells
            have gz : g < w5.heap.size := HO3.out.went.2.lt
            clear HO3
            go_upto_region 18 with (fail)
            obtain ⟨W9, hW9⟩ : ∃ W9, W9 = w5.setCell ⟨g, 3, none⟩ (.bool true) := ⟨_, rfl⟩
            rw [← hW9] at HQ ⊢
            clear hW9 c0 c1 c2 c3 f1 f3 gz
            obtain ⟨o0, o1, o2, o3, o4⟩ := five_cells HQ.out.bG
            obtain ⟨z0, z1, z2, z3, z4⟩ := five_cells (show BlockIs W9 w.heap.size 25 #[.int .i64 0, .int .i64 0, .string ⟨#[]⟩, .slice none 0 0, .slice none 0 0] from HQ.out.b0)
            have x0 := HQ.out.b0.frozen 0
            have x1 := HQ.out.b0.frozen 1
            have x2 := HQ.out.b0.frozen 2
            have x3 := HQ.out.b0.frozen 3
            have x4 := HQ.out.b0.frozen 4
            have HF := Lib.hid (HQ.out.done hg)
            clear HQ
            go_wp2_with fail
            refine bodyPost_ret (v := cellsOf (V.mk 5 0 ⟨#[]⟩ st.2 st.1) A c K d) (by simp [results, Tryd.results90, go_sem, cellsOf, V.kind, V.int, V.text, V.items, V.keys, z0, z1, z2, z3, z4]) rfl ?_
            rw [HR.out, HRN.out]
            exact ⟨_, _, _, _, _, rfl, (HF.out _ _ _ _ _).1, k3, by assumption, (HF.out _ _ _ _ _).2⟩
          · have HT3 := Lib.hid ht3
            clear ht3
            go_wp2_with fail
            refine (HV.out bd2 k3 w5 HO3.out.went.2 hk3).mono ?_
            rintro e w6 ⟨x, A1, c1, K1, q1, k4, bd4, rfl, hx, hk4, hW4, HX⟩
            have HO4 := Lib.hid (HO3.out.step hg hW4)
            have HX4 := Lib.hid (XIn.new hx HO3.out.bG.lt)
            have HEW := Lib.hid (entry_ways HF0.out.1 HF0.out.2 HT1.out HS1.out HT3.out HS3.out (HT.out) HX.out HE.out HN.out)
            have hstl : st.2.length ≤ 1000000 := by omega
            have hstk : st.1.length ≤ 1000000 := by rw [HN.out]; exact hstl
            clear HO3 hW4 hx HT HX HT1 HT3 HS1 HS3 HF0
            obtain ⟨o0, o1, o2, o3, o4⟩ := five_cells HO4.out.bG
            have gl := HO4.out.bG.lt
            unfold cellsOf
            go_wp2_with fail
            obtain ⟨W7, hW7⟩ : ∃ W7, W7 = w6.alloc (.cells #[.int .i64 x.kind, .int .i64 x.int, .string x.text, .slice A1 x.items.length c1, .slice K1 x.keys.length q1] 25) := ⟨_, rfl⟩
            have hRW7 : RWent g s k4 bl bd4 w6 W7 := by rw [hW7]; exact (RWent.refl HO4.out.went.2).alloc _
            have HO5 := Lib.hid (HO4.out.step hg hRW7)
            have HX5 := Lib.hid (XIn.step HX4.out (show g ≤ w2.heap.size by omega) hRW7.1)
            have HY5 := Lib.hid (show BlockIs W7 w6.heap.size 25 #[.int .i64 x.kind, .int .i64 x.int, .string x.text, .slice A1 x.items.length c1, .slice K1 x.keys.length q1] by rw [hW7]; exact BlockIs.new _ _ _)
            have hgy : g < w6.heap.size := by have := HO4.out.went.2.lt; omega
            rw [← hW7]
            clear hW7 hRW7 o0 o1 o2 o3 o4 gl HO4 HX4
            refine (has_any st.1 K d t W7 hstk HO5.out.lies.keys_cells).mono ?_
            rintro e w8 ⟨rfl, nq, rfl⟩
            have HO6 := Lib.hid (HO5.out.step hg ((RWent.refl HO5.out.went.2).drewN nq))
            have HX6 := Lib.hid (XIn.step HX5.out (show g ≤ w2.heap.size by omega) ((RWent.refl HO5.out.went.2).drewN nq).1)
            have HY6 := Lib.hid (show BlockIs (W7.drewN nq) w6.heap.size 25 #[.int .i64 x.kind, .int .i64 x.int, .string x.text, .slice A1 x.items.length c1, .slice K1 x.keys.length q1] from HY5.out)
            clear HO5 HX5 HY5
            obtain ⟨st2, hst2⟩ : ∃ st2, st2 = withK t x false st.1 st.2 := ⟨_, rfl⟩
            have HST := Lib.hid hst2
            have HLEN := Lib.hid (show st2.1.length = st2.2.length by rw [hst2]; exact withK_len _ _ _ _ _ HN.out)
            rw [← hst2] at HEW
            clear hst2
            cases hh : hasK t st.1
            · have HEW2 := Lib.hid (show EntryWays f bl bd4 st st2 (sfx s j) (sfx s k4) R by have := HEW.out; rwa [hh, Bool.or_false] at this)
              clear hh HEW
              obtain ⟨W8, hW8⟩ : ∃ W8, W8 = W7.drewN nq := ⟨_, rfl⟩
              rw [← hW8] at HO6 HX6 HY6 ⊢
              clear hW8
              obtain ⟨o0, o1, o2, o3, o4⟩ := five_cells HO6.out.bG
              obtain ⟨y0, y1, y2, y3, y4⟩ := five_cells HY6.out
              have gl := HO6.out.bG.lt
              have yl : w6.heap.size < W8.heap.size := BlockIs.lt HY6.out
              have HIN := Lib.hid (HX6.out)
              go_wp2_with fail
              refine (with_walk (fun b => w2.heap.size + 1 ≤ b ∧ b < W8.heap.size) 5 0 ⟨#[]⟩ st.2 st.1 x t W8 (fun b hb => hb.2) A K c d A1 K1 c1 q1 HO6.out.lies HIN.out HN.out hstl htm).mono ?_
              rintro e w9 ⟨A2, c2, K2, q2, he, hl9, h9⟩
              rw [← HST.out] at hl9
              replace he : e = .returned (.agg #[.int .i64 5, .int .i64 0, .string ⟨#[]⟩, .slice A2 st2.2.length c2, .slice K2 st2.1.length q2]) := by rw [HST.out]; exact he
              subst he
              have HO9 := Lib.hid (HO6.out.entry (st' := st2) hg h9 hl9)
              have hb9 := HO6.out.bG.below h9 HO6.out.bG.lt
              clear o0 o1 o2 o3 o4 y0 y1 y2 y3 y4 gl yl HIN hl9
              obtain ⟨o0, o1, o2, o3, o4⟩ := five_cells hb9
              have x0 := hb9.frozen 0
              have x1 := hb9.frozen 1
              have x2 := hb9.frozen 2
              have x3 := hb9.frozen 3
              have x4 := hb9.frozen 4
              have gl := hb9.lt
              clear hb9 h9 HO6 HX6 HY6
              go_upto_region 14 with (fail)
              obtain ⟨W9, hW9⟩ : ∃ W9, W9 = ((((w9.setCell ⟨w2.heap.size, 0, none⟩ (.int .i64 5)).setCell ⟨w2.heap.size, 1, none⟩ (.int .i64 0)).setCell ⟨w2.heap.size, 2, none⟩ (.string ⟨#[]⟩)).setCell ⟨w2.heap.size, 3, none⟩ (.slice A2 st2.2.length c2)).setCell ⟨w2.heap.size, 4, none⟩ (.slice K2 st2.1.length q2) := ⟨_, rfl⟩
              have HO10 := Lib.hid (show OS w w2.heap.size g s bl k4 bd4 st2 A2 c2 K2 q2 W9 by rw [hW9]; exact HO9.out)
              rw [← hW9]
              clear hW9 HO9 o0 o1 o2 o3 o4 x0 x1 x2 x3 x4 gl
              go_wp2_with fail
              refine (next_sign g s k4 bl bd4 125 125 rfl W9 HO10.out.went.2 hk4 hs).mono ?_
              rintro e w10 ⟨rfl, k5, hk5, hsk5, hW5⟩
              have HO11 := Lib.hid (HO10.out.step hg hW5)
              have HS5 := Lib.hid hsk5
              clear hsk5 hW5 HO10
              cases ht5 : takesP 125 (skipB bl (sfx s k4))
              · have HT5 := Lib.hid ht5
                have HSK := Lib.hid (show skipB bl (sfx s k5) = skipB bl (sfx s k4) by rw [HS5.out, tailP_not ht5, skipB_skip])
                clear ht5
                go_wp2_with fail
                refine (next_sign g s k5 bl bd4 44 44 rfl w10 HO11.out.went.2 hk5 hs).mono ?_
                rintro e w11 ⟨rfl, k6, hk6, hsk6, hW6⟩
                have HO12 := Lib.hid (HO11.out.step hg hW6)
                have HS6 := Lib.hid hsk6
                clear hsk6 hW6 HO11
                cases ht6 : takesP 44 (skipB bl (sfx s k5))
                · have HRN := Lib.hid (show R = none by
                    rcases HEW2.out with ⟨-, hn⟩ | ⟨-, -, -, -, h4, -⟩
                    · exact hn
                    · exact h4 HT5.out (by rw [← HSK.out]; exact ht6))
                  have HO13 := Lib.hid (HO12.out.step hg (RWent.refl HO12.out.went.2).wrong)
                  obtain ⟨⟨c0, c1', c2', c3⟩, f1, f3⟩ := HO12.out.went.2.cells
                  have gz : g < w11.heap.size := HO12.out.went.2.lt
                  clear HO12 ht6
                  go_wp2_with fail
                  go_roundw
                  case rel => exact Lib.hid ⟨k6, true, st2, _, _, _, _, hk6, HO13.out, HLEN.out, fun e => (by cases e), fun _ => HRN.out⟩
                  case measure => rw [HO13.out.went.2.left, hM.out]; simp; omega
                · have HT6 := Lib.hid (show takesP 44 (skipB bl (sfx s k4)) = true by rw [← HSK.out]; exact ht6)
                  clear ht6
                  have HNX := Lib.hid (show OrAt w w2.heap.size g s bl f R w11 ∧ leftOf g s.size w11 < leftOf g s.size wr by
                    rw [hM.out, HO12.out.went.2.left]
                    rcases HEW2.out with ⟨e, hn⟩ | ⟨e, h1, h2, -, -, h5⟩
                    · exact ⟨⟨k6, bd4, st2, _, _, _, _, hk6, HO12.out, HLEN.out, fun e' => Bool.noConfusion (e.symm.trans e'), fun _ => hn⟩, by rw [if_pos e, if_neg (by simp)]; omega⟩
                    · obtain ⟨F', h6, h7⟩ := h5 HT5.out HT6.out
                      have h8 : (sfx s k6).length ≤ (sfx s k4).length := by
                        rw [HS6.out, HSK.out]
                        have := tailP_len 44 (skipB bl (sfx s k4))
                        have := skipB_len bl (sfx s k4)
                        omega
                      rw [sfx_length, sfx_length] at h1 h8
                      exact ⟨⟨k6, bd4, st2, _, _, _, _, hk6, HO12.out, HLEN.out, fun _ => ⟨by omega, F', by rw [HS6.out, HSK.out]; exact h6, by rw [HS6.out, HSK.out]; exact h7⟩, fun e' => Bool.noConfusion (e.symm.trans e')⟩, by rw [if_neg (fun h => Bool.noConfusion (e.symm.trans h)), if_neg (by simp)]; omega⟩)
                  clear HO12
                  go_wp2_with fail
                  go_roundw
                  case rel => exact Lib.hid HNX.out.1
                  case measure => exact HNX.out.2
              · have HT5 := Lib.hid ht5
                clear ht5
                obtain ⟨o0, o1, o2, o3, o4⟩ := five_cells HO11.out.bG
                obtain ⟨z0, z1, z2, z3, z4⟩ := five_cells (show BlockIs w10 w.heap.size 25 #[.int .i64 0, .int .i64 0, .string ⟨#[]⟩, .slice none 0 0, .slice none 0 0] from HO11.out.b0)
                have x0 := HO11.out.b0.frozen 0
                have x1 := HO11.out.b0.frozen 1
                have x2 := HO11.out.b0.frozen 2
                have x3 := HO11.out.b0.frozen 3
                have x4 := HO11.out.b0.frozen 4
                have HF := Lib.hid (HO11.out.done hg)
                clear HO11
                go_wp2_with fail
                refine bodyPost_ret (v := cellsOf (V.mk 5 0 ⟨#[]⟩ st2.2 st2.1) A2 c2 K2 q2) (by simp [results, Tryd.results90, go_sem, cellsOf, V.kind, V.int, V.text, V.items, V.keys, z0, z1, z2, z3, z4]) rfl ?_
                rw [HR.out]
                rcases HEW2.out with ⟨e, hn⟩ | ⟨e, h1, h2, h3, -, -⟩
                · rw [hn]
                  exact ⟨_, _, _, _, _, rfl, (HF.out _ _ _ _ _).1, k5, hk5, (HF.out _ _ _ _ _).2.as e⟩
                · rw [h3 HT5.out]
                  exact ⟨_, _, _, _, rfl, (HF.out _ _ _ _ _).1, k5, hk5, HS5.out, (HF.out _ _ _ _ _).2.as e⟩
            · have HEW2 := Lib.hid (show EntryWays f bl true st st2 (sfx s j) (sfx s k4) R by have := HEW.out; rwa [hh, Bool.or_true] at this)
              clear hh HEW
              obtain ⟨⟨c0, c1', c2, c3⟩, f1, f3⟩ := HO6.out.went.2.cells
              have gz : g < (W7.drewN nq).heap.size := HO6.out.went.2.lt
              have hW := (RWent.refl HO6.out.went.2).wrong
              have HO7 := Lib.hid (HO6.out.step hg hW)
              have HX7 := Lib.hid (XIn.step HX6.out (show g ≤ w2.heap.size by omega) hW.1)
              have HY7 := Lib.hid (BlockIs.grown HY6.out hW.1 (by simp; omega))
              clear hW HO6 HX6 HY6
              go_upto_region 13 with (fail)
              obtain ⟨W8, hW8⟩ : ∃ W8, W8 = (W7.drewN nq).setCell ⟨g, 3, none⟩ (.bool true) := ⟨_, rfl⟩
              rw [← hW8] at HO7 HX7 HY7 ⊢
              clear hW8 c0 c1' c2 c3 f1 f3 gz
              have HO6 := HO7
              have HX6 := HX7
              have HY6 := HY7
              clear HO7 HX7 HY7
              obtain ⟨o0, o1, o2, o3, o4⟩ := five_cells HO6.out.bG
              obtain ⟨y0, y1, y2, y3, y4⟩ := five_cells HY6.out
              have gl := HO6.out.bG.lt
              have yl : w6.heap.size < W8.heap.size := BlockIs.lt HY6.out
              have HIN := Lib.hid (HX6.out)
              go_wp2_with fail
              refine (with_walk (fun b => w2.heap.size + 1 ≤ b ∧ b < W8.heap.size) 5 0 ⟨#[]⟩ st.2 st.1 x t W8 (fun b hb => hb.2) A K c d A1 K1 c1 q1 HO6.out.lies HIN.out HN.out hstl htm).mono ?_
              rintro e w9 ⟨A2, c2, K2, q2, he, hl9, h9⟩
              rw [← HST.out] at hl9
              replace he : e = .returned (.agg #[.int .i64 5, .int .i64 0, .string ⟨#[]⟩, .slice A2 st2.2.length c2, .slice K2 st2.1.length q2]) := by rw [HST.out]; exact he
              subst he
              have HO9 := Lib.hid (HO6.out.entry (st' := st2) hg h9 hl9)
              have hb9 := HO6.out.bG.below h9 HO6.out.bG.lt
              clear o0 o1 o2 o3 o4 y0 y1 y2 y3 y4 gl yl HIN hl9
              obtain ⟨o0, o1, o2, o3, o4⟩ := five_cells hb9
              have x0 := hb9.frozen 0
              have x1 := hb9.frozen 1
              have x2 := hb9.frozen 2
              have x3 := hb9.frozen 3
              have x4 := hb9.frozen 4
              have gl := hb9.lt
              clear hb9 h9 HO6 HX6 HY6
              go_upto_region 14 with (fail)
              obtain ⟨W9, hW9⟩ : ∃ W9, W9 = ((((w9.setCell ⟨w2.heap.size, 0, none⟩ (.int .i64 5)).setCell ⟨w2.heap.size, 1, none⟩ (.int .i64 0)).setCell ⟨w2.heap.size, 2, none⟩ (.string ⟨#[]⟩)).setCell ⟨w2.heap.size, 3, none⟩ (.slice A2 st2.2.length c2)).setCell ⟨w2.heap.size, 4, none⟩ (.slice K2 st2.1.length q2) := ⟨_, rfl⟩
              have HO10 := Lib.hid (show OS w w2.heap.size g s bl k4 true st2 A2 c2 K2 q2 W9 by rw [hW9]; exact HO9.out)
              rw [← hW9]
              clear hW9 HO9 o0 o1 o2 o3 o4 x0 x1 x2 x3 x4 gl
              go_wp2_with fail
              refine (next_sign g s k4 bl true 125 125 rfl W9 HO10.out.went.2 hk4 hs).mono ?_
              rintro e w10 ⟨rfl, k5, hk5, hsk5, hW5⟩
              have HO11 := Lib.hid (HO10.out.step hg hW5)
              have HS5 := Lib.hid hsk5
              clear hsk5 hW5 HO10
              cases ht5 : takesP 125 (skipB bl (sfx s k4))
              · have HT5 := Lib.hid ht5
                have HSK := Lib.hid (show skipB bl (sfx s k5) = skipB bl (sfx s k4) by rw [HS5.out, tailP_not ht5, skipB_skip])
                clear ht5
                go_wp2_with fail
                refine (next_sign g s k5 bl true 44 44 rfl w10 HO11.out.went.2 hk5 hs).mono ?_
                rintro e w11 ⟨rfl, k6, hk6, hsk6, hW6⟩
                have HO12 := Lib.hid (HO11.out.step hg hW6)
                have HS6 := Lib.hid hsk6
                clear hsk6 hW6 HO11
                cases ht6 : takesP 44 (skipB bl (sfx s k5))
                · have HRN := Lib.hid (show R = none by
                    rcases HEW2.out with ⟨-, hn⟩ | ⟨-, -, -, -, h4, -⟩
                    · exact hn
                    · exact h4 HT5.out (by rw [← HSK.out]; exact ht6))
                  have HO13 := Lib.hid (HO12.out.step hg (RWent.refl HO12.out.went.2).wrong)
                  obtain ⟨⟨c0, c1', c2', c3⟩, f1, f3⟩ := HO12.out.went.2.cells
                  have gz : g < w11.heap.size := HO12.out.went.2.lt
                  clear HO12 ht6
                  go_wp2_with fail
                  go_roundw
                  case rel => exact Lib.hid ⟨k6, true, st2, _, _, _, _, hk6, HO13.out, HLEN.out, fun e => (by cases e), fun _ => HRN.out⟩
                  case measure => rw [HO13.out.went.2.left, hM.out]; simp; omega
                · have HT6 := Lib.hid (show takesP 44 (skipB bl (sfx s k4)) = true by rw [← HSK.out]; exact ht6)
                  clear ht6
                  have HNX := Lib.hid (show OrAt w w2.heap.size g s bl f R w11 ∧ leftOf g s.size w11 < leftOf g s.size wr by
                    rw [hM.out, HO12.out.went.2.left]
                    rcases HEW2.out with ⟨e, hn⟩ | ⟨e, h1, h2, -, -, h5⟩
                    · exact ⟨⟨k6, true, st2, _, _, _, _, hk6, HO12.out, HLEN.out, fun e' => Bool.noConfusion (e.symm.trans e'), fun _ => hn⟩, by rw [if_pos e, if_neg (by simp)]; omega⟩
                    · obtain ⟨F', h6, h7⟩ := h5 HT5.out HT6.out
                      have h8 : (sfx s k6).length ≤ (sfx s k4).length := by
                        rw [HS6.out, HSK.out]
                        have := tailP_len 44 (skipB bl (sfx s k4))
                        have := skipB_len bl (sfx s k4)
                        omega
                      rw [sfx_length, sfx_length] at h1 h8
                      exact ⟨⟨k6, true, st2, _, _, _, _, hk6, HO12.out, HLEN.out, fun _ => ⟨by omega, F', by rw [HS6.out, HSK.out]; exact h6, by rw [HS6.out, HSK.out]; exact h7⟩, fun e' => Bool.noConfusion (e.symm.trans e')⟩, by rw [if_neg (fun h => Bool.noConfusion (e.symm.trans h)), if_neg (by simp)]; omega⟩)
                  clear HO12
                  go_wp2_with fail
                  go_roundw
                  case rel => exact Lib.hid HNX.out.1
                  case measure => exact HNX.out.2
              · have HT5 := Lib.hid ht5
                clear ht5
                obtain ⟨o0, o1, o2, o3, o4⟩ := five_cells HO11.out.bG
                obtain ⟨z0, z1, z2, z3, z4⟩ := five_cells (show BlockIs w10 w.heap.size 25 #[.int .i64 0, .int .i64 0, .string ⟨#[]⟩, .slice none 0 0, .slice none 0 0] from HO11.out.b0)
                have x0 := HO11.out.b0.frozen 0
                have x1 := HO11.out.b0.frozen 1
                have x2 := HO11.out.b0.frozen 2
                have x3 := HO11.out.b0.frozen 3
                have x4 := HO11.out.b0.frozen 4
                have HF := Lib.hid (HO11.out.done hg)
                clear HO11
                go_wp2_with fail
                refine bodyPost_ret (v := cellsOf (V.mk 5 0 ⟨#[]⟩ st2.2 st2.1) A2 c2 K2 q2) (by simp [results, Tryd.results90, go_sem, cellsOf, V.kind, V.int, V.text, V.items, V.keys, z0, z1, z2, z3, z4]) rfl ?_
                rw [HR.out]
                rcases HEW2.out with ⟨e, hn⟩ | ⟨e, h1, h2, h3, -, -⟩
                · rw [hn]
                  exact ⟨_, _, _, _, _, rfl, (HF.out _ _ _ _ _).1, k5, hk5, (HF.out _ _ _ _ _).2.as e⟩
                · rw [h3 HT5.out]
                  exact ⟨_, _, _, _, rfl, (HF.out _ _ _ _ _).1, k5, hk5, HS5.out, (HF.out _ _ _ _ _).2.as e⟩
      · have HRN := Lib.hid (HBD.out rfl)
        clear HG HBD
        obtain ⟨o0, o1, o2, o3, o4⟩ := five_cells HLS.out.bG
        obtain ⟨z0, z1, z2, z3, z4⟩ := five_cells (show BlockIs wr w.heap.size 25 #[.int .i64 0, .int .i64 0, .string ⟨#[]⟩, .slice none 0 0, .slice none 0 0] from HLS.out.b0)
        have x0 := HLS.out.b0.frozen 0
        have x1 := HLS.out.b0.frozen 1
        have x2 := HLS.out.b0.frozen 2
        have x3 := HLS.out.b0.frozen 3
        have x4 := HLS.out.b0.frozen 4
        have HF := Lib.hid (HLS.out.done hg)
        clear HLS
        go_wp2_with fail
        refine bodyPost_ret (v := cellsOf (V.mk 5 0 ⟨#[]⟩ st.2 st.1) A c K d) (by simp [results, Tryd.results90, go_sem, cellsOf, V.kind, V.int, V.text, V.items, V.keys, z0, z1, z2, z3, z4]) rfl ?_
        rw [HR.out, HRN.out]
        exact ⟨_, _, _, _, _, rfl, (HF.out _ _ _ _ _).1, j, hj, (HF.out _ _ _ _ _).2⟩
  · obtain ⟨o0, o1, o2, o3, o4⟩ := five_cells HL1.out.bG
    obtain ⟨z0, z1, z2, z3, z4⟩ := five_cells (show BlockIs w4 w.heap.size 25 #[.int .i64 0, .int .i64 0, .string ⟨#[]⟩, .slice none 0 0, .slice none 0 0] from HL1.out.b0)
    have x0 := HL1.out.b0.frozen 0
    have x1 := HL1.out.b0.frozen 1
    have x2 := HL1.out.b0.frozen 2
    have x3 := HL1.out.b0.frozen 3
    have x4 := HL1.out.b0.frozen 4
    have HF := Lib.hid (HL1.out.done hg)
    clear HL1
    go_wp2_with fail
    refine bodyPost_ret (v := cellsOf (V.mk 5 0 ⟨#[]⟩ (([], []) : List ByteArray × List V).2 (([], []) : List ByteArray × List V).1) none 0 none 0) (by simp [results, Tryd.results90, go_sem, cellsOf, V.kind, V.int, V.text, V.items, V.keys, z0, z1, z2, z3, z4]) rfl ?_
    rw [HRR.out]
    cases bd0
    · simp only [Bool.false_eq_true, if_false]
      rw [objectR, if_pos ht]
      exact ⟨none, 0, none, 0, rfl, (HF.out _ _ _ _ _).1, k1, hk1, HS1.out, (HF.out _ _ _ _ _).2⟩
    · exact ⟨_, none, 0, none, 0, rfl, (HF.out _ _ _ _ _).1, k1, hk1, (HF.out _ _ _ _ _).2⟩
end Go.Proofs.YtcbcfcokfjfffaaDoor
