/- A whole value, as the specification reads it, walked. -/
import Derived.Test.YthlmnhelmhnpfaaGreatDoorTb
import Derived.Test.YthlmnhelmhnpfaaGreatDoorTc
import Derived.Test.YthlmnhelmhnpfaaGreatDoorYe
namespace Go.Proofs.YthlmnhelmhnpfaaGreatDoor
open Go.RowKit
set_option maxRecDepth 100000 in
set_option maxHeartbeats 16000000 in
theorem object_walkR (g : Nat) (s : ByteArray) (hs : s.size ≤ 1000000) (bl bd0 : Bool) (L : Nat) (hL6 : L ≤ 6) (f : List UInt8 → Option (V × List UInt8)) (heat : Eats f)
    (hval : ∀ (bd : Bool) (k : Nat) (W : World), RAt W g s k bl bd → k ≤ s.size → Calls Tryz.prog 96 #[.pointer (some ⟨g, 0, none⟩), .int .i64 L] W (RPost g s bl false W (if bd = true then none else f (sfx s k))))
    (k : Nat) (w : World) (h : RAt w g s k bl bd0) (hk : k ≤ s.size) :
    Calls Tryz.prog 128 #[.pointer (some ⟨g, 0, none⟩), .int .i64 ((L : Int) + 1)] w (RPost g s bl false w (if bd0 = true then none else objectR f bl (sfx s k))) := by
  have hg := h.lt
  have HV := Lib.hid (fun bd k W hW hk => value_form g s bl bd L f k W (hval bd k W hW hk))
  have HE := Lib.hid heat
  have HP := Lib.hid h
  obtain ⟨RR, hRR⟩ : ∃ RR, RR = if bd0 = true then none else objectR f bl (sfx s k) := ⟨_, rfl⟩
  rw [← hRR]
  have HRR := Lib.hid hRR
  clear hval heat h hRR
  go_enter Tryz.func128, Tryz.ntmps128
  go_wp2_with fail
  refine (refObject_any none none 0 0 0 0 _).mono ?_
  rintro e w2 ⟨rfl, h2⟩
  have hz2 : w.heap.size + 1 ≤ w2.heap.size := by have := h2.size; simpa using this
  obtain ⟨W0, hW0⟩ : ∃ W0, W0 = w2.alloc (.cells #[.int .i64 5, .int .i64 0, .string ⟨#[]⟩, .slice none 0 0, .slice none 0 0] 38) := ⟨_, rfl⟩
  have HL0 := Lib.hid (show OS w w2.heap.size g s bl k bd0 ([], []) none 0 none 0 W0 by
    rw [hW0]
    exact ⟨(((RWent.refl HP.out).alloc _).below h2).alloc _, hz2, ((BlockIs.new w _ _).below h2 (by simp)).alloc _, BlockIs.new w2 _ _, by rw [LiesIn]; exact ⟨by decide, Nat.le_refl _, by simp [maxLen], ⟨Nat.le_refl _, by simp [maxLen], .inl rfl⟩, .inl rfl⟩⟩)
  clear h2 HP
  go_wp2_with fail
  rw [← hW0]
  refine (next_sign g s k bl bd0 125 125 rfl W0 HL0.out.went.2 hk hs).mono ?_
  rintro e w4 ⟨rfl, k1, hk1, hsk1, hW⟩
  have HL1 := Lib.hid (HL0.out.step hg hW)
  have HS1 := Lib.hid hsk1
  clear hW hsk1 HL0 hW0 W0
  cases ht : takesP 125 (skipB bl (sfx s k))
  · obtain ⟨R, hR⟩ : ∃ R, R = if bd0 = true then none else entriesR f bl ((sfx s k).length + 1) ([], []) (skipB bl (sfx s k)) := ⟨_, rfl⟩
    have HR := Lib.hid (show RR = R.map fun q => (V.mk 5 0 ⟨#[]⟩ q.1.2 q.1.1, q.2) by
      rw [HRR.out, hR]
      cases bd0
      · simp only [Bool.false_eq_true, if_false]
        rw [objectR, if_neg (by rw [ht]; simp)]
      · rfl)
    have H0 := Lib.hid (show OrAt w w2.heap.size g s bl f R w4 from ⟨k1, bd0, ([], []), _, _, _, _, hk1, HL1.out, rfl, fun e => ⟨Nat.zero_le _, (sfx s k).length + 1, by rw [HS1.out, tailP_not ht, hR, e]; simp, by rw [HS1.out, tailP_not ht]; have := skipB_len bl (sfx s k); omega⟩, fun e => by rw [hR, e]; rfl⟩)
    clear HL1 HS1 ht hR
    go_wp2_with fail
    go_loopw [] (fun wr => Hid (OrAt w w2.heap.size g s bl f R wr)) (fun wr => leftOf g s.size wr)
    case atStart => exact H0
    case round =>
      clear H0
      obtain ⟨j, bd, st, A, c, K, d, hj, hOS, hlen, hgood, hbad⟩ := hrel.out
      have HLS := Lib.hid hOS
      have HN := Lib.hid hlen
      have HG := Lib.hid hgood
      have HBD := Lib.hid hbad
      clear hOS hgood hbad hrel hlen
      obtain ⟨⟨c0, c1, c2, c3⟩, f1, f3⟩ := HLS.out.went.2.cells
      have hM := Lib.hid HLS.out.went.2.left
      cases bd
      · obtain ⟨hst, F, hF, hFl⟩ := HG.out rfl
        have HF0 := Lib.hid (And.intro hF hFl)
        clear HBD HG hF hFl
        go_wp2_with fail
        refine (next_sign g s j bl false 34 34 rfl wr HLS.out.went.2 hj hs).mono ?_
        rintro e w3 ⟨rfl, k1, hk1, hsk1, hW1⟩
        have HO1 := Lib.hid (HLS.out.step hg hW1)
        have HS1 := Lib.hid hsk1
        clear hW1 hsk1 c0 c1 c2 c3 f1 f3 HLS
        cases ht1 : takesP 34 (skipB bl (sfx s j))
        · have HRN := Lib.hid (er_quote HF0.out.1 HF0.out.2 ht1)
          clear ht1
          have HQ := Lib.hid (HO1.out.step hg (RWent.refl HO1.out.went.2).wrong)
          obtain ⟨⟨c0, c1, c2, c3⟩, f1, f3⟩ := HO1.out.went.2.cells
          have gz : g < w3.heap.size := HO1.out.went.2.lt
          clear HO1
          go_upto_region 18 with (fail)
          obtain ⟨W9, hW9⟩ : ∃ W9, W9 = w3.setCell ⟨g, 3, none⟩ (.bool true) := ⟨_, rfl⟩
          rw [← hW9] at HQ ⊢
          clear hW9 c0 c1 c2 c3 f1 f3 gz
          obtain ⟨o0, o1, o2, o3, o4⟩ := five_cells HQ.out.bG
          obtain ⟨z0, z1, z2, z3, z4⟩ := five_cells (show BlockIs W9 w.heap.size 38 #[.int .i64 0, .int .i64 0, .string ⟨#[]⟩, .slice none 0 0, .slice none 0 0] from HQ.out.b0)
          have x0 := HQ.out.b0.frozen 0
          have x1 := HQ.out.b0.frozen 1
          have x2 := HQ.out.b0.frozen 2
          have x3 := HQ.out.b0.frozen 3
          have x4 := HQ.out.b0.frozen 4
          have HF := Lib.hid (HQ.out.done hg)
          clear HQ
          go_wp2_with fail
          refine bodyPost_ret (v := cellsOf (V.mk 5 0 ⟨#[]⟩ st.2 st.1) A c K d) (by simp [results, Tryz.results128, go_sem, cellsOf, V.kind, V.int, V.text, V.items, V.keys, z0, z1, z2, z3, z4]) rfl ?_
          rw [HR.out, HRN.out]
          exact ⟨_, _, _, _, _, rfl, (HF.out _ _ _ _ _).1, k1, by assumption, (HF.out _ _ _ _ _).2⟩
        · have HT1 := Lib.hid ht1
          clear ht1
          go_wp2_with fail
          refine (str_form g s hs bl false k1 w3 HO1.out.went.2 hk1).mono ?_
          rintro e w4 ⟨t, k2, bd2, rfl, htm, hk2, hW2, HT⟩
          have HO2 := Lib.hid (HO1.out.step hg hW2)
          clear HO1 hW2
          go_wp2_with fail
          refine (next_sign g s k2 bl bd2 58 58 rfl w4 HO2.out.went.2 hk2 hs).mono ?_
          rintro e w5 ⟨rfl, k3, hk3, hsk3, hW3⟩
          have HO3 := Lib.hid (HO2.out.step hg hW3)
          have HS3 := Lib.hid hsk3
          clear HO2 hW3 hsk3
          cases ht3 : takesP 58 (skipB bl (sfx s k2))
          · have HRN := Lib.hid (show R = none by
              rcases HT.out with ⟨_, hn⟩ | ⟨_, T, _, hn⟩
              · exact er_text HF0.out.1 HF0.out.2 HT1.out (by rw [← HS1.out]; exact hn)
              · exact er_colon HF0.out.1 HF0.out.2 HT1.out (by rw [← HS1.out]; exact hn) ht3)
            clear ht3
            have HQ := Lib.hid (HO3.out.step hg (RWent.refl HO3.out.went.2).wrong)
            obtain ⟨⟨c0, c1, c2, c3⟩, f1, f3⟩ := HO3.out.went.2.cells
            have gz : g < w5.heap.size := HO3.out.went.2.lt
            clear HO3
            go_upto_region 18 with (fail)
            obtain ⟨W9, hW9⟩ : ∃ W9, W9 = w5.setCell ⟨g, 3, none⟩ (.bool true) := ⟨_, rfl⟩
            rw [← hW9] at HQ ⊢
            clear hW9 c0 c1 c2 c3 f1 f3 gz
            obtain ⟨o0, o1, o2, o3, o4⟩ := five_cells HQ.out.bG
            obtain ⟨z0, z1, z2, z3, z4⟩ := five_cells (show BlockIs W9 w.heap.size 38 #[.int .i64 0, .int .i64 0, .string ⟨#[]⟩, .slice none 0 0, .slice none 0 0] from HQ.out.b0)
            have x0 := HQ.out.b0.frozen 0
            have x1 := HQ.out.b0.frozen 1
            have x2 := HQ.out.b0.frozen 2
            have x3 := HQ.out.b0.frozen 3
            have x4 := HQ.out.b0.frozen 4
            have HF := Lib.hid (HQ.out.done hg)
            clear HQ
            go_wp2_with fail
            refine bodyPost_ret (v := cellsOf (V.mk 5 0 ⟨#[]⟩ st.2 st.1) A c K d) (by simp [results, Tryz.results128, go_sem, cellsOf, V.kind, V.int, V.text, V.items, V.keys, z0, z1, z2, z3, z4]) rfl ?_
            rw [HR.out, HRN.out]
            exact ⟨_, _, _, _, _, rfl, (HF.out _ _ _ _ _).1, k3, by assumption, (HF.out _ _ _ _ _).2⟩
          · have HT3 := Lib.hid ht3
            clear ht3
            go_wp2_with fail
            refine (HV.out bd2 k3 w5 HO3.out.went.2 hk3).mono ?_
            rintro e w6 ⟨x, A1, c1, K1, q1, k4, bd4, rfl, hx, hk4, hW4, HX⟩
            have HO4 := Lib.hid (HO3.out.step hg hW4)
            have HX4 := Lib.hid (XIn.new hx HO3.out.bG.lt)
            have HEW := Lib.hid (entry_ways HF0.out.1 HF0.out.2 HT1.out HS1.out HT3.out HS3.out (HT.out) HX.out HE.out HN.out)
            have hstl : st.2.length ≤ 1000000 := by omega
            have hstk : st.1.length ≤ 1000000 := by rw [HN.out]; exact hstl
            clear HO3 hW4 hx HT HX HT1 HT3 HS1 HS3 HF0
            obtain ⟨o0, o1, o2, o3, o4⟩ := five_cells HO4.out.bG
            have gl := HO4.out.bG.lt
            unfold cellsOf
            go_wp2_with fail
            obtain ⟨W7, hW7⟩ : ∃ W7, W7 = w6.alloc (.cells #[.int .i64 x.kind, .int .i64 x.int, .string x.text, .slice A1 x.items.length c1, .slice K1 x.keys.length q1] 38) := ⟨_, rfl⟩
            have hRW7 : RWent g s k4 bl bd4 w6 W7 := by rw [hW7]; exact (RWent.refl HO4.out.went.2).alloc _
            have HO5 := Lib.hid (HO4.out.step hg hRW7)
            have HX5 := Lib.hid (XIn.step HX4.out (show g ≤ w2.heap.size by omega) hRW7.1)
            have HY5 := Lib.hid (show BlockIs W7 w6.heap.size 38 #[.int .i64 x.kind, .int .i64 x.int, .string x.text, .slice A1 x.items.length c1, .slice K1 x.keys.length q1] by rw [hW7]; exact BlockIs.new _ _ _)
            have hgy : g < w6.heap.size := by have := HO4.out.went.2.lt; omega
            rw [← hW7]
            clear hW7 hRW7 o0 o1 o2 o3 o4 gl HO4 HX4
            refine (has_any st.1 K d t W7 hstk HO5.out.lies.keys_cells).mono ?_
            rintro e w8 ⟨rfl, nq, rfl⟩
            have HO6 := Lib.hid (HO5.out.step hg ((RWent.refl HO5.out.went.2).drewN nq))
            have HX6 := Lib.hid (XIn.step HX5.out (show g ≤ w2.heap.size by omega) ((RWent.refl HO5.out.went.2).drewN nq).1)
            have HY6 := Lib.hid (show BlockIs (W7.drewN nq) w6.heap.size 38 #[.int .i64 x.kind, .int .i64 x.int, .string x.text, .slice A1 x.items.length c1, .slice K1 x.keys.length q1] from HY5.out)
            clear HO5 HX5 HY5
            obtain ⟨st2, hst2⟩ : ∃ st2, st2 = withK t x false st.1 st.2 := ⟨_, rfl⟩
            have HST := Lib.hid hst2
            have HLEN := Lib.hid (show st2.1.length = st2.2.length by rw [hst2]; exact withK_len _ _ _ _ _ HN.out)
            rw [← hst2] at HEW
            clear hst2
            cases hh : hasK t st.1
            · have HEW2 := Lib.hid (show EntryWays f bl bd4 st st2 (sfx s j) (sfx s k4) R by have := HEW.out; rwa [hh, Bool.or_false] at this)
              clear hh HEW
              obtain ⟨W8, hW8⟩ : ∃ W8, W8 = W7.drewN nq := ⟨_, rfl⟩
              rw [← hW8] at HO6 HX6 HY6 ⊢
              clear hW8
              obtain ⟨o0, o1, o2, o3, o4⟩ := five_cells HO6.out.bG
              obtain ⟨y0, y1, y2, y3, y4⟩ := five_cells HY6.out
              have gl := HO6.out.bG.lt
              have yl : w6.heap.size < W8.heap.size := BlockIs.lt HY6.out
              have HIN := Lib.hid (HX6.out)
              go_wp2_with fail
              refine (with_walk (fun b => w2.heap.size + 1 ≤ b ∧ b < W8.heap.size) 5 0 ⟨#[]⟩ st.2 st.1 x t W8 (fun b hb => hb.2) A K c d A1 K1 c1 q1 HO6.out.lies HIN.out HN.out hstl htm).mono ?_
              rintro e w9 ⟨A2, c2, K2, q2, he, hl9, h9⟩
              rw [← HST.out] at hl9
              replace he : e = .returned (.agg #[.int .i64 5, .int .i64 0, .string ⟨#[]⟩, .slice A2 st2.2.length c2, .slice K2 st2.1.length q2]) := by rw [HST.out]; exact he
              subst he
              have HO9 := Lib.hid (HO6.out.entry (st' := st2) hg h9 hl9)
              have hb9 := HO6.out.bG.below h9 HO6.out.bG.lt
              clear o0 o1 o2 o3 o4 y0 y1 y2 y3 y4 gl yl HIN hl9
              obtain ⟨o0, o1, o2, o3, o4⟩ := five_cells hb9
              have x0 := hb9.frozen 0
              have x1 := hb9.frozen 1
              have x2 := hb9.frozen 2
              have x3 := hb9.frozen 3
              have x4 := hb9.frozen 4
              have gl := hb9.lt
              clear hb9 h9 HO6 HX6 HY6
              go_upto_region 14 with (fail)
              obtain ⟨W9, hW9⟩ : ∃ W9, W9 = ((((w9.setCell ⟨w2.heap.size, 0, none⟩ (.int .i64 5)).setCell ⟨w2.heap.size, 1, none⟩ (.int .i64 0)).setCell ⟨w2.heap.size, 2, none⟩ (.string ⟨#[]⟩)).setCell ⟨w2.heap.size, 3, none⟩ (.slice A2 st2.2.length c2)).setCell ⟨w2.heap.size, 4, none⟩ (.slice K2 st2.1.length q2) := ⟨_, rfl⟩
              have HO10 := Lib.hid (show OS w w2.heap.size g s bl k4 bd4 st2 A2 c2 K2 q2 W9 by rw [hW9]; exact HO9.out)
              rw [← hW9]
              clear hW9 HO9 o0 o1 o2 o3 o4 x0 x1 x2 x3 x4 gl
              go_wp2_with fail
              refine (next_sign g s k4 bl bd4 125 125 rfl W9 HO10.out.went.2 hk4 hs).mono ?_
              rintro e w10 ⟨rfl, k5, hk5, hsk5, hW5⟩
              have HO11 := Lib.hid (HO10.out.step hg hW5)
              have HS5 := Lib.hid hsk5
              clear hsk5 hW5 HO10
              cases ht5 : takesP 125 (skipB bl (sfx s k4))
              · have HT5 := Lib.hid ht5
                have HSK := Lib.hid (show skipB bl (sfx s k5) = skipB bl (sfx s k4) by rw [HS5.out, tailP_not ht5, skipB_skip])
                clear ht5
                go_wp2_with fail
                refine (next_sign g s k5 bl bd4 44 44 rfl w10 HO11.out.went.2 hk5 hs).mono ?_
                rintro e w11 ⟨rfl, k6, hk6, hsk6, hW6⟩
                have HO12 := Lib.hid (HO11.out.step hg hW6)
                have HS6 := Lib.hid hsk6
                clear hsk6 hW6 HO11
                cases ht6 : takesP 44 (skipB bl (sfx s k5))
                · have HRN := Lib.hid (show R = none by
                    rcases HEW2.out with ⟨-, hn⟩ | ⟨-, -, -, -, h4, -⟩
                    · exact hn
                    · exact h4 HT5.out (by rw [← HSK.out]; exact ht6))
                  have HO13 := Lib.hid (HO12.out.step hg (RWent.refl HO12.out.went.2).wrong)
                  obtain ⟨⟨c0, c1', c2', c3⟩, f1, f3⟩ := HO12.out.went.2.cells
                  have gz : g < w11.heap.size := HO12.out.went.2.lt
                  clear HO12 ht6
                  go_wp2_with fail
                  go_roundw
                  case rel => exact Lib.hid ⟨k6, true, st2, _, _, _, _, hk6, HO13.out, HLEN.out, fun e => (by cases e), fun _ => HRN.out⟩
                  case measure => rw [HO13.out.went.2.left, hM.out]; simp; omega
                · have HT6 := Lib.hid (show takesP 44 (skipB bl (sfx s k4)) = true by rw [← HSK.out]; exact ht6)
                  clear ht6
                  have HNX := Lib.hid (show OrAt w w2.heap.size g s bl f R w11 ∧ leftOf g s.size w11 < leftOf g s.size wr by
                    rw [hM.out, HO12.out.went.2.left]
                    rcases HEW2.out with ⟨e, hn⟩ | ⟨e, h1, h2, -, -, h5⟩
                    · exact ⟨⟨k6, bd4, st2, _, _, _, _, hk6, HO12.out, HLEN.out, fun e' => Bool.noConfusion (e.symm.trans e'), fun _ => hn⟩, by rw [if_pos e, if_neg (by simp)]; omega⟩
                    · obtain ⟨F', h6, h7⟩ := h5 HT5.out HT6.out
                      have h8 : (sfx s k6).length ≤ (sfx s k4).length := by
                        rw [HS6.out, HSK.out]
                        have := tailP_len 44 (skipB bl (sfx s k4))
                        have := skipB_len bl (sfx s k4)
                        omega
                      rw [sfx_length, sfx_length] at h1 h8
                      exact ⟨⟨k6, bd4, st2, _, _, _, _, hk6, HO12.out, HLEN.out, fun _ => ⟨by omega, F', by rw [HS6.out, HSK.out]; exact h6, by rw [HS6.out, HSK.out]; exact h7⟩, fun e' => Bool.noConfusion (e.symm.trans e')⟩, by rw [if_neg (fun h => Bool.noConfusion (e.symm.trans h)), if_neg (by simp)]; omega⟩)
                  clear HO12
                  go_wp2_with fail
                  go_roundw
                  case rel => exact Lib.hid HNX.out.1
                  case measure => exact HNX.out.2
              · have HT5 := Lib.hid ht5
                clear ht5
                obtain ⟨o0, o1, o2, o3, o4⟩ := five_cells HO11.out.bG
                obtain ⟨z0, z1, z2, z3, z4⟩ := five_cells (show BlockIs w10 w.heap.size 38 #[.int .i64 0, .int .i64 0, .string ⟨#[]⟩, .slice none 0 0, .slice none 0 0] from HO11.out.b0)
                have x0 := HO11.out.b0.frozen 0
                have x1 := HO11.out.b0.frozen 1
                have x2 := HO11.out.b0.frozen 2
                have x3 := HO11.out.b0.frozen 3
                have x4 := HO11.out.b0.frozen 4
                have HF := Lib.hid (HO11.out.done hg)
                clear HO11
                go_wp2_with fail
                refine bodyPost_ret (v := cellsOf (V.mk 5 0 ⟨#[]⟩ st2.2 st2.1) A2 c2 K2 q2) (by simp [results, Tryz.results128, go_sem, cellsOf, V.kind, V.int, V.text, V.items, V.keys, z0, z1, z2, z3, z4]) rfl ?_
                rw [HR.out]
                rcases HEW2.out with ⟨e, hn⟩ | ⟨e, h1, h2, h3, -, -⟩
                · rw [hn]
                  exact ⟨_, _, _, _, _, rfl, (HF.out _ _ _ _ _).1, k5, hk5, (HF.out _ _ _ _ _).2.as e⟩
                · rw [h3 HT5.out]
                  exact ⟨_, _, _, _, rfl, (HF.out _ _ _ _ _).1, k5, hk5, HS5.out, (HF.out _ _ _ _ _).2.as e⟩
            · have HEW2 := Lib.hid (show EntryWays f bl true st st2 (sfx s j) (sfx s k4) R by have := HEW.out; rwa [hh, Bool.or_true] at this)
              clear hh HEW
              obtain ⟨⟨c0, c1', c2, c3⟩, f1, f3⟩ := HO6.out.went.2.cells
              have gz : g < (W7.drewN nq).heap.size := HO6.out.went.2.lt
              have hW := (RWent.refl HO6.out.went.2).wrong
              have HO7 := Lib.hid (HO6.out.step hg hW)
              have HX7 := Lib.hid (XIn.step HX6.out (show g ≤ w2.heap.size by omega) hW.1)
              have HY7 := Lib.hid (BlockIs.grown HY6.out hW.1 (by simp; omega))
              clear hW HO6 HX6 HY6
              go_upto_region 13 with (fail)
              obtain ⟨W8, hW8⟩ : ∃ W8, W8 = (W7.drewN nq).setCell ⟨g, 3, none⟩ (.bool true) := ⟨_, rfl⟩
              rw [← hW8] at HO7 HX7 HY7 ⊢
              clear hW8 c0 c1' c2 c3 f1 f3 gz
              have HO6 := HO7
              have HX6 := HX7
              have HY6 := HY7
              clear HO7 HX7 HY7
              obtain ⟨o0, o1, o2, o3, o4⟩ := five_cells HO6.out.bG
              obtain ⟨y0, y1, y2, y3, y4⟩ := five_cells HY6.out
              have gl := HO6.out.bG.lt
              have yl : w6.heap.size < W8.heap.size := BlockIs.lt HY6.out
              have HIN := Lib.hid (HX6.out)
              go_wp2_with fail
              refine (with_walk (fun b => w2.heap.size + 1 ≤ b ∧ b < W8.heap.size) 5 0 ⟨#[]⟩ st.2 st.1 x t W8 (fun b hb => hb.2) A K c d A1 K1 c1 q1 HO6.out.lies HIN.out HN.out hstl htm).mono ?_
              rintro e w9 ⟨A2, c2, K2, q2, he, hl9, h9⟩
              rw [← HST.out] at hl9
              replace he : e = .returned (.agg #[.int .i64 5, .int .i64 0, .string ⟨#[]⟩, .slice A2 st2.2.length c2, .slice K2 st2.1.length q2]) := by rw [HST.out]; exact he
              subst he
              have HO9 := Lib.hid (HO6.out.entry (st' := st2) hg h9 hl9)
              have hb9 := HO6.out.bG.below h9 HO6.out.bG.lt
              clear o0 o1 o2 o3 o4 y0 y1 y2 y3 y4 gl yl HIN hl9
              obtain ⟨o0, o1, o2, o3, o4⟩ := five_cells hb9
              have x0 := hb9.frozen 0
              have x1 := hb9.frozen 1
              have x2 := hb9.frozen 2
              have x3 := hb9.frozen 3
              have x4 := hb9.frozen 4
              have gl := hb9.lt
              clear hb9 h9 HO6 HX6 HY6
              go_upto_region 14 with (fail)
              obtain ⟨W9, hW9⟩ : ∃ W9, W9 = ((((w9.setCell ⟨w2.heap.size, 0, none⟩ (.int .i64 5)).setCell ⟨w2.heap.size, 1, none⟩ (.int .i64 0)).setCell ⟨w2.heap.size, 2, none⟩ (.string ⟨#[]⟩)).setCell ⟨w2.heap.size, 3, none⟩ (.slice A2 st2.2.length c2)).setCell ⟨w2.heap.size, 4, none⟩ (.slice K2 st2.1.length q2) := ⟨_, rfl⟩
              have HO10 := Lib.hid (show OS w w2.heap.size g s bl k4 true st2 A2 c2 K2 q2 W9 by rw [hW9]; exact HO9.out)
              rw [← hW9]
              clear hW9 HO9 o0 o1 o2 o3 o4 x0 x1 x2 x3 x4 gl
              go_wp2_with fail
              refine (next_sign g s k4 bl true 125 125 rfl W9 HO10.out.went.2 hk4 hs).mono ?_
              rintro e w10 ⟨rfl, k5, hk5, hsk5, hW5⟩
              have HO11 := Lib.hid (HO10.out.step hg hW5)
              have HS5 := Lib.hid hsk5
              clear hsk5 hW5 HO10
              cases ht5 : takesP 125 (skipB bl (sfx s k4))
              · have HT5 := Lib.hid ht5
                have HSK := Lib.hid (show skipB bl (sfx s k5) = skipB bl (sfx s k4) by rw [HS5.out, tailP_not ht5, skipB_skip])
                clear ht5
                go_wp2_with fail
                refine (next_sign g s k5 bl true 44 44 rfl w10 HO11.out.went.2 hk5 hs).mono ?_
                rintro e w11 ⟨rfl, k6, hk6, hsk6, hW6⟩
                have HO12 := Lib.hid (HO11.out.step hg hW6)
                have HS6 := Lib.hid hsk6
                clear hsk6 hW6 HO11
                cases ht6 : takesP 44 (skipB bl (sfx s k5))
                · have HRN := Lib.hid (show R = none by
                    rcases HEW2.out with ⟨-, hn⟩ | ⟨-, -, -, -, h4, -⟩
                    · exact hn
                    · exact h4 HT5.out (by rw [← HSK.out]; exact ht6))
                  have HO13 := Lib.hid (HO12.out.step hg (RWent.refl HO12.out.went.2).wrong)
                  obtain ⟨⟨c0, c1', c2', c3⟩, f1, f3⟩ := HO12.out.went.2.cells
                  have gz : g < w11.heap.size := HO12.out.went.2.lt
                  clear HO12 ht6
                  go_wp2_with fail
                  go_roundw
                  case rel => exact Lib.hid ⟨k6, true, st2, _, _, _, _, hk6, HO13.out, HLEN.out, fun e => (by cases e), fun _ => HRN.out⟩
                  case measure => rw [HO13.out.went.2.left, hM.out]; simp; omega
                · have HT6 := Lib.hid (show takesP 44 (skipB bl (sfx s k4)) = true by rw [← HSK.out]; exact ht6)
                  clear ht6
                  have HNX := Lib.hid (show OrAt w w2.heap.size g s bl f R w11 ∧ leftOf g s.size w11 < leftOf g s.size wr by
                    rw [hM.out, HO12.out.went.2.left]
                    rcases HEW2.out with ⟨e, hn⟩ | ⟨e, h1, h2, -, -, h5⟩
                    · exact ⟨⟨k6, true, st2, _, _, _, _, hk6, HO12.out, HLEN.out, fun e' => Bool.noConfusion (e.symm.trans e'), fun _ => hn⟩, by rw [if_pos e, if_neg (by simp)]; omega⟩
                    · obtain ⟨F', h6, h7⟩ := h5 HT5.out HT6.out
                      have h8 : (sfx s k6).length ≤ (sfx s k4).length := by
                        rw [HS6.out, HSK.out]
                        have := tailP_len 44 (skipB bl (sfx s k4))
                        have := skipB_len bl (sfx s k4)
                        omega
                      rw [sfx_length, sfx_length] at h1 h8
                      exact ⟨⟨k6, true, st2, _, _, _, _, hk6, HO12.out, HLEN.out, fun _ => ⟨by omega, F', by rw [HS6.out, HSK.out]; exact h6, by rw [HS6.out, HSK.out]; exact h7⟩, fun e' => Bool.noConfusion (e.symm.trans e')⟩, by rw [if_neg (fun h => Bool.noConfusion (e.symm.trans h)), if_neg (by simp)]; omega⟩)
                  clear HO12
                  go_wp2_with fail
                  go_roundw
                  case rel => exact Lib.hid HNX.out.1
                  case measure => exact HNX.out.2
              · have HT5 := Lib.hid ht5
                clear ht5
                obtain ⟨o0, o1, o2, o3, o4⟩ := five_cells HO11.out.bG
                obtain ⟨z0, z1, z2, z3, z4⟩ := five_cells (show BlockIs w10 w.heap.size 38 #[.int .i64 0, .int .i64 0, .string ⟨#[]⟩, .slice none 0 0, .slice none 0 0] from HO11.out.b0)
                have x0 := HO11.out.b0.frozen 0
                have x1 := HO11.out.b0.frozen 1
                have x2 := HO11.out.b0.frozen 2
                have x3 := HO11.out.b0.frozen 3
                have x4 := HO11.out.b0.frozen 4
                have HF := Lib.hid (HO11.out.done hg)
                clear HO11
                go_wp2_with fail
                refine bodyPost_ret (v := cellsOf (V.mk 5 0 ⟨#[]⟩ st2.2 st2.1) A2 c2 K2 q2) (by simp [results, Tryz.results128, go_sem, cellsOf, V.kind, V.int, V.text, V.items, V.keys, z0, z1, z2, z3, z4]) rfl ?_
                rw [HR.out]
                rcases HEW2.out with ⟨e, hn⟩ | ⟨e, h1, h2, h3, -, -⟩
                · rw [hn]
                  exact ⟨_, _, _, _, _, rfl, (HF.out _ _ _ _ _).1, k5, hk5, (HF.out _ _ _ _ _).2.as e⟩
                · rw [h3 HT5.out]
                  exact ⟨_, _, _, _, rfl, (HF.out _ _ _ _ _).1, k5, hk5, HS5.out, (HF.out _ _ _ _ _).2.as e⟩
      · have HRN := Lib.hid (HBD.out rfl)
        clear HG HBD
        obtain ⟨o0, o1, o2, o3, o4⟩ := five_cells HLS.out.bG
        obtain ⟨z0, z1, z2, z3, z4⟩ := five_cells (show BlockIs wr w.heap.size 38 #[.int .i64 0, .int .i64 0, .string ⟨#[]⟩, .slice none 0 0, .slice none 0 0] from HLS.out.b0)
        have x0 := HLS.out.b0.frozen 0
        have x1 := HLS.out.b0.frozen 1
        have x2 := HLS.out.b0.frozen 2
        have x3 := HLS.out.b0.frozen 3
        have x4 := HLS.out.b0.frozen 4
        have HF := Lib.hid (HLS.out.done hg)
        clear HLS
        go_wp2_with fail
        refine bodyPost_ret (v := cellsOf (V.mk 5 0 ⟨#[]⟩ st.2 st.1) A c K d) (by simp [results, Tryz.results128, go_sem, cellsOf, V.kind, V.int, V.text, V.items, V.keys, z0, z1, z2, z3, z4]) rfl ?_
        rw [HR.out, HRN.out]
        exact ⟨_, _, _, _, _, rfl, (HF.out _ _ _ _ _).1, j, hj, (HF.out _ _ _ _ _).2⟩
  · obtain ⟨o0, o1, o2, o3, o4⟩ := five_cells HL1.out.bG
    obtain ⟨z0, z1, z2, z3, z4⟩ := five_cells (show BlockIs w4 w.heap.size 38 #[.int .i64 0, .int .i64 0, .string ⟨#[]⟩, .slice none 0 0, .slice none 0 0] from HL1.out.b0)
    have x0 := HL1.out.b0.frozen 0
    have x1 := HL1.out.b0.frozen 1
    have x2 := HL1.out.b0.frozen 2
    have x3 := HL1.out.b0.frozen 3
    have x4 := HL1.out.b0.frozen 4
    have HF := Lib.hid (HL1.out.done hg)
    clear HL1
    go_wp2_with fail
    refine bodyPost_ret (v := cellsOf (V.mk 5 0 ⟨#[]⟩ (([], []) : List ByteArray × List V).2 (([], []) : List ByteArray × List V).1) none 0 none 0) (by simp [results, Tryz.results128, go_sem, cellsOf, V.kind, V.int, V.text, V.items, V.keys, z0, z1, z2, z3, z4]) rfl ?_
    rw [HRR.out]
    cases bd0
    · simp only [Bool.false_eq_true, if_false]
      rw [objectR, if_pos ht]
      exact ⟨none, 0, none, 0, rfl, (HF.out _ _ _ _ _).1, k1, hk1, HS1.out, (HF.out _ _ _ _ _).2⟩
    · exact ⟨_, none, 0, none, 0, rfl, (HF.out _ _ _ _ _).1, k1, hk1, (HF.out _ _ _ _ _).2⟩
open Go.RowKit
section
variable {g k' : Nat} {s : ByteArray} {bl bd b : Bool} {w w1 w' : World} {R : Option (V × List UInt8)} {e : Ending}
theorem RPost.back (h : RPost g s bl b w1 R e w') (hw : RWent g s k' bl bd w w1) : RPost g s bl b w R e w' := by
  have hs := hw.1.size
  have hk : ∀ {x A c K d}, LiesIn (Fresh w1 w') w' x A c K d → LiesIn (Fresh w w') w' x A c K d := fun h => LiesIn.keep (fun _ _ _ => rfl) (fun b hb => ⟨Nat.le_trans hs hb.1, hb.2⟩) _ h
  rcases R with _ | ⟨x, l⟩
  · obtain ⟨x, A, c, K, q, he, hx, k, hk', hW⟩ := h
    exact ⟨x, A, c, K, q, he, hk hx, k, hk', hw.trans hW⟩
  · obtain ⟨A, c, K, q, he, hx, k, hk', hl, hW⟩ := h
    exact ⟨A, c, K, q, he, hk hx, k, hk', hl, hw.trans hW⟩
theorem RPost.flag (h : RPost g s bl bd w R e w') : RPost g s bl false w (if bd = true then none else R) e w' := by
  cases bd
  · simpa using h
  · rcases R with _ | ⟨x, l⟩
    · exact h
    · obtain ⟨A, c, K, q, he, hx, k, hk', hl, hW⟩ := h
      exact ⟨x, A, c, K, q, he, hx, k, hk', hW⟩
theorem RPost.returned (h : RPost g s bl b w R e w') : ∃ x A c K q, e = .returned (cellsOf x A c K q) := by
  rcases R with _ | ⟨x, l⟩
  · obtain ⟨x, A, c, K, q, he, -⟩ := h
    exact ⟨x, A, c, K, q, he⟩
  · obtain ⟨A, c, K, q, he, -⟩ := h
    exact ⟨x, A, c, K, q, he⟩
theorem RPost.went (h : RPost g s bl b w R e w') : ∃ k b', RWent g s k bl b' w w' := by
  rcases R with _ | ⟨x, l⟩
  · obtain ⟨x, A, c, K, q, he, -, k, -, hW⟩ := h
    exact ⟨k, true, hW⟩
  · obtain ⟨A, c, K, q, he, -, k, -, -, hW⟩ := h
    exact ⟨k, b, hW⟩
theorem leaf_in (P : Nat → Prop) (w : World) (k i : Int) {t : ByteArray} (ht : t.size ≤ maxLen) : LiesIn P w (leaf k i t) none 0 none 0 := by
  rw [leaf, LiesIn]
  exact ⟨ht, Nat.le_refl _, Nat.zero_le _, ⟨Nat.le_refl _, Nat.zero_le _, .inl rfl⟩, .inl rfl⟩
theorem RPost.leaf {k i : Int} {t : ByteArray} (h : RWent g s k' bl bd w w') (hk : k' ≤ s.size) (ht : t.size ≤ maxLen) (hR : R = some (leaf k i t, sfx s k')) :
    RPost g s bl false w (if bd = true then none else R) (.returned (cellsOf (Go.Proofs.YthlmnhelmhnpfaaGreatDoor.leaf k i t) none 0 none 0)) w' := by
  subst hR
  exact RPost.flag (bd := bd) ⟨none, 0, none, 0, rfl, leaf_in _ _ _ _ ht, k', hk, rfl, h⟩
theorem RPost.wrong {k i : Int} {t : ByteArray} (h : RWent g s k' bl true w w') (hk : k' ≤ s.size) (ht : t.size ≤ maxLen) (hR : R = none) :
    RPost g s bl false w R (.returned (cellsOf (Go.Proofs.YthlmnhelmhnpfaaGreatDoor.leaf k i t) none 0 none 0)) w' := by
  subst hR
  exact ⟨_, none, 0, none, 0, rfl, leaf_in _ _ _ _ ht, k', hk, h⟩
end
theorem vw_step {g k k' : Nat} {s : ByteArray} {bl bd bd' : Bool} {w W W' : World} (h : RWent g s k bl bd w W ∧ BlockIs W w.heap.size 38 zeroF) (hg : g < w.heap.size) (hw : RWent g s k' bl bd' W W') : RWent g s k' bl bd' w W' ∧ BlockIs W' w.heap.size 38 zeroF :=
  ⟨h.1.trans hw, h.2.grown hw.1 (by simp; omega)⟩
theorem vw_below {g k : Nat} {s : ByteArray} {bl bd : Bool} {w W W' : World} (h : RWent g s k bl bd w W ∧ BlockIs W w.heap.size 38 zeroF) (hb : Below W.heap.size W W') : RWent g s k bl bd w W' ∧ BlockIs W' w.heap.size 38 zeroF :=
  ⟨h.1.below hb, h.2.below hb h.2.lt⟩
theorem RPost.ends {g k : Nat} {s : ByteArray} {bl bd b : Bool} {w W W' : World} {R : Option (V × List UInt8)} {e : Ending} (h : RPost g s bl b W R e W') (hw : RWent g s k bl bd w W) (hlt : w.heap.size < W.heap.size) (hg : g < w.heap.size) (u0 u1 u2 u3 u4 : Value) :
    RPost g s bl b w R e (put5 W' w.heap.size 0 u0 u1 u2 u3 u4) := by
  have hs := put5_size W' w.heap.size 0 u0 u1 u2 u3 u4
  have hk : ∀ {x A c K d}, LiesIn (Fresh W W') W' x A c K d → LiesIn (Fresh w (put5 W' w.heap.size 0 u0 u1 u2 u3 u4)) (put5 W' w.heap.size 0 u0 u1 u2 u3 u4) x A c K d := fun h =>
    LiesIn.keep (fun b o hb => World.cell?_of_block (put5_heap W' w.heap.size 0 u0 u1 u2 u3 u4 (by have := hb.1; show b ≠ w.heap.size; omega))) (fun b hb => ⟨by have := hb.1; omega, by rw [hs]; exact hb.2⟩) _ h
  have hR : ∀ {k b}, RWent g s k bl b W W' → RWent g s k bl b w (put5 W' w.heap.size 0 u0 u1 u2 u3 u4) := fun h =>
    (((((hw.trans h).set hg _ _ (by simp)).set hg _ _ (by simp)).set hg _ _ (by simp)).set hg _ _ (by simp)).set hg _ _ (by simp)
  rcases R with _ | ⟨x, l⟩
  · obtain ⟨x, A, c, K, q, he, hx, k, hk', hW⟩ := h
    exact ⟨x, A, c, K, q, he, hk hx, k, hk', hR hW⟩
  · obtain ⟨A, c, K, q, he, hx, k, hk', hl, hW⟩ := h
    exact ⟨A, c, K, q, he, hk hx, k, hk', hl, hR hW⟩
theorem sign_is (c x : UInt8) (r : List UInt8) : Lib.hasPrefix (c :: r) [x] = decide (c = x) := by
  simp only [Lib.hasPrefix, List.isPrefixOf, Bool.and_true]
  by_cases h : c = x
  · simp [h]
  · have : ¬ x = c := fun e => h e.symm
    simp [h, this]
theorem word_fits {s p : ByteArray} {k : Nat} (h : Lib.hasPrefix (sfx s k) p.data.toList = true) (hk : k ≤ s.size) : k + p.size ≤ s.size := by
  have h1 := congrArg List.length (prefix_is h)
  rw [List.length_append, sfx_length] at h1
  simp at h1
  omega
theorem value_first {bl : Bool} {L : Nat} {l : List UInt8} {c : UInt8} {r : List UInt8} (h : skipB bl l = c :: r) {n f t q b o : Bool}
    (hn : Lib.hasPrefix (c :: r) nullW.data.toList = n) (hf : Lib.hasPrefix (c :: r) falseW.data.toList = f) (ht : Lib.hasPrefix (c :: r) trueW.data.toList = t)
    (hq : Lib.hasPrefix (c :: r) [34] = q) (hb : Lib.hasPrefix (c :: r) [91] = b) (ho : Lib.hasPrefix (c :: r) [123] = o) :
    valueR bl (L + 1) l = if n = true then some (leaf 0 0 ⟨#[]⟩, (c :: r).drop 4) else if f = true then some (leaf 1 0 ⟨#[]⟩, (c :: r).drop 5) else if t = true then some (leaf 1 1 ⟨#[]⟩, (c :: r).drop 4)
      else if q = true then (strR r []).map fun q => (leaf 3 0 ⟨q.1.toArray⟩, q.2) else if b = true then listR (valueR bl L) bl r else if o = true then objectR (valueR bl L) bl r else numberR (c :: r) := by
  subst hn hf ht hq hb ho
  rw [sign_is, sign_is, sign_is, valueR, h]
  simp only [decide_eq_true_eq]
  cases h1 : Lib.hasPrefix (c :: r) nullW.data.toList
  · cases h2 : Lib.hasPrefix (c :: r) falseW.data.toList
    · cases h3 : Lib.hasPrefix (c :: r) trueW.data.toList
      · simp [nameP, h1, h2, h3]
      · simp [nameP, h1, h2, h3]
    · simp [nameP, h1, h2]
  · simp [nameP, h1]
set_option maxRecDepth 100000 in
set_option maxHeartbeats 16000000 in
theorem value_stepR (g : Nat) (s : ByteArray) (hs : s.size ≤ 1000000) (bl bd : Bool) (L : Nat) (hL6 : L ≤ 6)
    (HLI : ∀ (k : Nat) (W : World), RAt W g s k bl bd → k ≤ s.size → Calls Tryz.prog 127 #[.pointer (some ⟨g, 0, none⟩), .int .i64 ((L : Int) + 1)] W (RPost g s bl false W (if bd = true then none else listR (valueR bl L) bl (sfx s k))))
    (HOB : ∀ (k : Nat) (W : World), RAt W g s k bl bd → k ≤ s.size → Calls Tryz.prog 128 #[.pointer (some ⟨g, 0, none⟩), .int .i64 ((L : Int) + 1)] W (RPost g s bl false W (if bd = true then none else objectR (valueR bl L) bl (sfx s k))))
    (k : Nat) (w : World) (h : RAt w g s k bl bd) (hk : k ≤ s.size) :
    Calls Tryz.prog 96 #[.pointer (some ⟨g, 0, none⟩), .int .i64 ((L : Int) + 1)] w (RPost g s bl false w (if bd = true then none else valueR bl (L + 1) (sfx s k))) := by
  have HL := Lib.hid HLI
  have HO := Lib.hid HOB
  have HP := Lib.hid h
  have hg := h.lt
  obtain ⟨R, hR⟩ : ∃ R, R = valueR bl (L + 1) (sfx s k) := ⟨_, rfl⟩
  rw [← hR]
  have HR := Lib.hid hR
  obtain ⟨RR, hRR⟩ : ∃ RR, RR = if bd = true then none else R := ⟨_, rfl⟩
  rw [← hRR]
  have HRR := Lib.hid hRR
  clear HLI HOB h hR hRR
  go_enter Tryz.func96, Tryz.ntmps96
  go_wp2_with fail
  refine (skip_any g s k bl bd _ (BlockIs.alloc HP.out _) hk hs).mono ?_
  rintro e w1 ⟨rfl, k1, hk1, hsk1, hW0⟩
  have hW := vw_step ⟨(RWent.refl HP.out).alloc _, BlockIs.new w 38 zeroF⟩ hg hW0
  have HS := Lib.hid hsk1
  have HW := Lib.hid hW
  obtain ⟨⟨c0, c1, c2, c3⟩, f1, f3⟩ := hW.1.2.cells
  have gz : g < w1.heap.size := hW.1.2.lt
  clear hW hsk1 HP hW0
  by_cases hlt : k1 < s.size
  · have HC := Lib.hid (show skipB bl (sfx s k) = s[k1] :: sfx s (k1 + 1) by rw [← HS.out, sfx_cons hlt])
    have HD := Lib.hid (fun m => sfx_drop s k1 m)
    obtain ⟨n, hn⟩ : ∃ n, Lib.hasPrefix (s[k1] :: sfx s (k1 + 1)) (⟨#[110, 117, 108, 108]⟩ : ByteArray).data.toList = n := ⟨_, rfl⟩
    obtain ⟨f, hf⟩ : ∃ f, Lib.hasPrefix (s[k1] :: sfx s (k1 + 1)) (⟨#[102, 97, 108, 115, 101]⟩ : ByteArray).data.toList = f := ⟨_, rfl⟩
    obtain ⟨t, ht⟩ : ∃ t, Lib.hasPrefix (s[k1] :: sfx s (k1 + 1)) (⟨#[116, 114, 117, 101]⟩ : ByteArray).data.toList = t := ⟨_, rfl⟩
    obtain ⟨q, hq⟩ : ∃ q, Lib.hasPrefix (s[k1] :: sfx s (k1 + 1)) (⟨#[34]⟩ : ByteArray).data.toList = q := ⟨_, rfl⟩
    obtain ⟨b, hb⟩ : ∃ b, Lib.hasPrefix (s[k1] :: sfx s (k1 + 1)) (⟨#[91]⟩ : ByteArray).data.toList = b := ⟨_, rfl⟩
    obtain ⟨o, ho⟩ : ∃ o, Lib.hasPrefix (s[k1] :: sfx s (k1 + 1)) (⟨#[123]⟩ : ByteArray).data.toList = o := ⟨_, rfl⟩
    have HV := Lib.hid (HR.out.trans (value_first (L := L) HC.out hn hf ht hq hb ho))
    have HNW := Lib.hid (show Lib.hasPrefix (sfx s k1) (⟨#[110, 117, 108, 108]⟩ : ByteArray).data.toList = n by rw [sfx_cons hlt]; exact hn)
    have HFW := Lib.hid (show Lib.hasPrefix (sfx s k1) (⟨#[102, 97, 108, 115, 101]⟩ : ByteArray).data.toList = f by rw [sfx_cons hlt]; exact hf)
    have HTW := Lib.hid (show Lib.hasPrefix (sfx s k1) (⟨#[116, 114, 117, 101]⟩ : ByteArray).data.toList = t by rw [sfx_cons hlt]; exact ht)
    have HQW := Lib.hid (show Lib.hasPrefix (sfx s k1) (⟨#[34]⟩ : ByteArray).data.toList = q by rw [sfx_cons hlt]; exact hq)
    have HBW := Lib.hid (show Lib.hasPrefix (sfx s k1) (⟨#[91]⟩ : ByteArray).data.toList = b by rw [sfx_cons hlt]; exact hb)
    have HOW := Lib.hid (show Lib.hasPrefix (sfx s k1) (⟨#[123]⟩ : ByteArray).data.toList = o by rw [sfx_cons hlt]; exact ho)
    clear hn hf ht hq hb ho HC HR
    go_wp2_with fail
    have hd : decide ((L : Int) + 1 < 1) = false := by simp; omega
    go_quiet (fail)
    have HWq := Lib.hid (vw_step HW.out hg ((RWent.refl HW.out.1.2).drewN nq))
    go_wp2_with fail
    refine (word_takes g s ⟨#[110, 117, 108, 108]⟩ k1 bl bd n (w1.drewN nq) HWq.out.1.2 hk1 hs (by decide) HNW.out).mono ?_
    rintro e w2 ⟨rfl, hW0⟩
    cases n
    rotate_left
    · have HT := Lib.hid (vw_step HWq.out hg hW0)
      have hkk : k1 + 4 ≤ s.size := word_fits (p := ⟨#[110, 117, 108, 108]⟩) HNW.out hk1
      clear hW0
      go_wp2_with fail
      refine (refNull_any _).mono ?_
      rintro e w9 ⟨rfl, h9⟩
      have HF := Lib.hid (vw_below HT.out h9)
      clear h9
      obtain ⟨z0, z1, z2, z3, z4⟩ := five_cells (show BlockIs _ w.heap.size 38 #[.int .i64 0, .int .i64 0, .string ⟨#[]⟩, .slice none 0 0, .slice none 0 0] from HF.out.2)
      have x0 := HF.out.2.frozen 0
      have x1 := HF.out.2.frozen 1
      have x2 := HF.out.2.frozen 2
      have x3 := HF.out.2.frozen 3
      have x4 := HF.out.2.frozen 4
      have zl := HF.out.2.lt
      go_wp2_with fail
      refine bodyPost_ret (v := cellsOf (leaf 0 0 ⟨#[]⟩) none 0 none 0) (by simp [results, Tryz.results96, go_sem, cellsOf, leaf, V.kind, V.int, V.text, V.items, V.keys, z0, z1, z2, z3, z4]) rfl ?_
      rw [HRR.out]
      exact (RPost.leaf (RWent.refl HF.out.1.2) hkk (by decide) (by rw [HV.out, ← sfx_cons hlt]; simp only [HD.out]; rfl)).ends HF.out.1 HF.out.2.lt hg _ _ _ _ _
    have HW0 := Lib.hid (show RWent g s k1 bl bd w w2 ∧ BlockIs w2 w.heap.size 38 zeroF from vw_step HWq.out hg hW0)
    clear hW0
    go_wp2_with fail
    refine (word_takes g s ⟨#[102, 97, 108, 115, 101]⟩ k1 bl bd f w2 HW0.out.1.2 hk1 hs (by decide) HFW.out).mono ?_
    rintro e w3 ⟨rfl, hW1⟩
    cases f
    rotate_left
    · have HT := Lib.hid (vw_step HW0.out hg hW1)
      have hkk : k1 + 5 ≤ s.size := word_fits (p := ⟨#[102, 97, 108, 115, 101]⟩) HFW.out hk1
      clear hW1
      go_wp2_with fail
      refine (refTruth_any false _).mono ?_
      rintro e w9 ⟨rfl, h9⟩
      have HF := Lib.hid (vw_below HT.out h9)
      clear h9
      obtain ⟨z0, z1, z2, z3, z4⟩ := five_cells (show BlockIs _ w.heap.size 38 #[.int .i64 0, .int .i64 0, .string ⟨#[]⟩, .slice none 0 0, .slice none 0 0] from HF.out.2)
      have x0 := HF.out.2.frozen 0
      have x1 := HF.out.2.frozen 1
      have x2 := HF.out.2.frozen 2
      have x3 := HF.out.2.frozen 3
      have x4 := HF.out.2.frozen 4
      have zl := HF.out.2.lt
      go_wp2_with fail
      refine bodyPost_ret (v := cellsOf (leaf 1 0 ⟨#[]⟩) none 0 none 0) (by simp [results, Tryz.results96, go_sem, cellsOf, leaf, V.kind, V.int, V.text, V.items, V.keys, z0, z1, z2, z3, z4]) rfl ?_
      rw [HRR.out]
      exact (RPost.leaf (RWent.refl HF.out.1.2) hkk (by decide) (by rw [HV.out, ← sfx_cons hlt]; simp only [HD.out]; rfl)).ends HF.out.1 HF.out.2.lt hg _ _ _ _ _
    have HW1 := Lib.hid (show RWent g s k1 bl bd w w3 ∧ BlockIs w3 w.heap.size 38 zeroF from vw_step HW0.out hg hW1)
    clear hW1
    go_wp2_with fail
    refine (word_takes g s ⟨#[116, 114, 117, 101]⟩ k1 bl bd t w3 HW1.out.1.2 hk1 hs (by decide) HTW.out).mono ?_
    rintro e w4 ⟨rfl, hW2⟩
    cases t
    rotate_left
    · have HT := Lib.hid (vw_step HW1.out hg hW2)
      have hkk : k1 + 4 ≤ s.size := word_fits (p := ⟨#[116, 114, 117, 101]⟩) HTW.out hk1
      clear hW2
      go_wp2_with fail
      refine (refTruth_any true _).mono ?_
      rintro e w9 ⟨rfl, h9⟩
      have HF := Lib.hid (vw_below HT.out h9)
      clear h9
      obtain ⟨z0, z1, z2, z3, z4⟩ := five_cells (show BlockIs _ w.heap.size 38 #[.int .i64 0, .int .i64 0, .string ⟨#[]⟩, .slice none 0 0, .slice none 0 0] from HF.out.2)
      have x0 := HF.out.2.frozen 0
      have x1 := HF.out.2.frozen 1
      have x2 := HF.out.2.frozen 2
      have x3 := HF.out.2.frozen 3
      have x4 := HF.out.2.frozen 4
      have zl := HF.out.2.lt
      go_wp2_with fail
      refine bodyPost_ret (v := cellsOf (leaf 1 1 ⟨#[]⟩) none 0 none 0) (by simp [results, Tryz.results96, go_sem, cellsOf, leaf, V.kind, V.int, V.text, V.items, V.keys, z0, z1, z2, z3, z4]) rfl ?_
      rw [HRR.out]
      exact (RPost.leaf (RWent.refl HF.out.1.2) hkk (by decide) (by rw [HV.out, ← sfx_cons hlt]; simp only [HD.out]; rfl)).ends HF.out.1 HF.out.2.lt hg _ _ _ _ _
    have HW2 := Lib.hid (show RWent g s k1 bl bd w w4 ∧ BlockIs w4 w.heap.size 38 zeroF from vw_step HW1.out hg hW2)
    clear hW2
    go_wp2_with fail
    refine (word_takes g s ⟨#[34]⟩ k1 bl bd q w4 HW2.out.1.2 hk1 hs (by decide) HQW.out).mono ?_
    rintro e w5 ⟨rfl, hW3⟩
    cases q
    rotate_left
    · have HT := Lib.hid (vw_step HW2.out hg hW3)
      have hkk : k1 + 1 ≤ s.size := word_fits (p := ⟨#[34]⟩) HQW.out hk1
      clear hW3
      go_wp2_with fail
      refine (str_form g s hs bl bd (k1 + 1) w5 HT.out.1.2 hkk).mono ?_
      rintro e w9 ⟨t9, k9, bd9, rfl, ht9, hk9, hW9, HH⟩
      have HF := Lib.hid (vw_step HT.out hg hW9)
      clear hW9
      go_wp2_with fail
      refine (refStr_any _ _).mono ?_
      rintro e w10 ⟨rfl, h10⟩
      have HG := Lib.hid (vw_below HF.out h10)
      clear h10
      obtain ⟨z0, z1, z2, z3, z4⟩ := five_cells (show BlockIs _ w.heap.size 38 #[.int .i64 0, .int .i64 0, .string ⟨#[]⟩, .slice none 0 0, .slice none 0 0] from HG.out.2)
      have x0 := HG.out.2.frozen 0
      have x1 := HG.out.2.frozen 1
      have x2 := HG.out.2.frozen 2
      have x3 := HG.out.2.frozen 3
      have x4 := HG.out.2.frozen 4
      have zl := HG.out.2.lt
      go_wp2_with fail
      refine bodyPost_ret (v := cellsOf (leaf 3 0 t9) none 0 none 0) (by simp [results, Tryz.results96, go_sem, cellsOf, leaf, V.kind, V.int, V.text, V.items, V.keys, z0, z1, z2, z3, z4]) rfl ?_
      rw [HRR.out]
      rcases HH.out with ⟨rfl, hn⟩ | ⟨rfl, T, rfl, hn⟩
      · rw [show R = none by rw [HV.out]; simp [hn], ite_self]
        exact (RPost.wrong (RWent.refl HG.out.1.2) hk9 ht9 rfl).ends HG.out.1 HG.out.2.lt hg _ _ _ _ _
      · exact (RPost.leaf (RWent.refl HG.out.1.2) hk9 ht9 (by rw [HV.out]; simp [hn])).ends HG.out.1 HG.out.2.lt hg _ _ _ _ _
    have HW3 := Lib.hid (show RWent g s k1 bl bd w w5 ∧ BlockIs w5 w.heap.size 38 zeroF from vw_step HW2.out hg hW3)
    clear hW3
    go_wp2_with fail
    refine (word_takes g s ⟨#[91]⟩ k1 bl bd b w5 HW3.out.1.2 hk1 hs (by decide) HBW.out).mono ?_
    rintro e w6 ⟨rfl, hW4⟩
    cases b
    rotate_left
    · have HT := Lib.hid (vw_step HW3.out hg hW4)
      have hkk : k1 + 1 ≤ s.size := word_fits (p := ⟨#[91]⟩) HBW.out hk1
      clear hW4
      go_wp2_with fail
      refine (HL.out (k1 + 1) w6 HT.out.1.2 hkk).mono ?_
      intro e w9 hp
      have HPP := Lib.hid hp
      obtain ⟨k8, b8, hw8⟩ := hp.went
      obtain ⟨x9, A9, c9, K9, q9, rfl⟩ := hp.returned
      have HF := Lib.hid (vw_step HT.out hg hw8)
      clear hp hw8
      unfold cellsOf
      obtain ⟨z0, z1, z2, z3, z4⟩ := five_cells (show BlockIs _ w.heap.size 38 #[.int .i64 0, .int .i64 0, .string ⟨#[]⟩, .slice none 0 0, .slice none 0 0] from HF.out.2)
      have x0 := HF.out.2.frozen 0
      have x1 := HF.out.2.frozen 1
      have x2 := HF.out.2.frozen 2
      have x3 := HF.out.2.frozen 3
      have x4 := HF.out.2.frozen 4
      have zl := HF.out.2.lt
      go_wp2_with fail
      refine bodyPost_ret (v := cellsOf x9 A9 c9 K9 q9) (by simp [results, Tryz.results96, go_sem, cellsOf, V.kind, V.int, V.text, V.items, V.keys, z0, z1, z2, z3, z4]) rfl ?_
      rw [HRR.out, HV.out]
      exact HPP.out.ends HT.out.1 HT.out.2.lt hg _ _ _ _ _
    have HW4 := Lib.hid (show RWent g s k1 bl bd w w6 ∧ BlockIs w6 w.heap.size 38 zeroF from vw_step HW3.out hg hW4)
    clear hW4
    go_wp2_with fail
    refine (word_takes g s ⟨#[123]⟩ k1 bl bd o w6 HW4.out.1.2 hk1 hs (by decide) HOW.out).mono ?_
    rintro e w7 ⟨rfl, hW5⟩
    cases o
    rotate_left
    · have HT := Lib.hid (vw_step HW4.out hg hW5)
      have hkk : k1 + 1 ≤ s.size := word_fits (p := ⟨#[123]⟩) HOW.out hk1
      clear hW5
      go_wp2_with fail
      refine (HO.out (k1 + 1) w7 HT.out.1.2 hkk).mono ?_
      intro e w9 hp
      have HPP := Lib.hid hp
      obtain ⟨k8, b8, hw8⟩ := hp.went
      obtain ⟨x9, A9, c9, K9, q9, rfl⟩ := hp.returned
      have HF := Lib.hid (vw_step HT.out hg hw8)
      clear hp hw8
      unfold cellsOf
      obtain ⟨z0, z1, z2, z3, z4⟩ := five_cells (show BlockIs _ w.heap.size 38 #[.int .i64 0, .int .i64 0, .string ⟨#[]⟩, .slice none 0 0, .slice none 0 0] from HF.out.2)
      have x0 := HF.out.2.frozen 0
      have x1 := HF.out.2.frozen 1
      have x2 := HF.out.2.frozen 2
      have x3 := HF.out.2.frozen 3
      have x4 := HF.out.2.frozen 4
      have zl := HF.out.2.lt
      go_wp2_with fail
      refine bodyPost_ret (v := cellsOf x9 A9 c9 K9 q9) (by simp [results, Tryz.results96, go_sem, cellsOf, V.kind, V.int, V.text, V.items, V.keys, z0, z1, z2, z3, z4]) rfl ?_
      rw [HRR.out, HV.out]
      exact HPP.out.ends HT.out.1 HT.out.2.lt hg _ _ _ _ _
    have HW5 := Lib.hid (show RWent g s k1 bl bd w w7 ∧ BlockIs w7 w.heap.size 38 zeroF from vw_step HW4.out hg hW5)
    clear hW5
    go_wp2_with fail
    refine (number_reads g s k1 bl bd w7 HW5.out.1.2 hk1 hs).mono ?_
    intro e w9 hp
    have HPP := Lib.hid hp
    obtain ⟨k8, b8, hw8⟩ := hp.went
    obtain ⟨x9, A9, c9, K9, q9, rfl⟩ := hp.returned
    have HF := Lib.hid (vw_step HW5.out hg hw8)
    clear hp hw8
    unfold cellsOf
    obtain ⟨z0, z1, z2, z3, z4⟩ := five_cells (show BlockIs _ w.heap.size 38 #[.int .i64 0, .int .i64 0, .string ⟨#[]⟩, .slice none 0 0, .slice none 0 0] from HF.out.2)
    have x0 := HF.out.2.frozen 0
    have x1 := HF.out.2.frozen 1
    have x2 := HF.out.2.frozen 2
    have x3 := HF.out.2.frozen 3
    have x4 := HF.out.2.frozen 4
    have zl := HF.out.2.lt
    go_wp2_with fail
    refine bodyPost_ret (v := cellsOf x9 A9 c9 K9 q9) (by simp [results, Tryz.results96, go_sem, cellsOf, V.kind, V.int, V.text, V.items, V.keys, z0, z1, z2, z3, z4]) rfl ?_
    rw [HRR.out, show R = numberR (sfx s k1) by rw [HV.out, ← sfx_cons hlt]; simp]
    exact HPP.out.flag.ends HW5.out.1 HW5.out.2.lt hg _ _ _ _ _
  · have HN := Lib.hid (show R = none by rw [HR.out]; exact valueR_nil (by rw [← HS.out]; exact sfx_nil hlt))
    go_wp2_with fail
    have hd : decide ((L : Int) + 1 < 1) = false := by simp; omega
    go_quiet (fail)
    go_wp2_with fail
    refine (refNull_any _).mono ?_
    rintro e w9 ⟨rfl, h9⟩
    have HF := Lib.hid (vw_below (vw_step HW.out hg ((RWent.refl HW.out.1.2).drewN nq).wrong) h9)
    clear h9
    obtain ⟨z0, z1, z2, z3, z4⟩ := five_cells (show BlockIs _ w.heap.size 38 #[.int .i64 0, .int .i64 0, .string ⟨#[]⟩, .slice none 0 0, .slice none 0 0] from HF.out.2)
    have x0 := HF.out.2.frozen 0
    have x1 := HF.out.2.frozen 1
    have x2 := HF.out.2.frozen 2
    have x3 := HF.out.2.frozen 3
    have x4 := HF.out.2.frozen 4
    have zl := HF.out.2.lt
    go_wp2_with fail
    refine bodyPost_ret (v := cellsOf (leaf 0 0 ⟨#[]⟩) none 0 none 0) (by simp [results, Tryz.results96, go_sem, cellsOf, leaf, V.kind, V.int, V.text, V.items, V.keys, z0, z1, z2, z3, z4]) rfl ?_
    rw [HRR.out, HN.out, ite_self]
    exact (RPost.wrong (RWent.refl HF.out.1.2) hk1 (by decide) rfl).ends HF.out.1 HF.out.2.lt hg _ _ _ _ _
set_option maxRecDepth 100000 in
set_option maxHeartbeats 4000000 in
theorem value_baseR (g : Nat) (s : ByteArray) (hs : s.size ≤ 1000000) (bl bd : Bool) (k : Nat) (w : World) (h : RAt w g s k bl bd) (hk : k ≤ s.size) :
    Calls Tryz.prog 96 #[.pointer (some ⟨g, 0, none⟩), .int .i64 0] w (RPost g s bl false w (if bd = true then none else valueR bl 0 (sfx s k))) := by
  have HP := Lib.hid h
  have hg := h.lt
  rw [show (if bd = true then none else valueR bl 0 (sfx s k)) = none by unfold valueR; rw [ite_self]]
  clear h
  go_enter Tryz.func96, Tryz.ntmps96
  go_wp2_with fail
  refine (skip_any g s k bl bd _ (BlockIs.alloc HP.out _) hk hs).mono ?_
  rintro e w1 ⟨rfl, k1, hk1, hsk1, hW0⟩
  have hW := vw_step ⟨(RWent.refl HP.out).alloc _, BlockIs.new w 38 zeroF⟩ hg hW0
  have HW := Lib.hid hW
  obtain ⟨⟨c0, c1, c2, c3⟩, f1, f3⟩ := hW.1.2.cells
  have gz : g < w1.heap.size := hW.1.2.lt
  clear hW hsk1 HP hW0
  go_wp2_with fail
  have hd : decide ((0 : Int) < 1) = true := by decide
  go_quiet (fail)
  go_wp2_with fail
  refine (refNull_any _).mono ?_
  rintro e w9 ⟨rfl, h9⟩
  have HF := Lib.hid (vw_below (vw_step HW.out hg ((RWent.refl HW.out.1.2).drewN nq).wrong) h9)
  clear h9
  obtain ⟨z0, z1, z2, z3, z4⟩ := five_cells (show BlockIs _ w.heap.size 38 #[.int .i64 0, .int .i64 0, .string ⟨#[]⟩, .slice none 0 0, .slice none 0 0] from HF.out.2)
  have x0 := HF.out.2.frozen 0
  have x1 := HF.out.2.frozen 1
  have x2 := HF.out.2.frozen 2
  have x3 := HF.out.2.frozen 3
  have x4 := HF.out.2.frozen 4
  have zl := HF.out.2.lt
  go_wp2_with fail
  refine bodyPost_ret (v := cellsOf (leaf 0 0 ⟨#[]⟩) none 0 none 0) (by simp [results, Tryz.results96, go_sem, cellsOf, leaf, V.kind, V.int, V.text, V.items, V.keys, z0, z1, z2, z3, z4]) rfl ?_
  exact (RPost.wrong (RWent.refl HF.out.1.2) hk1 (by decide) rfl).ends HF.out.1 HF.out.2.lt hg _ _ _ _ _
theorem value_walkR (g : Nat) (s : ByteArray) (hs : s.size ≤ 1000000) (bl : Bool) : ∀ (L : Nat), L ≤ 6 → ∀ (bd : Bool) (k : Nat) (w : World), RAt w g s k bl bd → k ≤ s.size →
    Calls Tryz.prog 96 #[.pointer (some ⟨g, 0, none⟩), .int .i64 L] w (RPost g s bl false w (if bd = true then none else valueR bl L (sfx s k)))
  | 0, _, bd, k, w, h, hk => value_baseR g s hs bl bd k w h hk
  | L + 1, hL, bd, k, w, h, hk => by
    have ih := value_walkR g s hs bl L (by omega)
    have he := (valueR_facts bl L).1
    have := value_stepR g s hs bl bd L (by omega)
      (fun k W hW hk => list_walkR g s hs bl bd L (by omega) (valueR bl L) he (fun k W hW hk => by simpa using ih false k W hW hk) k W hW hk)
      (fun k W hW hk => object_walkR g s hs bl bd L (by omega) (valueR bl L) he ih k W hW hk) k w h hk
    rwa [show ((L + 1 : Nat) : Int) = (L : Int) + 1 by omega]
open Go.RowKit
theorem rwent_below {g k : Nat} {s : ByteArray} {bl bd : Bool} {w w1 w2 : World} (hB : Below w.heap.size w w1) (h : RWent g s k bl bd w1 w2) (hg : w.heap.size ≤ g) : Below w.heap.size w w2 :=
  hB.trans (below_grow h.1 hB.size (fun r e => by have := Option.some.inj e; omega))
structure PS (w : World) (s : ByteArray) (k : Nat) (bd : Bool) (x : V) (A : Option Addr) (c : Nat) (K : Option Addr) (q : Nat) (W : World) : Prop where
  old : Below w.heap.size w W
  b0 : BlockIs W w.heap.size 38 zeroF
  at_ : RAt W (w.heap.size + 1) s k true bd
  lies : LiesIn (fun b => w.heap.size + 2 ≤ b ∧ b < W.heap.size) W x A c K q
theorem PS.step {w W W' : World} {s : ByteArray} {k k' : Nat} {bd bd' : Bool} {x : V} {A K : Option Addr} {c q : Nat} (h : PS w s k bd x A c K q W) (hw : RWent (w.heap.size + 1) s k' true bd' W W') : PS w s k' bd' x A c K q W' := by
  obtain ⟨h1, h2, h3, h4⟩ := h
  have hs := hw.1.size
  exact ⟨rwent_below h1 hw (by omega), h2.grown hw.1 (by simp), hw.2, LiesIn.keep (fun b o hb => hw.1.cell_far ⟨b, o, none⟩ hb.2 (by have := hb.1; simp; omega)) (fun b hb => ⟨hb.1, by have := hb.2; omega⟩) _ h4⟩
theorem PS.bad {w W : World} {s : ByteArray} {k : Nat} {bd : Bool} {x : V} {A K : Option Addr} {c q : Nat} (h : PS w s k bd x A c K q W) (u0 u1 u2 u3 u4 : Value) : Below w.heap.size w (put5 W w.heap.size 0 u0 u1 u2 u3 u4) :=
  ((((h.old.setCell (by simp) _).setCell (by simp) _).setCell (by simp) _).setCell (by simp) _).setCell (by simp) _
end Go.Proofs.YthlmnhelmhnpfaaGreatDoor
