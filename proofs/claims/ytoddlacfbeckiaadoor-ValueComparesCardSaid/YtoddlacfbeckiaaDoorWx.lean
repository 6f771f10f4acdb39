/- Reading: an object, walked. -/
import Derived.Test.YtoddlacfbeckiaaDoorWv
import Derived.Deep.RegionHeld3
import Derived.Deep.DrawnRows
namespace Go.Proofs.YtoddlacfbeckiaaDoor
open Go.RowKit

section
variable {w W : World} {g : Nat} {d : Int} {st : List ByteArray × List V} {n : Nat} {rowK rowI : Value} {css : List (List Value)}
theorem OInvR.p0 (h : OInvR w g d st n rowK rowI css W) : W.cell? ⟨w.heap.size, 0, none⟩ = some (.pointer (some ⟨g, 0, none⟩)) := by simpa using h.2.2.1.cell 0
theorem OInvR.p1 (h : OInvR w g d st n rowK rowI css W) : W.cell? ⟨w.heap.size + 1, 0, none⟩ = some (.int .i64 d) := by simpa using h.2.2.2.1.cell 0
theorem OInvR.v3 (h : OInvR w g d st n rowK rowI css W) : W.cell? ⟨w.heap.size + 3, 3, none⟩ = some rowI := by simpa using h.2.2.2.2.2.2.1.cell 3
theorem OInvR.v4 (h : OInvR w g d st n rowK rowI css W) : W.cell? ⟨w.heap.size + 3, 4, none⟩ = some rowK := by simpa using h.2.2.2.2.2.2.1.cell 4
end
theorem textP_100 : ∀ (f : Nat) {l acc t r : List UInt8}, l.length ≤ f → acc.length ≤ 100 → textP l acc = some (t, r) → t.length ≤ 100
  | 0, l, _, _, _, hf, _, h => by cases l with
    | nil => simp [textP] at h
    | cons => simp at hf
  | f + 1, [], _, _, _, _, _, h => by simp [textP] at h
  | f + 1, c :: l, acc, t, r, hf, ha, h => by
    rw [textP_cons] at h
    simp only [List.length_cons] at hf
    split at h
    · simp at h; rw [← h.1]; exact ha
    · split at h
      · cases l with
        | nil => simp at h
        | cons x q =>
          simp only [List.length_cons] at hf
          simp only [] at h
          split at h
          · rename_i hx
            exact textP_100 f (by omega) (by simp; omega) h
          · cases h
      · split at h
        · rename_i hx
          exact textP_100 f (by omega) (by simp; omega) h
        · cases h
theorem quotedP_100 {l t r : List UInt8} (h : quotedP l = some (t, r)) : t.length ≤ 100 := by
  cases l with
  | nil => simp [quotedP] at h
  | cons c l =>
    rw [quotedP] at h
    split at h
    · exact textP_100 _ (Nat.le_refl _) (by simp) h
    · cases h
attribute [local go_sem ↓] Go.wp_at_zero Go.wp_at_succ
set_option maxRecDepth 100000 in
set_option maxHeartbeats 4000000 in
theorem item_object (g : Nat) (s : ByteArray) (hs : s.size ≤ 1000000) (d : Nat) (hd : d ≤ 6) (f : Nat → List UInt8 → Option (V × List UInt8 × Nat)) (w : World) (hg : g < w.heap.size) (hmore : ∀ n l x l' n', f n l = some (x, l', n') → n < n') (hok : ∀ n l x l' n', f n l = some (x, l', n') → l'.length ≤ l.length ∧ n' ≤ 60)
    (hval : ∀ (k n : Nat) (W : World), PAt W g s k n → k ≤ s.size → n ≤ 60 → Calls Tryd.prog 48 #[.pointer (some ⟨g, 0, none⟩), .int .i64 ((d : Int) + 1)] W (VPost g s W (f n (sfx s k))))
    (st : List ByteArray × List V) (k n : Nat) (W : World) (hI : OInv w g d st n W) (hP : PAt W g s k n) (hk : k ≤ s.size) (hn : n ≤ 60) :
    Calls Tryd.prog 88 #[.pointer (some ⟨w.heap.size, 0, none⟩), .pointer (some ⟨w.heap.size + 1, 0, none⟩), .pointer (some ⟨w.heap.size + 3, 0, none⟩)] W (SPost (OInv w g d) (fun W' => w.grownBy W' (some g)) g s (stepO f st n (sfx s k))) := by
  obtain ⟨rowK, rowI, css, hI⟩ := hI
  have HI := Lib.hid hI
  have HV := Lib.hid hval
  have HM := Lib.hid hmore
  have HO := Lib.hid hok
  have HP := Lib.hid hP
  have p0 := hI.p0
  have HC := Lib.hid fun (W : World) (j : Nat) (hW : PAt W g s j n) (hj : j ≤ s.size) => accept_any g s j n 58 58 rfl W hW hj hs
  clear hval hmore hok hI hP
  obtain ⟨R, hR⟩ : ∃ R, R = stepO f st n (sfx s k) := ⟨_, rfl⟩
  rw [← hR]
  have HR := Lib.hid hR
  clear hR
  go_enter Tryd.func88, Tryd.ntmps88
  go_wp2_with fail
  refine (blanks_any g s k n _ HP.out hk hs).mono ?_
  rintro e w1 ⟨rfl, k1, hk1, hsk1, hw1⟩
  have HW1 := Lib.hid hw1
  have HS1 := Lib.hid hsk1
  have p0' := (HI.out.keep hg hw1.1 (Nat.le_refl _)).p0
  clear hw1 hsk1 p0
  go_wp2_with fail
  refine (quoted_any g s k1 n _ HW1.out.2 hk1 hs).mono ?_
  intro e w2 hp
  rcases hq : quotedP (sfx s k1) with _ | ⟨t, l1⟩
  · rw [hq] at hp
    obtain ⟨rfl, hp⟩ := hp
    refine ⟨rfl, ?_⟩
    rw [show R = none by rw [HR.out, stepO, ← HS1.out, hq]]
    exact ⟨rfl, grow_trans HI.out.1 (grow_trans HW1.out.1 hp)⟩
  rw [hq] at hp
  obtain ⟨rfl, k2, hk2, hsk2, hw2⟩ := hp
  have HQ := Lib.hid hq
  have HS2 := Lib.hid hsk2
  have HW2 := Lib.hid (HW1.out.trans hw2)
  have p0 := (HI.out.keep hg HW2.out.1 (Nat.le_refl _)).p0
  clear hq hsk2 hw2 p0'
  go_wp2_with fail
  by_cases hc : takesP 58 (skipP (sfx s k2)) = true
  · have HT := Lib.hid hc
    clear hc
    refine wp_region_held_drew (S := fun w' => w'.cell? ⟨w.heap.size, 0, none⟩ = some (.pointer (some ⟨g, 0, none⟩))) (by kernel_rfl) (show _ from p0) (fun hHeld => ?_)
    refine wpAnyH_take (i := 0) (oi := _) (v := ?_) rfl (by kernel_rfl) (by kernel_rfl) (by kernel_rfl) (fun _ _ _ h => h) (Or.inl ⟨by rfl, (by intro w hSw; (try dsimp only at hSw); go_simp; try (with_reducible rfl))⟩) (by assumption) ?_
    try simp only [Act.put, List.setIfInBounds_toArray, List.set_cons_zero, List.set_cons_succ]
    refine wpAnyH_take (i := 1) (oi := _) (v := ?_) rfl (by kernel_rfl) (by kernel_rfl) (by kernel_rfl) (fun _ _ _ h => h) (Or.inl ⟨by rfl, (by intro w hSw; (try dsimp only at hSw); go_simp; try (with_reducible rfl))⟩) (by assumption) ?_
    try simp only [Act.put, List.setIfInBounds_toArray, List.set_cons_zero, List.set_cons_succ]
    refine wpAnyH_ready (rs := [2]) (by kernel_rfl) (by simp) ?_
    refine AllReadyH.cons (o := _) rfl (fun K hK => ?_) AllReadyH.nil
    go_simp
    refine (HC.out _ k2 HW2.out.drew.2 hk2).mono ?_
    rintro e w3 ⟨rfl, k3, hk3, hsk3, hw3⟩
    have HW3 := Lib.hid (HW2.out.drew.trans hw3)
    have HS3 := Lib.hid hsk3
    have HI3 := Lib.hid (HI.out.keep hg HW3.out.1 (Nat.le_refl _))
    clear hw3 hsk3 p0
    refine hK.out _ _ HI3.out.p0 (fun hH3 => ?_)
    clear hK K
    refine wpAnyH_ready (rs := [3]) (by kernel_rfl) (by simp) ?_
    refine AllReadyH.cons (o := _) rfl (fun K hK => ?_) AllReadyH.nil
    go_simp
    refine (must_on HT.out _ _).mono ?_
    rintro e w' ⟨rfl, rfl⟩
    refine hK.out _ _ HI3.out.p0 (fun _ => ?_)
    clear hK K
    refine wpAnyH_done (by kernel_rfl) ?_ _
    have p0 := HI3.out.p0
    have p1 := HI3.out.p1
    go_wp2_with fail
    refine (HV.out k3 n _ HW3.out.2 hk3 hn).mono ?_
    intro e w4 hp
    rcases hst : f n (sfx s k3) with _ | ⟨x, l, n'⟩
    · rw [hst] at hp
      obtain ⟨rfl, hp⟩ := hp
      refine ⟨rfl, ?_⟩
      rw [show R = none by rw [HR.out, stepO, ← HS1.out, HQ.out]; simp only []; rw [← HS2.out, if_pos HT.out, ← HS3.out, hst]]
      exact ⟨rfl, grow_trans HI3.out.1 hp⟩
    rw [hst] at hp
    obtain ⟨A, c, K, q, k4, rfl, hL, hk4, hsk4, hW4⟩ := hp
    have hn' := HM.out _ _ _ _ _ hst
    have hn60 := (HO.out _ _ _ _ _ hst).2
    have HX := Lib.hid hst
    have HL := Lib.hid hL
    have HW4 := Lib.hid (HW3.out.trans hW4)
    have HI4 := Lib.hid (HI3.out.keep hg hW4.1 (Nat.le_of_lt hn'))
    have hsz := hW4.1.size
    have hsz3 := HI3.out.2.1
    obtain ⟨KA, kc, rfl⟩ : ∃ A c, rowK = .slice A st.1.length c := own_form HI4.out.2.2.2.2.2.2.2.1
    obtain ⟨IA, ic, rfl⟩ : ∃ A c, rowI = .slice A st.2.length c := own_form HI4.out.2.2.2.2.2.2.2.2.1
    have HN := Lib.hid <| show st.1.length = st.2.length ∧ st.2.length ≤ 60 from ⟨HI4.out.2.2.2.2.2.1.2.1, by have := HI4.out.2.2.2.2.2.1.1; omega⟩
    have hlt3 : w.heap.size + 3 < w4.heap.size := by omega
    have HB := Lib.hid fun (W : World) (hW : W.ownsRow (w.heap.size + 4) 9 1 (.slice KA st.1.length kc) st.1.length (st.1.map .string)) => search_any W (w.heap.size + 4) _ st.1 ⟨t.toArray⟩ HI4.out.2.2.2.2.2.1.2.2.1 (by have := HN.out; omega) hW
    have hlt0 : w.heap.size < w4.heap.size := by omega
    have v3 := HI4.out.v3
    have v4 := HI4.out.v4
    clear hL hW4 hst hH3 hHeld p0 p1
    have p04 := HI4.out.p0
    unfold cellsOf
    go_wp2_with fail
    refine (HB.out _ (World.ownsRow.alloc HI4.out.2.2.2.2.2.2.2.1 _)).mono ?_
    rintro e w5 ⟨rfl, q5, rfl⟩
    by_cases hh : hasK ⟨t.toArray⟩ st.1 = true
    · have hN : R = none := by
        rw [HR.out, stepO, ← HS1.out, HQ.out]
        simp only []
        rw [← HS2.out, if_pos HT.out, ← HS3.out, HX.out]
        simp only []
        rw [if_pos hh]
      rw [hh]
      go_wp2_with (go_at_call 50; refine (must_no _ _).mono ?_; rintro e w' ⟨rfl, rfl⟩)
      refine ⟨rfl, ?_⟩
      rw [hN]
      exact ⟨rfl, grow_drewN (grow_alloc HI4.out.1 _) _⟩
    · have hhf : hasK ⟨t.toArray⟩ st.1 = false := by simpa using hh
      rw [hhf]
      go_wp2_with (go_at_call 50; refine (must_yes _ _).mono ?_; rintro e w' ⟨rfl, rfl⟩)
      have h4r := HI4.out
      obtain ⟨W5, hW5⟩ : ∃ W5, W5 = ((w4.alloc (.cells #[.int .i64 x.kind, .int .i64 x.int, .string x.text, .slice A x.items.length c, .slice K x.keys.length q] 25)).drewN q5).alloc (.cells #[.string ⟨t.toArray⟩] 9) := ⟨_, rfl⟩
      have h5 : ∀ r, w4.grownBy W5 r := fun r => by rw [hW5]; exact grow_alloc (grow_drewN (grow_alloc (grow_refl _ r) _) q5) _
      have hB5 : Blk W5 (w4.heap.size + 1) 9 #[.string ⟨t.toArray⟩] := by rw [hW5]; exact Blk.newAt _ _ _ (by simp [World.drewN])
      have hT5 : Blk W5 w4.heap.size 25 #[.int .i64 x.kind, .int .i64 x.int, .string x.text, .slice A x.items.length c, .slice K x.keys.length q] := by rw [hW5]; exact ((Blk.new w4 _ _).drewN q5).alloc _
      have hs5 : w4.heap.size + 2 ≤ W5.heap.size := by rw [hW5]; simp [World.drewN]
      have h5I := h4r.keep hg (h5 (some g)) (Nat.le_refl _)
      rw [← hW5]
      clear hW5
      obtain ⟨-, -, -, -, -, -, hb5, hK5, hI5, hR5⟩ := h5I
      have hks : t.length ≤ 100 := quotedP_100 HQ.out
      have hKlt := fun b hb => (World.ownsRow.lt h4r.2.2.2.2.2.2.2.1 b hb).2
      have hIlt := fun b hb => (World.ownsRow.lt h4r.2.2.2.2.2.2.2.2.1 b hb).2
      have hKI := fun b hb => own_apart hI5 hK5 (by decide) (b := b) hb
      have hnT : ¬ w.heap.size + 3 = w4.heap.size := by omega
      have hnT' : ¬ w4.heap.size = w.heap.size + 3 := by omega
      have hne3K : some (w.heap.size + 3) ≠ (Value.slice KA st.1.length kc).ownBlock := fun e => by have := (World.ownsRow.lt h4r.2.2.2.2.2.2.2.1 _ e.symm).1; omega
      have hne3I : some (w.heap.size + 3) ≠ (Value.slice IA st.2.length ic).ownBlock := fun e => by have := (World.ownsRow.lt h4r.2.2.2.2.2.2.2.2.1 _ e.symm).1; omega
      have hHN := HN.out
      have hpos : posK ⟨t.toArray⟩ st.1 ≤ st.1.length := posK_le _ _
      have hC6 := insS W5 (w.heap.size + 4) (.slice KA st.1.length kc) st.1.length (posK ⟨t.toArray⟩ st.1) (st.1.map .string) (w4.heap.size + 1) #[.string ⟨t.toArray⟩] hK5 hpos (by omega) (fun e => by have := hKlt _ e.symm; omega) hB5 rfl (by simp; rfl) (by intro u hu; obtain ⟨y, _, rfl⟩ := List.mem_map.1 hu; rfl) (by omega)
      refine hC6.mono ?_
      clear hC6
      intro e w6 hp6
      have hp6' := hp6
      obtain ⟨rowK', rfl, hK6, hg6, hwh6⟩ := hp6'
      obtain ⟨KA', kc', rfl⟩ : ∃ A c, rowK' = .slice A (st.1.length + 1) c := own_form hK6
      have b6 := hb5.grown hg6 hne3K
      have t6 := hT5.grown hg6 (fun e => by have := hKlt _ e.symm; omega)
      have hI6 : w6.ownsRow (w.heap.size + 4) 25 5 (.slice IA st.2.length ic) st.2.length css.flatten := hI5.kept hg6 (by
        rcases hk : (Value.slice IA st.2.length ic).ownBlock with _ | b
        · exact .inl rfl
        · exact .inr (hKI b hk))
      have hs6 := hg6.size
      have H6 := Lib.hid (And.intro hp6 (And.intro hI6 (And.intro b6 h5)))
      have HL6 := Lib.hid (And.intro hne3I (And.intro hIlt (And.intro (rows_one hR5) hHN)))
      have v3 : w6.cell? ⟨w.heap.size + 3, 3, none⟩ = some (.slice IA st.2.length ic) := by simpa using b6.cell 3
      have v4 : w6.cell? ⟨w.heap.size + 3, 4, none⟩ = some (.slice KA st.1.length kc) := by simpa using b6.cell 4
      have f4 : w6.frozen? ⟨w.heap.size + 3, 4, none⟩ = false := b6.frozen 4
      have c0 : w6.cell? ⟨w4.heap.size, 0, none⟩ = some (.int .i64 x.kind) := by simpa using t6.cell 0
      have c1 : w6.cell? ⟨w4.heap.size, 1, none⟩ = some (.int .i64 x.int) := by simpa using t6.cell 1
      have c2 : w6.cell? ⟨w4.heap.size, 2, none⟩ = some (.string x.text) := by simpa using t6.cell 2
      have c3 : w6.cell? ⟨w4.heap.size, 3, none⟩ = some (.slice A x.items.length c) := by simpa using t6.cell 3
      have c4 : w6.cell? ⟨w4.heap.size, 4, none⟩ = some (.slice K x.keys.length q) := by simpa using t6.cell 4
      clear hp6 hI6 b6 h5 hne3I hIlt hR5 hHN hK6 hg6 hwh6 t6 hK5 hI5 hb5 hB5 hT5 hKlt hKI hne3K h4r p04
      go_wp2_with fail
      have h6r := H6.out
      obtain ⟨hne3I, hIlt, hone, hHN⟩ := HL6.out
      obtain ⟨W8, hW8⟩ : ∃ W8, W8 = (w6.setCell ⟨w.heap.size + 3, 4, none⟩ (Value.slice KA' (st.1.length + 1) kc')).alloc (.cells #[.int .i64 x.kind, .int .i64 x.int, .string x.text, .slice A x.items.length c, .slice K x.keys.length q] 25) := ⟨_, rfl⟩
      have h8 : (w6.setCell ⟨w.heap.size + 3, 4, none⟩ (Value.slice KA' (st.1.length + 1) kc')).grownBy W8 none := by rw [hW8]; exact grow_alloc (grow_refl _ none) _
      have hB8 : Blk W8 w6.heap.size 25 #[.int .i64 x.kind, .int .i64 x.int, .string x.text, .slice A x.items.length c, .slice K x.keys.length q] := by rw [hW8]; exact Blk.newAt _ _ _ (by simp [World.setCell])
      have hI8 : W8.ownsRow (w.heap.size + 4) 25 5 (.slice IA st.2.length ic) st.2.length css.flatten := by rw [hW8]; exact World.ownsRow.alloc (own_set_far h6r.2.1 _ _ hne3I) _
      have hs8 : w6.heap.size + 1 ≤ W8.heap.size := by rw [hW8]; simp [World.setCell]
      have hb8 : Blk W8 (w.heap.size + 3) 25 #[.int .i64 5, .int .i64 0, .string ⟨#[]⟩, .slice IA st.2.length ic, (Value.slice KA' (st.1.length + 1) kc')] := by
        rw [hW8]
        have := (h6r.2.2.1.set_ 4 (Value.slice KA' (st.1.length + 1) kc')).alloc (.cells #[.int .i64 x.kind, .int .i64 x.int, .string x.text, .slice A x.items.length c, .slice K x.keys.length q] 25)
        simpa using this
      rw [← hW8]
      clear hW8
      have hpos8 : posK ⟨t.toArray⟩ st.1 ≤ st.2.length := by rw [← hHN.1]; exact hpos
      have hC9 := insV W8 (w.heap.size + 4) (.slice IA st.2.length ic) st.2.length (posK ⟨t.toArray⟩ st.1) css.flatten w6.heap.size #[.int .i64 x.kind, .int .i64 x.int, .string x.text, .slice A x.items.length c, .slice K x.keys.length q] hI8 hpos8 (by omega) (fun e => by have := hIlt _ e.symm; omega) hB8 rfl (by intro u hu; simp only [List.mem_cons, List.not_mem_nil, or_false] at hu; rcases hu with rfl | rfl | rfl | rfl | rfl <;> rfl) hone (by omega)
      refine hC9.mono ?_
      clear hC9
      intro e w9 hp9
      have hp9' := hp9
      obtain ⟨rowI', rfl, hI9, hg9, hwh9⟩ := hp9'
      obtain ⟨IA', ic', rfl⟩ : ∃ A c, rowI' = .slice A (st.2.length + 1) c := own_form hI9
      have b9 := hb8.grown hg9 hne3I
      have v3 : w9.cell? ⟨w.heap.size + 3, 3, none⟩ = some (.slice IA st.2.length ic) := by simpa using b9.cell 3
      have f3 : w9.frozen? ⟨w.heap.size + 3, 3, none⟩ = false := b9.frozen 3
      have hEnd := Lib.hid (obj_end (W3 := w') hg HI.out hn' HW4.out.1 HW4.out.2 HW3.out.1.size HL.out (key := ⟨t.toArray⟩) (fun e => hh ((hasK_iff _ _).2 e)) (by show t.toArray.size ≤ maxLen; unfold maxLen; simp; omega) (h6r.2.2.2 none) h6r.1 h8 hp9)
      have hS : R = some (insK st ⟨t.toArray⟩ x, l, n') := by
        rw [HR.out, stepO, ← HS1.out, HQ.out]
        simp only []
        rw [← HS2.out, if_pos HT.out, ← HS3.out, HX.out]
        simp only []
        rw [if_neg hh]
      clear h6r hIlt hone hHN h8 hB8 hI8 hb8 hp9 hI9 hg9 hwh9 b9
      go_wp2_with fail
      refine bodyPost_end (v := .tuple #[]) (by simp [results, Tryd.results88, go_sem]) rfl ?_
      rw [hS]
      exact spost_some hEnd.out hk4 hsk4
  · have HT := Lib.hid hc
    have HF := Lib.hid (show takesP 58 (skipP (sfx s k2)) = false by simpa using hc)
    clear hc
    refine wp_region_held_drew (S := fun w' => w'.cell? ⟨w.heap.size, 0, none⟩ = some (.pointer (some ⟨g, 0, none⟩))) (by kernel_rfl) (show _ from p0) (fun hHeld => ?_)
    refine wpAnyH_take (i := 0) (oi := _) (v := ?_) rfl (by kernel_rfl) (by kernel_rfl) (by kernel_rfl) (fun _ _ _ h => h) (Or.inl ⟨by rfl, (by intro w hSw; (try dsimp only at hSw); go_simp; try (with_reducible rfl))⟩) (by assumption) ?_
    try simp only [Act.put, List.setIfInBounds_toArray, List.set_cons_zero, List.set_cons_succ]
    refine wpAnyH_take (i := 1) (oi := _) (v := ?_) rfl (by kernel_rfl) (by kernel_rfl) (by kernel_rfl) (fun _ _ _ h => h) (Or.inl ⟨by rfl, (by intro w hSw; (try dsimp only at hSw); go_simp; try (with_reducible rfl))⟩) (by assumption) ?_
    try simp only [Act.put, List.setIfInBounds_toArray, List.set_cons_zero, List.set_cons_succ]
    refine wpAnyH_ready (rs := [2]) (by kernel_rfl) (by simp) ?_
    refine AllReadyH.cons (o := _) rfl (fun K hK => ?_) AllReadyH.nil
    go_simp
    refine (HC.out _ k2 HW2.out.drew.2 hk2).mono ?_
    rintro e w3 ⟨rfl, k3, hk3, hsk3, hw3⟩
    have HW3 := Lib.hid (HW2.out.drew.trans hw3)
    have HI3 := Lib.hid (HI.out.keep hg HW3.out.1 (Nat.le_refl _))
    refine hK.out _ _ HI3.out.p0 (fun hH3 => ?_)
    clear hK K
    refine wpAnyH_ready (rs := [3]) (by kernel_rfl) (by simp) ?_
    refine AllReadyH.cons (o := _) rfl (fun K hK => ?_) AllReadyH.nil
    go_simp
    refine (must_of HF.out _ _).mono ?_
    rintro e w' ⟨rfl, rfl⟩
    refine ⟨rfl, ?_⟩
    rw [show R = none by rw [HR.out, stepO, ← HS1.out, HQ.out]; simp only []; rw [← HS2.out, if_neg HT.out]]
    exact ⟨rfl, HI3.out.1⟩
end Go.Proofs.YtoddlacfbeckiaaDoor
