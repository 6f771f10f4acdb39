/- The specification's Sort and Distinct, walked. -/
import Derived.Test.YtfiiaeomlmckfaaGreatDoorNi
namespace Go.Proofs.YtfiiaeomlmckfaaGreatDoor
open Go.RowKit

theorem refSorted_any : ∀ (N : Nat) (l : List V), l.length ≤ N → l.length ≤ 1000 → Ok l → ∀ (w : World) (A : Option Addr) (c : Nat), LiesL w w.heap.size A c l → Calls Tryz.prog 26 #[.slice A l.length c] w (ListPost (sortV l) w)
  | 0, l, hN, _, _, w, A, c, h => sorted_short l w A c (by omega) h
  | N + 1, l, hN, hl, hok, w, A, c, h => by
    by_cases h2 : l.length < 2
    · exact sorted_short l w A c h2 h
    · exact sorted_step l w A c (by omega) hl hok h fun m hm hok W A c h => refSorted_any N m (by omega) (by omega) hok W A c h
theorem all_ok {l : List V} (h : l.all V.valid = true) : Ok l := fun x hx => valid_ok (List.all_eq_true.1 h x hx)
set_option maxHeartbeats 1000000 in
theorem refSort_ans (l : List V) (w : World) (A : Option Addr) (c : Nat) (hl : l.length ≤ 1000) (h : LiesL w w.heap.size A c l) :
    Calls Tryz.prog 7 #[.slice A l.length c] w (AnsPost (ansL l (sortV l)) (codeL l) w) := by
  have HV := Lib.hid (allValid_any l w A c h)
  have HS := Lib.hid fun (hok : Ok l) W (hW : Below w.heap.size w W) => refSorted_any l.length l (Nat.le_refl _) hl hok W A c (h.on hW)
  clear h hl
  cases hv : l.all V.valid
  · have HE1 := Lib.hid (show ∀ m, ansL l m = [] from fun m => if_neg (by rw [hv]; simp))
    have HE2 := Lib.hid (show codeL l = 1 from if_neg (by rw [hv]; simp))
    rw [hv] at HV
    clear hv
    go_enter Tryz.func7, Tryz.ntmps7
    go_wp2_with fail
    refine HV.out.mono ?_
    rintro e w1 ⟨rfl, hb⟩
    have HB := Lib.hid hb
    clear hb
    go_wp2_with fail
    go_ret2
    rw [HE1.out, HE2.out]
    exact AnsPost.none w _ 1 HB.out
  · have HE1 := Lib.hid (show ∀ m, ansL l m = m from fun m => if_pos hv)
    have HE2 := Lib.hid (show codeL l = 0 from if_pos hv)
    have HOK := Lib.hid (all_ok hv)
    rw [hv] at HV
    clear hv
    go_enter Tryz.func7, Tryz.ntmps7
    go_wp2_with fail
    refine HV.out.mono ?_
    rintro e w1 ⟨rfl, hb⟩
    have HB := Lib.hid hb
    clear hb
    go_wp2_with fail
    refine (HS.out HOK.out _ HB.out).mono ?_
    rintro e w2 ⟨A2, c2, rfl, hl2, hb2⟩
    have HL2 := Lib.hid hl2
    have HB2 := Lib.hid (below_on HB.out hb2)
    clear hl2 hb2
    go_wp2_with fail
    go_ret2
    rw [HE1.out, HE2.out]
    exact ⟨A2, c2, rfl, HL2.out, HB2.out⟩
set_option maxHeartbeats 1000000 in
theorem refEqual_any (x y : V) (b : Bool) (hb : (x.cmp y == 0) = b) (w : World) (A K : Option Addr) (c d : Nat) (A' K' : Option Addr) (c' d' : Nat) (hx : x.ok = true) (hy : y.ok = true) (h : Lies w w.heap.size x A c K d) (h' : Lies w w.heap.size y A' c' K' d') :
    Calls Tryz.prog 29 #[.agg #[.int .i64 x.kind, .int .i64 x.int, .string x.text, .slice A x.items.length c, .slice K x.keys.length d], .agg #[.int .i64 y.kind, .int .i64 y.int, .string y.text, .slice A' y.items.length c', .slice K' y.keys.length d']] w fun e w' =>
      e = .returned (.bool b) ∧ Below w.heap.size w w' := by
  have HB0 := Lib.hid (below_al (below_al (Below.refl _ w) (.cells #[.int .i64 x.kind, .int .i64 x.int, .string x.text, .slice A x.items.length c, .slice K x.keys.length d] 35)) (.cells #[.int .i64 y.kind, .int .i64 y.int, .string y.text, .slice A' y.items.length c', .slice K' y.keys.length d'] 35))
  have HC := Lib.hid (refOrder_any x.nodes x y _ A K c d A' K' c' d' (Nat.le_refl _) hx hy (lies_on h HB0.out) (lies_on h' HB0.out))
  obtain ⟨r, hr⟩ : ∃ r, r = x.cmp y := ⟨_, rfl⟩
  rw [← hr] at HC hb
  clear h h' hr hx hy
  go_enter Tryz.func29, Tryz.ntmps29
  go_wp2_with fail
  refine HC.out.mono ?_
  rintro e w1 ⟨rfl, hb1⟩
  have HB1 := Lib.hid (below_on HB0.out hb1)
  clear hb1 HC
  go_wp2_with fail
  go_ret
  exact ⟨rfl, HB1.out⟩
theorem once_more {s acc : List V} {j : Nat} {x y : V} (h : acc = onceV (s.take (j + 1))) (hx : s[j]? = some x) (hy : s[j + 1]? = some y) (he : ¬ x.cmp y = 0) : acc ++ [y] = onceV (s.take (j + 1 + 1)) := by
  have h2 := (cmp_order y x y).2.1
  rw [onceV_take hx hy, if_neg (by omega), h]
theorem once_same {s acc : List V} {j : Nat} {x y : V} (h : acc = onceV (s.take (j + 1))) (hx : s[j]? = some x) (hy : s[j + 1]? = some y) (he : x.cmp y = 0) : acc = onceV (s.take (j + 1 + 1)) := by
  have h2 := (cmp_order y x y).2.1
  rw [onceV_take hx hy, if_pos (by omega), List.append_nil, h]
set_option maxRecDepth 100000 in
set_option maxHeartbeats 8000000 in
theorem refDistinct_ans (l : List V) (w : World) (A : Option Addr) (c : Nat) (hl : l.length ≤ 1000) (h : LiesL w w.heap.size A c l) :
    Calls Tryz.prog 9 #[.slice A l.length c] w (AnsPost (ansL l (onceV (sortV l))) (codeL l) w) := by
  obtain ⟨iv0, hiv, hzv0, hzv1, hzv2⟩ := info_parts (P := Tryz.prog) (e := 35) (z := .agg zeroF) (size := 5) (bytes := 80) (by kernel_rfl)
  have HV := Lib.hid (allValid_any l w A c h)
  have HS := Lib.hid fun (hok : Ok l) W (hW : Below w.heap.size w W) => refSorted_any l.length l (Nat.le_refl _) hl hok W A c (h.on hW)
  have HLN := Lib.hid (show (sortV l).length ≤ 1000 by rw [(sortV_perm l).length_eq]; exact hl)
  clear h hl
  cases hv : l.all V.valid
  · have HE1 := Lib.hid (show ∀ m, ansL l m = [] from fun m => if_neg (by rw [hv]; simp))
    have HE2 := Lib.hid (show codeL l = 1 from if_neg (by rw [hv]; simp))
    rw [hv] at HV
    clear hv
    go_enter Tryz.func9, Tryz.ntmps9
    go_wp2_with fail
    refine HV.out.mono ?_
    rintro e w1 ⟨rfl, hb⟩
    have HB := Lib.hid hb
    clear hb
    go_wp2_with fail
    go_ret2
    rw [HE1.out, HE2.out]
    exact AnsPost.none w _ 1 HB.out
  · have HE1 := Lib.hid (show ∀ m, ansL l m = m from fun m => if_pos hv)
    have HE2 := Lib.hid (show codeL l = 0 from if_pos hv)
    have HOK := Lib.hid (all_ok hv)
    rw [hv] at HV
    clear hv
    go_enter Tryz.func9, Tryz.ntmps9
    go_wp2_with fail
    refine HV.out.mono ?_
    rintro e w1 ⟨rfl, hb⟩
    have HB := Lib.hid hb
    clear hb
    go_wp2_with fail
    refine (HS.out HOK.out _ HB.out).mono ?_
    rintro e w2 ⟨A1, c1, rfl, hl2, hb2⟩
    have HL1 := Lib.hid hl2
    have HB2 := Lib.hid (below_on HB.out hb2)
    have HAO := Lib.hid (sortV_ok HOK.out)
    clear hl2 hb2 HS HV HB
    obtain ⟨a, ha⟩ : ∃ a, a = sortV l := ⟨_, rfl⟩
    have HSA := Lib.hid ha
    rw [← ha] at HL1 HAO HLN ⊢
    obtain ⟨na, hna⟩ : ∃ na, na = a.length := ⟨_, rfl⟩
    have HNA := Lib.hid hna
    have hnb : na ≤ 1000 := by have := HLN.out; omega
    rw [← hna]
    clear ha hna
    go_wp2_with fail
    go_loopw [5, 6] (fun ov iv wr => ∃ (i : Nat) (acc : List V) (css : List (List Value)), iv = .int .i64 i ∧ i ≤ na ∧ Hid (acc = onceV (a.take i)) ∧ Hid (Coll w2 acc ov css wr)) (fun _ iv _ => na - (intOf iv).toNat)
    case atStart => exact ⟨0, [], [], rfl, Nat.zero_le _, Lib.hid rfl, Lib.hid (Coll.start w2)⟩
    case round =>
      obtain ⟨i, acc, css, rfl, hi, HI, HC⟩ := hrel
      obtain ⟨RA, rc, hov⟩ := own_form HC.out.items
      subst hov
      have hal : acc.length ≤ 1000 := by
        have h1 := congrArg List.length HI.out
        have h2 := onceV_len (a.take i)
        rw [List.length_take] at h2
        omega
      by_cases hia : i < na
      · have i1 : (i : Int) < na := by omega
        obtain ⟨y, hxp⟩ : ∃ y, a[i]? = some y := ⟨_, List.getElem?_eq_getElem (by have := HNA.out; omega)⟩
        obtain ⟨bp, op, Bp, cp, Kp, dp, rfl, hbp, ⟨p0, p1, p2, p3, p4⟩, hlp⟩ := (HL1.out.low HC.out.old).elem hxp
        have HXp := Lib.hid hxp
        have HLp := Lib.hid hlp
        have gp : bp < wr.heap.size := by have := HC.out.old.size; omega
        clear hxp hlp
        by_cases hi0 : i = 0
        · subst hi0
          rw [Nat.zero_mul, Nat.add_zero] at p0 p1 p2 p3 p4
          have HN0 := Lib.hid i1
          have hn0 : 0 < na := hia
          clear i1 hia
          go_wp2_with fail
          go_quiet (fail)
          have HBS := Lib.hid (below_drewN (Below.refl wr.heap.size wr) nq)
          have HC3 := Lib.hid (HC.out.below HBS.out)
          replace p0 : (wr.drewN nq).cell? _ = _ := p0
          replace p1 : (wr.drewN nq).cell? _ = _ := p1
          replace p2 : (wr.drewN nq).cell? _ = _ := p2
          replace p3 : (wr.drewN nq).cell? _ = _ := p3
          replace p4 : (wr.drewN nq).cell? _ = _ := p4
          generalize wr.drewN nq = w3 at HBS HC3 p0 p1 p2 p3 p4 ⊢
          go_wp2_with (at_builtin; refine wpList_append_lies _ rfl _ _ 22 rfl w2.heap.size 35 iv0 (.agg zeroF) 5 80 Tryz.underlying22 hiv hzv0 hzv1 hzv2 rfl (by decide) (.slice RA acc.length rc) acc.length css.flatten rfl (World.ownsRow.alloc HC3.out.items _) ⟨(w3).heap.size, 0, none⟩ 1 1 (fieldsL y Bp cp Kp dp) rfl rfl (World.news_of_block (fr := (0, 0)) (t := 35) (cs := #[.int .i64 y.kind, .int .i64 y.int, .string y.text, .slice Bp y.items.length cp, .slice Kp y.keys.length dp]) (BlockIs.new (w3) _ _)) (by intro u hu; simp [fieldsL] at hu; rcases hu with rfl | rfl | rfl | rfl | rfl <;> rfl) (by omega) (by unfold maxLen; omega) (by omega) (by have := HC3.out.old.size; simp; omega) _ rfl ?_; intro g' cap w5 hown hgrow hat hlt')
          have HCN := Lib.hid (HC3.out.push (Lies.inn _ (Lies.keep (w' := w3) (fun b o hb => bcell HBS.out b o (by have := HC.out.old.size; omega)) (Nat.le_refl _) _ HLp.out)) _ hgrow hown)
          clear hown hgrow hat hlt' p0 p1 p2 p3 p4
          go_wp2_with fail
          go_roundw
          case rel =>
            refine ⟨1, _, _, by go_num, by omega, Lib.hid ?_, HCN⟩
            rw [HI.out, onceV_one HXp.out]
            simp [onceV]
          case measure => simp [intOf]; omega
        · obtain ⟨j, rfl⟩ : ∃ j, i = j + 1 := ⟨i - 1, by omega⟩
          obtain ⟨x, hxs⟩ : ∃ x, a[j]? = some x := ⟨_, List.getElem?_eq_getElem (by have := HNA.out; omega)⟩
          obtain ⟨bs, os, Bs, cs, Ks, ds, hae, hbs, ⟨s0, s1, s2, s3, s4⟩, hls⟩ := (HL1.out.low HC.out.old).elem hxs
          cases hae
          have HXs := Lib.hid hxs
          have HLs := Lib.hid hls
          clear hxs hls
          obtain ⟨b, hb⟩ : ∃ b, (x.cmp y == 0) = b := ⟨_, rfl⟩
          have HBB := Lib.hid hb
          have HEQ := Lib.hid fun W (hW : Below wr.heap.size wr W) => refEqual_any x y b hb W Bs Ks cs ds Bp Kp cp dp (HAO.out x (List.mem_of_getElem? HXs.out)) (HAO.out y (List.mem_of_getElem? HXp.out)) (Lies.keep (fun b o hb => bcell hW b o (by have := HC.out.old.size; omega)) (by have := HC.out.old.size; have := hW.size; omega) _ HLs.out) (Lies.keep (fun b o hb => bcell hW b o (by have := HC.out.old.size; omega)) (by have := HC.out.old.size; have := hW.size; omega) _ HLp.out)
          have z1 : (((j + 1 : Nat) : Int) == 0) = false := by simp; omega
          obtain ⟨i, hij⟩ : ∃ i, i = j + 1 := ⟨_, rfl⟩
          have HIJ := Lib.hid hij
          rw [show j * 5 = (i - 1) * 5 by omega] at s0 s1 s2 s3 s4
          rw [← hij] at i1 z1 p0 p1 p2 p3 p4 ⊢
          have v1 : 0 ≤ (i : Int) - 1 := by omega
          have v2 : (i : Int) - 1 < na := by omega
          have v3 : ((i : Int) - 1).toNat = i - 1 := by omega
          have v4 : IntKind.i64.wrap ((i : Int) - 1) = (i : Int) - 1 := IntWalk.i64_in _ (by omega)
          have v5 : 0 ≤ (i : Int) := by omega
          have v6 : 1 ≤ (i : Int) := by omega
          clear hb hij hi0
          go_wp2_with fail
          go_region_held3 (fun W => Hid (Below wr.heap.size wr W) ∧ (W.cell? ⟨bp, op + (i - 1) * 5, none⟩ = some (.int .i64 x.kind) ∧ W.cell? ⟨bp, op + (i - 1) * 5 + 1, none⟩ = some (.int .i64 x.int) ∧ W.cell? ⟨bp, op + (i - 1) * 5 + 2, none⟩ = some (.string x.text) ∧ W.cell? ⟨bp, op + (i - 1) * 5 + 3, none⟩ = some (.slice Bs x.items.length cs) ∧ W.cell? ⟨bp, op + (i - 1) * 5 + 4, none⟩ = some (.slice Ks x.keys.length ds)) ∧ (W.cell? ⟨bp, op + i * 5, none⟩ = some (.int .i64 y.kind) ∧ W.cell? ⟨bp, op + i * 5 + 1, none⟩ = some (.int .i64 y.int) ∧ W.cell? ⟨bp, op + i * 5 + 2, none⟩ = some (.string y.text) ∧ W.cell? ⟨bp, op + i * 5 + 3, none⟩ = some (.slice Bp y.items.length cp) ∧ W.cell? ⟨bp, op + i * 5 + 4, none⟩ = some (.slice Kp y.keys.length dp)))
            (first
              | (exact ⟨Lib.hid (Below.drew (Below.refl _ _)), ⟨s0, s1, s2, s3, s4⟩, p0, p1, p2, p3, p4⟩)
              | (go_split_ands
                 have hB := keepB (by assumption) hb3
                 exact ⟨Lib.hid hB, ⟨(bcell hB _ _ gp).trans s0, (bcell hB _ _ gp).trans s1, (bcell hB _ _ gp).trans s2, (bcell hB _ _ gp).trans s3, (bcell hB _ _ gp).trans s4⟩, (bcell hB _ _ gp).trans p0, (bcell hB _ _ gp).trans p1, (bcell hB _ _ gp).trans p2, (bcell hB _ _ gp).trans p3, (bcell hB _ _ gp).trans p4⟩))
            (first
              | (go_at_call 29; refine (HEQ.out _ ?_).mono ?_; (go_split_ands; exact Hid.out (by assumption)); rintro e w3 ⟨rfl, hb3⟩))
          rename_i hS
          obtain ⟨hS1, -, p0', p1', p2', p3', p4'⟩ := hS
          have HBS := Lib.hid hS1.out
          have HC3 := Lib.hid (HC.out.below HBS.out)
          clear hS1 hb3 p0 p1 p2 p3 p4 s0 s1 s2 s3 s4 HEQ v1 v2 v3 v4 v6 z1
          cases b
          · have HNE := Lib.hid (show ¬ x.cmp y = 0 by simpa using HBB.out)
            go_wp2_with (at_builtin; refine wpList_append_lies _ rfl _ _ 22 rfl w2.heap.size 35 iv0 (.agg zeroF) 5 80 Tryz.underlying22 hiv hzv0 hzv1 hzv2 rfl (by decide) (.slice RA acc.length rc) acc.length css.flatten rfl (World.ownsRow.alloc HC3.out.items _) ⟨(w3).heap.size, 0, none⟩ 1 1 (fieldsL y Bp cp Kp dp) rfl rfl (World.news_of_block (fr := (0, 0)) (t := 35) (cs := #[.int .i64 y.kind, .int .i64 y.int, .string y.text, .slice Bp y.items.length cp, .slice Kp y.keys.length dp]) (BlockIs.new (w3) _ _)) (by intro u hu; simp [fieldsL] at hu; rcases hu with rfl | rfl | rfl | rfl | rfl <;> rfl) (by omega) (by unfold maxLen; omega) (by omega) (by have := HC3.out.old.size; simp; omega) _ rfl ?_; intro g' cap w5 hown hgrow hat hlt')
            have HCN := Lib.hid (HC3.out.push (Lies.inn _ (Lies.keep (w' := w3) (fun b o hb => bcell HBS.out b o (by have := HC.out.old.size; omega)) (Nat.le_refl _) _ HLp.out)) _ hgrow hown)
            clear hown hgrow hat hlt' p0' p1' p2' p3' p4'
            go_wp2_with fail
            go_roundw
            case rel => exact ⟨i + 1, _, _, by go_num, by omega, Lib.hid (by rw [HIJ.out]; exact once_more HI.out HXs.out HXp.out HNE.out), HCN⟩
            case measure => simp [intOf]; omega
          · have HNE := Lib.hid (show x.cmp y = 0 by simpa using HBB.out)
            clear p0' p1' p2' p3' p4'
            go_wp2_with fail
            go_roundw
            case rel => exact ⟨i + 1, _, _, by go_num, by omega, Lib.hid (by rw [HIJ.out]; exact once_same HI.out HXs.out HXp.out HNE.out), HC3⟩
            case measure => simp [intOf]; omega
      · have i1 : ¬ ((i : Int) < na) := by omega
        go_wp2_with fail
        go_ret2
        have he := HI.out
        rw [List.take_of_length_le (by have := HNA.out; omega)] at he
        obtain ⟨A9, c9, he9, hl9⟩ := HC.out.done
        rw [HE1.out, HE2.out, ← HSA.out]
        subst he
        exact ⟨A9, c9, congrArg (fun v => Ending.returned (.tuple #[v, .int .i64 0])) he9, hl9, below_on HB2.out HC.out.old⟩
end Go.Proofs.YtfiiaeomlmckfaaGreatDoor
