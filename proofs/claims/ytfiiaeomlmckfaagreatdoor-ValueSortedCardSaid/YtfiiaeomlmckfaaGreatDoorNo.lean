/- The law on sorted values, walked. -/
import Derived.Test.YtfiiaeomlmckfaaGreatDoorNn
import Derived.Test.YtfiiaeomlmckfaaGreatDoorNk
namespace Go.Proofs.YtfiiaeomlmckfaaGreatDoor
open Go.RowKit

theorem cmp_ok (x y : V) (r : Int) (hr : r = x.cmp y) (hx : x.valid = true) (hy : y.valid = true) (w : World) (A K : Option Addr) (c d : Nat) (A' K' : Option Addr) (c' d' : Nat) (h : Lies w w.heap.size x A c K d) (h' : Lies w w.heap.size y A' c' K' d') :
    Calls Tryz.prog 13 #[.agg #[.int .i64 x.kind, .int .i64 x.int, .string x.text, .slice A x.items.length c, .slice K x.keys.length d], .agg #[.int .i64 y.kind, .int .i64 y.int, .string y.text, .slice A' y.items.length c', .slice K' y.keys.length d']] w fun e w' => e = .returned (.tuple #[.int .i64 r, .int .i64 0]) ∧ Below w.heap.size w w' := by
  refine (compare_any x y w A K c d A' K' c' d' h h').mono ?_
  rintro e w' ⟨he, hb⟩
  rw [hx, hy] at he
  exact ⟨by rw [he, hr]; rfl, hb⟩
theorem rises_at {l : List V} {p : V → V → Prop} (h : l.Pairwise p) {j : Nat} {x y : V} (hx : l[j]? = some x) (hy : l[j + 1]? = some y) : p x y := by
  obtain ⟨h1, rfl⟩ := List.getElem?_eq_some_iff.1 hx
  obtain ⟨h2, rfl⟩ := List.getElem?_eq_some_iff.1 hy
  exact List.pairwise_iff_getElem.1 h j (j + 1) h1 h2 (by omega)
theorem all_perm {l m : List V} (h : m.Perm l) (hv : l.all V.valid = true) : m.all V.valid = true := List.all_eq_true.2 fun x hx => List.all_eq_true.1 hv x (h.mem_iff.1 hx)
theorem sort_m {l m : List V} (h : m.Perm l) (hv : l.all V.valid = true) (hl : l.length ≤ 60) (w : World) (A : Option Addr) (c : Nat) (hm : LiesL w w.heap.size A c m) :
    Calls Tryz.prog 6 #[.slice A m.length c] w (AnsPost (sortV l) 0 w) := by
  have h1 := sort_ans m w A c (by rw [h.length_eq]; omega) hm
  have h2 := all_perm h hv
  unfold ansL codeL at h1
  rw [if_pos h2, if_pos h2, sortV_of_perm (all_ok hv) h] at h1
  exact h1
theorem distinct_m {l m : List V} (h : m.Perm l) (hv : l.all V.valid = true) (hl : l.length ≤ 60) (w : World) (A : Option Addr) (c : Nat) (hm : LiesL w w.heap.size A c m) :
    Calls Tryz.prog 8 #[.slice A m.length c] w (AnsPost (onceV (sortV l)) 0 w) := by
  have h1 := distinct_ans m w A c (by rw [h.length_eq]; omega) hm
  have h2 := all_perm h hv
  unfold ansL codeL at h1
  rw [if_pos h2, if_pos h2, sortV_of_perm (all_ok hv) h] at h1
  exact h1
set_option maxRecDepth 100000 in
set_option maxHeartbeats 8000000 in
theorem law_sorted_big (l : List V) (bs : List Nat) (w : World) (A : Option Addr) (c : Nat) (A' : Option Addr) (c' : Nat) (h : LiesL w w.heap.size A c l) (hp : Pow w) (hno : ¬ (l.length ≤ 60 ∧ l.all V.valid = true)) :
    Calls Tryz.prog 4 #[.slice A l.length c, .slice A' bs.length c'] w fun e w' => e = .returned (.bool true) ∧ Below w.heap.size w w' := by
  have HA := Lib.hid fun W (hW : Below w.heap.size w W) => awake_any W (hp.on hW)
  have HV := Lib.hid (allValid_any l w A c h)
  have hlm : l.length ≤ 9223372036854775807 := by have h1 := h.1; have h2 := h.2.1; unfold maxLen at h2; omega
  clear hp h
  by_cases hl : l.length ≤ 60
  · cases hv : l.all V.valid
    · rw [hv] at HV
      obtain ⟨n, hn⟩ : ∃ n, n = l.length := ⟨_, rfl⟩
      rw [← hn] at hl hlm HV ⊢
      have hn2 : ¬ 60 < (n : Int) := by omega
      clear hn hno hv
      go_enter Tryz.func4, Tryz.ntmps4
      go_wp2_with fail
      refine HV.out.mono ?_
      rintro e w0 ⟨rfl, hb0⟩
      have B0 := Lib.hid hb0
      clear hb0
      go_wp2_with fail
      refine (HA.out _ B0.out).mono ?_
      rintro e w1 ⟨rfl, hb1⟩
      have B1 := Lib.hid (below_on B0.out hb1)
      clear hb1
      go_wp2_with fail
      go_ret
      exact ⟨rfl, B1.out⟩
    · exact absurd ⟨hl, hv⟩ hno
  · obtain ⟨n, hn⟩ : ∃ n, n = l.length := ⟨_, rfl⟩
    rw [← hn] at hl hlm ⊢
    have hn2 : 60 < (n : Int) := by omega
    clear hn hno HV
    go_enter Tryz.func4, Tryz.ntmps4
    go_wp2_with fail
    refine (HA.out _ (Below.refl _ w)).mono ?_
    rintro e w1 ⟨rfl, hb1⟩
    have B1 := Lib.hid hb1
    clear hb1
    go_wp2_with fail
    go_ret
    exact ⟨rfl, B1.out⟩
set_option maxRecDepth 100000 in
set_option maxHeartbeats 16000000 in
theorem law_sorted (l : List V) (bs : List Nat) (w : World) (A : Option Addr) (c : Nat) (A' : Option Addr) (c' : Nat) (h : LiesL w w.heap.size A c l) (hbs : BLies w w.heap.size A' c' bs) (hp : Pow w) :
    Calls Tryz.prog 4 #[.slice A l.length c, .slice A' bs.length c'] w fun e w' => e = .returned (.bool true) ∧ Below w.heap.size w w' := by
  by_cases hno : l.length ≤ 60 ∧ l.all V.valid = true
  case neg => exact law_sorted_big l bs w A c A' c' h hp hno
  obtain ⟨hl, hv⟩ := hno
  have HA := Lib.hid fun W (hW : Below w.heap.size w W) => awake_any W (hp.on hW)
  have HV := Lib.hid (allValid_any l w A c h)
  rw [hv] at HV
  have HS := Lib.hid fun (m : List V) (hm : m.Perm l) W A c hL => sort_m hm hv hl W A c hL
  have HD := Lib.hid fun (m : List V) (hm : m.Perm l) W A c hL => distinct_m hm hv hl W A c hL
  have HT := Lib.hid fun W (hW : Below w.heap.size w W) => turned_any l bs W A c A' c' hl (h.on hW) (hbs.on hW)
  have HL := Lib.hid fun W (hW : Below w.heap.size w W) => h.on hW
  obtain ⟨s, hs⟩ : ∃ s, s = sortV l := ⟨_, rfl⟩
  obtain ⟨d, hd⟩ : ∃ d, d = onceV s := ⟨_, rfl⟩
  have hsv : ∀ x ∈ s, x.valid = true := fun x hx => List.all_eq_true.1 hv x ((sortV_perm l).mem_iff.1 (hs ▸ hx))
  have HSV := Lib.hid hsv
  have HDV := Lib.hid (show ∀ x ∈ d, x.valid = true from fun x hx => hsv x (onceV_mem (hd ▸ hx)))
  have HSR := Lib.hid (show s.Pairwise fun x y => leV x y = true by rw [hs]; exact sortV_rises l)
  have HDR := Lib.hid (show d.Pairwise fun x y => x.cmp y < 0 by rw [hd]; exact onceV_rises HSR.out)
  rw [← hs] at HS HD
  rw [← hd] at HD
  obtain ⟨n, hn⟩ : ∃ n, n = l.length := ⟨_, rfl⟩
  have hsn : s.length = n := by rw [hs, (sortV_perm l).length_eq, hn]
  have hdn : d.length ≤ n := by have := onceV_len s; rw [← hd] at this; omega
  have HN := Lib.hid hn
  have hn2 : ¬ 60 < (n : Int) := by omega
  have hn60 : n ≤ 60 := by omega
  have HSN := Lib.hid hsn
  obtain ⟨nd, hnd⟩ : ∃ nd, nd = d.length := ⟨_, rfl⟩
  have HND := Lib.hid hnd
  rw [← hnd] at hdn
  rw [← hn] at HV HT ⊢
  clear hs hd hsv hsn hl hv h hbs hp hn hnd
  go_enter Tryz.func4, Tryz.ntmps4
  go_wp2_with fail
  refine HV.out.mono ?_
  rintro e w0 ⟨rfl, hb0⟩
  have B0 := Lib.hid hb0
  clear hb0
  go_wp2_with fail
  have HS0 := HS.out l (List.Perm.refl _) w0 A c (HL.out _ B0.out)
  rw [← HN.out] at HS0
  refine HS0.mono ?_
  clear HS0
  rintro e w1 ⟨A1, c1, rfl, hl1, hb1⟩
  rw [HSN.out]
  have L1 := Lib.hid hl1
  have B1 := Lib.hid (below_on B0.out hb1)
  clear hl1 hb1
  go_wp2_with fail
  refine (HT.out _ B1.out).mono ?_
  rintro e w2 ⟨m2, hm2, A2, c2, rfl, hl2, hb2⟩
  have M2 := Lib.hid hm2
  have L2 := Lib.hid hl2
  have L12 := Lib.hid (L1.out.on hb2)
  have B2 := Lib.hid (below_on B1.out hb2)
  clear hm2 hl2 hb2
  go_wp2_with fail
  refine (HS.out m2 M2.out w2 A2 c2 L2.out).mono ?_
  rintro e w3 ⟨A3, c3, rfl, hl3, hb3⟩
  rw [HSN.out]
  have L3 := Lib.hid hl3
  have L13 := Lib.hid (L12.out.on hb3)
  have B3 := Lib.hid (below_on B2.out hb3)
  clear hl3 hb3
  go_wp2_with fail
  have HD0 := HD.out l (List.Perm.refl _) w3 A c (HL.out _ B3.out)
  rw [← HN.out] at HD0
  refine HD0.mono ?_
  clear HD0
  rintro e w4 ⟨A4, c4, rfl, hl4, hb4⟩
  rw [← HND.out]
  have L4 := Lib.hid hl4
  have L34 := Lib.hid (L3.out.on hb4)
  have L14 := Lib.hid (L13.out.on hb4)
  have B4 := Lib.hid (below_on B3.out hb4)
  clear hl4 hb4
  go_wp2_with fail
  refine (HT.out _ B4.out).mono ?_
  rintro e w5 ⟨m5, hm5, A5, c5, rfl, hl5, hb5⟩
  have M5 := Lib.hid hm5
  have L5 := Lib.hid hl5
  have L45 := Lib.hid (L4.out.on hb5)
  have L35 := Lib.hid (L34.out.on hb5)
  have L15 := Lib.hid (L14.out.on hb5)
  have B5 := Lib.hid (below_on B4.out hb5)
  clear hm5 hl5 hb5
  go_wp2_with fail
  refine (HD.out m5 M5.out w5 A5 c5 L5.out).mono ?_
  rintro e w6 ⟨A6, c6, rfl, hl6, hb6⟩
  rw [← HND.out]
  have L6 := Lib.hid hl6
  have L46 := Lib.hid (L45.out.on hb6)
  have L36 := Lib.hid (L35.out.on hb6)
  have L16 := Lib.hid (L15.out.on hb6)
  have B6 := Lib.hid (below_on B5.out hb6)
  have S1 := Lib.hid (by have h := sameL_is s w6 A1 A3 c1 c3 L16.out L36.out; rw [HSN.out] at h; exact h)
  have S2 := Lib.hid (by have h := fun W (hW : Below w6.heap.size w6 W) => sameL_is d W A4 A6 c4 c6 (L46.out.on hW) (L6.out.on hW); rw [← HND.out] at h; exact h)
  clear hl6 hb6
  go_wp2_with fail
  refine S1.out.mono ?_
  rintro e w7 ⟨rfl, hb7⟩
  have B7 := Lib.hid (And.intro hb7 (below_on B6.out hb7))
  clear hb7
  go_wp2_with fail
  refine (S2.out _ B7.out.1).mono ?_
  rintro e w8 ⟨rfl, hb8⟩
  have B8 := Lib.hid (And.intro (below_on B7.out.1 hb8) (below_on B7.out.2 hb8))
  clear hb8 S1 S2
  have LS := Lib.hid (L16.out.on B8.out.1)
  have LD := Lib.hid (L46.out.on B8.out.1)
  clear L1 L2 L3 L4 L5 L6 L12 L13 L14 L15 L16 L34 L35 L36 L45 L46 B1 B2 B3 B4 B5 B6 B7 M2 M5 HT HS HD
  go_wp2_with fail
  go_loopw [13] (fun iv wr => ∃ i : Nat, iv = .int .i64 i ∧ 1 ≤ i ∧ i ≤ n + 1 ∧ Hid (Below w8.heap.size w8 wr)) (fun iv _ => n + 1 - (intOf iv).toNat)
  case atStart => exact ⟨1, rfl, Nat.le_refl _, by omega, Lib.hid (Below.refl _ _)⟩
  case round =>
    obtain ⟨i, rfl, hi1, hi2, HW⟩ := hrel
    have v5 : 0 ≤ (i : Int) := by omega
    have v6 : 1 ≤ (i : Int) := by omega
    by_cases hin : i < n
    · have i1 : (i : Int) < n := by omega
      obtain ⟨j, hij⟩ : ∃ j, i = j + 1 := ⟨i - 1, by omega⟩
      have HIJ := Lib.hid hij
      have hln := HSN.out
      obtain ⟨x, hx⟩ : ∃ x, s[j]? = some x := ⟨_, List.getElem?_eq_getElem (by omega)⟩
      obtain ⟨y, hy⟩ : ∃ y, s[j + 1]? = some y := ⟨_, List.getElem?_eq_getElem (by omega)⟩
      have hr0 := rises_at HSR.out hx hy
      obtain ⟨bs', os, Bs, cs, Ks, ds, hae, hbs, ⟨s0, s1, s2, s3, s4⟩, hls⟩ := (LS.out.on HW.out).elem hx
      obtain ⟨bp, op, Bp, cp, Kp, dp, hap, hbp, ⟨p0, p1, p2, p3, p4⟩, hlp⟩ := (LS.out.on HW.out).elem hy
      have haa := hae.symm.trans hap
      cases haa
      rw [hae]
      obtain ⟨r, hr⟩ : ∃ r, r = x.cmp y := ⟨_, rfl⟩
      have HC := Lib.hid fun W (hW : Below wr.heap.size wr W) => cmp_ok x y r hr (HSV.out x (List.mem_of_getElem? hx)) (HSV.out y (List.mem_of_getElem? hy)) W Bs Ks cs ds Bp Kp cp dp (lies_on hls hW) (lies_on hlp hW)
      have hr1 : ¬ 0 < r := by have := leV_iff.1 hr0; omega
      rw [show j * 5 = (i - 1) * 5 by omega] at s0 s1 s2 s3 s4
      rw [← hij] at p0 p1 p2 p3 p4
      have v1 : 0 ≤ (i : Int) - 1 := by omega
      have v2 : (i : Int) - 1 < n := by omega
      have v3 : ((i : Int) - 1).toNat = i - 1 := by omega
      have v4 : IntKind.i64.wrap ((i : Int) - 1) = (i : Int) - 1 := IntWalk.i64_in _ (by omega)
      clear hij hln hx hy hr0 hae hap hls hlp hr
      go_wp2_with fail
      go_region_held3 (fun W => Hid (Below wr.heap.size wr W) ∧ (W.cell? ⟨bs', os + (i - 1) * 5, none⟩ = some (.int .i64 x.kind) ∧ W.cell? ⟨bs', os + (i - 1) * 5 + 1, none⟩ = some (.int .i64 x.int) ∧ W.cell? ⟨bs', os + (i - 1) * 5 + 2, none⟩ = some (.string x.text) ∧ W.cell? ⟨bs', os + (i - 1) * 5 + 3, none⟩ = some (.slice Bs x.items.length cs) ∧ W.cell? ⟨bs', os + (i - 1) * 5 + 4, none⟩ = some (.slice Ks x.keys.length ds)) ∧ (W.cell? ⟨bs', os + i * 5, none⟩ = some (.int .i64 y.kind) ∧ W.cell? ⟨bs', os + i * 5 + 1, none⟩ = some (.int .i64 y.int) ∧ W.cell? ⟨bs', os + i * 5 + 2, none⟩ = some (.string y.text) ∧ W.cell? ⟨bs', os + i * 5 + 3, none⟩ = some (.slice Bp y.items.length cp) ∧ W.cell? ⟨bs', os + i * 5 + 4, none⟩ = some (.slice Kp y.keys.length dp)))
        (first
          | (exact ⟨Lib.hid (Below.drew (Below.refl _ _)), ⟨s0, s1, s2, s3, s4⟩, p0, p1, p2, p3, p4⟩)
          | (go_split_ands
             have hB := keepB (by assumption) hb3
             exact ⟨Lib.hid hB, ⟨(bcell hB _ _ hbs).trans s0, (bcell hB _ _ hbs).trans s1, (bcell hB _ _ hbs).trans s2, (bcell hB _ _ hbs).trans s3, (bcell hB _ _ hbs).trans s4⟩, (bcell hB _ _ hbs).trans p0, (bcell hB _ _ hbs).trans p1, (bcell hB _ _ hbs).trans p2, (bcell hB _ _ hbs).trans p3, (bcell hB _ _ hbs).trans p4⟩))
        (first
          | (go_at_call 13; refine (HC.out _ ?_).mono ?_; (go_split_ands; exact Hid.out (by assumption)); rintro e w9 ⟨rfl, hb3⟩))
      rename_i hS
      have HW2 := Lib.hid (below_on HW.out hS.1.out)
      clear hS hb3 s0 s1 s2 s3 s4 p0 p1 p2 p3 p4 HC v1 v2 v3 v4 v6 hbs hbp
      go_wp2_with fail
      go_roundw
      case rel => exact ⟨i + 1, by go_num, by omega, by omega, HW2⟩
      case measure => simp [intOf]; omega
    · have i1 : ¬ (i : Int) < n := by omega
      have LD9 := Lib.hid (LD.out.on HW.out)
      have B9 := Lib.hid (below_on B8.out.2 HW.out)
      obtain ⟨w9, hw9⟩ : ∃ w9, w9 = wr := ⟨_, rfl⟩
      rw [← hw9] at LD9 B9 ⊢
      clear hw9 HW
      go_wp2_with fail
      go_loopw [16] (fun iv wr => ∃ i : Nat, iv = .int .i64 i ∧ 1 ≤ i ∧ i ≤ nd + 1 ∧ Hid (Below w9.heap.size w9 wr)) (fun iv _ => nd + 1 - (intOf iv).toNat)
      case atStart => exact ⟨1, rfl, Nat.le_refl _, by omega, Lib.hid (Below.refl _ _)⟩
      case round =>
        obtain ⟨i, rfl, hi1, hi2, HW⟩ := hrel
        have v5 : 0 ≤ (i : Int) := by omega
        have v6 : 1 ≤ (i : Int) := by omega
        by_cases hin : i < nd
        · have i1 : (i : Int) < nd := by omega
          obtain ⟨j, hij⟩ : ∃ j, i = j + 1 := ⟨i - 1, by omega⟩
          have HIJ := Lib.hid hij
          have hln := HND.out
          obtain ⟨x, hx⟩ : ∃ x, d[j]? = some x := ⟨_, List.getElem?_eq_getElem (by omega)⟩
          obtain ⟨y, hy⟩ : ∃ y, d[j + 1]? = some y := ⟨_, List.getElem?_eq_getElem (by omega)⟩
          have hr0 := rises_at HDR.out hx hy
          obtain ⟨bs', os, Bs, cs, Ks, ds, hae, hbs, ⟨s0, s1, s2, s3, s4⟩, hls⟩ := (LD9.out.on HW.out).elem hx
          obtain ⟨bp, op, Bp, cp, Kp, dp, hap, hbp, ⟨p0, p1, p2, p3, p4⟩, hlp⟩ := (LD9.out.on HW.out).elem hy
          have haa := hae.symm.trans hap
          cases haa
          rw [hae]
          obtain ⟨r, hr⟩ : ∃ r, r = x.cmp y := ⟨_, rfl⟩
          have HC := Lib.hid fun W (hW : Below wr.heap.size wr W) => cmp_ok x y r hr (HDV.out x (List.mem_of_getElem? hx)) (HDV.out y (List.mem_of_getElem? hy)) W Bs Ks cs ds Bp Kp cp dp (lies_on hls hW) (lies_on hlp hW)
          have hr1 : ¬ 0 ≤ r := by omega
          rw [show j * 5 = (i - 1) * 5 by omega] at s0 s1 s2 s3 s4
          rw [← hij] at p0 p1 p2 p3 p4
          have v1 : 0 ≤ (i : Int) - 1 := by omega
          have v2 : (i : Int) - 1 < nd := by omega
          have v3 : ((i : Int) - 1).toNat = i - 1 := by omega
          have v4 : IntKind.i64.wrap ((i : Int) - 1) = (i : Int) - 1 := IntWalk.i64_in _ (by omega)
          clear hij hln hx hy hr0 hae hap hls hlp hr
          go_wp2_with fail
          go_region_held3 (fun W => Hid (Below wr.heap.size wr W) ∧ (W.cell? ⟨bs', os + (i - 1) * 5, none⟩ = some (.int .i64 x.kind) ∧ W.cell? ⟨bs', os + (i - 1) * 5 + 1, none⟩ = some (.int .i64 x.int) ∧ W.cell? ⟨bs', os + (i - 1) * 5 + 2, none⟩ = some (.string x.text) ∧ W.cell? ⟨bs', os + (i - 1) * 5 + 3, none⟩ = some (.slice Bs x.items.length cs) ∧ W.cell? ⟨bs', os + (i - 1) * 5 + 4, none⟩ = some (.slice Ks x.keys.length ds)) ∧ (W.cell? ⟨bs', os + i * 5, none⟩ = some (.int .i64 y.kind) ∧ W.cell? ⟨bs', os + i * 5 + 1, none⟩ = some (.int .i64 y.int) ∧ W.cell? ⟨bs', os + i * 5 + 2, none⟩ = some (.string y.text) ∧ W.cell? ⟨bs', os + i * 5 + 3, none⟩ = some (.slice Bp y.items.length cp) ∧ W.cell? ⟨bs', os + i * 5 + 4, none⟩ = some (.slice Kp y.keys.length dp)))
            (first
              | (exact ⟨Lib.hid (Below.drew (Below.refl _ _)), ⟨s0, s1, s2, s3, s4⟩, p0, p1, p2, p3, p4⟩)
              | (go_split_ands
                 have hB := keepB (by assumption) hb3
                 exact ⟨Lib.hid hB, ⟨(bcell hB _ _ hbs).trans s0, (bcell hB _ _ hbs).trans s1, (bcell hB _ _ hbs).trans s2, (bcell hB _ _ hbs).trans s3, (bcell hB _ _ hbs).trans s4⟩, (bcell hB _ _ hbs).trans p0, (bcell hB _ _ hbs).trans p1, (bcell hB _ _ hbs).trans p2, (bcell hB _ _ hbs).trans p3, (bcell hB _ _ hbs).trans p4⟩))
            (first
              | (go_at_call 13; refine (HC.out _ ?_).mono ?_; (go_split_ands; exact Hid.out (by assumption)); rintro e w9 ⟨rfl, hb3⟩))
          rename_i hS
          have HW2 := Lib.hid (below_on HW.out hS.1.out)
          clear hS hb3 s0 s1 s2 s3 s4 p0 p1 p2 p3 p4 HC v1 v2 v3 v4 v6 hbs hbp
          go_wp2_with fail
          go_roundw
          case rel => exact ⟨i + 1, by go_num, by omega, by omega, HW2⟩
          case measure => simp [intOf]; omega
        · have i1 : ¬ (i : Int) < nd := by omega
          have B10 := Lib.hid (below_on B9.out HW.out)
          go_wp2_with fail
          refine (HA.out _ B10.out).mono ?_
          rintro e w11 ⟨rfl, hb11⟩
          have B11 := Lib.hid (below_on B10.out hb11)
          clear hb11
          go_wp2_with fail
          go_ret
          exact ⟨rfl, B11.out⟩
end Go.Proofs.YtfiiaeomlmckfaaGreatDoor
