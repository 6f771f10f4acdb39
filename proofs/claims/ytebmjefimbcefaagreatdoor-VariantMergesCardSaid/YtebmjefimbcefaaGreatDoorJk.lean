/- The definition's merge, at a predicate of blocks, walked. -/
import Derived.Test.YtebmjefimbcefaaGreatDoorJi
namespace Go.Proofs.YtebmjefimbcefaaGreatDoor
open Go.RowKit
set_option maxRecDepth 100000 in
set_option maxHeartbeats 1000000 in
theorem refMerge_not (P : Nat → Prop) (a b : V) (w : World) (A K : Option Addr) (c d : Nat) (A' K' : Option Addr) (c' d' : Nat) (hP : ∀ b, P b → b < w.heap.size) (hb : LiesIn P w b A' c' K' d') (h5 : ¬ b.kind = 5) :
    Calls Tryz.prog 33 #[.agg #[.int .i64 a.kind, .int .i64 a.int, .string a.text, .slice A a.items.length c, .slice K a.keys.length d], .agg #[.int .i64 b.kind, .int .i64 b.int, .string b.text, .slice A' b.items.length c', .slice K' b.keys.length d']] w (OutQ P (mergeV a b) w) := by
  have HB0 := Lib.hid (MB.start w #[.int .i64 a.kind, .int .i64 a.int, .string a.text, .slice A a.items.length c, .slice K a.keys.length d] #[.int .i64 b.kind, .int .i64 b.int, .string b.text, .slice A' b.items.length c', .slice K' b.keys.length d'])
  rw [mergeV_not h5]
  have h5b : (b.kind != 5) = true := by simp [h5]
  have HL := Lib.hid hb
  have HP := Lib.hid hP
  clear hb h5 hP
  go_enter Tryz.func33, Tryz.ntmps33
  go_upto_if 11 with (fail)
  obtain ⟨W1, hW1⟩ : ∃ W1, W1 = ((w.alloc (.cells #[.int .i64 a.kind, .int .i64 a.int, .string a.text, .slice A a.items.length c, .slice K a.keys.length d] 27)).alloc (.cells #[.int .i64 b.kind, .int .i64 b.int, .string b.text, .slice A' b.items.length c', .slice K' b.keys.length d'] 27)).alloc (.cells #[.int .i64 0, .int .i64 0, .string ⟨#[]⟩, .slice none 0 0, .slice none 0 0] 27) := ⟨_, rfl⟩
  rw [show zeroF = #[.int .i64 0, .int .i64 0, .string ⟨#[]⟩, .slice none 0 0, .slice none 0 0] from rfl, ← hW1] at HB0
  rw [← hW1]
  clear hW1
  obtain ⟨v0, v1, v2, v3, v4⟩ := five_of HB0.out.bb
  have vl := HB0.out.bb.lt
  obtain ⟨z0, z1, z2, z3, z4⟩ := five_of (show BlockIs W1 (w.heap.size + 2) 27 #[.int .i64 0, .int .i64 0, .string ⟨#[]⟩, .slice none 0 0, .slice none 0 0] from HB0.out.br)
  have f0 := HB0.out.br.frozen 0
  have f1 := HB0.out.br.frozen 1
  have f2 := HB0.out.br.frozen 2
  have f3 := HB0.out.br.frozen 3
  have f4 := HB0.out.br.frozen 4
  have zl := HB0.out.br.lt
  have HE := Lib.hid (HB0.out.ends (u0 := .int .i64 b.kind) (u1 := .int .i64 b.int) (u2 := .string b.text) (u3 := .slice A' b.items.length c') (u4 := .slice K' b.keys.length d'))
  go_wp2_with fail
  refine bodyPost_ret (v := .agg #[.int .i64 b.kind, .int .i64 b.int, .string b.text, .slice A' b.items.length c', .slice K' b.keys.length d']) (by simp [results, Tryz.results33, go_sem, z0, z1, z2, z3, z4]) rfl ?_
  exact ⟨_, _, _, _, rfl, LiesIn.keep (fun x o hx => bcell HE.out x o (HP.out x hx)) (fun x hx => .inl hx) b HL.out, HE.out⟩
set_option maxRecDepth 100000 in
set_option maxHeartbeats 16000000 in
theorem refMerge_step (P : Nat → Prop) (a b : V) (w : World) (A K : Option Addr) (c d : Nat) (A' K' : Option Addr) (c' d' : Nat) (hP : ∀ b, P b → b < w.heap.size) (ha : LiesIn P w a A c K d) (hb : LiesIn P w b A' c' K' d') (hao : a.ok = true) (hbo : b.ok = true) (hn : a.nodes + b.nodes ≤ 5000) (h5 : b.kind = 5)
    (ih : ∀ x y : V, x.ok = true → y ∈ b.items → x.nodes + y.nodes ≤ 5000 → ∀ (Q : Nat → Prop) (W : World) (A K : Option Addr) (c d : Nat) (A' K' : Option Addr) (c' d' : Nat), (∀ b, Q b → b < W.heap.size) → LiesIn Q W x A c K d → LiesIn Q W y A' c' K' d' →
      Calls Tryz.prog 33 #[.agg #[.int .i64 x.kind, .int .i64 x.int, .string x.text, .slice A x.items.length c, .slice K x.keys.length d], .agg #[.int .i64 y.kind, .int .i64 y.int, .string y.text, .slice A' y.items.length c', .slice K' y.keys.length d']] W (OutQ Q (mergeV x y) W)) :
    Calls Tryz.prog 33 #[.agg #[.int .i64 a.kind, .int .i64 a.int, .string a.text, .slice A a.items.length c, .slice K a.keys.length d], .agg #[.int .i64 b.kind, .int .i64 b.int, .string b.text, .slice A' b.items.length c', .slice K' b.keys.length d']] w (OutQ P (mergeV a b) w) := by
  have HB0 := Lib.hid (MB.start w #[.int .i64 a.kind, .int .i64 a.int, .string a.text, .slice A a.items.length c, .slice K a.keys.length d] #[.int .i64 b.kind, .int .i64 b.int, .string b.text, .slice A' b.items.length c', .slice K' b.keys.length d'])
  have HLA := Lib.hid fun W (hW : Below w.heap.size w W) => show LiesIn (MP w P W) W a A c K d from LiesIn.keep (fun x o hx => bcell hW x o (hP x hx)) (fun x hx => .inl hx) a ha
  have HLB := Lib.hid fun W (hW : Below w.heap.size w W) => show LiesIn P W b A' c' K' d' from LiesIn.keep (fun x o hx => bcell hW x o (hP x hx)) (fun x hx => hx) b hb
  obtain ⟨hr, hkl, hok, hks, -⟩ := ob_parts (m := b) ⟨hbo, h5⟩
  have HKS := Lib.hid (And.intro hks hok)
  have HKL := Lib.hid hkl
  obtain ⟨R, hR⟩ : ∃ R, R = mergeV a b := ⟨_, rfl⟩
  have HR := Lib.hid (show mergeL (baseV a) b.keys b.items = R by rw [hR, mergeV_obj h5])
  have hbn := nodes_items b
  have HFEW := Lib.hid (show (baseV a).nodes + V.nodesL b.items ≤ 5000 by
    have := V.nodes_pos a
    have : emptyO.nodes = 1 := by decide
    unfold baseV
    split <;> omega)
  have HAO := Lib.hid hao
  have HIH := Lib.hid ih
  have HBL := Lib.hid (And.intro hbo h5)
  have HP := Lib.hid hP
  obtain ⟨n, hnn⟩ : ∃ n, n = b.keys.length := ⟨_, rfl⟩
  obtain ⟨n2, hnn2⟩ : ∃ n2, n2 = b.items.length := ⟨_, rfl⟩
  have HN := Lib.hid hnn
  have HN2 := Lib.hid hnn2
  have hnb : n ≤ 5000 := by have := length_le_nodesL b.items; omega
  rw [← hR, ← hnn, ← hnn2]
  rw [← hnn, ← hnn2] at HB0
  have h5b : (b.kind != 5) = false := by simp [h5]
  clear ha hb hao hbo hn h5 ih hr hkl hok hks hR hbn hnn hnn2 hP
  go_enter Tryz.func33, Tryz.ntmps33
  go_upto_if 15 with (fail)
  obtain ⟨W1, hW1⟩ : ∃ W1, W1 = ((w.alloc (.cells #[.int .i64 a.kind, .int .i64 a.int, .string a.text, .slice A a.items.length c, .slice K a.keys.length d] 27)).alloc (.cells #[.int .i64 b.kind, .int .i64 b.int, .string b.text, .slice A' n2 c', .slice K' n d'] 27)).alloc (.cells #[.int .i64 0, .int .i64 0, .string ⟨#[]⟩, .slice none 0 0, .slice none 0 0] 27) := ⟨_, rfl⟩
  obtain ⟨CB, hCB⟩ : ∃ CB : Array Value, CB = #[.int .i64 b.kind, .int .i64 b.int, .string b.text, .slice A' n2 c', .slice K' n d'] := ⟨_, rfl⟩
  have HB1 := Lib.hid (show MB w #[.int .i64 a.kind, .int .i64 a.int, .string a.text, .slice A a.items.length c, .slice K a.keys.length d] CB W1 by rw [hW1, hCB]; exact HB0.out)
  have HCB := Lib.hid hCB
  rw [← hW1]
  clear HB0 hW1 hCB
  go_cut [] from 13 to 58 (fun wx => ∃ (A : Option Addr) (c : Nat) (K : Option Addr) (d : Nat), Hid (ME w P CB R b.keys b.items 0 (baseV a) A c K d wx))
  case first =>
    obtain ⟨v0, v1, v2, v3, v4⟩ := five_of HB1.out.ba
    have vl := HB1.out.ba.lt
    by_cases h5 : a.kind = 5
    · have hab : (a.kind != 5) = false := by simp [h5]
      have HBV := Lib.hid (show baseV a = a by unfold baseV; rw [if_pos h5])
      clear h5
      go_wp2_with fail
      go_meet
      exact ⟨A, c, K, d, Lib.hid ⟨by rw [HBV.out]; exact HB1.out, by rw [HBV.out]; exact HLA.out _ HB1.out.old, base_ob HAO.out, by simpa using HFEW.out, by simpa using HR.out⟩⟩
    · have hab : (a.kind != 5) = true := by simp [h5]
      have HBV := Lib.hid (show baseV a = emptyO by unfold baseV; rw [if_neg h5])
      clear h5
      go_wp2_with fail
      refine (refObject_any none none 0 0 0 0 _).mono ?_
      rintro e w2 ⟨rfl, h2⟩
      have HB2 := Lib.hid (HB1.out.on h2)
      clear h2 v0 v1 v2 v3 v4 vl HB1
      obtain ⟨v0, v1, v2, v3, v4⟩ := five_of HB2.out.ba
      have f0 := HB2.out.ba.frozen 0
      have f1 := HB2.out.ba.frozen 1
      have f2 := HB2.out.ba.frozen 2
      have f3 := HB2.out.ba.frozen 3
      have f4 := HB2.out.ba.frozen 4
      have vl := HB2.out.ba.lt
      go_wp2_with fail
      go_meet
      exact ⟨none, 0, none, 0, Lib.hid ⟨by rw [HBV.out]; exact HB2.out.seta (u0 := .int .i64 5) (u1 := .int .i64 0) (u2 := .string ⟨#[]⟩) (u3 := .slice none 0 0) (u4 := .slice none 0 0), by rw [HBV.out]; exact lies_leaf _ _ 5 0 _ (by decide), base_ob HAO.out, by simpa using HFEW.out, by simpa using HR.out⟩⟩
  case rest =>
    obtain ⟨A1, c1, K1, d1, HI⟩ := hcut
    clear HB1 HFEW HR HAO HLA
    obtain ⟨v0, v1, v2, v3, v4⟩ := five_of (show BlockIs wc (w.heap.size + 1) 27 #[.int .i64 b.kind, .int .i64 b.int, .string b.text, .slice A' n2 c', .slice K' n d'] by have := HI.out.box.bb; rw [HCB.out] at this; exact this)
    go_wp2_with fail
    go_loopw [5] (fun iv wr => ∃ (j : Nat) (m : V) (A : Option Addr) (c : Nat) (K : Option Addr) (d : Nat), iv = .int .i64 j ∧ j ≤ n ∧ Hid (ME w P CB R b.keys b.items j m A c K d wr)) (fun iv _ => n - (intOf iv).toNat)
    case atStart => exact ⟨0, _, A1, c1, K1, d1, rfl, Nat.zero_le _, HI⟩
    case round =>
      clear v0 v1 v2 v3 v4 HI
      obtain ⟨j, m, Am, cm, Km, dm, rfl, hj, HI⟩ := hrel
      obtain ⟨v0, v1, v2, v3, v4⟩ := five_of (show BlockIs wr (w.heap.size + 1) 27 #[.int .i64 b.kind, .int .i64 b.int, .string b.text, .slice A' n2 c', .slice K' n d'] by have := HI.out.box.bb; rw [HCB.out] at this; exact this)
      by_cases hlt : j < n
      · have hjn : (j : Int) < n := by omega
        have hj0 : (0 : Int) ≤ j := by omega
        have hji : j < b.items.length := by have := HKL.out; have := HN.out; omega
        have hjk : j < b.keys.length := by have := HN.out; omega
        obtain ⟨y, hy⟩ : ∃ y, b.items[j]? = some y := ⟨_, List.getElem?_eq_getElem hji⟩
        obtain ⟨kk, hkk⟩ : ∃ kk, b.keys[j]? = some kk := ⟨_, List.getElem?_eq_getElem hjk⟩
        have hlb := HLB.out wr HI.out.box.old
        obtain ⟨b2, o2, rfl, hb2, hfrom⟩ := inn_at hlb hji
        obtain ⟨Ay, cy, Ky, dy, ⟨y0, y1, y2, y3, y4⟩, hly⟩ := hfrom.at_ hy
        have hkt : textB kk.data.toList = true := by have := HKS.out.1; rw [List.all_eq_true] at this; exact this kk (List.mem_of_getElem? hkk)
        have hyo : y.ok = true := okItems HBL.out.1 y (List.mem_of_getElem? hy)
        have hksz : kk.size ≤ maxLen := by
          obtain ⟨b3, o3, -, -, hf3⟩ := inn_key_at hlb hjk
          exact (hf3 j kk hkk).2
        have HE := Lib.hid (And.intro hy (And.intro hkk (And.intro hkt (And.intro hyo hksz))))
        have HB2W := Lib.hid (HP.out b2 hb2)
        have hb2w : b2 < wr.heap.size := by have := HP.out b2 hb2; have := HI.out.box.old.size; omega
        have HYC := Lib.hid fun W (hW : Below wr.heap.size wr W) => (show W.cell? ⟨b2, o2 + j * 5, none⟩ = some (.int .i64 y.kind) ∧ W.cell? ⟨b2, o2 + j * 5 + 1, none⟩ = some (.int .i64 y.int) ∧ W.cell? ⟨b2, o2 + j * 5 + 2, none⟩ = some (.string y.text) ∧ W.cell? ⟨b2, o2 + j * 5 + 3, none⟩ = some (.slice Ay y.items.length cy) ∧ W.cell? ⟨b2, o2 + j * 5 + 4, none⟩ = some (.slice Ky y.keys.length dy) ∧ b2 < W.heap.size from ⟨(bcell hW b2 _ hb2w).trans y0, (bcell hW b2 _ hb2w).trans y1, (bcell hW b2 _ hb2w).trans y2, (bcell hW b2 _ hb2w).trans y3, (bcell hW b2 _ hb2w).trans y4, by have := hW.size; omega⟩)
        have HLY := Lib.hid fun W (hW : Below w.heap.size w W) => show LiesIn (MP w P W) W y Ay cy Ky dy from LiesIn.keep (fun x o hx => (bcell hW x o (HP.out x hx)).trans (bcell HI.out.box.old x o (HP.out x hx)).symm) (fun x hx => .inl hx) y hly
        have HSC := Lib.hid (show Calls Tryz.prog 51 #[.agg #[.int .i64 b.kind, .int .i64 b.int, .string b.text, .slice (some ⟨b2, o2, none⟩) n2 c', .slice K' n d'], .int .i64 j] wr fun e w' => e = .returned (.agg #[.int .i64 (-1), .string kk]) ∧ Below wr.heap.size wr w' from by
          have := refStep_key b wr (some ⟨b2, o2, none⟩) K' c' d' j kk (LiesIn.lies (fun x hx => by have := HP.out x hx; have := HI.out.box.old.size; omega) b hlb) HBL.out.2 hkk
          rw [← HN.out, ← HN2.out] at this
          exact this)
        clear hy hkk hkt hyo hksz hji hjk hlb hfrom hly y0 y1 y2 y3 y4 hb2 hb2w
        go_wp2_with fail
        refine HSC.out.mono ?_
        rintro e w2 ⟨rfl, h2⟩
        have HSZ2 := Lib.hid (show w.heap.size + 3 ≤ w2.heap.size by have := HI.out.box.lt; have := h2.size; omega)
        clear v0 v1 v2 v3 v4 HSC
        go_upto_region 9 with (fail)
        obtain ⟨W3, hW3⟩ : ∃ W3, W3 = w2.alloc (.cells #[.int .i64 (-1), .string kk] 35) := ⟨_, rfl⟩
        have hb3 : Below wr.heap.size wr W3 := by rw [hW3]; exact below_al h2 _
        have HS3 := Lib.hid (show BlockIs W3 w2.heap.size 35 #[.int .i64 (-1), .string kk] by rw [hW3]; exact BlockIs.new w2 _ _)
        have HI3 := Lib.hid (HI.out.on HP.out hb3)
        have HB3 := Lib.hid hb3
        rw [← hW3]
        clear hW3 hb3 h2 HI
        obtain ⟨old, hold⟩ : ∃ old, old = oldK m kk := ⟨_, rfl⟩
        obtain ⟨bq, hbq⟩ : ∃ bq, bq = (itemV m (kst kk)).isSome := ⟨_, rfl⟩
        have HIT := Lib.hid (item_old (MP w P W3) m kk W3 Am Km cm dm (fun x hx => MP.lt HP.out HI3.out.box hx) HI3.out.lies HI3.out.ob HE.out.2.2.1)
        rw [← hold, ← hbq] at HIT
        have HOLD := Lib.hid (And.intro hold hbq)
        clear hold hbq
        obtain ⟨p0, p1, p2, p3, p4⟩ := five_of HI3.out.box.ba
        have pl := HI3.out.box.ba.lt
        obtain ⟨t0, t1⟩ : W3.cell? ⟨w2.heap.size, 0, none⟩ = some (.int .i64 (-1)) ∧ W3.cell? ⟨w2.heap.size, 1, none⟩ = some (.string kk) := ⟨HS3.out.cell 0, HS3.out.cell 1⟩
        have tl := HS3.out.lt
        go_wp2_with fail
        refine HIT.out.mono ?_
        rintro e w4 ⟨Ao, co, Ko, do_, rfl, hlo, h4⟩
        have HSZ := Lib.hid (show w.heap.size + 3 ≤ w2.heap.size ∧ w.heap.size + 3 ≤ w4.heap.size by have := HSZ2.out; have := HS3.out.lt; have := h4.size; omega)
        clear p0 p1 p2 p3 p4 pl t0 t1 tl HIT
        go_upto_region 10 with (fail)
        obtain ⟨W5, hW5⟩ : ∃ W5, W5 = w4.alloc (.cells #[.int .i64 old.kind, .int .i64 old.int, .string old.text, .slice Ao old.items.length co, .slice Ko old.keys.length do_] 27) := ⟨_, rfl⟩
        have hb5 : Below W3.heap.size W3 W5 := by rw [hW5]; exact below_al h4 _
        have HX5 := Lib.hid (show BlockIs W5 w4.heap.size 27 #[.int .i64 old.kind, .int .i64 old.int, .string old.text, .slice Ao old.items.length co, .slice Ko old.keys.length do_] by rw [hW5]; exact BlockIs.new w4 _ _)
        have HS5 := Lib.hid (HS3.out.below hb5 HS3.out.lt)
        have HLO5 := Lib.hid (show LiesIn (MP w P W5) W5 old Ao co Ko do_ from LiesIn.keep (fun x o hx => by
          rw [hW5]
          exact World.cell?_alloc_lt _ _ _ (show x < w4.heap.size by have := MP.lt HP.out HI3.out.box hx; have := h4.size; omega)) (fun x hx => hx.imp id fun hx => ⟨hx.1, by have := hb5.size; omega⟩) old hlo)
        have HI5 := Lib.hid (HI3.out.on HP.out hb5)
        have HB5 := Lib.hid (HB3.out.trans (hb5.mono HB3.out.size))
        rw [← hW5]
        clear hW5 hb5 h4 hlo HI3 HS3 HB3
        obtain ⟨v0, v1, v2, v3, v4⟩ := five_of (show BlockIs W5 (w.heap.size + 1) 27 #[.int .i64 b.kind, .int .i64 b.int, .string b.text, .slice (some ⟨b2, o2, none⟩) n2 c', .slice K' n d'] by have := HI5.out.box.bb; rw [HCB.out] at this; exact this)
        obtain ⟨y0, y1, y2, y3, y4, yl⟩ := HYC.out W5 HB5.out
        obtain ⟨p0, p1, p2, p3, p4⟩ := five_of HI5.out.box.ba
        have pl := HI5.out.box.ba.lt
        obtain ⟨t0, t1⟩ : W5.cell? ⟨w2.heap.size, 0, none⟩ = some (.int .i64 (-1)) ∧ W5.cell? ⟨w2.heap.size, 1, none⟩ = some (.string kk) := ⟨HS5.out.cell 0, HS5.out.cell 1⟩
        have tl := HS5.out.lt
        have hjn2 : (j : Int) < n2 := by have := HKL.out; have := HN.out; have := HN2.out; omega
        by_cases h0 : y.kind = 0
        · have h0b : (y.kind != 0) = false := by simp [h0]
          have H0 := Lib.hid h0
          clear h0
          cases bq
          case true =>
            obtain ⟨yy, hyy⟩ : ∃ yy, itemV m (kst kk) = some yy := Option.isSome_iff_exists.1 HOLD.out.2.symm
            have hb6 := below_al (Below.refl _ W5) (.cells #[.int .i64 (-1), .string kk] 35)
            have HI6 := Lib.hid (HI5.out.on HP.out hb6)
            have HOUT := Lib.hid (out_key (MP w P (W5.alloc (.cells #[.int .i64 (-1), .string kk] 35))) m yy kk (W5.alloc (.cells #[.int .i64 (-1), .string kk] 35)) Am Km cm dm W5.heap.size 1 (fun x hx => MP.lt HP.out HI6.out.box hx) HI6.out.ob (by have := HI6.out.few; omega) HI6.out.lies HE.out.2.2.1 HE.out.2.2.2.2 hyy (BlockIs.new W5 _ _) (Nat.le_refl _) (by simp [maxLen]))
            obtain ⟨q, hq⟩ : ∃ q, q = (removeV m [kst kk]).1 := ⟨_, rfl⟩
            rw [← hq] at HOUT
            have HQ := Lib.hid hq
            clear hyy hb6 hq
            go_wp2_with fail
            refine HOUT.out.mono ?_
            rintro e w7 ⟨A7, c7, K7, d7, he, hl7, h7⟩
            unfold aggOf at he
            subst he
            have HM7 := Lib.hid (HI6.out.gone HP.out HE.out.2.1 HE.out.1 H0.out HQ.out h7 hl7)
            have HB7 := Lib.hid (HI6.out.box.on h7)
            clear hl7 h7 HOUT p0 p1 p2 p3 p4 pl t0 t1 tl v0 v1 v2 v3 v4 y0 y1 y2 y3 y4 yl
            obtain ⟨p0, p1, p2, p3, p4⟩ := five_of HB7.out.ba
            have f0 := HB7.out.ba.frozen 0
            have f1 := HB7.out.ba.frozen 1
            have f2 := HB7.out.ba.frozen 2
            have f3 := HB7.out.ba.frozen 3
            have f4 := HB7.out.ba.frozen 4
            have pl := HB7.out.ba.lt
            go_wp2_with fail
            go_roundw
            case rel => exact ⟨j + 1, _, _, _, _, _, by go_num, by omega, HM7⟩
            case measure => simp [intOf]; omega
          case false =>
            have HSK := Lib.hid (HI5.out.skip HE.out.2.1 HE.out.1 H0.out (by simpa using HOLD.out.2))
            go_wp2_with fail
            go_roundw
            case rel => exact ⟨j + 1, _, _, _, _, _, by go_num, by omega, HSK⟩
            case measure => simp [intOf]; omega
        · have h0b : (y.kind != 0) = true := by simp [h0]
          have H0 := Lib.hid h0
          clear h0
          obtain ⟨z, hz⟩ : ∃ z, z = mergeV old y := ⟨_, rfl⟩
          have hoo := oldK_ok HI5.out.ob HE.out.2.2.1
          rw [← HOLD.out.1] at hoo
          have hfe := (HI5.out.entry HE.out.2.1 HE.out.1).2
          have HIC := Lib.hid (show Calls Tryz.prog 33 #[.agg #[.int .i64 old.kind, .int .i64 old.int, .string old.text, .slice Ao old.items.length co, .slice Ko old.keys.length do_], .agg #[.int .i64 y.kind, .int .i64 y.int, .string y.text, .slice Ay y.items.length cy, .slice Ky y.keys.length dy]] W5.drew (OutQ (MP w P W5) z W5.drew) from by
            rw [hz]
            exact HIH.out old y hoo.1 (List.mem_of_getElem? HE.out.1) (by have := hoo.2; omega) (MP w P W5) W5.drew Ao Ko co do_ Ay Ky cy dy (fun x hx => MP.lt HP.out HI5.out.box hx) (LiesIn.keep (w := W5) (w' := W5.drew) (fun _ _ _ => rfl) (fun _ h => h) old HLO5.out) (LiesIn.keep (w := W5) (w' := W5.drew) (fun _ _ _ => rfl) (fun _ h => h) y (HLY.out W5 HI5.out.box.old)))
          have HZ := Lib.hid (show setK m kk z = setK m kk (mergeV (oldK m kk) y) by rw [hz, HOLD.out.1])
          have HWC := Lib.hid fun W Az Kz cz dz (hW : Below W5.heap.size W5 W) (hl : LiesIn (MP w P W) W z Az cz Kz dz) => with_in (MP w P W) m z kk W Am Km cm dm Az Kz cz dz (fun x hx => MP.lt HP.out (HI5.out.on HP.out hW).box hx) HI5.out.ob (by have := HI5.out.few; have := nodes_items m; have := length_le_nodesL m.items; omega) (HI5.out.on HP.out hW).lies hl HE.out.2.2.2.2
          obtain ⟨q, hq⟩ : ∃ q, q = setK m kk z := ⟨_, rfl⟩
          rw [← hq] at HZ HWC
          obtain ⟨x0, x1, x2, x3, x4⟩ := five_of HX5.out
          have xl := HX5.out.lt
          have HB2N := Lib.hid (show b2 < w.heap.size ∧ w2.heap.size < W5.heap.size ∧ w4.heap.size < W5.heap.size ∧ w.heap.size < w2.heap.size ∧ w.heap.size < w4.heap.size from ⟨HB2W.out, HS5.out.lt, HX5.out.lt, by have := HSZ.out; omega, by have := HSZ.out; omega⟩)
          clear hz hoo hfe hq HIH HYC HLY HLB HKS HKL HN HN2
          have HRED := Lib.hid (show Red W5 (w.heap.size + 1) w2.heap.size 1 w4.heap.size b2 (o2 + j * 5) (.slice (some ⟨b2, o2, none⟩) n2 c') (.slice K' n d') (.string kk) (.int .i64 old.kind) (.int .i64 old.int) (.string old.text) (.slice Ao old.items.length co) (.slice Ko old.keys.length do_) (.int .i64 y.kind) (.int .i64 y.int) (.string y.text) (.slice Ay y.items.length cy) (.slice Ky y.keys.length dy) from ⟨v3, v4, t1, x0, x1, x2, x3, x4, y0, y1, y2, y3, y4⟩)
          have HLT := Lib.hid (show ∀ b, b = w.heap.size + 1 ∨ b = w2.heap.size ∨ b = w4.heap.size ∨ b = b2 → b < W5.heap.size ∧ b ≠ w.heap.size from by
            have := HI5.out.box.lt
            have := HB2N.out
            rintro b (rfl | rfl | rfl | rfl) <;> omega)
          go_upto_region 11 with (fail)
          clear v0 v1 v2 v3 v4 t0 t1 tl x0 x1 x2 x3 x4 xl y0 y1 y2 y3 y4 yl
          refine region_push (fun W => (W.cell? ⟨w.heap.size, 0, none⟩ = some (.int .i64 m.kind) ∧ W.cell? ⟨w.heap.size, 1, none⟩ = some (.int .i64 m.int) ∧ W.cell? ⟨w.heap.size, 2, none⟩ = some (.string m.text) ∧ W.cell? ⟨w.heap.size, 3, none⟩ = some (.slice Am m.items.length cm) ∧ W.cell? ⟨w.heap.size, 4, none⟩ = some (.slice Km m.keys.length dm)) ∧ (W.cell? ⟨w.heap.size + 1, 3, none⟩ = some (.slice (some ⟨b2, o2, none⟩) n2 c') ∧ W.cell? ⟨w.heap.size + 1, 4, none⟩ = some (.slice K' n d') ∧ W.cell? ⟨w2.heap.size, 1, none⟩ = some (.string kk)) ∧ (W.cell? ⟨w4.heap.size, 0, none⟩ = some (.int .i64 old.kind) ∧ W.cell? ⟨w4.heap.size, 1, none⟩ = some (.int .i64 old.int) ∧ W.cell? ⟨w4.heap.size, 2, none⟩ = some (.string old.text) ∧ W.cell? ⟨w4.heap.size, 3, none⟩ = some (.slice Ao old.items.length co) ∧ W.cell? ⟨w4.heap.size, 4, none⟩ = some (.slice Ko old.keys.length do_)) ∧ (W.cell? ⟨b2, o2 + j * 5, none⟩ = some (.int .i64 y.kind) ∧ W.cell? ⟨b2, o2 + j * 5 + 1, none⟩ = some (.int .i64 y.int) ∧ W.cell? ⟨b2, o2 + j * 5 + 2, none⟩ = some (.string y.text) ∧ W.cell? ⟨b2, o2 + j * 5 + 3, none⟩ = some (.slice Ay y.items.length cy) ∧ W.cell? ⟨b2, o2 + j * 5 + 4, none⟩ = some (.slice Ky y.keys.length dy))) #[{ dst := some 41, op := Go.Op.load 27 (Go.Operand.tmp 2), type := 27, pos := "ref.go:280", after := #[], guard := none }, { dst := some 42, op := Go.Op.fieldAddr 35 (Go.Operand.tmp 6) 1, type := 0, pos := "ref.go:280", after := #[], guard := none }, { dst := some 43, op := Go.Op.load 9 (Go.Operand.tmp 42), type := 9, pos := "ref.go:280", after := #[{ on := 1, ground := Go.Ground.data }], guard := none }, { dst := some 44, op := Go.Op.load 27 (Go.Operand.tmp 7), type := 27, pos := "ref.go:280", after := #[], guard := none }, { dst := some 45, op := Go.Op.fieldAddr 27 (Go.Operand.tmp 3) 3, type := 0, pos := "ref.go:280", after := #[], guard := none }, { dst := some 46, op := Go.Op.load 24 (Go.Operand.tmp 45), type := 24, pos := "ref.go:280", after := #[{ on := 4, ground := Go.Ground.data }], guard := none }, { dst := some 47, op := Go.Op.move (Go.Operand.tmp 5), type := 3, pos := "ref.go:280", after := #[], guard := none }, { dst := some 48, op := Go.Op.indexAddr 24 (Go.Operand.tmp 46) (Go.Operand.tmp 47), type := 0, pos := "ref.go:280", after := #[{ on := 5, ground := Go.Ground.data }, { on := 6, ground := Go.Ground.data }], guard := none }, { dst := some 49, op := Go.Op.load 27 (Go.Operand.tmp 48), type := 27, pos := "ref.go:280", after := #[{ on := 7, ground := Go.Ground.data }], guard := none }, { dst := some 50, op := Go.Op.call { callee := Go.Callee.value (Go.Operand.func 33), args := #[Go.Operand.tmp 44, Go.Operand.tmp 49], argTypes := #[27, 27] }, type := 27, pos := "ref.go:280", after := #[{ on := 3, ground := Go.Ground.data }, { on := 8, ground := Go.Ground.data }], guard := none }, { dst := some 51, op := Go.Op.call { callee := Go.Callee.value (Go.Operand.func 48), args := #[Go.Operand.tmp 41, Go.Operand.tmp 43, Go.Operand.tmp 50], argTypes := #[27, 9, 27] }, type := 27, pos := "ref.go:280", after := #[{ on := 0, ground := Go.Ground.data }, { on := 2, ground := Go.Ground.data }, { on := 9, ground := Go.Ground.data }, { on := 9, ground := Go.Ground.chain }], guard := none }] ({ dst := none, op := Go.Op.store 27 (Go.Operand.tmp 2) (Go.Operand.tmp 51), type := 0, pos := "ref.go:280", after := #[{ on := 10, ground := Go.Ground.data }, { on := 10, ground := Go.Ground.chain }, { on := 0, ground := Go.Ground.phase }, { on := 1, ground := Go.Ground.phase }, { on := 2, ground := Go.Ground.phase }, { on := 3, ground := Go.Ground.phase }, { on := 4, ground := Go.Ground.phase }, { on := 5, ground := Go.Ground.phase }, { on := 6, ground := Go.Ground.phase }, { on := 7, ground := Go.Ground.phase }, { on := 8, ground := Go.Ground.phase }, { on := 9, ground := Go.Ground.phase }, { on := 10, ground := Go.Ground.phase }], guard := none }) rfl (by kernel_rfl) (by kernel_rfl) ⟨⟨p0, p1, p2, p3, p4⟩, (Red.to (W' := W5.drew) HRED.out (fun _ _ => rfl)).all⟩ (fun hH0 => ?_)
          refine wpAnyH_take (i := 0) (oi := { dst := some 41, op := Go.Op.load 27 (Go.Operand.tmp 2), type := 27, pos := "ref.go:280", after := #[], guard := none }) (v := ?_) rfl (by kernel_rfl) (by kernel_rfl) (by kernel_rfl) (fun _ _ _ h => h) (Or.inl ⟨by rfl, ?_⟩) (by assumption) ?_
          rotate_left
          · (intro w hSw; (try dsimp only at hSw); go_simp; try with_reducible rfl)
          (try simp only [Act.put, List.setIfInBounds_toArray, List.set_cons_zero, List.set_cons_succ])
          refine wpAnyH_take (i := 1) (oi := { dst := some 42, op := Go.Op.fieldAddr 35 (Go.Operand.tmp 6) 1, type := 0, pos := "ref.go:280", after := #[], guard := none }) (v := ?_) rfl (by kernel_rfl) (by kernel_rfl) (by kernel_rfl) (fun _ _ _ h => h) (Or.inl ⟨by rfl, ?_⟩) (by assumption) ?_
          rotate_left
          · (intro w hSw; (try dsimp only at hSw); go_simp; try with_reducible rfl)
          (try simp only [Act.put, List.setIfInBounds_toArray, List.set_cons_zero, List.set_cons_succ])
          refine wpAnyH_take (i := 2) (oi := { dst := some 43, op := Go.Op.load 9 (Go.Operand.tmp 42), type := 9, pos := "ref.go:280", after := #[{ on := 1, ground := Go.Ground.data }], guard := none }) (v := ?_) rfl (by kernel_rfl) (by kernel_rfl) (by kernel_rfl) (fun _ _ _ h => h) (Or.inl ⟨by rfl, ?_⟩) (by assumption) ?_
          rotate_left
          · (intro w hSw; (try dsimp only at hSw); go_simp; try with_reducible rfl)
          (try simp only [Act.put, List.setIfInBounds_toArray, List.set_cons_zero, List.set_cons_succ])
          refine wpAnyH_take (i := 3) (oi := { dst := some 44, op := Go.Op.load 27 (Go.Operand.tmp 7), type := 27, pos := "ref.go:280", after := #[], guard := none }) (v := ?_) rfl (by kernel_rfl) (by kernel_rfl) (by kernel_rfl) (fun _ _ _ h => h) (Or.inl ⟨by rfl, ?_⟩) (by assumption) ?_
          rotate_left
          · (intro w hSw; (try dsimp only at hSw); go_simp; try with_reducible rfl)
          (try simp only [Act.put, List.setIfInBounds_toArray, List.set_cons_zero, List.set_cons_succ])
          refine wpAnyH_take (i := 4) (oi := { dst := some 45, op := Go.Op.fieldAddr 27 (Go.Operand.tmp 3) 3, type := 0, pos := "ref.go:280", after := #[], guard := none }) (v := ?_) rfl (by kernel_rfl) (by kernel_rfl) (by kernel_rfl) (fun _ _ _ h => h) (Or.inl ⟨by rfl, ?_⟩) (by assumption) ?_
          rotate_left
          · (intro w hSw; (try dsimp only at hSw); go_simp; try with_reducible rfl)
          (try simp only [Act.put, List.setIfInBounds_toArray, List.set_cons_zero, List.set_cons_succ])
          refine wpAnyH_take (i := 5) (oi := { dst := some 46, op := Go.Op.load 24 (Go.Operand.tmp 45), type := 24, pos := "ref.go:280", after := #[{ on := 4, ground := Go.Ground.data }], guard := none }) (v := ?_) rfl (by kernel_rfl) (by kernel_rfl) (by kernel_rfl) (fun _ _ _ h => h) (Or.inl ⟨by rfl, ?_⟩) (by assumption) ?_
          rotate_left
          · (intro w hSw; (try dsimp only at hSw); go_simp; try with_reducible rfl)
          (try simp only [Act.put, List.setIfInBounds_toArray, List.set_cons_zero, List.set_cons_succ])
          refine wpAnyH_take (i := 6) (oi := { dst := some 47, op := Go.Op.move (Go.Operand.tmp 5), type := 3, pos := "ref.go:280", after := #[], guard := none }) (v := ?_) rfl (by kernel_rfl) (by kernel_rfl) (by kernel_rfl) (fun _ _ _ h => h) (Or.inl ⟨by rfl, ?_⟩) (by assumption) ?_
          rotate_left
          · (intro w hSw; (try dsimp only at hSw); go_simp; try with_reducible rfl)
          (try simp only [Act.put, List.setIfInBounds_toArray, List.set_cons_zero, List.set_cons_succ])
          refine wpAnyH_take (i := 7) (oi := { dst := some 48, op := Go.Op.indexAddr 24 (Go.Operand.tmp 46) (Go.Operand.tmp 47), type := 0, pos := "ref.go:280", after := #[{ on := 5, ground := Go.Ground.data }, { on := 6, ground := Go.Ground.data }], guard := none }) (v := ?_) rfl (by kernel_rfl) (by kernel_rfl) (by kernel_rfl) (fun _ _ _ h => h) (Or.inl ⟨by rfl, ?_⟩) (by assumption) ?_
          rotate_left
          · (intro w hSw; (try dsimp only at hSw); go_simp; try with_reducible rfl)
          (try simp only [Act.put, List.setIfInBounds_toArray, List.set_cons_zero, List.set_cons_succ])
          refine wpAnyH_take (i := 8) (oi := { dst := some 49, op := Go.Op.load 27 (Go.Operand.tmp 48), type := 27, pos := "ref.go:280", after := #[{ on := 7, ground := Go.Ground.data }], guard := none }) (v := ?_) rfl (by kernel_rfl) (by kernel_rfl) (by kernel_rfl) (fun _ _ _ h => h) (Or.inl ⟨by rfl, ?_⟩) (by assumption) ?_
          rotate_left
          · (intro w hSw; (try dsimp only at hSw); go_simp; try with_reducible rfl)
          (try simp only [Act.put, List.setIfInBounds_toArray, List.set_cons_zero, List.set_cons_succ])
          refine wpAnyH_ready (rs := [9]) (by kernel_rfl) (by simp) ?_
          refine AllReadyH.cons (o := { dst := some 50, op := Go.Op.call { callee := Go.Callee.value (Go.Operand.func 33), args := #[Go.Operand.tmp 44, Go.Operand.tmp 49], argTypes := #[27, 27] }, type := 27, pos := "ref.go:280", after := #[{ on := 3, ground := Go.Ground.data }, { on := 8, ground := Go.Ground.data }], guard := none }) rfl (fun K hK => ?_) AllReadyH.nil
          go_simp
          refine (HIC.out).mono ?_
          rintro e w6 ⟨Az, cz, Kz, dz, he6, hlz, h6⟩
          unfold aggOf at he6
          subst he6
          have hb6 : Below W5.heap.size W5 w6 := ⟨h6.os, h6.tape, h6.output, h6.size, h6.block⟩
          have HLZ := Lib.hid (inn_out HI5.out.box hb6 hlz)
          have HI6 := Lib.hid (HI5.out.on HP.out hb6)
          clear hlz h6
          (try go_wp2_with fail)
          refine hK.out _ _ ⟨five_of HI6.out.box.ba, (HRED.out.to (fun b hb => hb6.block b (HLT.out b hb).1)).all⟩ (fun hH1 => ?_)
          clear hK K
          (try simp only [Act.put, List.setIfInBounds_toArray, List.set_cons_zero, List.set_cons_succ])
          refine wpAnyH_ready (rs := [10]) (by kernel_rfl) (by simp) ?_
          refine AllReadyH.cons (o := { dst := some 51, op := Go.Op.call { callee := Go.Callee.value (Go.Operand.func 48), args := #[Go.Operand.tmp 41, Go.Operand.tmp 43, Go.Operand.tmp 50], argTypes := #[27, 9, 27] }, type := 27, pos := "ref.go:280", after := #[{ on := 0, ground := Go.Ground.data }, { on := 2, ground := Go.Ground.data }, { on := 9, ground := Go.Ground.data }, { on := 9, ground := Go.Ground.chain }], guard := none }) rfl (fun K hK => ?_) AllReadyH.nil
          go_simp
          refine (HWC.out _ _ _ _ _ hb6 HLZ.out).mono ?_
          rintro e w7 ⟨A7, c7, K7, d7, he7, hl7, h7⟩
          unfold aggOf at he7
          subst he7
          have hb7 := below_on hb6 h7
          have HM7 := Lib.hid (HI6.out.laid HP.out HE.out.2.1 HE.out.1 H0.out HE.out.2.2.1 HE.out.2.2.2.1 HZ.out h7 (inn_out HI6.out.box h7 hl7))
          have HB7 := Lib.hid (HI6.out.box.on h7)
          obtain ⟨k0, k1, k2, k3, k4⟩ := five_of HB7.out.ba
          have f0 := HB7.out.ba.frozen 0
          have f1 := HB7.out.ba.frozen 1
          have f2 := HB7.out.ba.frozen 2
          have f3 := HB7.out.ba.frozen 3
          have f4 := HB7.out.ba.frozen 4
          have kl := HB7.out.ba.lt
          clear hl7 h7
          (try go_wp2_with fail)
          refine hK.out _ _ ⟨five_of HB7.out.ba, (HRED.out.to (fun b hb => hb7.block b (HLT.out b hb).1)).all⟩ (fun hH2 => ?_)
          clear hK K
          (try simp only [Act.put, List.setIfInBounds_toArray, List.set_cons_zero, List.set_cons_succ])
          refine wpAnyH_done (by kernel_rfl) ?_ _
          refine upto_step (o := { dst := none, op := Go.Op.store 27 (Go.Operand.tmp 2) (Go.Operand.tmp 51), type := 0, pos := "ref.go:280", after := #[{ on := 10, ground := Go.Ground.data }, { on := 10, ground := Go.Ground.chain }, { on := 0, ground := Go.Ground.phase }, { on := 1, ground := Go.Ground.phase }, { on := 2, ground := Go.Ground.phase }, { on := 3, ground := Go.Ground.phase }, { on := 4, ground := Go.Ground.phase }, { on := 5, ground := Go.Ground.phase }, { on := 6, ground := Go.Ground.phase }, { on := 7, ground := Go.Ground.phase }, { on := 8, ground := Go.Ground.phase }, { on := 9, ground := Go.Ground.phase }, { on := 10, ground := Go.Ground.phase }], guard := none }) rfl (fun K hK => ?_)
          go_simp
          refine hK _ _ ?_
          clear hK K
          all_goals
            go_wp2_with fail
            go_roundw
            case rel => exact ⟨j + 1, _, _, _, _, _, by go_num, by omega, HM7⟩
            case measure => simp [intOf]; omega
      · have hjn : ¬ ((j : Int) < n) := by omega
        have hjn2 : j = n := by omega
        have HRE := Lib.hid (show m = R by
          have h1 := HI.out.rest
          rw [List.drop_eq_nil_of_le (by have := HN.out; omega), List.drop_eq_nil_of_le (by have := HKL.out; have := HN.out; omega), mergeL] at h1
          exact h1)
        clear hjn2
        obtain ⟨p0, p1, p2, p3, p4⟩ := five_of HI.out.box.ba
        obtain ⟨z0, z1, z2, z3, z4⟩ := five_of (show BlockIs wr (w.heap.size + 2) 27 #[.int .i64 0, .int .i64 0, .string ⟨#[]⟩, .slice none 0 0, .slice none 0 0] from HI.out.box.br)
        have f0 := HI.out.box.br.frozen 0
        have f1 := HI.out.box.br.frozen 1
        have f2 := HI.out.box.br.frozen 2
        have f3 := HI.out.box.br.frozen 3
        have f4 := HI.out.box.br.frozen 4
        have zl := HI.out.box.br.lt
        go_wp2_with fail
        refine bodyPost_ret (v := .agg #[.int .i64 m.kind, .int .i64 m.int, .string m.text, .slice Am m.items.length cm, .slice Km m.keys.length dm]) (by simp [results, Tryz.results33, go_sem, z0, z1, z2, z3, z4]) rfl ?_
        rw [← HRE.out]
        exact HI.out.done HP.out
theorem refMerge_any : ∀ (N : Nat) (b : V), b.nodes ≤ N → ∀ (a : V), a.ok = true → b.ok = true → a.nodes + b.nodes ≤ 5000 → ∀ (P : Nat → Prop) (w : World) (A K : Option Addr) (c d : Nat) (A' K' : Option Addr) (c' d' : Nat), (∀ b, P b → b < w.heap.size) → LiesIn P w a A c K d → LiesIn P w b A' c' K' d' →
    Calls Tryz.prog 33 #[.agg #[.int .i64 a.kind, .int .i64 a.int, .string a.text, .slice A a.items.length c, .slice K a.keys.length d], .agg #[.int .i64 b.kind, .int .i64 b.int, .string b.text, .slice A' b.items.length c', .slice K' b.keys.length d']] w (OutQ P (mergeV a b) w)
  | 0, b, hN, _, _, _, _, _, _, _, _, _, _, _, _, _, _, _, _, _ => by have := V.nodes_pos b; omega
  | N + 1, b, hN, a, hao, hbo, hn, P, w, A, K, c, d, A', K', c', d', hP, ha, hb => by
    by_cases h5 : b.kind = 5
    · exact refMerge_step P a b w A K c d A' K' c' d' hP ha hb hao hbo hn h5 fun x y hx hy hxy Q W A K c d A' K' c' d' hQ h1 h2 => refMerge_any N y (by have := V.nodes_mem hy; have := nodes_items b; omega) x hx (okItems hbo y hy) hxy Q W A K c d A' K' c' d' hQ h1 h2
    · exact refMerge_not P a b w A K c d A' K' c' d' hP hb h5
end Go.Proofs.YtebmjefimbcefaaGreatDoor
