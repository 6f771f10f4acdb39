/- A row without one of its elements, walked. -/
import Derived.Test.YtchadlbhdcpojaaGreatDoorTd
import Derived.Lib.AppendZeros
import Derived.Deep.RegionLaw
import Derived.Test.YtchadlbhdcpojaaGreatDoorRy
import Derived.Deep.AppendLies
namespace Go.Proofs.YtchadlbhdcpojaaGreatDoor
open Go.RowKit
theorem step_append_run {P : Program} {ops : Array Oper} {o : Oper} {a : Act} {w : World} {K : Act → World → Prop} {Q : Exit → Act → World → Prop} {E : Prop} (hgd : o.guard = none) (s x : Operand) (t tn : TypeId)
    (ho : o.op = .call { callee := .builtin .append, args := #[s, x], argTypes := #[t, tn] }) (vs vx : Value) (hs : a.eval s = vs) (hx : a.eval x = vx) (v' : Value) (w' : World)
    (hr : (Builtin.append_ #[t, tn] o.type #[vs, vx]).run P w = .ok v' w') (hK : K (a.put o.dst v') w') : if Region.wanted o (yielded ops a.tmps) = true then Oper.wp P o a w K Q else E := by
  have hw : Region.wanted o (yielded ops a.tmps) = true := by simp [Region.wanted, hgd]
  rw [if_pos hw]
  exact Lib.wp_append_run w s x t tn ho vs vx hs hx v' w' hr hK
open Go.RowKit
section
variable {key kk : ByteArray} {x y : V} {ks oks o2 o3 : List ByteArray} {l ol p2 p3 : List V} {R : List ByteArray × List V}
theorem way_ne {a b : ByteArray} (h : (a.toList == b.toList) = false) : ¬ a = b := fun e => by rw [e] at h; simp at h
theorem way_eq {a b : ByteArray} (h : (a.toList == b.toList) = true) : a = b := by
  rw [beq_iff_eq, ByteArray.toList_eq, ByteArray.toList_eq] at h
  exact ByteArray.ext (Array.ext' h)
theorem way_ie (h : oks ++ (withK key x false (kk :: ks) (y :: l)).1 = R.1 ∧ ol ++ (withK key x false (kk :: ks) (y :: l)).2 = R.2) (hb : ltB kk key = false) (he : kk = key) (h1 : o2 = oks ++ [key]) (h2 : p2 = ol ++ [x]) :
    o2 ++ (withK key x true ks l).1 = R.1 ∧ p2 ++ (withK key x true ks l).2 = R.2 := by
  rw [withK, if_pos ⟨rfl, hb⟩, if_pos he] at h
  subst h1 h2
  simpa using h
theorem way_in (h : oks ++ (withK key x false (kk :: ks) (y :: l)).1 = R.1 ∧ ol ++ (withK key x false (kk :: ks) (y :: l)).2 = R.2) (hb : ltB kk key = false) (he : ¬ kk = key) (h1 : o2 = oks ++ [key]) (h2 : p2 = ol ++ [x]) (h3 : o3 = o2 ++ [kk]) (h4 : p3 = p2 ++ [y]) :
    o3 ++ (withK key x true ks l).1 = R.1 ∧ p3 ++ (withK key x true ks l).2 = R.2 := by
  rw [withK, if_pos ⟨rfl, hb⟩, if_neg he] at h
  subst h1 h2 h3 h4
  simpa using h
theorem way_ne' {dn : Bool} (h : oks ++ (withK key x dn (kk :: ks) (y :: l)).1 = R.1 ∧ ol ++ (withK key x dn (kk :: ks) (y :: l)).2 = R.2) (hb : ¬ (dn = false ∧ ltB kk key = false)) (he : ¬ kk = key) (h3 : o3 = oks ++ [kk]) (h4 : p3 = ol ++ [y]) :
    o3 ++ (withK key x dn ks l).1 = R.1 ∧ p3 ++ (withK key x dn ks l).2 = R.2 := by
  rw [withK, if_neg hb, if_neg he] at h
  subst h3 h4
  simpa using h
theorem way_skip {dn : Bool} (h : oks ++ (withK key x dn (kk :: ks) (y :: l)).1 = R.1 ∧ ol ++ (withK key x dn (kk :: ks) (y :: l)).2 = R.2) (hb : ¬ (dn = false ∧ ltB kk key = false)) (he : kk = key) :
    oks ++ (withK key x dn ks l).1 = R.1 ∧ ol ++ (withK key x dn ks l).2 = R.2 := by
  rw [withK, if_neg hb, if_pos he] at h
  exact h
theorem way_over (h : oks ++ (withK key x true [] []).1 = R.1 ∧ ol ++ (withK key x true [] []).2 = R.2) : oks = R.1 ∧ ol = R.2 := by
  simpa [withK] using h
theorem way_last (h : oks ++ (withK key x false [] []).1 = R.1 ∧ ol ++ (withK key x false [] []).2 = R.2) (h1 : o2 = oks ++ [key]) (h2 : p2 = ol ++ [x]) : o2 = R.1 ∧ p2 = R.2 := by
  subst h1 h2
  simpa [withK] using h
end
theorem WInv.slot {w W : World} {G : Nat} {vc xc : Array Value} {P : Nat → Prop} {oks : List ByteArray} {ol : List V} {rI rK : Value} {css : List (List Value)} (h : WInv w G vc xc P oks ol rI rK css W) :
    (W.cell? ⟨w.heap.size + 1 + 1, 0, none⟩ = some (.int .i64 0) ∧ W.cell? ⟨w.heap.size + 1 + 1, 1, none⟩ = some (.int .i64 0) ∧ W.cell? ⟨w.heap.size + 1 + 1, 2, none⟩ = some (.string ⟨#[]⟩) ∧ W.cell? ⟨w.heap.size + 1 + 1, 3, none⟩ = some (.slice none 0 0) ∧ W.cell? ⟨w.heap.size + 1 + 1, 4, none⟩ = some (.slice none 0 0)) ∧
    (W.frozen? ⟨w.heap.size + 1 + 1, 0, none⟩ = false ∧ W.frozen? ⟨w.heap.size + 1 + 1, 1, none⟩ = false ∧ W.frozen? ⟨w.heap.size + 1 + 1, 2, none⟩ = false ∧ W.frozen? ⟨w.heap.size + 1 + 1, 3, none⟩ = false ∧ W.frozen? ⟨w.heap.size + 1 + 1, 4, none⟩ = false) ∧ w.heap.size + 1 + 1 < W.heap.size :=
  ⟨⟨h.b2.cell 0, h.b2.cell 1, h.b2.cell 2, h.b2.cell 3, h.b2.cell 4⟩, ⟨h.b2.frozen 0, h.b2.frozen 1, h.b2.frozen 2, h.b2.frozen 3, h.b2.frozen 4⟩, h.b2.lt⟩
theorem with_end {w W : World} {G : Nat} {vc xc : Array Value} {P : Nat → Prop} {oks : List ByteArray} {ol : List V} {rI rK : Value} {css : List (List Value)} {R : List ByteArray × List V} (h : WInv w G vc xc P oks ol rI rK css W) (hR : oks = R.1 ∧ ol = R.2) :
    ∃ A c K q, rI = .slice A R.2.length c ∧ rK = .slice K R.1.length q ∧ ∀ u0 u1 u2 u3 u4, LiesIn (fun b => P b ∨ Fresh w (put5 W (w.heap.size + 1 + 1) 0 u0 u1 u2 u3 u4) b) (put5 W (w.heap.size + 1 + 1) 0 u0 u1 u2 u3 u4) (V.mk 5 0 ⟨#[]⟩ R.2 R.1) A c K q ∧ Below w.heap.size w (put5 W (w.heap.size + 1 + 1) 0 u0 u1 u2 u3 u4) := by
  obtain ⟨rfl, rfl⟩ := hR
  obtain ⟨h1, h2, -, -, -, -, h9, h8, h10, h11, h6⟩ := h
  have hz := h1.size
  have hr : RowsIn (fun b => P b ∨ (G + 1 ≤ b ∧ b < W.heap.size)) W R.2 css := h10.keep (fun _ _ _ => rfl) (fun b hb => .inl hb)
  obtain ⟨A, c, rfl, hc1, hc2, hA⟩ := rows_lie hr h9 (fun b hb => .inr (World.ownsRow.lt h9 b hb))
  have hcK := fun g hg => World.ownsRow.cells h8 (g := g) hg
  obtain ⟨K, q, rfl, hq1, hq2, hK⟩ : ∃ K q, rK = .slice K R.1.length q ∧ R.1.length ≤ q ∧ q ≤ maxLen ∧ (R.1 = [] ∨ ∃ b, K = some ⟨b, 0, none⟩ ∧ (G + 1 ≤ b ∧ b < W.heap.size) ∧ StrsFrom W R.1 b 0) := by
    have hlt := fun b hb => World.ownsRow.lt h8 b hb
    obtain ⟨hl, ⟨rfl, h0⟩ | ⟨g', cap, cur, rfl, hB, hb, hn, hm, hs, ht⟩⟩ := h8
    · exact ⟨none, 0, by rw [h0], by omega, by simp [maxLen], .inl (List.length_eq_zero_iff.1 h0)⟩
    · refine ⟨_, _, rfl, hn, hm, .inr ⟨g', rfl, hlt g' rfl, keys_from h6 fun j v hj => ?_⟩⟩
      have := hcK g' rfl j v hj
      rw [Addr.add_lit] at this
      exact this
  have hL : LiesIn (fun b => P b ∨ (G + 1 ≤ b ∧ b < W.heap.size)) W (V.mk 5 0 ⟨#[]⟩ R.2 R.1) A c K q := by
    rw [LiesIn]
    exact ⟨by decide, hc1, hc2, ⟨hq1, hq2, hK.imp id fun ⟨b, hKe, hb, hfr⟩ => ⟨b, 0, hKe, .inr hb, hfr⟩⟩, hA⟩
  refine ⟨A, c, K, q, rfl, rfl, fun u0 u1 u2 u3 u4 => ⟨?_, ?_⟩⟩
  · have hs := put5_size W (w.heap.size + 1 + 1) 0 u0 u1 u2 u3 u4
    refine LiesIn.keep (fun b o hb => World.cell?_of_block (put5_heap W (w.heap.size + 1 + 1) 0 u0 u1 u2 u3 u4 ?_)) (fun b hb => hb.imp id fun hb => ⟨by have := hb.1; omega, by rw [hs]; exact hb.2⟩) _ hL
    rcases (show P b ∨ (G + 1 ≤ b ∧ b < W.heap.size) from hb) with hb | hb
    · have := h11 b hb; show b ≠ w.heap.size + 1 + 1; omega
    · have := hb.1; show b ≠ w.heap.size + 1 + 1; omega
  · exact ((((h1.setCell (by simp; omega) _).setCell (by simp; omega) _).setCell (by simp; omega) _).setCell (by simp; omega) _).setCell (by simp; omega) _
set_option maxRecDepth 100000 in
set_option maxHeartbeats 16000000 in
theorem with_walk (P : Nat → Prop) (kd i : Int) (t : ByteArray) (l : List V) (ks : List ByteArray) (x : V) (key : ByteArray) (w : World) (hP : ∀ b, P b → b < w.heap.size) (A K : Option Addr) (c d : Nat) (Ax Kx : Option Addr) (cx dx : Nat)
    (hv : LiesIn P w (.mk kd i t l ks) A c K d) (hx : LiesIn P w x Ax cx Kx dx) (hkl : ks.length = l.length) (hlen : l.length ≤ 1000000) (hkey : key.size ≤ maxLen) :
    Calls Tryz.prog 38 #[.agg #[.int .i64 kd, .int .i64 i, .string t, .slice A l.length c, .slice K ks.length d], .string key, .agg #[.int .i64 x.kind, .int .i64 x.int, .string x.text, .slice Ax x.items.length cx, .slice Kx x.keys.length dx]] w fun e w' =>
      ∃ A' c' K' d', e = .returned (cellsOf (.mk 5 0 ⟨#[]⟩ (withK key x false ks l).2 (withK key x false ks l).1) A' c' K' d') ∧ LiesIn (fun b => P b ∨ Fresh w w' b) w' (.mk 5 0 ⟨#[]⟩ (withK key x false ks l).2 (withK key x false ks l).1) A' c' K' d' ∧ Below w.heap.size w w' := by
  obtain ⟨is0, his, hzs0, hzs1, hzs2⟩ := info_parts (P := Tryz.prog) (e := 9) (z := (.string ⟨#[]⟩)) (size := 1) (bytes := 16) (by kernel_rfl)
  obtain ⟨iv0, hiv, hzv0, hzv1, hzv2⟩ := info_parts (P := Tryz.prog) (e := 27) (z := .agg zeroF) (size := 5) (bytes := 80) (by kernel_rfl)
  obtain ⟨n, hn⟩ : ∃ n, n = l.length := ⟨_, rfl⟩
  have HN := Lib.hid hn
  have HKN := Lib.hid (show ks.length = n by rw [hkl, hn])
  have HV := Lib.hid hv
  have HX := Lib.hid hx
  have HPP := Lib.hid hP
  have HKS := Lib.hid hkey
  obtain ⟨R, hR⟩ : ∃ R, R = withK key x false ks l := ⟨_, rfl⟩
  have HR := Lib.hid hR
  rw [← hR, show ks.length = n by rw [hkl, hn], ← hn]
  rw [← hn] at hlen
  clear hv hx hP hkl hn hR hkey
  go_enter Tryz.func38, Tryz.ntmps38
  go_wp2_with fail
  refine (refObject_any none none 0 0 0 0 _).mono ?_
  rintro e w1 ⟨rfl, h1⟩
  have z1 : w.heap.size + 3 ≤ w1.heap.size := by have := h1.size; simpa using this
  have HI0 := Lib.hid (show WInv w w1.heap.size #[.int .i64 kd, .int .i64 i, .string t, .slice A n c, .slice K n d] #[.int .i64 x.kind, .int .i64 x.int, .string x.text, .slice Ax x.items.length cx, .slice Kx x.keys.length dx] P [] [] (.slice none 0 0) (.slice none 0 0) [] (w1.alloc (.cells #[.int .i64 5, .int .i64 0, .string ⟨#[]⟩, .slice none 0 0, .slice none 0 0] 27)) from
    ⟨below_al (below_on (below_al (below_al (below_al (Below.refl _ w) _) _) _) h1) _, z1, ((((BlockIs.new w _ _).alloc _).alloc _).below h1 (by simp; omega)).alloc _, (((BlockIs.newAt _ _ _ (by simp)).alloc _).below h1 (by simp)).alloc _, ((BlockIs.newAt _ 27 zeroF (by simp)).below h1 (by simp)).alloc _, BlockIs.new w1 _ _, World.ownsRow_nil _ _ _ _, World.ownsRow_nil _ _ _ _, trivial, HPP.out, by simp⟩)
  clear h1
  go_wp2_with fail
  go_loopw [8, 9] (fun dv iv wr => ∃ (dn : Bool) (j : Nat) (oks : List ByteArray) (ol : List V) (rI rK : Value) (css : List (List Value)), dv = .bool dn ∧ iv = .int .i64 j ∧ j ≤ n ∧ oks.length ≤ j + 1 ∧ ol.length ≤ j + 1 ∧
      Hid (WInv w w1.heap.size #[.int .i64 kd, .int .i64 i, .string t, .slice A n c, .slice K n d] #[.int .i64 x.kind, .int .i64 x.int, .string x.text, .slice Ax x.items.length cx, .slice Kx x.keys.length dx] P oks ol rI rK css wr) ∧
      Hid (oks ++ (withK key x dn (ks.drop j) (l.drop j)).1 = R.1 ∧ ol ++ (withK key x dn (ks.drop j) (l.drop j)).2 = R.2) ∧ Hid (dn = false → oks.length ≤ j ∧ ol.length ≤ j)) (fun _ iv _ => n - (intOf iv).toNat)
  case atStart => exact ⟨false, 0, [], [], _, _, [], rfl, rfl, Nat.zero_le _, by simp, by simp, HI0, Lib.hid (by rw [HR.out]; simp), Lib.hid (fun _ => ⟨Nat.le_refl _, Nat.le_refl _⟩)⟩
  case round =>
    clear HI0
    obtain ⟨dn, j, oks, ol, rI, rK, css, rfl, rfl, hj, hok, hol, HI, HE, HB⟩ := hrel
    obtain ⟨v0, v1, v2, v3, v4⟩ := five_cells HI.out.b0
    obtain ⟨y0, y1, y2, y3, y4⟩ := five_cells HI.out.b1
    have hzr := HI.out.old.size
    obtain ⟨AI, cI, rfl⟩ := own_form HI.out.items
    obtain ⟨AK, cK, rfl⟩ := own_form HI.out.keys
    obtain ⟨⟨g3, g4, gf3, gf4⟩, gl⟩ := HI.out.facts
    by_cases hlt : j < n
    · have hj1 : j < l.length := by rw [← HN.out]; exact hlt
      have hj2 : j < ks.length := by rw [HKN.out]; exact hlt
      obtain ⟨kk, hkk⟩ : ∃ kk, ks[j]? = some kk := ⟨_, List.getElem?_eq_getElem hj2⟩
      obtain ⟨y, hyy⟩ : ∃ y, l[j]? = some y := ⟨_, List.getElem?_eq_getElem hj1⟩
      obtain ⟨b, o, rfl, hb, Ay, cy, Ky, dy, he, hy⟩ := LiesIn.item_at HV.out hyy
      obtain ⟨kb, ko, rfl, hkb, q0, hq⟩ := LiesIn.key_at HV.out hkk
      have HY := Lib.hid hy
      have HQ := Lib.hid hq
      have hbl := HPP.out b hb
      have hkbl := HPP.out kb hkb
      have HCK := Lib.hid (And.intro q0 he)
      have q1 := (bcell HI.out.old kb (ko + j) hkbl).trans HCK.out.1
      have e0 := (bcell HI.out.old b (o + j * 5) hbl).trans HCK.out.2.1
      have e1 := (bcell HI.out.old b (o + j * 5 + 1) hbl).trans HCK.out.2.2.1
      have e2 := (bcell HI.out.old b (o + j * 5 + 2) hbl).trans HCK.out.2.2.2.1
      have e3 := (bcell HI.out.old b (o + j * 5 + 3) hbl).trans HCK.out.2.2.2.2.1
      have e4 := (bcell HI.out.old b (o + j * 5 + 4) hbl).trans HCK.out.2.2.2.2.2
      have hd1 : ks.drop j = kk :: ks.drop (j + 1) := by rw [List.drop_eq_getElem_cons hj2]; congr 1; rw [List.getElem?_eq_getElem hj2] at hkk; exact Option.some.inj hkk
      have hd2 : l.drop j = y :: l.drop (j + 1) := by rw [List.drop_eq_getElem_cons hj1]; congr 1; rw [List.getElem?_eq_getElem hj1] at hyy; exact Option.some.inj hyy
      rw [hd1, hd2] at HE
      have h0 : 0 ≤ (j : Int) := by omega
      have hjn : (j : Int) < n := by omega
      clear hj1 hj2 hkk hyy hy hq q0 he hd1 hd2
      by_cases hins : dn = false ∧ ltB kk key = false
      · obtain ⟨rfl, hlb⟩ := hins
        have hl1 : Op.bytesLess kk.toList key.toList = false := hlb
        have HLB := Lib.hid hlb
        obtain ⟨hok', hol'⟩ := HB.out rfl
        clear hlb
        go_wp2_with (at_builtin; refine wpList_append_own _ rfl _ _ 25 rfl (w1.heap.size + 1) 9 is0 (.string ⟨#[]⟩) 1 16 Tryz.underlying25 his hzs0 hzs1 hzs2 rfl (by decide) _ _ _ rfl (World.ownsRow.alloc HI.out.keys _) _ 1 1 [.string key] rfl rfl ?k1 ?k2 ?k3 ?k4 ?k5 ?_)
        try case k1 =>
          intro i u hj
          match i, hj with
          | 0, hj => simp at hj; subst hj; simp [Addr.add]
        case k2 => first | rfl | (intro u hu; simp at hu; subst hu; rfl)
        case k3 => unfold maxLen; omega
        case k4 => omega
        case k5 => first | omega | (simp; omega)
        intro v' w5 hown hgrow _
        obtain ⟨AK2, cK2, rfl⟩ := own_form hown
        have hbG := HI.out.bG.grown (grow_trans (World.grownBy_alloc _ _ _) hgrow) (own_ge HI.out.keys (by omega))
        have gG : w1.heap.size < w5.heap.size := BlockIs.lt hbG
        have gc : w5.cell? ⟨w1.heap.size, 4, none⟩ = some _ := BlockIs.cell hbG 4
        have gf : w5.frozen? ⟨w1.heap.size, 4, none⟩ = false := BlockIs.frozen hbG 4
        have HI5 := Lib.hid (HI.out.key HKS.out (grow_trans (World.grownBy_alloc _ _ _) hgrow) hown)
        clear v0 v1 v2 v3 v4 y0 y1 y2 y3 y4 g3 g4 gf3 gf4 gl hzr q1 e0 e1 e2 e3 e4 hbG hown hgrow HI
        go_upto_region 8 with (fail)
        obtain ⟨W5, hW5⟩ : ∃ W5, W5 = w5.setCell ⟨w1.heap.size, 4, none⟩ (.slice AK2 (oks.length + 1) cK2) := ⟨_, rfl⟩
        rw [← hW5] at HI5 ⊢
        clear hW5
        obtain ⟨oks2, ho2⟩ : ∃ oks2, oks2 = oks ++ [key] := ⟨_, rfl⟩
        have hl2 : oks.length + 1 = oks2.length := by rw [ho2]; simp
        rw [← ho2, hl2] at HI5
        try rw [hl2]
        have Hoks2 := Lib.hid ho2
        have boks2 : oks2.length ≤ j + 1 := by omega
        have HI := HI5
        clear gc gf gG ho2 hl2 HI5
        obtain ⟨v0, v1, v2, v3, v4⟩ := five_cells HI.out.b0
        obtain ⟨y0, y1, y2, y3, y4⟩ := five_cells HI.out.b1
        obtain ⟨⟨g3, g4, gf3, gf4⟩, gl⟩ := HI.out.facts
        have hzr := HI.out.old.size
        go_wp2_with (at_builtin; refine wpList_append_own _ rfl _ _ 24 rfl (w1.heap.size + 1) 27 iv0 (.agg zeroF) 5 80 Tryz.underlying24 hiv hzv0 hzv1 hzv2 rfl (by decide) _ _ _ rfl (World.ownsRow.alloc HI.out.items _) _ 1 1 (fieldsL x Ax cx Kx dx) rfl rfl ?c1 ?c2 ?c3 ?c4 ?c5 ?_)
        case c1 =>
          intro i u hj
          match i, hj with
          | 0, hj => simp [fieldsL] at hj; subst hj; simp [Addr.add]
          | 1, hj => simp [fieldsL] at hj; subst hj; simp [Addr.add]
          | 2, hj => simp [fieldsL] at hj; subst hj; simp [Addr.add]
          | 3, hj => simp [fieldsL] at hj; subst hj; simp [Addr.add]
          | 4, hj => simp [fieldsL] at hj; subst hj; simp [Addr.add]
          | i + 5, hj => simp [fieldsL] at hj
        case c2 => intro u hu; simp [fieldsL] at hu; rcases hu with rfl | rfl | rfl | rfl | rfl <;> rfl
        case c3 => unfold maxLen; omega
        case c4 => omega
        case c5 => simp; omega
        intro v' w5 hown hgrow _
        obtain ⟨AI2, cI2, rfl⟩ := own_form hown
        have hbG := HI.out.bG.grown (grow_trans (World.grownBy_alloc _ _ _) hgrow) (own_ge HI.out.items (by omega))
        have gG : w1.heap.size < w5.heap.size := BlockIs.lt hbG
        have gc : w5.cell? ⟨w1.heap.size, 3, none⟩ = some _ := BlockIs.cell hbG 3
        have gf : w5.frozen? ⟨w1.heap.size, 3, none⟩ = false := BlockIs.frozen hbG 3
        have HI5 := Lib.hid (HI.out.item HX.out (grow_trans (World.grownBy_alloc _ _ _) hgrow) hown)
        clear v0 v1 v2 v3 v4 y0 y1 y2 y3 y4 g3 g4 gf3 gf4 gl hzr hbG hown hgrow HI
        go_upto_region 9 with (fail)
        obtain ⟨W6, hW5⟩ : ∃ W5, W5 = w5.setCell ⟨w1.heap.size, 3, none⟩ (.slice AI2 (ol.length + 1) cI2) := ⟨_, rfl⟩
        rw [← hW5] at HI5 ⊢
        clear hW5
        obtain ⟨ol2, ho2⟩ : ∃ ol2, ol2 = ol ++ [x] := ⟨_, rfl⟩
        have hl2 : ol.length + 1 = ol2.length := by rw [ho2]; simp
        rw [← ho2, hl2] at HI5
        try rw [hl2]
        have Hol2 := Lib.hid ho2
        have bol2 : ol2.length ≤ j + 1 := by omega
        have HI := HI5
        clear gc gf gG ho2 hl2 HI5
        obtain ⟨v0, v1, v2, v3, v4⟩ := five_cells HI.out.b0
        obtain ⟨y0, y1, y2, y3, y4⟩ := five_cells HI.out.b1
        obtain ⟨⟨g3, g4, gf3, gf4⟩, gl⟩ := HI.out.facts
        have hzr := HI.out.old.size
        have q1 := (bcell HI.out.old kb (ko + j) hkbl).trans HCK.out.1
        have e0 := (bcell HI.out.old b (o + j * 5) hbl).trans HCK.out.2.1
        have e1 := (bcell HI.out.old b (o + j * 5 + 1) hbl).trans HCK.out.2.2.1
        have e2 := (bcell HI.out.old b (o + j * 5 + 2) hbl).trans HCK.out.2.2.2.1
        have e3 := (bcell HI.out.old b (o + j * 5 + 3) hbl).trans HCK.out.2.2.2.2.1
        have e4 := (bcell HI.out.old b (o + j * 5 + 4) hbl).trans HCK.out.2.2.2.2.2
        cases hkeq : (kk.toList == key.toList)
        · have HKQ := Lib.hid (way_ne hkeq)
          go_upto_region 11 with (fail)
          have HZ := Lib.hid (show (W6.alloc (.cells #[.string kk] 9)).heap[W6.heap.size]? = some (.cells #[.string kk] 9 (0, 0)) from BlockIs.new W6 _ _)
          have HO3 := Lib.hid (World.ownsRow.alloc HI.out.keys (.cells #[.string kk] 9))
          have HHG := Lib.hid (And.intro HI.out.bG (own_ge HI.out.keys (show w1.heap.size < w1.heap.size + 1 by omega)))
          go_region_law (refine step_append_lies _ (by rfl) _ _ 25 (by rfl) (w1.heap.size + 1) 9 is0 (.string ⟨#[]⟩) 1 16 Tryz.underlying25 his hzs0 hzs1 hzs2 (by rfl) (by omega) (.slice AK2 oks2.length cK2) oks2.length (oks2.map Value.string) (by rfl) (own_heap HO3.out rfl) ⟨W6.heap.size, 0, none⟩ 1 1 [.string kk] (by rfl) (by rfl) (World.news_of_block (fr := (0, 0)) (t := 9) (cs := #[.string kk]) HZ.out) (by intro u hu; simp at hu; subst hu; rfl) (by omega) (by unfold maxLen; omega) (by omega) (by simp; omega) (W6.heap.size + 1) (by simp) ?_; intro g' cap w5 hown hgrow hat hlt'; have hbG := HHG.out.1.grown (grow_trans (grow_drew (World.grownBy_alloc W6 _ _)) hgrow) HHG.out.2; have gG : w1.heap.size < w5.heap.size := BlockIs.lt hbG; have gc : w5.cell? ⟨w1.heap.size, 4, none⟩ = some _ := BlockIs.cell hbG 4; have gf : w5.frozen? ⟨w1.heap.size, 4, none⟩ = false := BlockIs.frozen hbG 4)
          all_goals
            have HI5 := Lib.hid (HI.out.key HQ.out (grow_trans (grow_drew (World.grownBy_alloc W6 _ _)) hgrow) hown)
            clear v0 v1 v2 v3 v4 y0 y1 y2 y3 y4 g3 g4 gf3 gf4 gl hzr q1 e0 e1 e2 e3 e4 hbG hown hgrow hat hlt' HI HZ HO3 HHG
            try go_upto_region 12 with (fail)
            obtain ⟨W6k, hW5⟩ : ∃ W5, W5 = w5.setCell ⟨w1.heap.size, 4, none⟩ (.slice (some ⟨g', 0, none⟩) (oks2.length + 1) cap) := ⟨_, rfl⟩
            rw [← hW5] at HI5 ⊢
            clear hW5
            obtain ⟨oks3, ho2⟩ : ∃ o2, o2 = oks2 ++ [kk] := ⟨_, rfl⟩
            have hl2 : oks2.length + 1 = oks3.length := by rw [ho2]; simp
            rw [← ho2, hl2] at HI5
            try rw [hl2]
            have Hoks3 := Lib.hid ho2
            have boks3 : oks3.length ≤ oks2.length + 1 := by omega
            have HI := HI5
            clear gc gf gG ho2 hl2 HI5
            obtain ⟨v0, v1, v2, v3, v4⟩ := five_cells HI.out.b0
            obtain ⟨y0, y1, y2, y3, y4⟩ := five_cells HI.out.b1
            obtain ⟨⟨g3, g4, gf3, gf4⟩, gl⟩ := HI.out.facts
            have hzr := HI.out.old.size
            have q1 := (bcell HI.out.old kb (ko + j) hkbl).trans HCK.out.1
            have e0 := (bcell HI.out.old b (o + j * 5) hbl).trans HCK.out.2.1
            have e1 := (bcell HI.out.old b (o + j * 5 + 1) hbl).trans HCK.out.2.2.1
            have e2 := (bcell HI.out.old b (o + j * 5 + 2) hbl).trans HCK.out.2.2.2.1
            have e3 := (bcell HI.out.old b (o + j * 5 + 3) hbl).trans HCK.out.2.2.2.2.1
            have e4 := (bcell HI.out.old b (o + j * 5 + 4) hbl).trans HCK.out.2.2.2.2.2
            have HZ := Lib.hid (show (W6k.alloc (.cells #[.int .i64 y.kind, .int .i64 y.int, .string y.text, .slice Ay y.items.length cy, .slice Ky y.keys.length dy] 27)).heap[W6k.heap.size]? = some (.cells #[.int .i64 y.kind, .int .i64 y.int, .string y.text, .slice Ay y.items.length cy, .slice Ky y.keys.length dy] 27 (0, 0)) from BlockIs.new W6k _ _)
            have HO3 := Lib.hid (World.ownsRow.alloc HI.out.items (.cells #[.int .i64 y.kind, .int .i64 y.int, .string y.text, .slice Ay y.items.length cy, .slice Ky y.keys.length dy] 27))
            have HHG := Lib.hid (And.intro HI.out.bG (own_ge HI.out.items (show w1.heap.size < w1.heap.size + 1 by omega)))
            go_region_law (refine step_append_lies _ (by rfl) _ _ 24 (by rfl) (w1.heap.size + 1) 27 iv0 (.agg zeroF) 5 80 Tryz.underlying24 hiv hzv0 hzv1 hzv2 (by rfl) (by omega) (.slice AI2 ol2.length cI2) ol2.length (css ++ [fieldsL x Ax cx Kx dx]).flatten (by rfl) (own_heap HO3.out rfl) ⟨W6k.heap.size, 0, none⟩ 1 1 (fieldsL y Ay cy Ky dy) (by rfl) (by rfl) (World.news_of_block (fr := (0, 0)) (t := 27) (cs := #[.int .i64 y.kind, .int .i64 y.int, .string y.text, .slice Ay y.items.length cy, .slice Ky y.keys.length dy]) HZ.out) (by intro u hu; simp [fieldsL] at hu; rcases hu with rfl | rfl | rfl | rfl | rfl <;> rfl) (by omega) (by unfold maxLen; omega) (by omega) (by simp; omega) (W6k.heap.size + 1) (by simp) ?_; intro g' cap w5 hown hgrow hat hlt'; have hbG := HHG.out.1.grown (grow_trans (grow_drew (World.grownBy_alloc W6k _ _)) hgrow) HHG.out.2; have gG : w1.heap.size < w5.heap.size := BlockIs.lt hbG; have gc : w5.cell? ⟨w1.heap.size, 3, none⟩ = some _ := BlockIs.cell hbG 3; have gf : w5.frozen? ⟨w1.heap.size, 3, none⟩ = false := BlockIs.frozen hbG 3)
            all_goals
              have HI5 := Lib.hid (HI.out.item HY.out (grow_trans (grow_drew (World.grownBy_alloc W6k _ _)) hgrow) hown)
              clear v0 v1 v2 v3 v4 y0 y1 y2 y3 y4 g3 g4 gf3 gf4 gl hzr q1 e0 e1 e2 e3 e4 hbG hown hgrow hat hlt' HI HZ HO3 HHG
              obtain ⟨W6i, hW5⟩ : ∃ W5, W5 = w5.setCell ⟨w1.heap.size, 3, none⟩ (.slice (some ⟨g', 0, none⟩) (ol2.length + 1) cap) := ⟨_, rfl⟩
              rw [← hW5] at HI5 ⊢
              clear hW5
              obtain ⟨ol3, ho2⟩ : ∃ o2, o2 = ol2 ++ [y] := ⟨_, rfl⟩
              have hl2 : ol2.length + 1 = ol3.length := by rw [ho2]; simp
              rw [← ho2, hl2] at HI5
              try rw [hl2]
              have Hol3 := Lib.hid ho2
              have bol3 : ol3.length ≤ ol2.length + 1 := by omega
              have HI := HI5
              clear gc gf gG ho2 hl2 HI5
              go_wp2_with fail
              go_roundw
              case rel => exact ⟨true, j + 1, oks3, ol3, _, _, _, rfl, by go_num, by omega, by omega, by omega, HI, Lib.hid (way_in HE.out HLB.out HKQ.out Hoks2.out Hol2.out Hoks3.out Hol3.out), Lib.hid (fun h => by cases h)⟩
              case measure => simp [intOf]; omega
        · have HKQ := Lib.hid (way_eq hkeq)
          go_wp2_with fail
          go_roundw
          case rel => exact ⟨true, j + 1, oks2, ol2, _, _, _, rfl, by go_num, by omega, by omega, by omega, HI, Lib.hid (way_ie HE.out HLB.out HKQ.out Hoks2.out Hol2.out), Lib.hid (fun h => by cases h)⟩
          case measure => simp [intOf]; omega
      · have HINS := Lib.hid hins
        cases dn
        · have hl1 : Op.bytesLess kk.toList key.toList = true := by
            cases hb' : Op.bytesLess kk.toList key.toList
            · exact absurd ⟨rfl, hb'⟩ hins
            · rfl
          obtain ⟨hok', hol'⟩ := HB.out rfl
          clear hins
          cases hkeq : (kk.toList == key.toList)
          · have HKQ := Lib.hid (way_ne hkeq)
            go_upto_region 11 with (fail)
            have HZ := Lib.hid (show (wr.alloc (.cells #[.string kk] 9)).heap[wr.heap.size]? = some (.cells #[.string kk] 9 (0, 0)) from BlockIs.new wr _ _)
            have HO3 := Lib.hid (World.ownsRow.alloc HI.out.keys (.cells #[.string kk] 9))
            have HHG := Lib.hid (And.intro HI.out.bG (own_ge HI.out.keys (show w1.heap.size < w1.heap.size + 1 by omega)))
            go_region_law (refine step_append_lies _ (by rfl) _ _ 25 (by rfl) (w1.heap.size + 1) 9 is0 (.string ⟨#[]⟩) 1 16 Tryz.underlying25 his hzs0 hzs1 hzs2 (by rfl) (by omega) (.slice AK oks.length cK) oks.length (oks.map Value.string) (by rfl) (own_heap HO3.out rfl) ⟨wr.heap.size, 0, none⟩ 1 1 [.string kk] (by rfl) (by rfl) (World.news_of_block (fr := (0, 0)) (t := 9) (cs := #[.string kk]) HZ.out) (by intro u hu; simp at hu; subst hu; rfl) (by omega) (by unfold maxLen; omega) (by omega) (by simp; omega) (wr.heap.size + 1) (by simp) ?_; intro g' cap w5 hown hgrow hat hlt'; have hbG := HHG.out.1.grown (grow_trans (grow_drew (World.grownBy_alloc wr _ _)) hgrow) HHG.out.2; have gG : w1.heap.size < w5.heap.size := BlockIs.lt hbG; have gc : w5.cell? ⟨w1.heap.size, 4, none⟩ = some _ := BlockIs.cell hbG 4; have gf : w5.frozen? ⟨w1.heap.size, 4, none⟩ = false := BlockIs.frozen hbG 4)
            all_goals
              have HI5 := Lib.hid (HI.out.key HQ.out (grow_trans (grow_drew (World.grownBy_alloc wr _ _)) hgrow) hown)
              clear v0 v1 v2 v3 v4 y0 y1 y2 y3 y4 g3 g4 gf3 gf4 gl hzr q1 e0 e1 e2 e3 e4 hbG hown hgrow hat hlt' HI HZ HO3 HHG
              try go_upto_region 12 with (fail)
              obtain ⟨wrk, hW5⟩ : ∃ W5, W5 = w5.setCell ⟨w1.heap.size, 4, none⟩ (.slice (some ⟨g', 0, none⟩) (oks.length + 1) cap) := ⟨_, rfl⟩
              rw [← hW5] at HI5 ⊢
              clear hW5
              obtain ⟨oks4, ho2⟩ : ∃ o2, o2 = oks ++ [kk] := ⟨_, rfl⟩
              have hl2 : oks.length + 1 = oks4.length := by rw [ho2]; simp
              rw [← ho2, hl2] at HI5
              try rw [hl2]
              have Hoks4 := Lib.hid ho2
              have boks4 : oks4.length ≤ oks.length + 1 := by omega
              have HI := HI5
              clear gc gf gG ho2 hl2 HI5
              obtain ⟨v0, v1, v2, v3, v4⟩ := five_cells HI.out.b0
              obtain ⟨y0, y1, y2, y3, y4⟩ := five_cells HI.out.b1
              obtain ⟨⟨g3, g4, gf3, gf4⟩, gl⟩ := HI.out.facts
              have hzr := HI.out.old.size
              have q1 := (bcell HI.out.old kb (ko + j) hkbl).trans HCK.out.1
              have e0 := (bcell HI.out.old b (o + j * 5) hbl).trans HCK.out.2.1
              have e1 := (bcell HI.out.old b (o + j * 5 + 1) hbl).trans HCK.out.2.2.1
              have e2 := (bcell HI.out.old b (o + j * 5 + 2) hbl).trans HCK.out.2.2.2.1
              have e3 := (bcell HI.out.old b (o + j * 5 + 3) hbl).trans HCK.out.2.2.2.2.1
              have e4 := (bcell HI.out.old b (o + j * 5 + 4) hbl).trans HCK.out.2.2.2.2.2
              have HZ := Lib.hid (show (wrk.alloc (.cells #[.int .i64 y.kind, .int .i64 y.int, .string y.text, .slice Ay y.items.length cy, .slice Ky y.keys.length dy] 27)).heap[wrk.heap.size]? = some (.cells #[.int .i64 y.kind, .int .i64 y.int, .string y.text, .slice Ay y.items.length cy, .slice Ky y.keys.length dy] 27 (0, 0)) from BlockIs.new wrk _ _)
              have HO3 := Lib.hid (World.ownsRow.alloc HI.out.items (.cells #[.int .i64 y.kind, .int .i64 y.int, .string y.text, .slice Ay y.items.length cy, .slice Ky y.keys.length dy] 27))
              have HHG := Lib.hid (And.intro HI.out.bG (own_ge HI.out.items (show w1.heap.size < w1.heap.size + 1 by omega)))
              go_region_law (refine step_append_lies _ (by rfl) _ _ 24 (by rfl) (w1.heap.size + 1) 27 iv0 (.agg zeroF) 5 80 Tryz.underlying24 hiv hzv0 hzv1 hzv2 (by rfl) (by omega) (.slice AI ol.length cI) ol.length css.flatten (by rfl) (own_heap HO3.out rfl) ⟨wrk.heap.size, 0, none⟩ 1 1 (fieldsL y Ay cy Ky dy) (by rfl) (by rfl) (World.news_of_block (fr := (0, 0)) (t := 27) (cs := #[.int .i64 y.kind, .int .i64 y.int, .string y.text, .slice Ay y.items.length cy, .slice Ky y.keys.length dy]) HZ.out) (by intro u hu; simp [fieldsL] at hu; rcases hu with rfl | rfl | rfl | rfl | rfl <;> rfl) (by omega) (by unfold maxLen; omega) (by omega) (by simp; omega) (wrk.heap.size + 1) (by simp) ?_; intro g' cap w5 hown hgrow hat hlt'; have hbG := HHG.out.1.grown (grow_trans (grow_drew (World.grownBy_alloc wrk _ _)) hgrow) HHG.out.2; have gG : w1.heap.size < w5.heap.size := BlockIs.lt hbG; have gc : w5.cell? ⟨w1.heap.size, 3, none⟩ = some _ := BlockIs.cell hbG 3; have gf : w5.frozen? ⟨w1.heap.size, 3, none⟩ = false := BlockIs.frozen hbG 3)
              all_goals
                have HI5 := Lib.hid (HI.out.item HY.out (grow_trans (grow_drew (World.grownBy_alloc wrk _ _)) hgrow) hown)
                clear v0 v1 v2 v3 v4 y0 y1 y2 y3 y4 g3 g4 gf3 gf4 gl hzr q1 e0 e1 e2 e3 e4 hbG hown hgrow hat hlt' HI HZ HO3 HHG
                obtain ⟨wri, hW5⟩ : ∃ W5, W5 = w5.setCell ⟨w1.heap.size, 3, none⟩ (.slice (some ⟨g', 0, none⟩) (ol.length + 1) cap) := ⟨_, rfl⟩
                rw [← hW5] at HI5 ⊢
                clear hW5
                obtain ⟨ol4, ho2⟩ : ∃ o2, o2 = ol ++ [y] := ⟨_, rfl⟩
                have hl2 : ol.length + 1 = ol4.length := by rw [ho2]; simp
                rw [← ho2, hl2] at HI5
                try rw [hl2]
                have Hol4 := Lib.hid ho2
                have bol4 : ol4.length ≤ ol.length + 1 := by omega
                have HI := HI5
                clear gc gf gG ho2 hl2 HI5
                go_wp2_with fail
                go_roundw
                case rel => exact ⟨false, j + 1, oks4, ol4, _, _, _, rfl, by go_num, by omega, by omega, by omega, HI, Lib.hid (way_ne' HE.out HINS.out HKQ.out Hoks4.out Hol4.out), Lib.hid (fun _ => ⟨by omega, by omega⟩)⟩
                case measure => simp [intOf]; omega
          · have HKQ := Lib.hid (way_eq hkeq)
            go_wp2_with fail
            go_roundw
            case rel => exact ⟨false, j + 1, oks, ol, _, _, _, rfl, by go_num, by omega, by omega, by omega, HI, Lib.hid (way_skip HE.out HINS.out HKQ.out), Lib.hid (fun _ => ⟨by omega, by omega⟩)⟩
            case measure => simp [intOf]; omega
        · clear hins
          cases hkeq : (kk.toList == key.toList)
          · have HKQ := Lib.hid (way_ne hkeq)
            go_upto_region 11 with (fail)
            have HZ := Lib.hid (show (wr.alloc (.cells #[.string kk] 9)).heap[wr.heap.size]? = some (.cells #[.string kk] 9 (0, 0)) from BlockIs.new wr _ _)
            have HO3 := Lib.hid (World.ownsRow.alloc HI.out.keys (.cells #[.string kk] 9))
            have HHG := Lib.hid (And.intro HI.out.bG (own_ge HI.out.keys (show w1.heap.size < w1.heap.size + 1 by omega)))
            go_region_law (refine step_append_lies _ (by rfl) _ _ 25 (by rfl) (w1.heap.size + 1) 9 is0 (.string ⟨#[]⟩) 1 16 Tryz.underlying25 his hzs0 hzs1 hzs2 (by rfl) (by omega) (.slice AK oks.length cK) oks.length (oks.map Value.string) (by rfl) (own_heap HO3.out rfl) ⟨wr.heap.size, 0, none⟩ 1 1 [.string kk] (by rfl) (by rfl) (World.news_of_block (fr := (0, 0)) (t := 9) (cs := #[.string kk]) HZ.out) (by intro u hu; simp at hu; subst hu; rfl) (by omega) (by unfold maxLen; omega) (by omega) (by simp; omega) (wr.heap.size + 1) (by simp) ?_; intro g' cap w5 hown hgrow hat hlt'; have hbG := HHG.out.1.grown (grow_trans (grow_drew (World.grownBy_alloc wr _ _)) hgrow) HHG.out.2; have gG : w1.heap.size < w5.heap.size := BlockIs.lt hbG; have gc : w5.cell? ⟨w1.heap.size, 4, none⟩ = some _ := BlockIs.cell hbG 4; have gf : w5.frozen? ⟨w1.heap.size, 4, none⟩ = false := BlockIs.frozen hbG 4)
            all_goals
              have HI5 := Lib.hid (HI.out.key HQ.out (grow_trans (grow_drew (World.grownBy_alloc wr _ _)) hgrow) hown)
              clear v0 v1 v2 v3 v4 y0 y1 y2 y3 y4 g3 g4 gf3 gf4 gl hzr q1 e0 e1 e2 e3 e4 hbG hown hgrow hat hlt' HI HZ HO3 HHG
              try go_upto_region 12 with (fail)
              obtain ⟨wrk, hW5⟩ : ∃ W5, W5 = w5.setCell ⟨w1.heap.size, 4, none⟩ (.slice (some ⟨g', 0, none⟩) (oks.length + 1) cap) := ⟨_, rfl⟩
              rw [← hW5] at HI5 ⊢
              clear hW5
              obtain ⟨oks4, ho2⟩ : ∃ o2, o2 = oks ++ [kk] := ⟨_, rfl⟩
              have hl2 : oks.length + 1 = oks4.length := by rw [ho2]; simp
              rw [← ho2, hl2] at HI5
              try rw [hl2]
              have Hoks4 := Lib.hid ho2
              have boks4 : oks4.length ≤ oks.length + 1 := by omega
              have HI := HI5
              clear gc gf gG ho2 hl2 HI5
              obtain ⟨v0, v1, v2, v3, v4⟩ := five_cells HI.out.b0
              obtain ⟨y0, y1, y2, y3, y4⟩ := five_cells HI.out.b1
              obtain ⟨⟨g3, g4, gf3, gf4⟩, gl⟩ := HI.out.facts
              have hzr := HI.out.old.size
              have q1 := (bcell HI.out.old kb (ko + j) hkbl).trans HCK.out.1
              have e0 := (bcell HI.out.old b (o + j * 5) hbl).trans HCK.out.2.1
              have e1 := (bcell HI.out.old b (o + j * 5 + 1) hbl).trans HCK.out.2.2.1
              have e2 := (bcell HI.out.old b (o + j * 5 + 2) hbl).trans HCK.out.2.2.2.1
              have e3 := (bcell HI.out.old b (o + j * 5 + 3) hbl).trans HCK.out.2.2.2.2.1
              have e4 := (bcell HI.out.old b (o + j * 5 + 4) hbl).trans HCK.out.2.2.2.2.2
              have HZ := Lib.hid (show (wrk.alloc (.cells #[.int .i64 y.kind, .int .i64 y.int, .string y.text, .slice Ay y.items.length cy, .slice Ky y.keys.length dy] 27)).heap[wrk.heap.size]? = some (.cells #[.int .i64 y.kind, .int .i64 y.int, .string y.text, .slice Ay y.items.length cy, .slice Ky y.keys.length dy] 27 (0, 0)) from BlockIs.new wrk _ _)
              have HO3 := Lib.hid (World.ownsRow.alloc HI.out.items (.cells #[.int .i64 y.kind, .int .i64 y.int, .string y.text, .slice Ay y.items.length cy, .slice Ky y.keys.length dy] 27))
              have HHG := Lib.hid (And.intro HI.out.bG (own_ge HI.out.items (show w1.heap.size < w1.heap.size + 1 by omega)))
              go_region_law (refine step_append_lies _ (by rfl) _ _ 24 (by rfl) (w1.heap.size + 1) 27 iv0 (.agg zeroF) 5 80 Tryz.underlying24 hiv hzv0 hzv1 hzv2 (by rfl) (by omega) (.slice AI ol.length cI) ol.length css.flatten (by rfl) (own_heap HO3.out rfl) ⟨wrk.heap.size, 0, none⟩ 1 1 (fieldsL y Ay cy Ky dy) (by rfl) (by rfl) (World.news_of_block (fr := (0, 0)) (t := 27) (cs := #[.int .i64 y.kind, .int .i64 y.int, .string y.text, .slice Ay y.items.length cy, .slice Ky y.keys.length dy]) HZ.out) (by intro u hu; simp [fieldsL] at hu; rcases hu with rfl | rfl | rfl | rfl | rfl <;> rfl) (by omega) (by unfold maxLen; omega) (by omega) (by simp; omega) (wrk.heap.size + 1) (by simp) ?_; intro g' cap w5 hown hgrow hat hlt'; have hbG := HHG.out.1.grown (grow_trans (grow_drew (World.grownBy_alloc wrk _ _)) hgrow) HHG.out.2; have gG : w1.heap.size < w5.heap.size := BlockIs.lt hbG; have gc : w5.cell? ⟨w1.heap.size, 3, none⟩ = some _ := BlockIs.cell hbG 3; have gf : w5.frozen? ⟨w1.heap.size, 3, none⟩ = false := BlockIs.frozen hbG 3)
              all_goals
                have HI5 := Lib.hid (HI.out.item HY.out (grow_trans (grow_drew (World.grownBy_alloc wrk _ _)) hgrow) hown)
                clear v0 v1 v2 v3 v4 y0 y1 y2 y3 y4 g3 g4 gf3 gf4 gl hzr q1 e0 e1 e2 e3 e4 hbG hown hgrow hat hlt' HI HZ HO3 HHG
                obtain ⟨wri, hW5⟩ : ∃ W5, W5 = w5.setCell ⟨w1.heap.size, 3, none⟩ (.slice (some ⟨g', 0, none⟩) (ol.length + 1) cap) := ⟨_, rfl⟩
                rw [← hW5] at HI5 ⊢
                clear hW5
                obtain ⟨ol4, ho2⟩ : ∃ o2, o2 = ol ++ [y] := ⟨_, rfl⟩
                have hl2 : ol.length + 1 = ol4.length := by rw [ho2]; simp
                rw [← ho2, hl2] at HI5
                try rw [hl2]
                have Hol4 := Lib.hid ho2
                have bol4 : ol4.length ≤ ol.length + 1 := by omega
                have HI := HI5
                clear gc gf gG ho2 hl2 HI5
                go_wp2_with fail
                go_roundw
                case rel => exact ⟨true, j + 1, oks4, ol4, _, _, _, rfl, by go_num, by omega, by omega, by omega, HI, Lib.hid (way_ne' HE.out HINS.out HKQ.out Hoks4.out Hol4.out), Lib.hid (fun h => by cases h)⟩
                case measure => simp [intOf]; omega
          · have HKQ := Lib.hid (way_eq hkeq)
            go_wp2_with fail
            go_roundw
            case rel => exact ⟨true, j + 1, oks, ol, _, _, _, rfl, by go_num, by omega, by omega, by omega, HI, Lib.hid (way_skip HE.out HINS.out HKQ.out), Lib.hid (fun h => by cases h)⟩
            case measure => simp [intOf]; omega
    · have hjn : ¬ ((j : Int) < n) := by omega
      have hd1 : ks.drop j = [] := List.drop_eq_nil_iff.2 (by rw [HKN.out]; omega)
      have hd2 : l.drop j = [] := List.drop_eq_nil_iff.2 (by rw [← HN.out]; omega)
      rw [hd1, hd2] at HE
      clear hd1 hd2
      cases dn
      · obtain ⟨hok', hol'⟩ := HB.out rfl
        go_upto_region 14 with (fail)
        go_wp2_with (at_builtin; refine wpList_append_own _ rfl _ _ 25 rfl (w1.heap.size + 1) 9 is0 (.string ⟨#[]⟩) 1 16 Tryz.underlying25 his hzs0 hzs1 hzs2 rfl (by decide) _ _ _ rfl (World.ownsRow.alloc HI.out.keys _) _ 1 1 [.string key] rfl rfl ?k1 ?k2 ?k3 ?k4 ?k5 ?_)
        try case k1 =>
          intro i u hj
          match i, hj with
          | 0, hj => simp at hj; subst hj; simp [Addr.add]
        case k2 => first | rfl | (intro u hu; simp at hu; subst hu; rfl)
        case k3 => unfold maxLen; omega
        case k4 => omega
        case k5 => first | omega | (simp; omega)
        intro v' w5 hown hgrow _
        obtain ⟨AK2, cK2, rfl⟩ := own_form hown
        have hbG := HI.out.bG.grown (grow_trans (World.grownBy_alloc _ _ _) hgrow) (own_ge HI.out.keys (by omega))
        have gG : w1.heap.size < w5.heap.size := BlockIs.lt hbG
        have gc : w5.cell? ⟨w1.heap.size, 4, none⟩ = some _ := BlockIs.cell hbG 4
        have gf : w5.frozen? ⟨w1.heap.size, 4, none⟩ = false := BlockIs.frozen hbG 4
        have HI5 := Lib.hid (HI.out.key HKS.out (grow_trans (World.grownBy_alloc _ _ _) hgrow) hown)
        clear v0 v1 v2 v3 v4 y0 y1 y2 y3 y4 g3 g4 gf3 gf4 gl hzr hbG hown hgrow HI
        go_upto_region 15 with (fail)
        obtain ⟨W5, hW5⟩ : ∃ W5, W5 = w5.setCell ⟨w1.heap.size, 4, none⟩ (.slice AK2 (oks.length + 1) cK2) := ⟨_, rfl⟩
        rw [← hW5] at HI5 ⊢
        clear hW5
        obtain ⟨oks2, ho2⟩ : ∃ oks2, oks2 = oks ++ [key] := ⟨_, rfl⟩
        have hl2 : oks.length + 1 = oks2.length := by rw [ho2]; simp
        rw [← ho2, hl2] at HI5
        try rw [hl2]
        have Hoks2 := Lib.hid ho2
        have boks2 : oks2.length ≤ j + 1 := by omega
        have HI := HI5
        clear gc gf gG ho2 hl2 HI5
        obtain ⟨v0, v1, v2, v3, v4⟩ := five_cells HI.out.b0
        obtain ⟨y0, y1, y2, y3, y4⟩ := five_cells HI.out.b1
        obtain ⟨⟨g3, g4, gf3, gf4⟩, gl⟩ := HI.out.facts
        have hzr := HI.out.old.size
        go_wp2_with (at_builtin; refine wpList_append_own _ rfl _ _ 24 rfl (w1.heap.size + 1) 27 iv0 (.agg zeroF) 5 80 Tryz.underlying24 hiv hzv0 hzv1 hzv2 rfl (by decide) _ _ _ rfl (World.ownsRow.alloc HI.out.items _) _ 1 1 (fieldsL x Ax cx Kx dx) rfl rfl ?c1 ?c2 ?c3 ?c4 ?c5 ?_)
        case c1 =>
          intro i u hj
          match i, hj with
          | 0, hj => simp [fieldsL] at hj; subst hj; simp [Addr.add]
          | 1, hj => simp [fieldsL] at hj; subst hj; simp [Addr.add]
          | 2, hj => simp [fieldsL] at hj; subst hj; simp [Addr.add]
          | 3, hj => simp [fieldsL] at hj; subst hj; simp [Addr.add]
          | 4, hj => simp [fieldsL] at hj; subst hj; simp [Addr.add]
          | i + 5, hj => simp [fieldsL] at hj
        case c2 => intro u hu; simp [fieldsL] at hu; rcases hu with rfl | rfl | rfl | rfl | rfl <;> rfl
        case c3 => unfold maxLen; omega
        case c4 => omega
        case c5 => simp; omega
        intro v' w5 hown hgrow _
        obtain ⟨AI2, cI2, rfl⟩ := own_form hown
        have hbG := HI.out.bG.grown (grow_trans (World.grownBy_alloc _ _ _) hgrow) (own_ge HI.out.items (by omega))
        have gG : w1.heap.size < w5.heap.size := BlockIs.lt hbG
        have gc : w5.cell? ⟨w1.heap.size, 3, none⟩ = some _ := BlockIs.cell hbG 3
        have gf : w5.frozen? ⟨w1.heap.size, 3, none⟩ = false := BlockIs.frozen hbG 3
        have HI5 := Lib.hid (HI.out.item HX.out (grow_trans (World.grownBy_alloc _ _ _) hgrow) hown)
        clear v0 v1 v2 v3 v4 y0 y1 y2 y3 y4 g3 g4 gf3 gf4 gl hzr hbG hown hgrow HI
        go_upto_region 16 with (fail)
        obtain ⟨W6, hW5⟩ : ∃ W5, W5 = w5.setCell ⟨w1.heap.size, 3, none⟩ (.slice AI2 (ol.length + 1) cI2) := ⟨_, rfl⟩
        rw [← hW5] at HI5 ⊢
        clear hW5
        obtain ⟨ol2, ho2⟩ : ∃ ol2, ol2 = ol ++ [x] := ⟨_, rfl⟩
        have hl2 : ol.length + 1 = ol2.length := by rw [ho2]; simp
        rw [← ho2, hl2] at HI5
        try rw [hl2]
        have Hol2 := Lib.hid ho2
        have bol2 : ol2.length ≤ j + 1 := by omega
        have HI := HI5
        clear gc gf gG ho2 hl2 HI5
        obtain ⟨o0, o1, o2, o3, o4⟩ := five_cells HI.out.bG
        obtain ⟨⟨s0, s1, s2, s3, s4⟩, ⟨x0, x1, x2, x3, x4⟩, sl⟩ := HI.out.slot
        obtain ⟨A9, c9, K9, q9, e1, e2, hF⟩ := with_end HI.out (way_last HE.out Hoks2.out Hol2.out)
        try clear g3 g4
        rw [e1] at o3
        rw [e2] at o4
        have HF := Lib.hid hF
        clear HI e1 e2 hF
        go_wp2_with fail
        refine bodyPost_ret (v := cellsOf (V.mk 5 0 ⟨#[]⟩ R.2 R.1) A9 c9 K9 q9) (by simp [results, Tryz.results38, go_sem, cellsOf, V.kind, V.int, V.text, V.items, V.keys, s0, s1, s2, s3, s4]) rfl ⟨A9, c9, K9, q9, rfl, (HF.out _ _ _ _ _).1, (HF.out _ _ _ _ _).2⟩
      · skip
        obtain ⟨o0, o1, o2, o3, o4⟩ := five_cells HI.out.bG
        obtain ⟨⟨s0, s1, s2, s3, s4⟩, ⟨x0, x1, x2, x3, x4⟩, sl⟩ := HI.out.slot
        obtain ⟨A9, c9, K9, q9, e1, e2, hF⟩ := with_end HI.out (way_over HE.out)
        try clear g3 g4
        rw [e1] at o3
        rw [e2] at o4
        have HF := Lib.hid hF
        clear HI e1 e2 hF
        go_wp2_with fail
        refine bodyPost_ret (v := cellsOf (V.mk 5 0 ⟨#[]⟩ R.2 R.1) A9 c9 K9 q9) (by simp [results, Tryz.results38, go_sem, cellsOf, V.kind, V.int, V.text, V.items, V.keys, s0, s1, s2, s3, s4]) rfl ⟨A9, c9, K9, q9, rfl, (HF.out _ _ _ _ _).1, (HF.out _ _ _ _ _).2⟩
end Go.Proofs.YtchadlbhdcpojaaGreatDoor
