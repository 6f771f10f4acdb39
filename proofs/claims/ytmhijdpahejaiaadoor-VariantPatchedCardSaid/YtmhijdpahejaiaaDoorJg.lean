/- Get, as the program and as the specification say it, walked. -/
import Derived.Test.YtmhijdpahejaiaaDoorVg
import Derived.Deep.RegionWith
import Derived.Deep.RegionHeld3
import Derived.Deep.DrawnRows
namespace Go.Proofs.YtmhijdpahejaiaaDoor
open Go.RowKit
theorem sets5 {w1 : World} {g : Nat} {t : TypeId} {a b c d e u0 u1 u2 u3 u4 : Value} (h : BlockIs w1 g t #[a, b, c, d, e]) : BlockIs (((((w1.setCell ⟨g, 0, none⟩ u0).setCell ⟨g, 1, none⟩ u1).setCell ⟨g, 2, none⟩ u2).setCell ⟨g, 3, none⟩ u3).setCell ⟨g, 4, none⟩ u4) g t #[u0, u1, u2, u3, u4] := by
  have := ((((h.set_ 0 u0).set_ 1 u1).set_ 2 u2).set_ 3 u3).set_ 4 u4
  simpa using this
theorem keepD {w0 wx w1 : World} (h : Hid (Below w0.heap.size w0 wx)) (hb : Below wx.heap.size wx w1) : Below w0.heap.size w0 w1 := h.out.trans (hb.mono h.out.size)
theorem keepS {n g : Nat} {w0 wx : World} {u0 u1 u2 u3 u4 : Value} (h : Hid (Below n w0 wx)) (hg : n ≤ g) : Below n w0 (((((wx.setCell ⟨g, 0, none⟩ u0).setCell ⟨g, 1, none⟩ u1).setCell ⟨g, 2, none⟩ u2).setCell ⟨g, 3, none⟩ u3).setCell ⟨g, 4, none⟩ u4) :=
  ((((h.out.setCell hg _).setCell hg _).setCell hg _).setCell hg _).setCell hg _
section
variable {w W : World} {B : Nat} {x y : V} {p : List Stp} {j : Nat} {A K : Option Addr} {c d : Nat} {u0 u1 u2 u3 u4 : Value}
theorem GS.ends (h : GS w B x p j y A c K d W) : Below w.heap.size w (put5 W (w.heap.size + 1) 0 u0 u1 u2 u3 u4) :=
  ((((h.old.setCell (by simp) _).setCell (by simp) _).setCell (by simp) _).setCell (by simp) _).setCell (by simp) _
theorem gs_facts (h : GS w B x p j y A c K d W) : ((W.cell? ⟨w.heap.size, 0, none⟩ = some (.int .i64 y.kind) ∧ W.cell? ⟨w.heap.size, 1, none⟩ = some (.int .i64 y.int) ∧ W.cell? ⟨w.heap.size, 2, none⟩ = some (.string y.text) ∧ W.cell? ⟨w.heap.size, 3, none⟩ = some (.slice A y.items.length c) ∧ W.cell? ⟨w.heap.size, 4, none⟩ = some (.slice K y.keys.length d)) ∧
    (W.cell? ⟨w.heap.size + 1, 0, none⟩ = some (.int .i64 0) ∧ W.cell? ⟨w.heap.size + 1, 1, none⟩ = some (.int .i64 0) ∧ W.cell? ⟨w.heap.size + 1, 2, none⟩ = some (.string ⟨#[]⟩) ∧ W.cell? ⟨w.heap.size + 1, 3, none⟩ = some (.slice none 0 0) ∧ W.cell? ⟨w.heap.size + 1, 4, none⟩ = some (.slice none 0 0))) ∧
    ((W.frozen? ⟨w.heap.size, 0, none⟩ = false ∧ W.frozen? ⟨w.heap.size, 1, none⟩ = false ∧ W.frozen? ⟨w.heap.size, 2, none⟩ = false ∧ W.frozen? ⟨w.heap.size, 3, none⟩ = false ∧ W.frozen? ⟨w.heap.size, 4, none⟩ = false) ∧
    (W.frozen? ⟨w.heap.size + 1, 0, none⟩ = false ∧ W.frozen? ⟨w.heap.size + 1, 1, none⟩ = false ∧ W.frozen? ⟨w.heap.size + 1, 2, none⟩ = false ∧ W.frozen? ⟨w.heap.size + 1, 3, none⟩ = false ∧ W.frozen? ⟨w.heap.size + 1, 4, none⟩ = false)) ∧ w.heap.size < W.heap.size ∧ w.heap.size + 1 < W.heap.size :=
  ⟨⟨five_of h.bv, five_of (show BlockIs W (w.heap.size + 1) 25 #[.int .i64 0, .int .i64 0, .string ⟨#[]⟩, .slice none 0 0, .slice none 0 0] from h.br)⟩, ⟨⟨h.bv.frozen 0, h.bv.frozen 1, h.bv.frozen 2, h.bv.frozen 3, h.bv.frozen 4⟩, h.br.frozen 0, h.br.frozen 1, h.br.frozen 2, h.br.frozen 3, h.br.frozen 4⟩, h.bv.lt, h.br.lt⟩
theorem GS.boxed {wr w1 : World} (h : GS w B x p j y A c K d wr) (hb : Below wr.heap.size wr w1) : GS w B x p j y A c K d (put5 w1 wr.heap.size 0 u0 u1 u2 u3 u4) :=
  h.below (((((hb.setCell (Nat.le_refl _) _).setCell (Nat.le_refl _) _).setCell (Nat.le_refl _) _).setCell (Nat.le_refl _) _).setCell (Nat.le_refl _) _)
theorem GS.there (h : GS w B x p j y A c K d W) : Lies (put5 W (w.heap.size + 1) 0 u0 u1 u2 u3 u4) B y A c K d :=
  Lies.keep (fun b o hb => World.cell?_of_block (put5_heap W (w.heap.size + 1) 0 _ _ _ _ _ (show b ≠ w.heap.size + 1 by have := h.le; omega))) (Nat.le_refl _) _ h.lies
end
attribute [local go_sem ↓] Go.wp_at_zero Go.wp_at_succ
set_option maxRecDepth 100000 in
set_option maxHeartbeats 6000000 in
theorem refAt_any (B : Nat) (x : V) (p : List Stp) (w : World) (A K : Option Addr) (c d : Nat) (Ap : Option Addr) (cp : Nat) (hB : B ≤ w.heap.size) (h : Lies w B x A c K d) (hok : x.ok = true) (h60 : x.nodes ≤ 60) (hp : PLies w w.heap.size Ap cp p) :
    Calls Tryd.prog 34 #[.agg #[.int .i64 x.kind, .int .i64 x.int, .string x.text, .slice A x.items.length c, .slice K x.keys.length d], .slice Ap p.length cp] w (ItemPost B (atV x p) w) := by
  have HP := Lib.hid fun W (hW : Below w.heap.size w W) => hp.on hW
  have HG0 := Lib.hid (GS.start hB h hok h60 p)
  obtain ⟨R, hR⟩ : ∃ R, R = atV x p := ⟨_, rfl⟩
  rw [← hR]
  have HR := Lib.hid hR
  obtain ⟨n, hn⟩ : ∃ n, n = p.length := ⟨_, rfl⟩
  have HN := Lib.hid hn
  have hnl : n ≤ maxLen := by have := hp.1; have := hp.2.1; omega
  unfold maxLen at hnl
  rw [← hn]
  clear h hok h60 hp hR hn
  go_enter Tryd.func34, Tryd.ntmps34
  go_wp2_with fail
  go_loopw [6] (fun iv wr => ∃ j : Nat, iv = .int .i64 j ∧ j ≤ n ∧ Hid (∃ y A c K d, GS w B x p j y A c K d wr)) (fun iv _ => n - (intOf iv).toNat)
  case atStart => exact ⟨0, rfl, Nat.zero_le _, Lib.hid ⟨_, _, _, _, _, HG0.out⟩⟩
  case round =>
    obtain ⟨j, rfl, hj, hI⟩ := hrel
    obtain ⟨y, A, c, K, d, hG⟩ := hI.out
    have HG := Lib.hid hG
    clear hI hG HG0
    obtain ⟨b0, b1, b2, b3, b4⟩ := five_of HG.out.bv
    obtain ⟨z0, z1, z2, z3, z4⟩ := five_of (show BlockIs wr (w.heap.size + 1) 25 #[.int .i64 0, .int .i64 0, .string ⟨#[]⟩, .slice none 0 0, .slice none 0 0] from HG.out.br)
    have x0 := HG.out.br.frozen 0
    have v0 := HG.out.bv.frozen 0
    have x1 := HG.out.br.frozen 1
    have v1 := HG.out.bv.frozen 1
    have x2 := HG.out.br.frozen 2
    have v2 := HG.out.bv.frozen 2
    have x3 := HG.out.br.frozen 3
    have v3 := HG.out.bv.frozen 3
    have x4 := HG.out.br.frozen 4
    have v4 := HG.out.bv.frozen 4
    have bl := HG.out.bv.lt
    have zl := HG.out.br.lt
    by_cases hlt : j < n
    · obtain ⟨s, hs⟩ : ∃ s, p[j]? = some s := ⟨_, List.getElem?_eq_getElem (by rw [← HN.out]; exact hlt)⟩
      obtain ⟨b, o, rfl, hbB, e0, e1, hsz⟩ := (HP.out _ HG.out.old).at_ hs
      have HSJ := Lib.hid hs
      have hjn : (j : Int) < n := by omega
      have hj0 : 0 ≤ (j : Int) := by omega
      have HC := Lib.hid fun W (hW : Below wr.heap.size wr W) => item_any B y s W A K c d (by have := HG.out.old.size; have := hW.size; have := HG.out.le; omega) (Lies.keep (fun b o hb => bcell hW b o (by have := HG.out.old.size; have := HG.out.le; omega)) (Nat.le_refl _) _ HG.out.lies) HG.out.ok.1
      obtain ⟨i, t⟩ := s
      unfold stepV aggOf at HC
      simp only at e0 e1 hsz HC
      have HKEY := Lib.hid (show ∀ Wn, Below wr.heap.size wr Wn → Hid (Below wr.heap.size wr Wn) ∧ (Wn.cell? ⟨w.heap.size, 0, none⟩ = some (.int .i64 y.kind) ∧ Wn.cell? ⟨w.heap.size, 1, none⟩ = some (.int .i64 y.int) ∧ Wn.cell? ⟨w.heap.size, 2, none⟩ = some (.string y.text) ∧ Wn.cell? ⟨w.heap.size, 3, none⟩ = some (.slice A y.items.length c) ∧ Wn.cell? ⟨w.heap.size, 4, none⟩ = some (.slice K y.keys.length d)) ∧ (Wn.cell? ⟨b, o + j * 2, none⟩ = some (.int .i64 i) ∧ Wn.cell? ⟨b, o + j * 2 + 1, none⟩ = some (.string t)) from
        fun Wn hB => ⟨Lib.hid hB, ⟨(bcell hB _ _ bl).trans b0, (bcell hB _ _ bl).trans b1, (bcell hB _ _ bl).trans b2, (bcell hB _ _ bl).trans b3, (bcell hB _ _ bl).trans b4⟩, (bcell hB _ _ hbB).trans e0, (bcell hB _ _ hbB).trans e1⟩)
      clear hs
      rcases hq : itemV y (i, t) with _ | z
      · rw [hq] at HC
        have HNO := Lib.hid (show R = none from HR.out.trans (HG.out.none HSJ.out hq))
        clear hq
        go_wp2_with fail
        go_region_held3 (fun Wn => Hid (Below wr.heap.size wr Wn) ∧ (Wn.cell? ⟨w.heap.size, 0, none⟩ = some (.int .i64 y.kind) ∧ Wn.cell? ⟨w.heap.size, 1, none⟩ = some (.int .i64 y.int) ∧ Wn.cell? ⟨w.heap.size, 2, none⟩ = some (.string y.text) ∧ Wn.cell? ⟨w.heap.size, 3, none⟩ = some (.slice A y.items.length c) ∧ Wn.cell? ⟨w.heap.size, 4, none⟩ = some (.slice K y.keys.length d)) ∧ (Wn.cell? ⟨b, o + j * 2, none⟩ = some (.int .i64 i) ∧ Wn.cell? ⟨b, o + j * 2 + 1, none⟩ = some (.string t)))
          (first
            | with_reducible exact HKEY.out _ (Below.refl _ wr).drew
            | with_reducible exact HKEY.out _ (below_on (Below.refl _ wr).drew h1)
            | with_reducible exact HKEY.out _ (below_al (below_on (Below.refl _ wr).drew h1) _)
            | with_reducible exact HKEY.out _ (below_al (Below.refl _ wr) _).drew
            | with_reducible exact HKEY.out _ (below_on (below_al (Below.refl _ wr) _).drew h1)
            | with_reducible exact HKEY.out _ (keepS (Lib.hid (below_on (below_al (Below.refl _ wr) _).drew h1)) (Nat.le_refl _))
            | (trace_state; fail))
          (first | (go_at_call 59; refine (HC.out _ ?_).mono ?_; (go_split_ands; exact Hid.out (by assumption)); rintro e w1 ⟨h1, he⟩; replace he : e = .returned (.tuple #[.agg #[.int .i64 0, .int .i64 0, .string ⟨#[]⟩, .slice none 0 0, .slice none 0 0], .bool false]) := he; subst he; try (have hq7 : BlockIs w1 wr.heap.size 25 #[.int .i64 0, .int .i64 0, .string ⟨#[]⟩, .slice none 0 0, .slice none 0 0] := BlockIs.below (w := (wr.alloc (.cells zeroF 25)).drew) (BlockIs.new wr 25 zeroF) h1 (by simp); obtain ⟨r0, r1, r2, r3, r4⟩ := five_of hq7; have t0 := hq7.frozen 0; have t1 := hq7.frozen 1; have t2 := hq7.frozen 2; have t3 := hq7.frozen 3; have t4 := hq7.frozen 4; have tl := hq7.lt)))
        all_goals
          first
            | (obtain ⟨Wf, hWf⟩ : ∃ Wf, Wf = (w1.alloc (.cells #[.int .i64 0, .int .i64 0, .string ⟨#[]⟩, .slice none 0 0, .slice none 0 0] 25)) := ⟨_, rfl⟩; rw [← hWf]; have hbw : Below wr.heap.size wr (w1.alloc (.cells #[.int .i64 0, .int .i64 0, .string ⟨#[]⟩, .slice none 0 0, .slice none 0 0] 25)) := below_al (below_on (Below.refl _ wr).drew h1) _; have hbx : BlockIs (w1.alloc (.cells #[.int .i64 0, .int .i64 0, .string ⟨#[]⟩, .slice none 0 0, .slice none 0 0] 25)) w1.heap.size 25 #[.int .i64 0, .int .i64 0, .string ⟨#[]⟩, .slice none 0 0, .slice none 0 0] := BlockIs.new _ _ _; rw [← hWf] at hbw hbx; clear hWf)
            | (obtain ⟨Wf, hWf⟩ : ∃ Wf, Wf = (((((w1.setCell ⟨wr.heap.size, 0, none⟩ (.int .i64 0)).setCell ⟨wr.heap.size, 1, none⟩ (.int .i64 0)).setCell ⟨wr.heap.size, 2, none⟩ (.string ⟨#[]⟩)).setCell ⟨wr.heap.size, 3, none⟩ (.slice none 0 0)).setCell ⟨wr.heap.size, 4, none⟩ (.slice none 0 0)) := ⟨_, rfl⟩; rw [← hWf]; have hbw : Below wr.heap.size wr (((((w1.setCell ⟨wr.heap.size, 0, none⟩ (.int .i64 0)).setCell ⟨wr.heap.size, 1, none⟩ (.int .i64 0)).setCell ⟨wr.heap.size, 2, none⟩ (.string ⟨#[]⟩)).setCell ⟨wr.heap.size, 3, none⟩ (.slice none 0 0)).setCell ⟨wr.heap.size, 4, none⟩ (.slice none 0 0)) := keepS (Lib.hid (below_on (below_al (Below.refl _ wr) _).drew h1)) (Nat.le_refl _); have hbx : BlockIs (((((w1.setCell ⟨wr.heap.size, 0, none⟩ (.int .i64 0)).setCell ⟨wr.heap.size, 1, none⟩ (.int .i64 0)).setCell ⟨wr.heap.size, 2, none⟩ (.string ⟨#[]⟩)).setCell ⟨wr.heap.size, 3, none⟩ (.slice none 0 0)).setCell ⟨wr.heap.size, 4, none⟩ (.slice none 0 0)) wr.heap.size 25 #[.int .i64 0, .int .i64 0, .string ⟨#[]⟩, .slice none 0 0, .slice none 0 0] := sets5 hq7; rw [← hWf] at hbw hbx; clear hWf)
          have HG1 := Lib.hid (HG.out.below hbw)
          obtain ⟨q0, q1, q2, q3, q4⟩ := five_of hbx
          have ql := hbx.lt
          clear b0 b1 b2 b3 b4 z0 z1 z2 z3 z4 x0 x1 x2 x3 x4 v0 v1 v2 v3 v4 bl zl h1 e0 e1 hbw hbx HKEY
          try clear hq7 r0 r1 r2 r3 r4 t0 t1 t2 t3 t4 tl
          obtain ⟨⟨⟨b0, b1, b2, b3, b4⟩, z0, z1, z2, z3, z4⟩, ⟨⟨v0, v1, v2, v3, v4⟩, x0, x1, x2, x3, x4⟩, bl, zl⟩ := gs_facts HG1.out
          go_wp2_with fail
          refine bodyPost_ret (v := .tuple #[aggOf (leaf 0 0 ⟨#[]⟩) none 0 none 0, .bool false]) (by simp [results, Tryd.results34, go_sem, aggOf, leaf, V.kind, V.int, V.text, V.items, V.keys, z0, z1, z2, z3, z4]) rfl ?_
          rw [HNO.out]
          exact ⟨HG1.out.ends, rfl⟩
      · rw [hq] at HC
        have HQ := Lib.hid hq
        clear hq
        go_wp2_with fail
        go_region_held3 (fun Wn => Hid (Below wr.heap.size wr Wn) ∧ (Wn.cell? ⟨w.heap.size, 0, none⟩ = some (.int .i64 y.kind) ∧ Wn.cell? ⟨w.heap.size, 1, none⟩ = some (.int .i64 y.int) ∧ Wn.cell? ⟨w.heap.size, 2, none⟩ = some (.string y.text) ∧ Wn.cell? ⟨w.heap.size, 3, none⟩ = some (.slice A y.items.length c) ∧ Wn.cell? ⟨w.heap.size, 4, none⟩ = some (.slice K y.keys.length d)) ∧ (Wn.cell? ⟨b, o + j * 2, none⟩ = some (.int .i64 i) ∧ Wn.cell? ⟨b, o + j * 2 + 1, none⟩ = some (.string t)))
          (first
            | with_reducible exact HKEY.out _ (Below.refl _ wr).drew
            | with_reducible exact HKEY.out _ (below_on (Below.refl _ wr).drew h1)
            | with_reducible exact HKEY.out _ (below_al (below_on (Below.refl _ wr).drew h1) _)
            | with_reducible exact HKEY.out _ (below_al (Below.refl _ wr) _).drew
            | with_reducible exact HKEY.out _ (below_on (below_al (Below.refl _ wr) _).drew h1)
            | with_reducible exact HKEY.out _ (keepS (Lib.hid (below_on (below_al (Below.refl _ wr) _).drew h1)) (Nat.le_refl _))
            | (trace_state; fail))
          (first | (go_at_call 59; refine (HC.out _ ?_).mono ?_; (go_split_ands; exact Hid.out (by assumption)); rintro e w1 ⟨h1, A1, c1, K1, d1, rfl, hz⟩; unfold aggOf; try (have hq7 : BlockIs w1 wr.heap.size 25 #[.int .i64 0, .int .i64 0, .string ⟨#[]⟩, .slice none 0 0, .slice none 0 0] := BlockIs.below (w := (wr.alloc (.cells zeroF 25)).drew) (BlockIs.new wr 25 zeroF) h1 (by simp); obtain ⟨r0, r1, r2, r3, r4⟩ := five_of hq7; have t0 := hq7.frozen 0; have t1 := hq7.frozen 1; have t2 := hq7.frozen 2; have t3 := hq7.frozen 3; have t4 := hq7.frozen 4; have tl := hq7.lt)))
        all_goals
          first
            | (obtain ⟨Wf, hWf⟩ : ∃ Wf, Wf = (w1.alloc (.cells #[.int .i64 z.kind, .int .i64 z.int, .string z.text, .slice A1 z.items.length c1, .slice K1 z.keys.length d1] 25)) := ⟨_, rfl⟩; rw [← hWf]; have hbw : Below wr.heap.size wr (w1.alloc (.cells #[.int .i64 z.kind, .int .i64 z.int, .string z.text, .slice A1 z.items.length c1, .slice K1 z.keys.length d1] 25)) := below_al (below_on (Below.refl _ wr).drew h1) _; have hbx : BlockIs (w1.alloc (.cells #[.int .i64 z.kind, .int .i64 z.int, .string z.text, .slice A1 z.items.length c1, .slice K1 z.keys.length d1] 25)) w1.heap.size 25 #[.int .i64 z.kind, .int .i64 z.int, .string z.text, .slice A1 z.items.length c1, .slice K1 z.keys.length d1] := BlockIs.new _ _ _; have hz2 : Lies (w1.alloc (.cells #[.int .i64 z.kind, .int .i64 z.int, .string z.text, .slice A1 z.items.length c1, .slice K1 z.keys.length d1] 25)) B z A1 c1 K1 d1 := Lies.keep (fun b o hb => World.cell?_alloc_lt _ _ _ (by have := HG.out.old.size; have := HG.out.le; have := h1.size; simp at this ⊢; omega)) (Nat.le_refl _) _ hz; rw [← hWf] at hbw hbx hz2; clear hWf)
            | (obtain ⟨Wf, hWf⟩ : ∃ Wf, Wf = (((((w1.setCell ⟨wr.heap.size, 0, none⟩ (.int .i64 z.kind)).setCell ⟨wr.heap.size, 1, none⟩ (.int .i64 z.int)).setCell ⟨wr.heap.size, 2, none⟩ (.string z.text)).setCell ⟨wr.heap.size, 3, none⟩ (.slice A1 z.items.length c1)).setCell ⟨wr.heap.size, 4, none⟩ (.slice K1 z.keys.length d1)) := ⟨_, rfl⟩; rw [← hWf]; have hbw : Below wr.heap.size wr (((((w1.setCell ⟨wr.heap.size, 0, none⟩ (.int .i64 z.kind)).setCell ⟨wr.heap.size, 1, none⟩ (.int .i64 z.int)).setCell ⟨wr.heap.size, 2, none⟩ (.string z.text)).setCell ⟨wr.heap.size, 3, none⟩ (.slice A1 z.items.length c1)).setCell ⟨wr.heap.size, 4, none⟩ (.slice K1 z.keys.length d1)) := keepS (Lib.hid (below_on (below_al (Below.refl _ wr) _).drew h1)) (Nat.le_refl _); have hbx : BlockIs (((((w1.setCell ⟨wr.heap.size, 0, none⟩ (.int .i64 z.kind)).setCell ⟨wr.heap.size, 1, none⟩ (.int .i64 z.int)).setCell ⟨wr.heap.size, 2, none⟩ (.string z.text)).setCell ⟨wr.heap.size, 3, none⟩ (.slice A1 z.items.length c1)).setCell ⟨wr.heap.size, 4, none⟩ (.slice K1 z.keys.length d1)) wr.heap.size 25 #[.int .i64 z.kind, .int .i64 z.int, .string z.text, .slice A1 z.items.length c1, .slice K1 z.keys.length d1] := sets5 hq7; have hz2 : Lies (((((w1.setCell ⟨wr.heap.size, 0, none⟩ (.int .i64 z.kind)).setCell ⟨wr.heap.size, 1, none⟩ (.int .i64 z.int)).setCell ⟨wr.heap.size, 2, none⟩ (.string z.text)).setCell ⟨wr.heap.size, 3, none⟩ (.slice A1 z.items.length c1)).setCell ⟨wr.heap.size, 4, none⟩ (.slice K1 z.keys.length d1)) B z A1 c1 K1 d1 := Lies.keep (fun b o hb => World.cell?_of_block (put5_heap w1 wr.heap.size 0 _ _ _ _ _ (by have := HG.out.old.size; have := HG.out.le; show b ≠ wr.heap.size; omega))) (Nat.le_refl _) _ hz; rw [← hWf] at hbw hbx hz2; clear hWf)
          have HG1 := Lib.hid (HG.out.below hbw)
          obtain ⟨q0, q1, q2, q3, q4⟩ := five_of hbx
          have ql := hbx.lt
          have HZ := Lib.hid hz2
          clear b0 b1 b2 b3 b4 z0 z1 z2 z3 z4 x0 x1 x2 x3 x4 v0 v1 v2 v3 v4 bl zl h1 e0 e1 hbw hbx HKEY hz hz2
          try clear hq7 r0 r1 r2 r3 r4 t0 t1 t2 t3 t4 tl
          obtain ⟨⟨⟨b0, b1, b2, b3, b4⟩, z0, z1, z2, z3, z4⟩, ⟨⟨v0, v1, v2, v3, v4⟩, x0, x1, x2, x3, x4⟩, bl, zl⟩ := gs_facts HG1.out
          go_wp2_with fail
          go_roundw
          case rel => exact ⟨j + 1, by go_num, by omega, Lib.hid ⟨_, _, _, _, _, HG1.out.next HSJ.out HQ.out HZ.out⟩⟩
          case measure => simp [intOf]; omega
    · have hjn : ¬ ((j : Int) < n) := by omega
      have HS := Lib.hid (show R = some y from HR.out.trans (HG.out.over HN.out hlt))
      go_wp2_with fail
      refine bodyPost_ret (v := .tuple #[aggOf y A c K d, .bool true]) (by simp [results, Tryd.results34, go_sem, aggOf, V.kind, V.int, V.text, V.items, V.keys, z0, z1, z2, z3, z4]) rfl ?_
      rw [HS.out]
      exact ⟨HG.out.ends, _, _, _, _, rfl, HG.out.there⟩
open Go.RowKit
/-- The two boxes of a look along a path. -/
structure GB (w : World) (x : V) (A : Option Addr) (c : Nat) (K : Option Addr) (d : Nat) (W : World) : Prop where
  old : Below w.heap.size w W
  bv : BlockIs W w.heap.size 25 #[.int .i64 x.kind, .int .i64 x.int, .string x.text, .slice A x.items.length c, .slice K x.keys.length d]
  br : BlockIs W (w.heap.size + 1) 25 zeroF
section
variable {w W W' : World} {x : V} {A K : Option Addr} {c d : Nat} {u0 u1 u2 u3 u4 : Value}
theorem GB.start (w : World) (x : V) (A : Option Addr) (c : Nat) (K : Option Addr) (d : Nat) : GB w x A c K d ((w.alloc (.cells #[.int .i64 x.kind, .int .i64 x.int, .string x.text, .slice A x.items.length c, .slice K x.keys.length d] 25)).alloc (.cells zeroF 25)) :=
  ⟨below_al (below_al (Below.refl _ w) _) _, (BlockIs.new w _ _).alloc _, BlockIs.newAt _ _ _ (by simp)⟩
theorem GB.below (h : GB w x A c K d W) (hb : Below W.heap.size W W') : GB w x A c K d W' := ⟨below_on h.old hb, h.bv.below hb h.bv.lt, h.br.below hb h.br.lt⟩
theorem GB.ends (h : GB w x A c K d W) : Below w.heap.size w (put5 W (w.heap.size + 1) 0 u0 u1 u2 u3 u4) :=
  ((((h.old.setCell (by simp) _).setCell (by simp) _).setCell (by simp) _).setCell (by simp) _).setCell (by simp) _
end
theorem zero_post {x : V} {p : List Stp} {w w' : World} {n : Int} (h : getV x p = (leaf 0 0 ⟨#[]⟩, false, n)) (hb : Below w.heap.size w w') : GetPost x p w (.returned (.tuple #[aggOf (leaf 0 0 ⟨#[]⟩) none 0 none 0, .bool false, .int .i64 n])) w' := by
  unfold GetPost
  rw [h]
  exact ⟨none, 0, none, 0, rfl, leaf_lies _ _ 0 0 (by decide), hb⟩
theorem some_post {x y : V} {p : List Stp} {w w' : World} {A K : Option Addr} {c d : Nat} (h : getV x p = (y, true, 0)) (hl : Lies w' w'.heap.size y A c K d) (hb : Below w.heap.size w w') : GetPost x p w (.returned (.tuple #[aggOf y A c K d, .bool true, .int .i64 0])) w' := by
  unfold GetPost
  rw [h]
  exact ⟨A, c, K, d, rfl, hl, hb⟩
theorem liesPut {W : World} {B g : Nat} {y : V} {A K : Option Addr} {c d : Nat} {u0 u1 u2 u3 u4 : Value} (h : Lies W B y A c K d) (hg : B ≤ g) (hs : B ≤ W.heap.size) : Lies (put5 W g 0 u0 u1 u2 u3 u4) (put5 W g 0 u0 u1 u2 u3 u4).heap.size y A c K d := by
  have hsz := put5_size W g 0 u0 u1 u2 u3 u4
  exact Lies.keep (fun b o hb => World.cell?_of_block (put5_heap W g 0 u0 u1 u2 u3 u4 (show b ≠ g by omega))) (by rw [hsz]; exact hs) _ h
theorem liesPutNew {W0 W : World} {g : Nat} {y : V} {A K : Option Addr} {c d : Nat} {u0 u1 u2 u3 u4 : Value} (h : LiesIn (Fresh W0 W) W y A c K d) (hg : g < W0.heap.size) : Lies (put5 W g 0 u0 u1 u2 u3 u4) (put5 W g 0 u0 u1 u2 u3 u4).heap.size y A c K d := by
  have hsz := put5_size W g 0 u0 u1 u2 u3 u4
  refine LiesIn.lies (P := Fresh W0 W) (fun b hb => by rw [hsz]; exact hb.2) _ (LiesIn.keep (fun b o hb => World.cell?_of_block (put5_heap W g 0 u0 u1 u2 u3 u4 (show b ≠ g by have := hb.1; omega))) (fun b hb => hb) _ h)
theorem valid_yes (x : V) (w : World) (A K : Option Addr) (c d : Nat) (h : Lies w w.heap.size x A c K d) {r : Bool} (hx : x.valid = r) :
    Calls Tryd.prog 30 #[.agg #[.int .i64 x.kind, .int .i64 x.int, .string x.text, .slice A x.items.length c, .slice K x.keys.length d]] w fun e w' => e = .returned (.bool r) ∧ Below w.heap.size w w' := by
  subst hx; exact valid_any x w A K c d h
theorem valid_nodes {x : V} (h : x.valid = true) : x.ok = true ∧ x.nodes ≤ 60 := by
  unfold V.valid V.fits at h
  simp only [Bool.and_eq_true, decide_eq_true_eq] at h
  exact ⟨h.1.1, h.1.2⟩
set_option maxRecDepth 100000 in
set_option maxHeartbeats 16000000 in
theorem refGet_any (x : V) (p : List Stp) (w : World) (A K : Option Addr) (c d : Nat) (Ap : Option Addr) (cp : Nat) (h : Lies w w.heap.size x A c K d) (hp : PLies w w.heap.size Ap cp p) :
    Calls Tryd.prog 11 #[.agg #[.int .i64 x.kind, .int .i64 x.int, .string x.text, .slice A x.items.length c, .slice K x.keys.length d], .slice Ap p.length cp] w (GetPost x p w) := by
  have HB0 := Lib.hid (GB.start w x A c K d)
  have HX := Lib.hid fun W (hW : Below w.heap.size w W) => lies_on h hW
  have HXB := Lib.hid fun W (hW : Below w.heap.size w W) => show Lies W w.heap.size x A c K d from Lies.keep (bcell hW) (Nat.le_refl _) _ h
  have HP := Lib.hid fun W (hW : Below w.heap.size w W) => hp.on hW
  have HGV := Lib.hid (rfl : getV x p = getV x p)
  obtain ⟨vb, hv⟩ : ∃ vb, x.valid = vb := ⟨_, rfl⟩
  obtain ⟨pb, hpb⟩ : ∃ pb, pathB p = pb := ⟨_, rfl⟩
  have HV := Lib.hid hv
  have HPB := Lib.hid hpb
  obtain ⟨n, hn⟩ : ∃ n, n = p.length := ⟨_, rfl⟩
  have HN := Lib.hid hn
  have hnl : n ≤ maxLen := by have := hp.1; have := hp.2.1; omega
  unfold maxLen at hnl
  rw [← hn]
  clear h hp hv hpb HGV hn
  cases vb
  · have HG := Lib.hid (show getV x p = (leaf 0 0 ⟨#[]⟩, false, 1) by simp [getV, HV.out])
    go_enter Tryd.func11, Tryd.ntmps11
    go_wp2_with fail
    refine (valid_is x _ A K c d (HX.out _ HB0.out.old) HV.out).mono ?_
    rintro e w1 ⟨rfl, h1⟩
    have HB1 := Lib.hid (HB0.out.below h1)
    clear h1
    obtain ⟨b0, b1, b2, b3, b4⟩ := five_of HB1.out.bv
    obtain ⟨z0, z1, z2, z3, z4⟩ := five_of (show BlockIs w1 (w.heap.size + 1) 25 #[.int .i64 0, .int .i64 0, .string ⟨#[]⟩, .slice none 0 0, .slice none 0 0] from HB1.out.br)
    have x0 := HB1.out.br.frozen 0
    have v0 := HB1.out.bv.frozen 0
    have x1 := HB1.out.br.frozen 1
    have v1 := HB1.out.bv.frozen 1
    have x2 := HB1.out.br.frozen 2
    have v2 := HB1.out.bv.frozen 2
    have x3 := HB1.out.br.frozen 3
    have v3 := HB1.out.bv.frozen 3
    have x4 := HB1.out.br.frozen 4
    have v4 := HB1.out.bv.frozen 4
    have bl := HB1.out.bv.lt
    have zl := HB1.out.br.lt
    go_wp2_with fail
    refine bodyPost_ret (v := .tuple #[aggOf (leaf 0 0 ⟨#[]⟩) none 0 none 0, .bool false, .int .i64 1]) (by simp [results, Tryd.results11, go_sem, aggOf, leaf, V.kind, V.int, V.text, V.items, V.keys, z0, z1, z2, z3, z4]) rfl ?_
    exact zero_post HG.out HB1.out.ends
  · cases pb
    · have HG := Lib.hid (show getV x p = (leaf 0 0 ⟨#[]⟩, false, 1) by simp [getV, HV.out, HPB.out])
      go_enter Tryd.func11, Tryd.ntmps11
      go_wp2_with fail
      refine (valid_is x _ A K c d (HX.out _ HB0.out.old) HV.out).mono ?_
      rintro e w1 ⟨rfl, h1⟩
      have HB1 := Lib.hid (HB0.out.below h1)
      clear h1
      go_wp2_with fail
      refine (show Calls Tryd.prog 24 #[.slice Ap n cp] w1 fun e w' => e = .returned (.bool false) ∧ Below w1.heap.size w1 w' from by
        have := refPathValid_any p w1 Ap cp (HP.out _ HB1.out.old)
        rw [HPB.out, ← HN.out] at this
        exact this.mono (by rintro e w' ⟨rfl, rfl⟩; exact ⟨rfl, Below.refl _ _⟩)).mono ?_
      rintro e w2 ⟨rfl, h2⟩
      have HB2 := Lib.hid (HB1.out.below h2)
      clear h2
      obtain ⟨b0, b1, b2, b3, b4⟩ := five_of HB2.out.bv
      obtain ⟨z0, z1, z2, z3, z4⟩ := five_of (show BlockIs w2 (w.heap.size + 1) 25 #[.int .i64 0, .int .i64 0, .string ⟨#[]⟩, .slice none 0 0, .slice none 0 0] from HB2.out.br)
      have x0 := HB2.out.br.frozen 0
      have v0 := HB2.out.bv.frozen 0
      have x1 := HB2.out.br.frozen 1
      have v1 := HB2.out.bv.frozen 1
      have x2 := HB2.out.br.frozen 2
      have v2 := HB2.out.bv.frozen 2
      have x3 := HB2.out.br.frozen 3
      have v3 := HB2.out.bv.frozen 3
      have x4 := HB2.out.br.frozen 4
      have v4 := HB2.out.bv.frozen 4
      have bl := HB2.out.bv.lt
      have zl := HB2.out.br.lt
      go_wp2_with fail
      refine bodyPost_ret (v := .tuple #[aggOf (leaf 0 0 ⟨#[]⟩) none 0 none 0, .bool false, .int .i64 1]) (by simp [results, Tryd.results11, go_sem, aggOf, leaf, V.kind, V.int, V.text, V.items, V.keys, z0, z1, z2, z3, z4]) rfl ?_
      exact zero_post HG.out HB2.out.ends
    · go_enter Tryd.func11, Tryd.ntmps11
      go_wp2_with fail
      refine (valid_is x _ A K c d (HX.out _ HB0.out.old) HV.out).mono ?_
      rintro e w1 ⟨rfl, h1⟩
      have HB1 := Lib.hid (HB0.out.below h1)
      clear h1
      go_wp2_with fail
      refine (show Calls Tryd.prog 24 #[.slice Ap n cp] w1 fun e w' => e = .returned (.bool true) ∧ Below w1.heap.size w1 w' from by
        have := refPathValid_any p w1 Ap cp (HP.out _ HB1.out.old)
        rw [HPB.out, ← HN.out] at this
        exact this.mono (by rintro e w' ⟨rfl, rfl⟩; exact ⟨rfl, Below.refl _ _⟩)).mono ?_
      rintro e w2 ⟨rfl, h2⟩
      have HB2 := Lib.hid (HB1.out.below h2)
      clear h2
      obtain ⟨b0, b1, b2, b3, b4⟩ := five_of HB2.out.bv
      obtain ⟨z0, z1, z2, z3, z4⟩ := five_of (show BlockIs w2 (w.heap.size + 1) 25 #[.int .i64 0, .int .i64 0, .string ⟨#[]⟩, .slice none 0 0, .slice none 0 0] from HB2.out.br)
      have x0 := HB2.out.br.frozen 0
      have v0 := HB2.out.bv.frozen 0
      have x1 := HB2.out.br.frozen 1
      have v1 := HB2.out.bv.frozen 1
      have x2 := HB2.out.br.frozen 2
      have v2 := HB2.out.bv.frozen 2
      have x3 := HB2.out.br.frozen 3
      have v3 := HB2.out.bv.frozen 3
      have x4 := HB2.out.br.frozen 4
      have v4 := HB2.out.bv.frozen 4
      have bl := HB2.out.bv.lt
      have zl := HB2.out.br.lt
      obtain ⟨hok, h60⟩ := valid_nodes HV.out
      have HC := Lib.hid (show Calls Tryd.prog 34 #[.agg #[.int .i64 x.kind, .int .i64 x.int, .string x.text, .slice A x.items.length c, .slice K x.keys.length d], .slice Ap n cp] w2 (ItemPost w.heap.size (atV x p) w2) by
        have := refAt_any w.heap.size x p w2 A K c d Ap cp HB2.out.old.size (HXB.out _ HB2.out.old) hok h60 (HP.out _ HB2.out.old)
        rwa [← HN.out] at this)
      clear hok h60
      rcases hq : atV x p with _ | y
      · rw [hq] at HC
        have HG := Lib.hid (show getV x p = (leaf 0 0 ⟨#[]⟩, false, 0) by simp [getV, HV.out, HPB.out, hq])
        clear hq
        go_wp2_with fail
        refine (HC.out).mono ?_
        rintro e w3 ⟨h3, he⟩
        replace he : e = .returned (.tuple #[.agg #[.int .i64 0, .int .i64 0, .string ⟨#[]⟩, .slice none 0 0, .slice none 0 0], .bool false]) := he
        subst he
        have HB3 := Lib.hid (HB2.out.below (below_al h3 (.cells #[.int .i64 0, .int .i64 0, .string ⟨#[]⟩, .slice none 0 0, .slice none 0 0] 25)))
        have HB4 := Lib.hid (HB2.out.below h3)
        clear z0 z1 z2 z3 z4 x0 x1 x2 x3 x4 b0 b1 b2 b3 b4 v0 v1 v2 v3 v4 zl bl h3
        go_upto_region 4 with (fail)
        obtain ⟨W4, hW4⟩ : ∃ W4, W4 = w3.alloc (.cells #[.int .i64 0, .int .i64 0, .string ⟨#[]⟩, .slice none 0 0, .slice none 0 0] 25) := ⟨_, rfl⟩
        rw [← hW4] at HB3 ⊢
        obtain ⟨q0, q1, q2, q3, q4⟩ := five_of (show BlockIs W4 w3.heap.size 25 #[.int .i64 0, .int .i64 0, .string ⟨#[]⟩, .slice none 0 0, .slice none 0 0] by rw [hW4]; exact BlockIs.new _ _ _)
        have ql : w3.heap.size < W4.heap.size := by rw [hW4]; simp
        clear hW4
        obtain ⟨b0, b1, b2, b3, b4⟩ := five_of HB3.out.bv
        obtain ⟨z0, z1, z2, z3, z4⟩ := five_of (show BlockIs W4 (w.heap.size + 1) 25 #[.int .i64 0, .int .i64 0, .string ⟨#[]⟩, .slice none 0 0, .slice none 0 0] from HB3.out.br)
        have x0 := HB3.out.br.frozen 0
        have v0 := HB3.out.bv.frozen 0
        have x1 := HB3.out.br.frozen 1
        have v1 := HB3.out.bv.frozen 1
        have x2 := HB3.out.br.frozen 2
        have v2 := HB3.out.bv.frozen 2
        have x3 := HB3.out.br.frozen 3
        have v3 := HB3.out.bv.frozen 3
        have x4 := HB3.out.br.frozen 4
        have v4 := HB3.out.bv.frozen 4
        have bl := HB3.out.bv.lt
        have zl := HB3.out.br.lt
        go_wp2_with fail
        refine bodyPost_ret (v := .tuple #[aggOf (leaf 0 0 ⟨#[]⟩) none 0 none 0, .bool false, .int .i64 0]) (by simp [results, Tryd.results11, go_sem, aggOf, leaf, V.kind, V.int, V.text, V.items, V.keys, z0, z1, z2, z3, z4]) rfl ?_
        exact zero_post HG.out HB3.out.ends
      · rw [hq] at HC
        have HG := Lib.hid (show getV x p = (y, true, 0) by simp [getV, HV.out, HPB.out, hq])
        clear hq
        go_wp2_with fail
        refine (HC.out).mono ?_
        rintro e w3 ⟨h3, A1, c1, K1, d1, rfl, hl⟩
        have HB3 := Lib.hid (HB2.out.below (below_al h3 (.cells #[.int .i64 y.kind, .int .i64 y.int, .string y.text, .slice A1 y.items.length c1, .slice K1 y.keys.length d1] 25)))
        have HB4 := Lib.hid (HB2.out.below h3)
        have HLA := Lib.hid (show Lies (w3.alloc (.cells #[.int .i64 y.kind, .int .i64 y.int, .string y.text, .slice A1 y.items.length c1, .slice K1 y.keys.length d1] 25)) w.heap.size y A1 c1 K1 d1 from Lies.keep (fun b o hb => World.cell?_alloc_lt _ _ _ (by have := HB4.out.old.size; simp; omega)) (Nat.le_refl _) _ hl)
        clear z0 z1 z2 z3 z4 x0 x1 x2 x3 x4 b0 b1 b2 b3 b4 v0 v1 v2 v3 v4 zl bl h3 hl
        unfold aggOf
        go_upto_region 4 with (fail)
        obtain ⟨W4, hW4⟩ : ∃ W4, W4 = w3.alloc (.cells #[.int .i64 y.kind, .int .i64 y.int, .string y.text, .slice A1 y.items.length c1, .slice K1 y.keys.length d1] 25) := ⟨_, rfl⟩
        rw [← hW4] at HB3 HLA ⊢
        obtain ⟨q0, q1, q2, q3, q4⟩ := five_of (show BlockIs W4 w3.heap.size 25 #[.int .i64 y.kind, .int .i64 y.int, .string y.text, .slice A1 y.items.length c1, .slice K1 y.keys.length d1] by rw [hW4]; exact BlockIs.new _ _ _)
        have ql : w3.heap.size < W4.heap.size := by rw [hW4]; simp
        clear hW4
        obtain ⟨b0, b1, b2, b3, b4⟩ := five_of HB3.out.bv
        obtain ⟨z0, z1, z2, z3, z4⟩ := five_of (show BlockIs W4 (w.heap.size + 1) 25 #[.int .i64 0, .int .i64 0, .string ⟨#[]⟩, .slice none 0 0, .slice none 0 0] from HB3.out.br)
        have x0 := HB3.out.br.frozen 0
        have v0 := HB3.out.bv.frozen 0
        have x1 := HB3.out.br.frozen 1
        have v1 := HB3.out.bv.frozen 1
        have x2 := HB3.out.br.frozen 2
        have v2 := HB3.out.bv.frozen 2
        have x3 := HB3.out.br.frozen 3
        have v3 := HB3.out.bv.frozen 3
        have x4 := HB3.out.br.frozen 4
        have v4 := HB3.out.bv.frozen 4
        have bl := HB3.out.bv.lt
        have zl := HB3.out.br.lt
        go_wp2_with fail
        refine bodyPost_ret (v := .tuple #[aggOf y A1 c1 K1 d1, .bool true, .int .i64 0]) (by simp [results, Tryd.results11, go_sem, aggOf, V.kind, V.int, V.text, V.items, V.keys, z0, z1, z2, z3, z4]) rfl ?_
        exact some_post HG.out (liesPut HLA.out (by omega) HB3.out.old.size) HB3.out.ends
set_option maxRecDepth 100000 in
set_option maxHeartbeats 16000000 in
theorem get_any (x : V) (p : List Stp) (w : World) (A K : Option Addr) (c d : Nat) (Ap : Option Addr) (cp : Nat) (h : Lies w w.heap.size x A c K d) (hp : PLies w w.heap.size Ap cp p) :
    Calls Tryd.prog 10 #[.agg #[.int .i64 x.kind, .int .i64 x.int, .string x.text, .slice A x.items.length c, .slice K x.keys.length d], .slice Ap p.length cp] w (GetPost x p w) := by
  have HB0 := Lib.hid (GB.start w x A c K d)
  have HX := Lib.hid fun W (hW : Below w.heap.size w W) => lies_on h hW
  have HXB := Lib.hid fun W (hW : Below w.heap.size w W) => show Lies W w.heap.size x A c K d from Lies.keep (bcell hW) (Nat.le_refl _) _ h
  have HP := Lib.hid fun W (hW : Below w.heap.size w W) => hp.on hW
  have HGV := Lib.hid (rfl : getV x p = getV x p)
  obtain ⟨vb, hv⟩ : ∃ vb, x.valid = vb := ⟨_, rfl⟩
  obtain ⟨pb, hpb⟩ : ∃ pb, pathB p = pb := ⟨_, rfl⟩
  have HV := Lib.hid hv
  have HPB := Lib.hid hpb
  obtain ⟨n, hn⟩ : ∃ n, n = p.length := ⟨_, rfl⟩
  have HN := Lib.hid hn
  have hnl : n ≤ maxLen := by have := hp.1; have := hp.2.1; omega
  unfold maxLen at hnl
  rw [← hn]
  clear h hp hv hpb HGV hn
  cases vb
  · have HG := Lib.hid (show getV x p = (leaf 0 0 ⟨#[]⟩, false, 1) by simp [getV, HV.out])
    go_enter Tryd.func10, Tryd.ntmps10
    go_wp2_with fail
    refine (valid_yes x _ A K c d (HX.out _ HB0.out.old) HV.out).mono ?_
    rintro e w1 ⟨rfl, h1⟩
    have HB1 := Lib.hid (HB0.out.below h1)
    clear h1
    obtain ⟨b0, b1, b2, b3, b4⟩ := five_of HB1.out.bv
    obtain ⟨z0, z1, z2, z3, z4⟩ := five_of (show BlockIs w1 (w.heap.size + 1) 25 #[.int .i64 0, .int .i64 0, .string ⟨#[]⟩, .slice none 0 0, .slice none 0 0] from HB1.out.br)
    have x0 := HB1.out.br.frozen 0
    have v0 := HB1.out.bv.frozen 0
    have x1 := HB1.out.br.frozen 1
    have v1 := HB1.out.bv.frozen 1
    have x2 := HB1.out.br.frozen 2
    have v2 := HB1.out.bv.frozen 2
    have x3 := HB1.out.br.frozen 3
    have v3 := HB1.out.bv.frozen 3
    have x4 := HB1.out.br.frozen 4
    have v4 := HB1.out.bv.frozen 4
    have bl := HB1.out.bv.lt
    have zl := HB1.out.br.lt
    go_wp2_with fail
    refine bodyPost_ret (v := .tuple #[aggOf (leaf 0 0 ⟨#[]⟩) none 0 none 0, .bool false, .int .i64 1]) (by simp [results, Tryd.results10, go_sem, aggOf, leaf, V.kind, V.int, V.text, V.items, V.keys, z0, z1, z2, z3, z4]) rfl ?_
    exact zero_post HG.out HB1.out.ends
  · cases pb
    · have HG := Lib.hid (show getV x p = (leaf 0 0 ⟨#[]⟩, false, 1) by simp [getV, HV.out, HPB.out])
      go_enter Tryd.func10, Tryd.ntmps10
      go_wp2_with fail
      refine (valid_yes x _ A K c d (HX.out _ HB0.out.old) HV.out).mono ?_
      rintro e w1 ⟨rfl, h1⟩
      have HB1 := Lib.hid (HB0.out.below h1)
      clear h1
      go_wp2_with fail
      refine (show Calls Tryd.prog 31 #[.slice Ap n cp] w1 fun e w' => e = .returned (.bool false) ∧ Below w1.heap.size w1 w' from by
        have := pathValid_any p w1 Ap cp (HP.out _ HB1.out.old)
        rw [HPB.out, ← HN.out] at this
        exact this).mono ?_
      rintro e w2 ⟨rfl, h2⟩
      have HB2 := Lib.hid (HB1.out.below h2)
      clear h2
      obtain ⟨b0, b1, b2, b3, b4⟩ := five_of HB2.out.bv
      obtain ⟨z0, z1, z2, z3, z4⟩ := five_of (show BlockIs w2 (w.heap.size + 1) 25 #[.int .i64 0, .int .i64 0, .string ⟨#[]⟩, .slice none 0 0, .slice none 0 0] from HB2.out.br)
      have x0 := HB2.out.br.frozen 0
      have v0 := HB2.out.bv.frozen 0
      have x1 := HB2.out.br.frozen 1
      have v1 := HB2.out.bv.frozen 1
      have x2 := HB2.out.br.frozen 2
      have v2 := HB2.out.bv.frozen 2
      have x3 := HB2.out.br.frozen 3
      have v3 := HB2.out.bv.frozen 3
      have x4 := HB2.out.br.frozen 4
      have v4 := HB2.out.bv.frozen 4
      have bl := HB2.out.bv.lt
      have zl := HB2.out.br.lt
      go_wp2_with fail
      refine bodyPost_ret (v := .tuple #[aggOf (leaf 0 0 ⟨#[]⟩) none 0 none 0, .bool false, .int .i64 1]) (by simp [results, Tryd.results10, go_sem, aggOf, leaf, V.kind, V.int, V.text, V.items, V.keys, z0, z1, z2, z3, z4]) rfl ?_
      exact zero_post HG.out HB2.out.ends
    · go_enter Tryd.func10, Tryd.ntmps10
      go_wp2_with fail
      refine (valid_yes x _ A K c d (HX.out _ HB0.out.old) HV.out).mono ?_
      rintro e w1 ⟨rfl, h1⟩
      have HB1 := Lib.hid (HB0.out.below h1)
      clear h1
      go_wp2_with fail
      refine (show Calls Tryd.prog 31 #[.slice Ap n cp] w1 fun e w' => e = .returned (.bool true) ∧ Below w1.heap.size w1 w' from by
        have := pathValid_any p w1 Ap cp (HP.out _ HB1.out.old)
        rw [HPB.out, ← HN.out] at this
        exact this).mono ?_
      rintro e w2 ⟨rfl, h2⟩
      have HB2 := Lib.hid (HB1.out.below h2)
      clear h2
      obtain ⟨hok, h60⟩ := valid_nodes HV.out
      have HG0 := Lib.hid (show GS w w.heap.size x p 0 x A c K d w2 from ⟨HB2.out.old, HB2.out.bv, HB2.out.br, HXB.out _ HB2.out.old, Nat.le_refl _, ⟨hok, h60⟩, rfl⟩)
      clear hok h60
      go_wp2_with fail
      go_loopw [22] (fun iv wr => ∃ j : Nat, iv = .int .i64 j ∧ j ≤ n ∧ Hid (∃ y A c K d, GS w w.heap.size x p j y A c K d wr)) (fun iv _ => n - (intOf iv).toNat)
      case atStart => exact ⟨0, rfl, Nat.zero_le _, Lib.hid ⟨_, _, _, _, _, HG0.out⟩⟩
      case round =>
        obtain ⟨j, rfl, hj, hI⟩ := hrel
        clear HB0 HB1 HB2 HG0
        obtain ⟨y, A, c, K, d, hG⟩ := hI.out
        have HS := Lib.hid hG
        clear hI hG
        obtain ⟨b0, b1, b2, b3, b4⟩ := five_of HS.out.bv
        obtain ⟨z0, z1, z2, z3, z4⟩ := five_of (show BlockIs wr (w.heap.size + 1) 25 #[.int .i64 0, .int .i64 0, .string ⟨#[]⟩, .slice none 0 0, .slice none 0 0] from HS.out.br)
        have x0 := HS.out.br.frozen 0
        have v0 := HS.out.bv.frozen 0
        have x1 := HS.out.br.frozen 1
        have v1 := HS.out.bv.frozen 1
        have x2 := HS.out.br.frozen 2
        have v2 := HS.out.bv.frozen 2
        have x3 := HS.out.br.frozen 3
        have v3 := HS.out.bv.frozen 3
        have x4 := HS.out.br.frozen 4
        have v4 := HS.out.bv.frozen 4
        have bl := HS.out.bv.lt
        have zl := HS.out.br.lt
        by_cases hlt : j < n
        · obtain ⟨s, hs⟩ : ∃ s, p[j]? = some s := ⟨_, List.getElem?_eq_getElem (by rw [← HN.out]; exact hlt)⟩
          obtain ⟨b, o, rfl, hbB, e0, e1, hsz⟩ := (HP.out _ HS.out.old).at_ hs
          have HSJ := Lib.hid hs
          have hjn : (j : Int) < n := by omega
          have hj0 : 0 ≤ (j : Int) := by omega
          have HC := Lib.hid fun W (hW : Below wr.heap.size wr W) => find_any y s W A K c d (Lies.keep (fun b o hb => bcell hW b o (by have := HS.out.old.size; omega)) (by have := HS.out.old.size; have := hW.size; omega) _ HS.out.lies) (okk HS.out.ok.1).1 (by
            obtain ⟨-, h1, h2⟩ := okk HS.out.ok.1
            have h3 := HS.out.ok.2
            have h4 := nodes_items y
            have h5 := length_le_nodesL y.items
            by_cases h5 : y.kind = 5
            · rw [h2 h5]; omega
            · rw [h1 h5]; exact Nat.zero_le _)
          obtain ⟨fi, fb, hf⟩ : ∃ fi fb, findV y s = (fi, fb) := ⟨_, _, rfl⟩
          rw [hf] at HC
          have HF := Lib.hid hf
          obtain ⟨i, t⟩ := s
          unfold stepV aggOf at HC
          simp only at e0 e1 hsz HC
          clear hs hf
          cases fb
          · have HG := Lib.hid (show getV x p = (leaf 0 0 ⟨#[]⟩, false, 0) by
              have := HS.out.none HSJ.out (find_none (by rw [HF.out]))
              simp [getV, HV.out, HPB.out, this])
            go_wp2_with fail
            refine (HC.out _ (below_al (Below.refl _ wr) _)).mono ?_
            rintro e w3 ⟨rfl, h3⟩
            have HB3 := Lib.hid (HS.out.below (below_on (below_al (Below.refl _ wr) _) h3))
            clear z0 z1 z2 z3 z4 x0 x1 x2 x3 x4 b0 b1 b2 b3 b4 v0 v1 v2 v3 v4 zl bl e0 e1 hsz h3
            obtain ⟨b0, b1, b2, b3, b4⟩ := five_of HB3.out.bv
            obtain ⟨z0, z1, z2, z3, z4⟩ := five_of (show BlockIs w3 (w.heap.size + 1) 25 #[.int .i64 0, .int .i64 0, .string ⟨#[]⟩, .slice none 0 0, .slice none 0 0] from HB3.out.br)
            have x0 := HB3.out.br.frozen 0
            have v0 := HB3.out.bv.frozen 0
            have x1 := HB3.out.br.frozen 1
            have v1 := HB3.out.bv.frozen 1
            have x2 := HB3.out.br.frozen 2
            have v2 := HB3.out.bv.frozen 2
            have x3 := HB3.out.br.frozen 3
            have v3 := HB3.out.bv.frozen 3
            have x4 := HB3.out.br.frozen 4
            have v4 := HB3.out.bv.frozen 4
            have bl := HB3.out.bv.lt
            have zl := HB3.out.br.lt
            go_wp2_with fail
            refine bodyPost_ret (v := .tuple #[aggOf (leaf 0 0 ⟨#[]⟩) none 0 none 0, .bool false, .int .i64 0]) (by simp [results, Tryd.results10, go_sem, aggOf, leaf, V.kind, V.int, V.text, V.items, V.keys, z0, z1, z2, z3, z4]) rfl ?_
            exact zero_post HG.out HB3.out.ends
          · obtain ⟨q, z, hq1, hq2, hq3⟩ := find_item HS.out.ok.1 (show (findV y (i, t)).2 = true by rw [HF.out])
            rw [HF.out] at hq1
            simp only at hq1
            subst hq1
            have HQ3 := Lib.hid hq3
            have HQ2 := Lib.hid hq2
            have hql : q < y.items.length := (List.getElem?_eq_some_iff.1 hq2).1
            clear hq2 hq3
            go_wp2_with fail
            refine (HC.out _ (below_al (Below.refl _ wr) _)).mono ?_
            rintro e w3 ⟨rfl, h3⟩
            have HB3 := Lib.hid (HS.out.below (below_on (below_al (Below.refl _ wr) _) h3))
            clear z0 z1 z2 z3 z4 x0 x1 x2 x3 x4 b0 b1 b2 b3 b4 v0 v1 v2 v3 v4 zl bl e0 e1 hsz h3 HC
            obtain ⟨b0, b1, b2, b3, b4⟩ := five_of HB3.out.bv
            obtain ⟨z0, z1, z2, z3, z4⟩ := five_of (show BlockIs w3 (w.heap.size + 1) 25 #[.int .i64 0, .int .i64 0, .string ⟨#[]⟩, .slice none 0 0, .slice none 0 0] from HB3.out.br)
            have x0 := HB3.out.br.frozen 0
            have v0 := HB3.out.bv.frozen 0
            have x1 := HB3.out.br.frozen 1
            have v1 := HB3.out.bv.frozen 1
            have x2 := HB3.out.br.frozen 2
            have v2 := HB3.out.bv.frozen 2
            have x3 := HB3.out.br.frozen 3
            have v3 := HB3.out.bv.frozen 3
            have x4 := HB3.out.br.frozen 4
            have v4 := HB3.out.bv.frozen 4
            have bl := HB3.out.bv.lt
            have zl := HB3.out.br.lt
            rcases (lies_items HB3.out.lies).2.2 with hn | ⟨b', o', rfl, hbB', hf⟩
            · rw [hn] at hql; simp at hql
            · obtain ⟨Az, cz, Kz, dz, e0, e1, e2, e3, e4, hlz⟩ := hf.at_ HQ2.out
              have HLZ := Lib.hid hlz
              clear hlz hf
              have hq0 : 0 ≤ (q : Int) := by omega
              have hqn : (q : Int) < y.items.length := by omega
              go_wp2_with fail
              go_roundw
              case rel => exact ⟨j + 1, by go_num, by omega, Lib.hid ⟨_, _, _, _, _, HB3.out.next HSJ.out HQ3.out HLZ.out⟩⟩
              case measure => simp [intOf]; omega
        · have hjn : ¬ ((j : Int) < n) := by omega
          have HG := Lib.hid (show getV x p = (y, true, 0) by
            have := HS.out.over HN.out hlt
            simp [getV, HV.out, HPB.out, this])
          go_wp2_with fail
          refine (copied_any y.nodes y wr A K c d (Nat.le_refl _) HS.out.ok.2 HS.out.ok.1 (Lies.keep (fun _ _ _ => rfl) (by have := HS.out.old.size; omega) _ HS.out.lies)).mono ?_
          rintro e w3 ⟨A1, c1, K1, d1, rfl, hl, h3⟩
          have HB3 := Lib.hid (HS.out.below h3)
          have HL := Lib.hid hl
          have hzz : w.heap.size + 1 < wr.heap.size := zl
          clear z0 z1 z2 z3 z4 x0 x1 x2 x3 x4 b0 b1 b2 b3 b4 v0 v1 v2 v3 v4 zl bl hl h3
          obtain ⟨b0, b1, b2, b3, b4⟩ := five_of HB3.out.bv
          obtain ⟨z0, z1, z2, z3, z4⟩ := five_of (show BlockIs w3 (w.heap.size + 1) 25 #[.int .i64 0, .int .i64 0, .string ⟨#[]⟩, .slice none 0 0, .slice none 0 0] from HB3.out.br)
          have x0 := HB3.out.br.frozen 0
          have v0 := HB3.out.bv.frozen 0
          have x1 := HB3.out.br.frozen 1
          have v1 := HB3.out.bv.frozen 1
          have x2 := HB3.out.br.frozen 2
          have v2 := HB3.out.bv.frozen 2
          have x3 := HB3.out.br.frozen 3
          have v3 := HB3.out.bv.frozen 3
          have x4 := HB3.out.br.frozen 4
          have v4 := HB3.out.bv.frozen 4
          have bl := HB3.out.bv.lt
          have zl := HB3.out.br.lt
          go_wp2_with fail
          refine bodyPost_ret (v := .tuple #[aggOf y A1 c1 K1 d1, .bool true, .int .i64 0]) (by simp [results, Tryd.results10, go_sem, aggOf, V.kind, V.int, V.text, V.items, V.keys, z0, z1, z2, z3, z4]) rfl ?_
          exact some_post HG.out (liesPutNew HL.out hzz) HB3.out.ends
end Go.Proofs.YtmhijdpahejaiaaDoor
