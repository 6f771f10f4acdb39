/- Get, as the program and as the specification say it, walked. -/
import Derived.Test.YtdlmphbaolejcaaDoorVg
import Derived.Deep.RegionWith
import Derived.Deep.RegionHeld3
import Derived.Deep.DrawnRows
namespace Go.Proofs.YtdlmphbaolejcaaDoor
open Go.RowKit

theorem sets5 {w1 : World} {g : Nat} {t : TypeId} {a b c d e u0 u1 u2 u3 u4 : Value} (h : BlockIs w1 g t #[a, b, c, d, e]) : BlockIs (((((w1.setCell ⟨g, 0, none⟩ u0).setCell ⟨g, 1, none⟩ u1).setCell ⟨g, 2, none⟩ u2).setCell ⟨g, 3, none⟩ u3).setCell ⟨g, 4, none⟩ u4) g t #[u0, u1, u2, u3, u4] := by
  have := ((((h.set_ 0 u0).set_ 1 u1).set_ 2 u2).set_ 3 u3).set_ 4 u4
  simpa using this
theorem keepD {w0 wx w1 : World} (h : Hid (Below w0.heap.size w0 wx)) (hb : Below wx.heap.size wx w1) : Below w0.heap.size w0 w1 := h.out.trans (hb.mono h.out.size)
theorem keepS {n g : Nat} {w0 wx : World} {u0 u1 u2 u3 u4 : Value} (h : Hid (Below n w0 wx)) (hg : n ≤ g) : Below n w0 (((((wx.setCell ⟨g, 0, none⟩ u0).setCell ⟨g, 1, none⟩ u1).setCell ⟨g, 2, none⟩ u2).setCell ⟨g, 3, none⟩ u3).setCell ⟨g, 4, none⟩ u4) :=
  ((((h.out.setCell hg _).setCell hg _).setCell hg _).setCell hg _).setCell hg _
section
variable {w W : World} {B : Nat} {x y : V} {p : List Stp} {j : Nat} {A K : Option Addr} {c d : Nat} {u0 u1 u2 u3 u4 : Value}
theorem GS.ends (h : GS w B x p j y A c K d W) : Below w.heap.size w (put5 W (w.heap.size + 1) 0 u0 u1 u2 u3 u4) :=
  ((((h.old.setCell (by simp) _).setCell (by simp) _).setCell (by simp) _).setCell (by simp) _).setCell (by simp) _
theorem gs_facts (h : GS w B x p j y A c K d W) : ((W.cell? ⟨w.heap.size, 0, none⟩ = some (.int .i64 y.kind) ∧ W.cell? ⟨w.heap.size, 1, none⟩ = some (.int .i64 y.int) ∧ W.cell? ⟨w.heap.size, 2, none⟩ = some (.string y.text) ∧ W.cell? ⟨w.heap.size, 3, none⟩ = some (.slice A y.items.length c) ∧ W.cell? ⟨w.heap.size, 4, none⟩ = some (.slice K y.keys.length d)) ∧
    (W.cell? ⟨w.heap.size + 1, 0, none⟩ = some (.int .i64 0) ∧ W.cell? ⟨w.heap.size + 1, 1, none⟩ = some (.int .i64 0) ∧ W.cell? ⟨w.heap.size + 1, 2, none⟩ = some (.string ⟨#[]⟩) ∧ W.cell? ⟨w.heap.size + 1, 3, none⟩ = some (.slice none 0 0) ∧ W.cell? ⟨w.heap.size + 1, 4, none⟩ = some (.slice none 0 0))) ∧
    ((W.frozen? ⟨w.heap.size, 0, none⟩ = false ∧ W.frozen? ⟨w.heap.size, 1, none⟩ = false ∧ W.frozen? ⟨w.heap.size, 2, none⟩ = false ∧ W.frozen? ⟨w.heap.size, 3, none⟩ = false ∧ W.frozen? ⟨w.heap.size, 4, none⟩ = false) ∧
    (W.frozen? ⟨w.heap.size + 1, 0, none⟩ = false ∧ W.frozen? ⟨w.heap.size + 1, 1, none⟩ = false ∧ W.frozen? ⟨w.heap.size + 1, 2, none⟩ = false ∧ W.frozen? ⟨w.heap.size + 1, 3, none⟩ = false ∧ W.frozen? ⟨w.heap.size + 1, 4, none⟩ = false)) ∧ w.heap.size < W.heap.size ∧ w.heap.size + 1 < W.heap.size :=
  ⟨⟨five_of h.bv, five_of (show BlockIs W (w.heap.size + 1) 25 #[.int .i64 0, .int .i64 0, .string ⟨#[]⟩, .slice none 0 0, .slice none 0 0] from h.br)⟩, ⟨⟨h.bv.frozen 0, h.bv.frozen 1, h.bv.frozen 2, h.bv.frozen 3, h.bv.frozen 4⟩, h.br.frozen 0, h.br.frozen 1, h.br.frozen 2, h.br.frozen 3, h.br.frozen 4⟩, h.bv.lt, h.br.lt⟩
theorem GS.boxed {wr w1 : World} (h : GS w B x p j y A c K d wr) (hb : Below wr.heap.size wr w1) : GS w B x p j y A c K d (put5 w1 wr.heap.size 0 u0 u1 u2 u3 u4) :=
  h.below (((((hb.setCell (Nat.le_refl _) _).setCell (Nat.le_refl _) _).setCell (Nat.le_refl _) _).setCell (Nat.le_refl _) _).setCell (Nat.le_refl _) _)
theorem GS.there (h : GS w B x p j y A c K d W) : Lies (put5 W (w.heap.size + 1) 0 u0 u1 u2 u3 u4) B y A c K d :=
  Lies.keep (fun b o hb => World.cell?_of_block (put5_heap W (w.heap.size + 1) 0 _ _ _ _ _ (show b ≠ w.heap.size + 1 by have := h.le; omega))) (Nat.le_refl _) _ h.lies
end

attribute [local go_sem ↓] Go.wp_at_zero Go.wp_at_succ
set_option maxRecDepth 100000 in
set_option maxHeartbeats 6000000 in
theorem refAt_any (B : Nat) (x : V) (p : List Stp) (w : World) (A K : Option Addr) (c d : Nat) (Ap : Option Addr) (cp : Nat) (hB : B ≤ w.heap.size) (h : Lies w B x A c K d) (hok : x.ok = true) (h60 : x.nodes ≤ 60) (hp : PLies w w.heap.size Ap cp p) :
    Calls Tryd.prog 34 #[.agg #[.int .i64 x.kind, .int .i64 x.int, .string x.text, .slice A x.items.length c, .slice K x.keys.length d], .slice Ap p.length cp] w (ItemPost B (atV x p) w) := by
  have HP := Lib.hid fun W (hW : Below w.heap.size w W) => hp.on hW
  have HG0 := Lib.hid (GS.start hB h hok h60 p)
  obtain ⟨R, hR⟩ : ∃ R, R = atV x p := ⟨_, rfl⟩
  rw [← hR]
  have HR := Lib.hid hR
  obtain ⟨n, hn⟩ : ∃ n, n = p.length := ⟨_, rfl⟩
  have HN := Lib.hid hn
  have hnl : n ≤ maxLen := by have := hp.1; have := hp.2.1; omega
  unfold maxLen at hnl
  rw [← hn]
  clear h hok h60 hp hR hn
  go_enter Tryd.func34, Tryd.ntmps34
  go_wp2_with fail
  go_loopw [6] (fun iv wr => ∃ j : Nat, iv = .int .i64 j ∧ j ≤ n ∧ Hid (∃ y A c K d, GS w B x p j y A c K d wr)) (fun iv _ => n - (intOf iv).toNat)
  case atStart => exact ⟨0, rfl, Nat.zero_le _, Lib.hid ⟨_, _, _, _, _, HG0.out⟩⟩
  case round =>
    obtain ⟨j, rfl, hj, hI⟩ := hrel
    obtain ⟨y, A, c, K, d, hG⟩ := hI.out
    have HG := Lib.hid hG
    clear hI hG HG0
    obtain ⟨b0, b1, b2, b3, b4⟩ := five_of HG.out.bv
    obtain ⟨z0, z1, z2, z3, z4⟩ := five_of (show BlockIs wr (w.heap.size + 1) 25 #[.int .i64 0, .int .i64 0, .string ⟨#[]⟩, .slice none 0 0, .slice none 0 0] from HG.out.br)
    have x0 := HG.out.br.frozen 0
    have v0 := HG.out.bv.frozen 0
    have x1 := HG.out.br.frozen 1
    have v1 := HG.out.bv.frozen 1
    have x2 := HG.out.br.frozen 2
    have v2 := HG.out.bv.frozen 2
    have x3 := HG.out.br.frozen 3
    have v3 := HG.out.bv.frozen 3
    have x4 := HG.out.br.frozen 4
    have v4 := HG.out.bv.frozen 4
    have bl := HG.out.bv.lt
    have zl := HG.out.br.lt
    by_cases hlt : j < n
    · obtain ⟨s, hs⟩ : ∃ s, p[j]? = some s := ⟨_, List.getElem?_eq_getElem (by rw [← HN.out]; exact hlt)⟩
      obtain ⟨b, o, rfl, hbB, e0, e1, hsz⟩ := (HP.out _ HG.out.old).at_ hs
      have HSJ := Lib.hid hs
      have hjn : (j : Int) < n := by omega
      have hj0 : 0 ≤ (j : Int) := by omega
      have HC := Lib.hid fun W (hW : Below wr.heap.size wr W) => item_any B y s W A K c d (by have := HG.out.old.size; have := hW.size; have := HG.out.le; omega) (Lies.keep (fun b o hb => bcell hW b o (by have := HG.out.old.size; have := HG.out.le; omega)) (Nat.le_refl _) _ HG.out.lies) HG.out.ok.1
      obtain ⟨i, t⟩ := s
      unfold stepV aggOf at HC
      simp only at e0 e1 hsz HC
      have HKEY := Lib.hid (show ∀ Wn, Below wr.heap.size wr Wn → Hid (Below wr.heap.size wr Wn) ∧ (Wn.cell? ⟨w.heap.size, 0, none⟩ = some (.int .i64 y.kind) ∧ Wn.cell? ⟨w.heap.size, 1, none⟩ = some (.int .i64 y.int) ∧ Wn.cell? ⟨w.heap.size, 2, none⟩ = some (.string y.text) ∧ Wn.cell? ⟨w.heap.size, 3, none⟩ = some (.slice A y.items.length c) ∧ Wn.cell? ⟨w.heap.size, 4, none⟩ = some (.slice K y.keys.length d)) ∧ (Wn.cell? ⟨b, o + j * 2, none⟩ = some (.int .i64 i) ∧ Wn.cell? ⟨b, o + j * 2 + 1, none⟩ = some (.string t)) from
        fun Wn hB => ⟨Lib.hid hB, ⟨(bcell hB _ _ bl).trans b0, (bcell hB _ _ bl).trans b1, (bcell hB _ _ bl).trans b2, (bcell hB _ _ bl).trans b3, (bcell hB _ _ bl).trans b4⟩, (bcell hB _ _ hbB).trans e0, (bcell hB _ _ hbB).trans e1⟩)
      clear hs
      rcases hq : itemV y (i, t) with _ | z
      · rw [hq] at HC
        have HNO := Lib.hid (show R = none from HR.out.trans (HG.out.none HSJ.out hq))
        clear hq
        go_wp2_with fail
        go_region_held3 (fun Wn => Hid (Below wr.heap.size wr Wn) ∧ (Wn.cell? ⟨w.heap.size, 0, none⟩ = some (.int .i64 y.kind) ∧ Wn.cell? ⟨w.heap.size, 1, none⟩ = some (.int .i64 y.int) ∧ Wn.cell? ⟨w.heap.size, 2, none⟩ = some (.string y.text) ∧ Wn.cell? ⟨w.heap.size, 3, none⟩ = some (.slice A y.items.length c) ∧ Wn.cell? ⟨w.heap.size, 4, none⟩ = some (.slice K y.keys.length d)) ∧ (Wn.cell? ⟨b, o + j * 2, none⟩ = some (.int .i64 i) ∧ Wn.cell? ⟨b, o + j * 2 + 1, none⟩ = some (.string t)))
          (first
            | with_reducible exact HKEY.out _ (Below.refl _ wr).drew
            | with_reducible exact HKEY.out _ (below_on (Below.refl _ wr).drew h1)
            | with_reducible exact HKEY.out _ (below_al (below_on (Below.refl _ wr).drew h1) _)
            | with_reducible exact HKEY.out _ (below_al (Below.refl _ wr) _).drew
            | with_reducible exact HKEY.out _ (below_on (below_al (Below.refl _ wr) _).drew h1)
            | with_reducible exact HKEY.out _ (keepS (Lib.hid (below_on (below_al (Below.refl _ wr) _).drew h1)) (Nat.le_refl _))
            | (trace_state; fail))
          (first | (go_at_call 59; refine (HC.out _ ?_).mono ?_; (go_split_ands; exact Hid.out (by assumption)); rintro e w1 ⟨h1, he⟩; replace he : e = .returned (.tuple #[.agg #[.int .i64 0, .int .i64 0, .string ⟨#[]⟩, .slice none 0 0, .slice none 0 0], .bool false]) := he; subst he; try (have hq7 : BlockIs w1 wr.heap.size 25 #[.int .i64 0, .int .i64 0, .string ⟨#[]⟩, .slice none 0 0, .slice none 0 0] := BlockIs.below (w := (wr.alloc (.cells zeroF 25)).drew) (BlockIs.new wr 25 zeroF) h1 (by simp); obtain ⟨r0, r1, r2, r3, r4⟩ := five_of hq7; have t0 := hq7.frozen 0; have t1 := hq7.frozen 1; have t2 := hq7.frozen 2; have t3 := hq7.frozen 3; have t4 := hq7.frozen 4; have tl := hq7.lt)))
        all_goals
          first
            | (obtain ⟨Wf, hWf⟩ : ∃ Wf, Wf = (w1.alloc (.cells #[.int .i64 0, .int .i64 0, .string ⟨#[]⟩, .slice none 0 0, .slice none 0 0] 25)) := ⟨_, rfl⟩; rw [← hWf]; have hbw : Below wr.heap.size wr (w1.alloc (.cells #[.int .i64 0, .int .i64 0, .string ⟨#[]⟩, .slice none 0 0, .slice none 0 0] 25)) := below_al (below_on (Below.refl _ wr).drew h1) _; have hbx : BlockIs (w1.alloc (.cells #[.int .i64 0, .int .i64 0, .string ⟨#[]⟩, .slice none 0 0, .slice none 0 0] 25)) w1.heap.size 25 #[.int .i64 0, .int .i64 0, .string ⟨#[]⟩, .slice none 0 0, .slice none 0 0] := BlockIs.new _ _ _; rw [← hWf] at hbw hbx; clear hWf)
            | (obtain ⟨Wf, hWf⟩ : ∃ Wf, Wf = (((((w1.setCell ⟨wr.heap.size, 0, none⟩ (.int .i64 0)).setCell ⟨wr.heap.size, 1, none⟩ (.int .i64 0)).setCell ⟨wr.heap.size, 2, none⟩ (.string ⟨#[]⟩)).setCell ⟨wr.heap.size, 3, none⟩ (.slice none 0 0)).setCell ⟨wr.heap.size, 4, none⟩ (.slice none 0 0)) := ⟨_, rfl⟩; rw [← hWf]; have hbw : Below wr.heap.size wr (((((w1.setCell ⟨wr.heap.size, 0, none⟩ (.int .i64 0)).setCell ⟨wr.heap.size, 1, none⟩ (.int .i64 0)).setCell ⟨wr.heap.size, 2, none⟩ (.string ⟨#[]⟩)).setCell ⟨wr.heap.size, 3, none⟩ (.slice none 0 0)).setCell ⟨wr.heap.size, 4, none⟩ (.slice none 0 0)) := keepS (Lib.hid (below_on (below_al (Below.refl _ wr) _).drew h1)) (Nat.le_refl _); have hbx : BlockIs (((((w1.setCell ⟨wr.heap.size, 0, none⟩ (.int .i64 0)).setCell ⟨wr.heap.size, 1, none⟩ (.int .i64 0)).setCell ⟨wr.heap.size, 2, none⟩ (.string ⟨#[]⟩)).setCell ⟨wr.heap.size, 3, none⟩ (.slice none 0 0)).setCell ⟨wr.heap.size, 4, none⟩ (.slice none 0 0)) wr.heap.size 25 #[.int .i64 0, .int .i64 0, .string ⟨#[]⟩, .slice none 0 0, .slice none 0 0] := sets5 hq7; rw [← hWf] at hbw hbx; clear hWf)
          have HG1 := Lib.hid (HG.out.below hbw)
          obtain ⟨q0, q1, q2, q3, q4⟩ := five_of hbx
          have ql := hbx.lt
          clear b0 b1 b2 b3 b4 z0 z1 z2 z3 z4 x0 x1 x2 x3 x4 v0 v1 v2 v3 v4 bl zl h1 e0 e1 hbw hbx HKEY
          try clear hq7 r0 r1 r2 r3 r4 t0 t1 t2 t3 t4 tl
          obtain ⟨⟨⟨b0, b1, b2, b3, b4⟩, z0, z1, z2, z3, z4⟩, ⟨⟨v0, v1, v2, v3, v4⟩, x0, x1, x2, x3, x4⟩, bl, zl⟩ := gs_facts HG1.out
          go_wp2_with fail
          refine bodyPost_ret (v := .tuple #[aggOf (leaf 0 0 ⟨#[]⟩) none 0 none 0, .bool false]) (by simp [results, Tryd.results34, go_sem, aggOf, leaf, V.kind, V.int, V.text, V.items, V.keys, z0, z1, z2, z3, z4]) rfl ?_
          rw [HNO.out]
          exact ⟨HG1.out.ends, rfl⟩
      · rw [hq] at HC
        have HQ := Lib.hid hq
        clear hq
        go_wp2_with fail
        go_region_held3 (fun Wn => Hid (Below wr.heap.size wr Wn) ∧ (Wn.cell? ⟨w.heap.size, 0, none⟩ = some (.int .i64 y.kind) ∧ Wn.cell? ⟨w.heap.size, 1, none⟩ = some (.int .i64 y.int) ∧ Wn.cell? ⟨w.heap.size, 2, none⟩ = some (.string y.text) ∧ Wn.cell? ⟨w.heap.size, 3, none⟩ = some (.slice A y.items.length c) ∧ Wn.cell? ⟨w.heap.size, 4, none⟩ = some (.slice K y.keys.length d)) ∧ (Wn.cell? ⟨b, o + j * 2, none⟩ = some (.int .i64 i) ∧ Wn.cell? ⟨b, o + j * 2 + 1, none⟩ = some (.string t)))
          (first
            | with_reducible exact HKEY.out _ (Below.refl _ wr).drew
            | with_reducible exact HKEY.out _ (below_on (Below.refl _ wr).drew h1)
            | with_reducible exact HKEY.out _ (below_al (below_on (Below.refl _ wr).drew h1) _)
            | with_reducible exact HKEY.out _ (below_al (Below.refl _ wr) _).drew
            | with_reducible exact HKEY.out _ (below_on (below_al (Below.refl _ wr) _).drew h1)
            | with_reducible exact HKEY.out _ (keepS (Lib.hid (below_on (below_al (Below.refl _ wr) _).drew h1)) (Nat.le_refl _))
            | (trace_state; fail))
          (first | (go_at_call 59; refine (HC.out _ ?_).mono ?_; (go_split_ands; exact Hid.out (by assumption)); rintro e w1 ⟨h1, A1, c1, K1, d1, rfl, hz⟩; unfold aggOf; try (have hq7 : BlockIs w1 wr.heap.size 25 #[.int .i64 0, .int .i64 0, .string ⟨#[]⟩, .slice none 0 0, .slice none 0 0] := BlockIs.below (w := (wr.alloc (.cells zeroF 25)).drew) (BlockIs.new wr 25 zeroF) h1 (by simp); obtain ⟨r0, r1, r2, r3, r4⟩ := five_of hq7; have t0 := hq7.frozen 0; have t1 := hq7.frozen 1; have t2 := hq7.frozen 2; have t3 := hq7.frozen 3; have t4 := hq7.frozen 4; have tl := hq7.lt)))
        all_goals
          first
            | (obtain ⟨Wf, hWf⟩ : ∃ Wf, Wf = (w1.alloc (.cells #[.int .i64 z.kind, .int .i64 z.int, .string z.text, .slice A1 z.items.length c1, .slice K1 z.keys.length d1] 25)) := ⟨_, rfl⟩; rw [← hWf]; have hbw : Below wr.heap.size wr (w1.alloc (.cells #[.int .i64 z.kind, .int .i64 z.int, .string z.text, .slice A1 z.items.length c1, .slice K1 z.keys.length d1] 25)) := below_al (below_on (Below.refl _ wr).drew h1) _; have hbx : BlockIs (w1.alloc (.cells #[.int .i64 z.kind, .int .i64 z.int, .string z.text, .slice A1 z.items.length c1, .slice K1 z.keys.length d1] 25)) w1.heap.size 25 #[.int .i64 z.kind, .int .i64 z.int, .string z.text, .slice A1 z.items.length c1, .slice K1 z.keys.length d1] := BlockIs.new _ _ _; have hz2 : Lies (w1.alloc (.cells #[.int .i64 z.kind, .int .i64 z.int, .string z.text, .slice A1 z.items.length c1, .slice K1 z.keys.length d1] 25)) B z A1 c1 K1 d1 := Lies.keep (fun b o hb => World.cell?_alloc_lt _ _ _ (by have := HG.out.old.size; have := HG.out.le; have := h1.size; simp at this ⊢; omega)) (Nat.le_refl _) _ hz; rw [← hWf] at hbw hbx hz2; clear hWf)
            | (obtain ⟨Wf, hWf⟩ : ∃ Wf, Wf = (((((w1.setCell ⟨wr.heap.size, 0, none⟩ (.int .i64 z.kind)).setCell ⟨wr.heap.size, 1, none⟩ (.int .i64 z.int)).setCell ⟨wr.heap.size, 2, none⟩ (.string z.text)).setCell ⟨wr.heap.size, 3, none⟩ (.slice A1 z.items.length c1)).setCell ⟨wr.heap.size, 4, none⟩ (.slice K1 z.keys.length d1)) := ⟨_, rfl⟩; rw [← hWf]; have hbw : Below wr.heap.size wr (((((w1.setCell ⟨wr.heap.size, 0, none⟩ (.int .i64 z.kind)).setCell ⟨wr.heap.size, 1, none⟩ (.int .i64 z.int)).setCell ⟨wr.heap.size, 2, none⟩ (.string z.text)).setCell ⟨wr.heap.size, 3, none⟩ (.slice A1 z.items.length c1)).setCell ⟨wr.heap.size, 4, none⟩ (.slice K1 z.keys.length d1)) := keepS (Lib.hid (below_on (below_al (Below.refl _ wr) _).drew h1)) (Nat.le_refl _); have hbx : BlockIs (((((w1.setCell ⟨wr.heap.size, 0, none⟩ (.int .i64 z.kind)).setCell ⟨wr.heap.size, 1, none⟩ (.int .i64 z.int)).setCell ⟨wr.heap.size, 2, none⟩ (.string z.text)).setCell ⟨wr.heap.size, 3, none⟩ (.slice A1 z.items.length c1)).setCell ⟨wr.heap.size, 4, none⟩ (.slice K1 z.keys.length d1)) wr.heap.size 25 #[.int .i64 z.kind, .int .i64 z.int, .string z.text, .slice A1 z.items.length c1, .slice K1 z.keys.length d1] := sets5 hq7; have hz2 : Lies (((((w1.setCell ⟨wr.heap.size, 0, none⟩ (.int .i64 z.kind)).setCell ⟨wr.heap.size, 1, none⟩ (.int .i64 z.int)).setCell ⟨wr.heap.size, 2, none⟩ (.string z.text)).setCell ⟨wr.heap.size, 3, none⟩ (.slice A1 z.items.length c1)).setCell ⟨wr.heap.size, 4, none⟩ (.slice K1 z.keys.length d1)) B z A1 c1 K1 d1 := Lies.keep (fun b o hb => World.cell?_of_block (put5_heap w1 wr.heap.size 0 _ _ _ _ _ (by have := HG.out.old.size; have := HG.out.le; show b ≠ wr.heap.size; omega))) (Nat.le_refl _) _ hz; rw [← hWf] at hbw hbx hz2; clear hWf)
          have HG1 := Lib.hid (HG.out.below hbw)
          obtain ⟨q0, q1, q2, q3, q4⟩ := five_of hbx
          have ql := hbx.lt
          have HZ := Lib.hid hz2
          clear b0 b1 b2 b3 b4 z0 z1 z2 z3 z4 x0 x1 x2 x3 x4 v0 v1 v2 v3 v4 bl zl h1 e0 e1 hbw hbx HKEY hz hz2
          try clear hq7 r0 r1 r2 r3 r4 t0 t1 t2 t3 t4 tl
          obtain ⟨⟨⟨b0, b1, b2, b3, b4⟩, z0, z1, z2, z3, z4⟩, ⟨⟨v0, v1, v2, v3, v4⟩, x0, x1, x2, x3, x4⟩, bl, zl⟩ := gs_facts HG1.out
          go_wp2_with fail
          go_roundw
          case rel => exact ⟨j + 1, by go_num, by omega, Lib.hid ⟨_, _, _, _, _, HG1.out.next HSJ.out HQ.out HZ.out⟩⟩
          case measure => simp [intOf]; omega
    · have hjn : ¬ ((j : Int) < n) := by omega
      have HS := Lib.hid (show R = some y from HR.out.trans (HG.out.over HN.out hlt))
      go_wp2_with fail
      refine bodyPost_ret (v := .tuple #[aggOf y A c K d, .bool true]) (by simp [results, Tryd.results34, go_sem, aggOf, V.kind, V.int, V.text, V.items, V.keys, z0, z1, z2, z3, z4]) rfl ?_
      rw [HS.out]
      exact ⟨HG.out.ends, _, _, _, _, rfl, HG.out.there⟩
end Go.Proofs.YtdlmphbaolejcaaDoor
