/- PROVED: for every list of leaves the law VariantBuilds (of at most 200 leaves, Build answers as the definition's does) returns true and leaves its argument as it reads before; the card ties the three listed tables. -/
import Derived.Test.YtchadlbhdcpojaaGreatDoorJr
import Derived.Test.YtchadlbhdcpojaaGreatDoorJs
import Derived.Test.YtchadlbhdcpojaaGreatDoorJq
import Derived.Test.YtchadlbhdcpojaaGreatDoorJu
import Derived.Test.YtchadlbhdcpojaaGreatDoorVb
import Derived.Test.YtchadlbhdcpojaaGreatDoorJn
import Derived.Test.YtchadlbhdcpojaaGreatDoorZr
import Derived.Test.YtchadlbhdcpojaaGreatDoorJg
import Derived.Test.YtchadlbhdcpojaaGreatDoorJc
import Derived.Test.YtchadlbhdcpojaaGreatDoorZc
namespace Go.Proofs.YtchadlbhdcpojaaGreatDoor
open Go.RowKit
/-- What a value that is built hangs on: what was there, and what is behind its box. -/
def PR (w : World) (g : Nat) (W : World) (b : Nat) : Prop := b < w.heap.size ∨ (g < b ∧ b < W.heap.size)
/-- The value that is built: its box, where it lies. -/
structure LR (w : World) (g : Nat) (v : V) (A : Option Addr) (c : Nat) (K : Option Addr) (d : Nat) (W : World) : Prop where
  rb : RB w W
  bx : BlockIs W g 27 #[.int .i64 v.kind, .int .i64 v.int, .string v.text, .slice A v.items.length c, .slice K v.keys.length d]
  ly : LiesIn (PR w g W) W v A c K d
  hg : w.heap.size + 1 ≤ g
section
variable {w wr w6 W W' W7 : World} {g c d c7 d7 : Nat} {v y : V} {A K A7 K7 : Option Addr} {u0 u1 u2 u3 u4 : Value} {er : Int} {e : Ending}
theorem PR.lt (hR : RB w W) {b : Nat} (h : PR w g W b) : b < W.heap.size := by
  have := hR.old.size
  rcases h with h | h
  · omega
  · exact h.2
theorem PR.wider (hs : W.heap.size ≤ W'.heap.size) {b : Nat} (h : PR w g W b) : PR w g W' b := h.imp id fun h => ⟨h.1, by omega⟩
theorem LR.on (h : LR w g v A c K d W) (hb : Below W.heap.size W W') : LR w g v A c K d W' :=
  ⟨h.rb.on hb, h.bx.below hb h.bx.lt, LiesIn.keep (fun b o hx => bcell hb b o (PR.lt h.rb hx)) (fun b hx => PR.wider hb.size hx) _ h.ly, h.hg⟩
theorem LR.start (hR : RB w W) : LR w W.heap.size nullV none 0 none 0 (W.alloc (.cells zeroF 27)) :=
  ⟨hR.on (below_al (Below.refl _ W) _), BlockIs.new W _ _, lies_leaf _ _ 0 0 _ (by decide), hR.br.lt⟩
theorem LR.store (h : LR w g v A c K d W) (hy : LiesIn (PR w g W) W y A7 c7 K7 d7) : LR w g y A7 c7 K7 d7 (put5 W g 0 (.int .i64 y.kind) (.int .i64 y.int) (.string y.text) (.slice A7 y.items.length c7) (.slice K7 y.keys.length d7)) := by
  have hg := h.hg
  have hb : Below (w.heap.size + 1) W (put5 W g 0 (.int .i64 y.kind) (.int .i64 y.int) (.string y.text) (.slice A7 y.items.length c7) (.slice K7 y.keys.length d7)) :=
    (((((Below.refl _ W).setCell hg _).setCell hg _).setCell hg _).setCell hg _).setCell hg _
  refine ⟨h.rb.fr hb, ?_, LiesIn.keep (fun b o hx => World.cell?_of_block (put5_heap W g 0 _ _ _ _ _ ?_)) (fun b hx => PR.wider (Nat.le_of_eq (put5_size W g 0 _ _ _ _ _).symm) hx) _ hy, hg⟩
  · have := ((((h.bx.set_ 0 (.int .i64 y.kind)).set_ 1 (.int .i64 y.int)).set_ 2 (.string y.text)).set_ 3 (.slice A7 y.items.length c7)).set_ 4 (.slice K7 y.keys.length d7)
    simpa [put5] using this
  · rcases hx with hx | hx
    · show b ≠ g; omega
    · show b ≠ g; omega
/-- Behind the definition's put, its box made behind. -/
theorem LR.after (h : LR w g v A c K d wr) (hl : LiesIn (fun b => PR w g wr b ∨ Fresh wr.drew w6 b) w6 y A7 c7 K7 d7) (h6 : Below wr.drew.heap.size wr.drew w6) (hW : W7 = w6.alloc (.cells #[.int .i64 y.kind, .int .i64 y.int, .string y.text, .slice A7 y.items.length c7, .slice K7 y.keys.length d7] 27)) :
    LR w g v A c K d W7 ∧ BlockIs W7 w6.heap.size 27 #[.int .i64 y.kind, .int .i64 y.int, .string y.text, .slice A7 y.items.length c7, .slice K7 y.keys.length d7] ∧ LiesIn (PR w g W7) W7 y A7 c7 K7 d7 := by
  have hb : Below wr.heap.size wr w6 := ⟨h6.os, h6.tape, h6.output, h6.size, h6.block⟩
  have hgl := h.bx.lt
  have hws := h.rb.old.size
  have hs := hb.size
  subst hW
  have h7 : Below w6.heap.size w6 (w6.alloc (.cells #[.int .i64 y.kind, .int .i64 y.int, .string y.text, .slice A7 y.items.length c7, .slice K7 y.keys.length d7] 27)) := below_al (Below.refl _ w6) _
  have h7s := h7.size
  refine ⟨h.on (below_on hb h7), BlockIs.new w6 _ _, LiesIn.keep (fun b o hx => bcell h7 b o ?_) (fun b hx => ?_) _ hl⟩
  · rcases hx with hx | hx
    · have := PR.lt h.rb hx; omega
    · exact hx.2
  · rcases hx with hx | hx
    · exact PR.wider (by omega) hx
    · refine .inr ⟨?_, ?_⟩
      · have := hx.1; have e : wr.drew.heap.size = wr.heap.size := rfl; omega
      · have := hx.2; omega
/-- Its box made ahead. -/
theorem LR.ahead (h : LR w g v A c K d wr) (hl : LiesIn (fun b => PR w g wr b ∨ Fresh (wr.drew.alloc (.cells zeroF 27)) w6 b) w6 y A7 c7 K7 d7) (h6 : Below (wr.drew.alloc (.cells zeroF 27)).heap.size (wr.drew.alloc (.cells zeroF 27)) w6) (hW : W7 = put5 w6 wr.heap.size 0 (.int .i64 y.kind) (.int .i64 y.int) (.string y.text) (.slice A7 y.items.length c7) (.slice K7 y.keys.length d7)) :
    LR w g v A c K d W7 ∧ BlockIs W7 wr.heap.size 27 #[.int .i64 y.kind, .int .i64 y.int, .string y.text, .slice A7 y.items.length c7, .slice K7 y.keys.length d7] ∧ LiesIn (PR w g W7) W7 y A7 c7 K7 d7 := by
  have hz1 : (wr.drew.alloc (.cells zeroF 27)).heap.size = wr.heap.size + 1 := by simp
  have hb : Below wr.heap.size wr w6 := (show Below wr.heap.size wr (wr.drew.alloc (.cells zeroF 27)) from below_al (Below.refl _ wr).drew _).trans (h6.mono (by omega))
  have hgl := h.bx.lt
  have hws := h.rb.old.size
  have h6s := h6.size
  have hbox : BlockIs w6 wr.heap.size 27 zeroF := (show BlockIs (wr.drew.alloc (.cells zeroF 27)) wr.heap.size 27 zeroF from BlockIs.new wr.drew _ _).below h6 (by omega)
  subst hW
  have hp : Below wr.heap.size wr (put5 w6 wr.heap.size 0 (.int .i64 y.kind) (.int .i64 y.int) (.string y.text) (.slice A7 y.items.length c7) (.slice K7 y.keys.length d7)) := below_put5 hb (Nat.le_refl _) _ _ _ _ _
  have hps := put5_size w6 wr.heap.size 0 (.int .i64 y.kind) (.int .i64 y.int) (.string y.text) (.slice A7 y.items.length c7) (.slice K7 y.keys.length d7)
  refine ⟨h.on hp, ?_, LiesIn.keep (fun b o hx => World.cell?_of_block (put5_heap _ _ _ _ _ _ _ _ ?_)) (fun b hx => ?_) _ hl⟩
  · have := ((((hbox.set_ 0 (.int .i64 y.kind)).set_ 1 (.int .i64 y.int)).set_ 2 (.string y.text)).set_ 3 (.slice A7 y.items.length c7)).set_ 4 (.slice K7 y.keys.length d7)
    simpa [put5, zeroF] using this
  · show b ≠ wr.heap.size
    rcases hx with hx | hx
    · have := PR.lt h.rb hx; omega
    · have := hx.1; omega
  · rcases hx with hx | hx
    · exact PR.wider (by rw [hps]; omega) hx
    · refine .inr ⟨?_, ?_⟩
      · have := hx.1; omega
      · rw [hps]; exact hx.2
theorem RB.goodR (h : RB w W) (hy : LiesIn (PR w g W) W y A c K d) (hg : w.heap.size + 1 ≤ g) : PutAns (y, 0) w (.returned (.tuple #[aggOf y A c K d, .int .i64 0])) (put5 W w.heap.size 0 u0 u1 u2 u3 u4) := by
  have hs := put5_size W w.heap.size 0 u0 u1 u2 u3 u4
  refine ⟨A, c, K, d, rfl, LiesIn.lies (fun b hb => hb) y (LiesIn.keep (fun b o hb => World.cell?_of_block (put5_heap W w.heap.size 0 u0 u1 u2 u3 u4 ?_)) (fun b hb => by rw [hs]; exact PR.lt h hb) _ hy), h.ends⟩
  rcases (show PR w g W b from hb) with hb | hb
  · show b ≠ w.heap.size; omega
  · show b ≠ w.heap.size; omega
theorem box_leaf {b q : Nat} {x0 x1 x2 x3 x4 y0 y1 y2 y3 y4 y5 : Value} (hb : Below wr.heap.size wr W) (h1 : g < wr.heap.size) (h2 : b < wr.heap.size)
    (hx : wr.cell? ⟨g, 0, none⟩ = some x0 ∧ wr.cell? ⟨g, 1, none⟩ = some x1 ∧ wr.cell? ⟨g, 2, none⟩ = some x2 ∧ wr.cell? ⟨g, 3, none⟩ = some x3 ∧ wr.cell? ⟨g, 4, none⟩ = some x4)
    (hy : wr.cell? ⟨b, q, none⟩ = some y0 ∧ wr.cell? ⟨b, q + 1, none⟩ = some y1 ∧ wr.cell? ⟨b, q + 2, none⟩ = some y2 ∧ wr.cell? ⟨b, q + 3, none⟩ = some y3 ∧ wr.cell? ⟨b, q + 4, none⟩ = some y4 ∧ wr.cell? ⟨b, q + 5, none⟩ = some y5) :
    Hid (Below wr.heap.size wr W) ∧ (W.cell? ⟨g, 0, none⟩ = some x0 ∧ W.cell? ⟨g, 1, none⟩ = some x1 ∧ W.cell? ⟨g, 2, none⟩ = some x2 ∧ W.cell? ⟨g, 3, none⟩ = some x3 ∧ W.cell? ⟨g, 4, none⟩ = some x4) ∧ (W.cell? ⟨b, q, none⟩ = some y0 ∧ W.cell? ⟨b, q + 1, none⟩ = some y1 ∧ W.cell? ⟨b, q + 2, none⟩ = some y2 ∧ W.cell? ⟨b, q + 3, none⟩ = some y3 ∧ W.cell? ⟨b, q + 4, none⟩ = some y4 ∧ W.cell? ⟨b, q + 5, none⟩ = some y5) := by
  obtain ⟨e0, e1, e2, e3, e4⟩ := hx
  obtain ⟨f0, f1, f2, f3, f4, f5⟩ := hy
  exact ⟨Lib.hid hb, ⟨(bcell hb _ _ h1).trans e0, (bcell hb _ _ h1).trans e1, (bcell hb _ _ h1).trans e2, (bcell hb _ _ h1).trans e3, (bcell hb _ _ h1).trans e4⟩, (bcell hb _ _ h2).trans f0, (bcell hb _ _ h2).trans f1, (bcell hb _ _ h2).trans f2, (bcell hb _ _ h2).trans f3, (bcell hb _ _ h2).trans f4, (bcell hb _ _ h2).trans f5⟩
end
/-- How far leaves are laid by the definition. -/
def RLaid (w : World) (g n : Nat) (l : List Lf) (j : Nat) (W : World) : Prop :=
  ∃ v A c K d, LR w g v A c K d W ∧ v.ok = true ∧ v.nodes ≤ 1 + 66 * j ∧ putsV v (l.drop j) = putsV nullV l ∧ n = l.length
theorem putR_of {v z : V} {p : List Stp} {y : V} {er : Int} (h : putR v p z = (y, er)) : (putV v p z).2 = er ∧ (er = 0 → putV v p z = (y, 0)) := by
  unfold putR at h
  split at h
  · rename_i h0
    have : er = 0 := by have e : (putV v p z).2 = er := congrArg Prod.snd h; rw [← e]; exact h0
    exact ⟨by rw [h0, this], fun _ => by rw [h, this]⟩
  · rename_i h0
    have he : (putV v p z).2 = er := congrArg Prod.snd h
    exact ⟨he, fun e => absurd (he.trans e) h0⟩
set_option maxRecDepth 100000 in
set_option maxHeartbeats 4000000 in
theorem refBuild_any (l : List Lf) (w : World) (Al : Option Addr) (cl : Nat) (hl : LeafRow (fun b => b < w.heap.size) w Al cl l) :
    Calls Tryz.prog 6 #[.slice Al l.length cl] w (PutAns (buildOut l) w) := by
  obtain ⟨n, hn⟩ : ∃ n, n = l.length := ⟨_, rfl⟩
  have HN := Lib.hid hn
  have HL := Lib.hid fun W (hW : Below w.heap.size w W) => LeafRow.keep (P' := fun b => b < w.heap.size) (fun b o hb => bcell hW b o hb) (fun _ h => h) hl
  have hnl : n ≤ maxLen := by have := hl.1; have := hl.2.1; omega
  have hnc : n ≤ cl := by have := hl.1; omega
  have hcl := hl.2.1
  unfold maxLen at hnl hcl
  obtain ⟨out, hout⟩ : ∃ out, out = buildOut l := ⟨_, rfl⟩
  have HOUT := Lib.hid hout
  rw [← hn, ← hout]
  clear hl hn hout
  go_enter Tryz.func6, Tryz.ntmps6
  go_wp2_with fail
  go_loopw [4] (fun iv wr => ∃ j : Nat, iv = .int .i64 j ∧ j ≤ n ∧ Hid (RB w wr ∧ ∀ (i : Nat) (x : Lf), i < j → l[i]? = some x → (pathB x.1 && x.2.valid) = true)) (fun iv _ => n - (intOf iv).toNat)
  case atStart => exact ⟨0, rfl, Nat.zero_le _, Lib.hid ⟨RB.start w, fun i x h => by omega⟩⟩
  case round =>
    obtain ⟨j, rfl, hj1, hI⟩ := hrel
    by_cases hlt : j < n
    · obtain ⟨x, hx⟩ : ∃ x, l[j]? = some x := ⟨_, List.getElem?_eq_getElem (by rw [← HN.out]; exact hlt)⟩
      obtain ⟨b, o, Ap, cp, A', c', K', d', rfl, hb, hcs, hp, hv⟩ := (HL.out _ hI.out.1.old).at_ hx
      have hws := hI.out.1.old.size
      have hbw : b < wr.heap.size := by omega
      obtain ⟨bp, hbp⟩ : ∃ q, pathB x.1 = q := ⟨_, rfl⟩
      obtain ⟨bv, hbv⟩ : ∃ q, x.2.valid = q := ⟨_, rfl⟩
      have HP := Lib.hid ((refPathValid_any x.1 wr Ap cp (hp.lies (fun b hb => by omega))).mono (R' := fun e w' => e = .returned (.bool bp) ∧ Below wr.heap.size wr w') fun e w' h => ⟨by rw [← hbp]; exact h.1, by rw [h.2]; exact Below.refl _ wr⟩)
      have HV := Lib.hid fun W (hW : Below wr.heap.size wr W) => show Calls Tryz.prog 22 #[.agg #[.int .i64 x.2.kind, .int .i64 x.2.int, .string x.2.text, .slice A' x.2.items.length c', .slice K' x.2.keys.length d']] W (fun e w' => e = .returned (.bool bv) ∧ Below W.heap.size W w') from by
        rw [← hbv]; exact refValid_any x.2 W A' K' c' d' (lies_on (LiesIn.lies (fun b hb => by omega) x.2 hv) hW)
      have HX := Lib.hid hx
      have HBB := Lib.hid (And.intro hbp hbv)
      have HR := Lib.hid hI.out.1
      have HCS := Lib.hid hcs
      have hji : (j : Int) < n := by omega
      have hj0 : 0 ≤ (j : Int) := by omega
      obtain ⟨c0, c1, c2, c3, c4, c5⟩ := hcs
      clear hp hv hb hx hbp hbv hws
      go_wp2_with fail
      refine HP.out.mono ?_
      rintro e w1 ⟨rfl, h1⟩
      have HR1 := Lib.hid (HR.out.on h1)
      have H1 := Lib.hid h1
      clear c0 c1 c2 c3 c4 c5 HP HR
      cases bp
      · have HO := Lib.hid (show out = (nullV, 1) by
          rw [HOUT.out, buildOut, if_neg]
          intro e
          have := (formB_at e HX.out).1
          rw [HBB.out.1] at this; cases this)
        clear h1
        obtain ⟨z0, z1, z2, z3, z4⟩ := five_of (show BlockIs w1 w.heap.size 27 #[.int .i64 0, .int .i64 0, .string ⟨#[]⟩, .slice none 0 0, .slice none 0 0] from HR1.out.br)
        have y0 := HR1.out.br.frozen 0
        have y1 := HR1.out.br.frozen 1
        have y2 := HR1.out.br.frozen 2
        have y3 := HR1.out.br.frozen 3
        have y4 := HR1.out.br.frozen 4
        have zl := HR1.out.br.lt
        go_wp2_with fail
        refine bodyPost_ret (v := .tuple #[aggOf (leaf 0 0 ⟨#[]⟩) none 0 none 0, .int .i64 1]) (by simp [results, Tryz.results6, go_sem, aggOf, leaf, V.kind, V.int, V.text, V.items, V.keys, z0, z1, z2, z3, z4]) rfl ?_
        rw [HO.out]
        exact RB.bad 1 HR1.out
      · obtain ⟨c0, c1, c2, c3, c4, c5⟩ := HCS.out
        have c0 := (bcell h1 b _ hbw).trans c0
        have c1 := (bcell h1 b _ hbw).trans c1
        have c2 := (bcell h1 b _ hbw).trans c2
        have c3 := (bcell h1 b _ hbw).trans c3
        have c4 := (bcell h1 b _ hbw).trans c4
        have c5 := (bcell h1 b _ hbw).trans c5
        have hbw1 : b < w1.heap.size := by have := h1.size; omega
        clear h1
        go_wp2_with fail
        refine (HV.out _ H1.out).mono ?_
        rintro e w2 ⟨rfl, h2⟩
        have HR2 := Lib.hid (HR1.out.on h2)
        clear h2 c0 c1 c2 c3 c4 c5 HR1 HV H1 HCS
        cases bv
        · have HO := Lib.hid (show out = (nullV, 1) by
            rw [HOUT.out, buildOut, if_neg]
            intro e
            have := (formB_at e HX.out).2
            rw [HBB.out.2] at this; cases this)
          obtain ⟨z0, z1, z2, z3, z4⟩ := five_of (show BlockIs w2 w.heap.size 27 #[.int .i64 0, .int .i64 0, .string ⟨#[]⟩, .slice none 0 0, .slice none 0 0] from HR2.out.br)
          have y0 := HR2.out.br.frozen 0
          have y1 := HR2.out.br.frozen 1
          have y2 := HR2.out.br.frozen 2
          have y3 := HR2.out.br.frozen 3
          have y4 := HR2.out.br.frozen 4
          have zl := HR2.out.br.lt
          go_wp2_with fail
          refine bodyPost_ret (v := .tuple #[aggOf (leaf 0 0 ⟨#[]⟩) none 0 none 0, .int .i64 1]) (by simp [results, Tryz.results6, go_sem, aggOf, leaf, V.kind, V.int, V.text, V.items, V.keys, z0, z1, z2, z3, z4]) rfl ?_
          rw [HO.out]
          exact RB.bad 1 HR2.out
        · go_wp2_with fail
          go_roundw
          case rel =>
            refine ⟨j + 1, by go_num, by omega, Lib.hid ⟨HR2.out, fun i y hi hy => ?_⟩⟩
            by_cases e : i = j
            · subst e
              rw [HX.out] at hy
              cases hy
              rw [HBB.out.1, HBB.out.2]; rfl
            · exact hI.out.2 i y (by omega) hy
          case measure => simp [intOf]; omega
    · have hjn : ¬ (j : Int) < n := by omega
      have HF := Lib.hid (show formB l = true by
        unfold formB
        rw [List.all_eq_true]
        intro y hy
        obtain ⟨i, hi, he⟩ := List.getElem_of_mem hy
        exact hI.out.2 i y (by rw [← HN.out] at hi; omega) (by rw [List.getElem?_eq_getElem hi, he]))
      have HR := Lib.hid hI.out.1
      clear hI
      by_cases h60 : 60 < n
      · have h60i : (60 : Int) < n := by omega
        have HO := Lib.hid (show out = (nullV, 3) by rw [HOUT.out, buildOut, if_pos HF.out, if_pos (by rw [← HN.out]; exact h60)])
        obtain ⟨z0, z1, z2, z3, z4⟩ := five_of (show BlockIs wr w.heap.size 27 #[.int .i64 0, .int .i64 0, .string ⟨#[]⟩, .slice none 0 0, .slice none 0 0] from HR.out.br)
        have y0 := HR.out.br.frozen 0
        have y1 := HR.out.br.frozen 1
        have y2 := HR.out.br.frozen 2
        have y3 := HR.out.br.frozen 3
        have y4 := HR.out.br.frozen 4
        have zl := HR.out.br.lt
        go_wp2_with fail
        refine bodyPost_ret (v := .tuple #[aggOf (leaf 0 0 ⟨#[]⟩) none 0 none 0, .int .i64 3]) (by simp [results, Tryz.results6, go_sem, aggOf, leaf, V.kind, V.int, V.text, V.items, V.keys, z0, z1, z2, z3, z4]) rfl ?_
        rw [HO.out]
        exact RB.bad 3 HR.out
      · have h60i : ¬ (60 : Int) < n := by omega
        obtain ⟨g, hg⟩ : ∃ g, g = wr.heap.size := ⟨_, rfl⟩
        have HST := Lib.hid (show RLaid w g n l 0 (wr.alloc (.cells zeroF 27)) from ⟨nullV, none, 0, none, 0, by rw [hg]; exact LR.start HR.out, nullV_ok, by decide, rfl, HN.out⟩)
        go_wp2_with fail
        rw [← hg]
        clear hg h60i hjn hlt HR
        go_loopw [6] (fun iv wr => ∃ j : Nat, iv = .int .i64 j ∧ j ≤ n ∧ Hid (RLaid w g n l j wr)) (fun iv _ => n - (intOf iv).toNat)
        case atStart => exact ⟨0, rfl, Nat.zero_le _, HST⟩
        case round =>
          clear HST
          obtain ⟨i, rfl, hi1, hI2⟩ := hrel
          by_cases hlt2 : i < n
          · obtain ⟨x, hx⟩ : ∃ x, l[i]? = some x := ⟨_, List.getElem?_eq_getElem (by rw [← HN.out]; exact hlt2)⟩
            obtain ⟨v, A, c, K, d, hLR, hok, hnn, hput, -⟩ := hI2.out
            obtain ⟨b, o, Ap, cp, A', c', K', d', rfl, hb, hcs, hp, hv⟩ := (HL.out _ hLR.rb.old).at_ hx
            have hws := hLR.rb.old.size
            obtain ⟨hpb, hvb⟩ := formB_at HF.out hx
            have hstep := putsV_step (v := v) hx
            have hpo := puts_step HF.out hx hok hnn
            obtain ⟨y, er, hq⟩ : ∃ y er, putR v x.1 x.2 = (y, er) := ⟨_, _, rfl⟩
            obtain ⟨hq1, hq2⟩ := putR_of hq
            have HC := Lib.hid fun X (hX : Below wr.heap.size wr X) => box_leaf hX hLR.bx.lt (show b < wr.heap.size by omega) (five_of hLR.bx) hcs
            have HPT := Lib.hid fun X (hX : Below wr.heap.size wr X) => show Calls Tryz.prog 23 #[.agg #[.int .i64 v.kind, .int .i64 v.int, .string v.text, .slice A v.items.length c, .slice K v.keys.length d], .slice Ap x.1.length cp, .agg #[.int .i64 x.2.kind, .int .i64 x.2.int, .string x.2.text, .slice A' x.2.items.length c', .slice K' x.2.keys.length d']] X (fun e w' => ∃ A7 c7 K7 d7, e = .returned (.tuple #[.agg #[.int .i64 y.kind, .int .i64 y.int, .string y.text, .slice A7 y.items.length c7, .slice K7 y.keys.length d7], .int .i64 er]) ∧ LiesIn (fun b => PR w g wr b ∨ Fresh X w' b) w' y A7 c7 K7 d7 ∧ Below X.heap.size X w') from by
              have := refPutQ_any (PR w g wr) x.2 A' K' c' d' x.1 (by unfold pathB at hpb; rw [Bool.and_eq_true] at hpb; exact hpb.2) v hok (by omega) X A K c d Ap cp (fun b hb => by have := PR.lt hLR.rb hb; have := hX.size; omega) (LiesIn.keep (fun b o hb => bcell hX b o (PR.lt hLR.rb hb)) (fun _ h => h) v hLR.ly) ((hp.lies (fun b hb => by omega : ∀ b, b < w.heap.size → b < wr.heap.size)).on hX) (LiesIn.keep (fun b o hb => bcell hX b o (by omega)) (fun b hb => .inl hb) x.2 hv)
              rw [hq] at this
              exact this
            have HS := Lib.hid (And.intro hLR (And.intro hput (And.intro hstep (And.intro hpo (And.intro hq1 hq2)))))
            have HG := Lib.hid hLR.hg
            have hji : (i : Int) < n := by omega
            have hj0 : 0 ≤ (i : Int) := by omega
            clear hx hLR hok hnn hput hb hp hv hpb hvb hstep hpo hq hq1 hq2 hI2 hws hcs
            go_upto_region 12 with (fail)
            refine wp_region_held_drew (S := (fun X : World => Hid (Below wr.heap.size wr X) ∧ (X.cell? ⟨g, 0, none⟩ = some (.int .i64 v.kind) ∧ X.cell? ⟨g, 1, none⟩ = some (.int .i64 v.int) ∧ X.cell? ⟨g, 2, none⟩ = some (.string v.text) ∧ X.cell? ⟨g, 3, none⟩ = some (.slice A v.items.length c) ∧ X.cell? ⟨g, 4, none⟩ = some (.slice K v.keys.length d)) ∧ (X.cell? ⟨b, o + i * 6, none⟩ = some (.slice Ap x.1.length cp) ∧ X.cell? ⟨b, o + i * 6 + 1, none⟩ = some (.int .i64 x.2.kind) ∧ X.cell? ⟨b, o + i * 6 + 2, none⟩ = some (.int .i64 x.2.int) ∧ X.cell? ⟨b, o + i * 6 + 3, none⟩ = some (.string x.2.text) ∧ X.cell? ⟨b, o + i * 6 + 4, none⟩ = some (.slice A' x.2.items.length c') ∧ X.cell? ⟨b, o + i * 6 + 5, none⟩ = some (.slice K' x.2.keys.length d')))) (by kernel_rfl) (HC.out _ (Below.drew (Below.refl _ wr))) (fun hH0 => ?_)
            refine wpAnyH_take (i := 0) (oi := { dst := some 43, op := Go.Op.load 27 (Go.Operand.tmp 5), type := 27, pos := "ref.go:238", after := #[], guard := none }) (v := ?_) rfl (by kernel_rfl) (by kernel_rfl) (by kernel_rfl) (fun _ _ _ h => h) (Or.inl ⟨by rfl, ?_⟩) (by assumption) ?_
            rotate_left
            · (intro w hSw; (try dsimp only at hSw); go_simp; try with_reducible rfl)
            (try simp only [Act.put, List.setIfInBounds_toArray, List.set_cons_zero, List.set_cons_succ])
            refine wpAnyH_take (i := 1) (oi := { dst := some 44, op := Go.Op.move (Go.Operand.tmp 0), type := 22, pos := "ref.go:238", after := #[], guard := none }) (v := ?_) rfl (by kernel_rfl) (by kernel_rfl) (by kernel_rfl) (fun _ _ _ h => h) (Or.inl ⟨by rfl, ?_⟩) (by assumption) ?_
            rotate_left
            · (intro w hSw; (try dsimp only at hSw); go_simp; try with_reducible rfl)
            (try simp only [Act.put, List.setIfInBounds_toArray, List.set_cons_zero, List.set_cons_succ])
            refine wpAnyH_take (i := 2) (oi := { dst := some 45, op := Go.Op.move (Go.Operand.tmp 6), type := 3, pos := "ref.go:238", after := #[], guard := none }) (v := ?_) rfl (by kernel_rfl) (by kernel_rfl) (by kernel_rfl) (fun _ _ _ h => h) (Or.inl ⟨by rfl, ?_⟩) (by assumption) ?_
            rotate_left
            · (intro w hSw; (try dsimp only at hSw); go_simp; try with_reducible rfl)
            (try simp only [Act.put, List.setIfInBounds_toArray, List.set_cons_zero, List.set_cons_succ])
            refine wpAnyH_take (i := 3) (oi := { dst := some 46, op := Go.Op.indexAddr 22 (Go.Operand.tmp 44) (Go.Operand.tmp 45), type := 0, pos := "ref.go:238", after := #[{ on := 1, ground := Go.Ground.data }, { on := 2, ground := Go.Ground.data }], guard := none }) (v := ?_) rfl (by kernel_rfl) (by kernel_rfl) (by kernel_rfl) (fun _ _ _ h => h) (Or.inl ⟨by rfl, ?_⟩) (by assumption) ?_
            rotate_left
            · (intro w hSw; (try dsimp only at hSw); go_simp; try with_reducible rfl)
            (try simp only [Act.put, List.setIfInBounds_toArray, List.set_cons_zero, List.set_cons_succ])
            refine wpAnyH_take (i := 4) (oi := { dst := some 47, op := Go.Op.fieldAddr 47 (Go.Operand.tmp 46) 0, type := 0, pos := "ref.go:238", after := #[{ on := 3, ground := Go.Ground.data }], guard := none }) (v := ?_) rfl (by kernel_rfl) (by kernel_rfl) (by kernel_rfl) (fun _ _ _ h => h) (Or.inl ⟨by rfl, ?_⟩) (by assumption) ?_
            rotate_left
            · (intro w hSw; (try dsimp only at hSw); go_simp; try with_reducible rfl)
            (try simp only [Act.put, List.setIfInBounds_toArray, List.set_cons_zero, List.set_cons_succ])
            refine wpAnyH_take (i := 5) (oi := { dst := some 48, op := Go.Op.load 36 (Go.Operand.tmp 47), type := 36, pos := "ref.go:238", after := #[{ on := 4, ground := Go.Ground.data }], guard := none }) (v := ?_) rfl (by kernel_rfl) (by kernel_rfl) (by kernel_rfl) (fun _ _ _ h => h) (Or.inl ⟨by rfl, ?_⟩) (by assumption) ?_
            rotate_left
            · (intro w hSw; (try dsimp only at hSw); go_simp; try with_reducible rfl)
            (try simp only [Act.put, List.setIfInBounds_toArray, List.set_cons_zero, List.set_cons_succ])
            refine wpAnyH_take (i := 6) (oi := { dst := some 49, op := Go.Op.move (Go.Operand.tmp 0), type := 22, pos := "ref.go:238", after := #[], guard := none }) (v := ?_) rfl (by kernel_rfl) (by kernel_rfl) (by kernel_rfl) (fun _ _ _ h => h) (Or.inl ⟨by rfl, ?_⟩) (by assumption) ?_
            rotate_left
            · (intro w hSw; (try dsimp only at hSw); go_simp; try with_reducible rfl)
            (try simp only [Act.put, List.setIfInBounds_toArray, List.set_cons_zero, List.set_cons_succ])
            refine wpAnyH_take (i := 7) (oi := { dst := some 50, op := Go.Op.move (Go.Operand.tmp 6), type := 3, pos := "ref.go:238", after := #[], guard := none }) (v := ?_) rfl (by kernel_rfl) (by kernel_rfl) (by kernel_rfl) (fun _ _ _ h => h) (Or.inl ⟨by rfl, ?_⟩) (by assumption) ?_
            rotate_left
            · (intro w hSw; (try dsimp only at hSw); go_simp; try with_reducible rfl)
            (try simp only [Act.put, List.setIfInBounds_toArray, List.set_cons_zero, List.set_cons_succ])
            refine wpAnyH_take (i := 8) (oi := { dst := some 51, op := Go.Op.indexAddr 22 (Go.Operand.tmp 49) (Go.Operand.tmp 50), type := 0, pos := "ref.go:238", after := #[{ on := 6, ground := Go.Ground.data }, { on := 7, ground := Go.Ground.data }], guard := none }) (v := ?_) rfl (by kernel_rfl) (by kernel_rfl) (by kernel_rfl) (fun _ _ _ h => h) (Or.inl ⟨by rfl, ?_⟩) (by assumption) ?_
            rotate_left
            · (intro w hSw; (try dsimp only at hSw); go_simp; try with_reducible rfl)
            (try simp only [Act.put, List.setIfInBounds_toArray, List.set_cons_zero, List.set_cons_succ])
            refine wpAnyH_take (i := 9) (oi := { dst := some 52, op := Go.Op.fieldAddr 47 (Go.Operand.tmp 51) 1, type := 0, pos := "ref.go:238", after := #[{ on := 8, ground := Go.Ground.data }], guard := none }) (v := ?_) rfl (by kernel_rfl) (by kernel_rfl) (by kernel_rfl) (fun _ _ _ h => h) (Or.inl ⟨by rfl, ?_⟩) (by assumption) ?_
            rotate_left
            · (intro w hSw; (try dsimp only at hSw); go_simp; try with_reducible rfl)
            (try simp only [Act.put, List.setIfInBounds_toArray, List.set_cons_zero, List.set_cons_succ])
            refine wpAnyH_take (i := 10) (oi := { dst := some 53, op := Go.Op.load 27 (Go.Operand.tmp 52), type := 27, pos := "ref.go:238", after := #[{ on := 9, ground := Go.Ground.data }], guard := none }) (v := ?_) rfl (by kernel_rfl) (by kernel_rfl) (by kernel_rfl) (fun _ _ _ h => h) (Or.inl ⟨by rfl, ?_⟩) (by assumption) ?_
            rotate_left
            · (intro w hSw; (try dsimp only at hSw); go_simp; try with_reducible rfl)
            (try simp only [Act.put, List.setIfInBounds_toArray, List.set_cons_zero, List.set_cons_succ])
            refine wpAnyH_ready (rs := [11, 15]) (by kernel_rfl) (by simp) ?_
            refine AllReadyH.cons (o := { dst := some 54, op := Go.Op.call { callee := Go.Callee.value (Go.Operand.func 23), args := #[Go.Operand.tmp 43, Go.Operand.tmp 48, Go.Operand.tmp 53], argTypes := #[27, 36, 27] }, type := 29, pos := "ref.go:238", after := #[{ on := 0, ground := Go.Ground.data }, { on := 5, ground := Go.Ground.data }, { on := 10, ground := Go.Ground.data }], guard := none }) rfl (fun KK hK => ?_) (AllReadyH.cons (o := { dst := some 7, op := Go.Op.alloc 27, type := 0, pos := "ref.go:238", after := #[], guard := none }) rfl (fun KK hK => ?_) (AllReadyH.nil))
            · go_simp
              refine (HPT.out _ hH0.1.out).mono ?_
              rintro e w6 ⟨A7, c7, K7, d7, rfl, hl6, h6⟩
              have hb6 := below_on hH0.1.out h6
              (try go_wp2_with fail)
              refine hK.out _ _ (HC.out _ hb6) (fun hH1 => ?_)
              clear hK KK
              (try simp only [Act.put, List.setIfInBounds_toArray, List.set_cons_zero, List.set_cons_succ])
              refine wpAnyH_take (i := 12) (oi := { dst := some 42, op := Go.Op.move (Go.Operand.tmp 54), type := 29, pos := "ref.go:238", after := #[{ on := 11, ground := Go.Ground.data }], guard := none }) (v := ?_) rfl (by kernel_rfl) (by kernel_rfl) (by kernel_rfl) (fun _ _ _ h => h) (Or.inl ⟨by rfl, ?_⟩) (by assumption) ?_
              rotate_left
              · (intro w hSw; (try dsimp only at hSw); go_simp; try with_reducible rfl)
              (try simp only [Act.put, List.setIfInBounds_toArray, List.set_cons_zero, List.set_cons_succ])
              refine wpAnyH_take (i := 13) (oi := { dst := some 55, op := Go.Op.extract (Go.Operand.tmp 42) 0, type := 27, pos := "ref.go:238", after := #[{ on := 12, ground := Go.Ground.data }], guard := none }) (v := ?_) rfl (by kernel_rfl) (by kernel_rfl) (by kernel_rfl) (fun _ _ _ h => h) (Or.inl ⟨by rfl, ?_⟩) (by assumption) ?_
              rotate_left
              · (intro w hSw; (try dsimp only at hSw); go_simp; try with_reducible rfl)
              (try simp only [Act.put, List.setIfInBounds_toArray, List.set_cons_zero, List.set_cons_succ])
              refine wpAnyH_take (i := 14) (oi := { dst := some 56, op := Go.Op.extract (Go.Operand.tmp 42) 1, type := 28, pos := "ref.go:238", after := #[{ on := 12, ground := Go.Ground.data }, { on := 16, ground := Go.Ground.gcOnly Go.Departure.lateStores }], guard := none }) (v := ?_) rfl (by kernel_rfl) (by kernel_rfl) (by kernel_rfl) (fun _ _ _ h => h) (Or.inl ⟨by rfl, ?_⟩) (by assumption) ?_
              rotate_left
              · (intro w hSw; (try dsimp only at hSw); go_simp; try with_reducible rfl)
              (try simp only [Act.put, List.setIfInBounds_toArray, List.set_cons_zero, List.set_cons_succ])
              refine wpAnyH_ready (rs := [15]) (by kernel_rfl) (by simp) ?_
              refine AllReadyH.cons (o := { dst := some 7, op := Go.Op.alloc 27, type := 0, pos := "ref.go:238", after := #[], guard := none }) rfl (fun KK hK => ?_) (AllReadyH.nil)
              · go_simp
                refine hK.out _ _ (HC.out _ (below_al hH1.1.out _)) (fun hH2 => ?_)
                clear hK KK
                (try simp only [Act.put, List.setIfInBounds_toArray, List.set_cons_zero, List.set_cons_succ])
                refine wpAnyH_ready (rs := [16]) (by kernel_rfl) (by simp) ?_
                refine AllReadyH.cons (o := { dst := none, op := Go.Op.store 27 (Go.Operand.tmp 7) (Go.Operand.tmp 55), type := 0, pos := "ref.go:238", after := #[{ on := 15, ground := Go.Ground.data }, { on := 13, ground := Go.Ground.data }, { on := 11, ground := Go.Ground.chain }, { on := 0, ground := Go.Ground.phase }, { on := 1, ground := Go.Ground.phase }, { on := 2, ground := Go.Ground.phase }, { on := 3, ground := Go.Ground.phase }, { on := 4, ground := Go.Ground.phase }, { on := 5, ground := Go.Ground.phase }, { on := 6, ground := Go.Ground.phase }, { on := 7, ground := Go.Ground.phase }, { on := 8, ground := Go.Ground.phase }, { on := 9, ground := Go.Ground.phase }, { on := 10, ground := Go.Ground.phase }, { on := 11, ground := Go.Ground.phase }, { on := 12, ground := Go.Ground.phase }, { on := 13, ground := Go.Ground.phase }, { on := 14, ground := Go.Ground.textOnly Go.Departure.lateStores }, { on := 15, ground := Go.Ground.phase }], guard := none }) rfl (fun KK hK => ?_) (AllReadyH.nil)
                · go_simp
                  refine hK.out _ _ (HC.out _ (by first | exact below_al hb6 _ | exact ((((hb6.setCell (Nat.le_refl _) _).setCell (Nat.le_refl _) _).setCell (Nat.le_refl _) _).setCell (Nat.le_refl _) _).setCell (Nat.le_refl _) _)) (fun hH3 => ?_)
                  clear hK KK
                  (try simp only [Act.put, List.setIfInBounds_toArray, List.set_cons_zero, List.set_cons_succ])
                  refine wpAnyH_take (i := 17) (oi := { dst := some 8, op := Go.Op.assign (Go.Operand.tmp 56), type := 28, pos := "ref.go:238", after := #[{ on := 14, ground := Go.Ground.data }, { on := 16, ground := Go.Ground.chain }, { on := 0, ground := Go.Ground.phase }, { on := 1, ground := Go.Ground.phase }, { on := 2, ground := Go.Ground.phase }, { on := 3, ground := Go.Ground.phase }, { on := 4, ground := Go.Ground.phase }, { on := 5, ground := Go.Ground.phase }, { on := 6, ground := Go.Ground.phase }, { on := 7, ground := Go.Ground.phase }, { on := 8, ground := Go.Ground.phase }, { on := 9, ground := Go.Ground.phase }, { on := 10, ground := Go.Ground.phase }, { on := 11, ground := Go.Ground.phase }, { on := 12, ground := Go.Ground.phase }, { on := 13, ground := Go.Ground.phase }, { on := 14, ground := Go.Ground.phase }, { on := 15, ground := Go.Ground.phase }, { on := 16, ground := Go.Ground.phase }], guard := none }) (v := ?_) rfl (by kernel_rfl) (by kernel_rfl) (by kernel_rfl) (fun _ _ _ h => h) (Or.inl ⟨by rfl, ?_⟩) (by assumption) ?_
                  rotate_left
                  · (intro w hSw; (try dsimp only at hSw); go_simp; try with_reducible rfl)
                  (try simp only [Act.put, List.setIfInBounds_toArray, List.set_cons_zero, List.set_cons_succ])
                  refine wpAnyH_done (by kernel_rfl) ?_ _
                  obtain ⟨W7, hW7⟩ : ∃ W7, W7 = w6.alloc (.cells #[.int .i64 y.kind, .int .i64 y.int, .string y.text, .slice A7 y.items.length c7, .slice K7 y.keys.length d7] 27) := ⟨_, rfl⟩
                  have H7 := Lib.hid (HS.out.1.after hl6 h6 hW7)
                  rw [← hW7]
                  obtain ⟨h, hh⟩ : ∃ h, h = w6.heap.size := ⟨_, rfl⟩
                  rw [← hh] at H7 ⊢
                  clear hH0 hH1 hH2 hH3 hb6 hl6 h6 hh hW7 HC HPT
                  have HR7 := Lib.hid H7.out.1.rb
                  obtain ⟨x0, x1, x2, x3, x4⟩ := five_of H7.out.2.1
                  have xl := H7.out.2.1.lt
                  by_cases h0 : er = 0
                  · have k0 : (er != 0) = false := by simp [h0]
                    have H0 := Lib.hid h0
                    obtain ⟨v0, v1, v2, v3, v4⟩ := five_of H7.out.1.bx
                    obtain ⟨f0, f1, f2, f3, f4⟩ : (W7.frozen? ⟨g, 0, none⟩ = false ∧ W7.frozen? ⟨g, 1, none⟩ = false ∧ W7.frozen? ⟨g, 2, none⟩ = false ∧ W7.frozen? ⟨g, 3, none⟩ = false ∧ W7.frozen? ⟨g, 4, none⟩ = false) := ⟨H7.out.1.bx.frozen 0, H7.out.1.bx.frozen 1, H7.out.1.bx.frozen 2, H7.out.1.bx.frozen 3, H7.out.1.bx.frozen 4⟩
                    have vl := H7.out.1.bx.lt
                    clear h0
                    go_wp2_with fail
                    go_roundw
                    case rel =>
                      obtain ⟨-, hput, hstep, hpo, hq1, hq2⟩ := HS.out
                      have e0 := H0.out
                      have hpo := hpo (hq1.trans e0)
                      have hpv := hq2 e0
                      rw [if_pos (hq1.trans e0), hpv] at hstep
                      rw [hpv] at hpo
                      exact ⟨i + 1, by go_num, by omega, Lib.hid ⟨y, A7, c7, K7, d7, H7.out.1.store H7.out.2.2, hpo.1, hpo.2, hstep.symm.trans hput, HN.out⟩⟩
                    case measure => simp [intOf]; omega
                  · have k0 : (er != 0) = true := by simp [h0]
                    have HO := Lib.hid (show out = (nullV, 3) by
                      obtain ⟨-, hput, hstep, hpo, hq1, -⟩ := HS.out
                      rw [if_neg (by rw [hq1]; exact h0)] at hstep
                      rw [HOUT.out, buildOut, if_pos HF.out, if_neg (by rw [← HN.out]; exact h60), if_neg]
                      rintro ⟨e, -⟩
                      rw [← hput, hstep] at e
                      cases e)
                    clear h0 x0 x1 x2 x3 x4
                    obtain ⟨z0, z1, z2, z3, z4⟩ := five_of (show BlockIs W7 w.heap.size 27 #[.int .i64 0, .int .i64 0, .string ⟨#[]⟩, .slice none 0 0, .slice none 0 0] from HR7.out.br)
                    have y0 := HR7.out.br.frozen 0
                    have y1 := HR7.out.br.frozen 1
                    have y2 := HR7.out.br.frozen 2
                    have y3 := HR7.out.br.frozen 3
                    have y4 := HR7.out.br.frozen 4
                    have zl := HR7.out.br.lt
                    go_wp2_with fail
                    refine bodyPost_ret (v := .tuple #[aggOf (leaf 0 0 ⟨#[]⟩) none 0 none 0, .int .i64 3]) (by simp [results, Tryz.results6, go_sem, aggOf, leaf, V.kind, V.int, V.text, V.items, V.keys, z0, z1, z2, z3, z4]) rfl ?_
                    rw [HO.out]
                    exact RB.bad 3 HR7.out
            · go_simp
              refine hK.out _ _ (HC.out _ (below_al hH0.1.out _)) (fun hH1 => ?_)
              clear hK KK
              (try simp only [Act.put, List.setIfInBounds_toArray, List.set_cons_zero, List.set_cons_succ])
              refine wpAnyH_ready (rs := [11]) (by kernel_rfl) (by simp) ?_
              refine AllReadyH.cons (o := { dst := some 54, op := Go.Op.call { callee := Go.Callee.value (Go.Operand.func 23), args := #[Go.Operand.tmp 43, Go.Operand.tmp 48, Go.Operand.tmp 53], argTypes := #[27, 36, 27] }, type := 29, pos := "ref.go:238", after := #[{ on := 0, ground := Go.Ground.data }, { on := 5, ground := Go.Ground.data }, { on := 10, ground := Go.Ground.data }], guard := none }) rfl (fun KK hK => ?_) (AllReadyH.nil)
              · go_simp
                refine (HPT.out _ hH1.1.out).mono ?_
                rintro e w6 ⟨A7, c7, K7, d7, rfl, hl6, h6⟩
                have hb6 := below_on hH1.1.out h6
                have hbg : BlockIs w6 wr.heap.size 27 #[.int .i64 0, .int .i64 0, .string ⟨#[]⟩, .slice none 0 0, .slice none 0 0] := (BlockIs.new wr.drew 27 #[.int .i64 0, .int .i64 0, .string ⟨#[]⟩, .slice none 0 0, .slice none 0 0]).below h6 (by simp)
                obtain ⟨g0, g1, g2, g3, g4⟩ := five_of hbg
                have gl := hbg.lt
                have gf0 := hbg.frozen 0
                have gf1 := hbg.frozen 1
                have gf2 := hbg.frozen 2
                have gf3 := hbg.frozen 3
                have gf4 := hbg.frozen 4
                (try go_wp2_with fail)
                refine hK.out _ _ (HC.out _ hb6) (fun hH2 => ?_)
                clear hK KK
                (try simp only [Act.put, List.setIfInBounds_toArray, List.set_cons_zero, List.set_cons_succ])
                refine wpAnyH_take (i := 12) (oi := { dst := some 42, op := Go.Op.move (Go.Operand.tmp 54), type := 29, pos := "ref.go:238", after := #[{ on := 11, ground := Go.Ground.data }], guard := none }) (v := ?_) rfl (by kernel_rfl) (by kernel_rfl) (by kernel_rfl) (fun _ _ _ h => h) (Or.inl ⟨by rfl, ?_⟩) (by assumption) ?_
                rotate_left
                · (intro w hSw; (try dsimp only at hSw); go_simp; try with_reducible rfl)
                (try simp only [Act.put, List.setIfInBounds_toArray, List.set_cons_zero, List.set_cons_succ])
                refine wpAnyH_take (i := 13) (oi := { dst := some 55, op := Go.Op.extract (Go.Operand.tmp 42) 0, type := 27, pos := "ref.go:238", after := #[{ on := 12, ground := Go.Ground.data }], guard := none }) (v := ?_) rfl (by kernel_rfl) (by kernel_rfl) (by kernel_rfl) (fun _ _ _ h => h) (Or.inl ⟨by rfl, ?_⟩) (by assumption) ?_
                rotate_left
                · (intro w hSw; (try dsimp only at hSw); go_simp; try with_reducible rfl)
                (try simp only [Act.put, List.setIfInBounds_toArray, List.set_cons_zero, List.set_cons_succ])
                refine wpAnyH_take (i := 14) (oi := { dst := some 56, op := Go.Op.extract (Go.Operand.tmp 42) 1, type := 28, pos := "ref.go:238", after := #[{ on := 12, ground := Go.Ground.data }, { on := 16, ground := Go.Ground.gcOnly Go.Departure.lateStores }], guard := none }) (v := ?_) rfl (by kernel_rfl) (by kernel_rfl) (by kernel_rfl) (fun _ _ _ h => h) (Or.inl ⟨by rfl, ?_⟩) (by assumption) ?_
                rotate_left
                · (intro w hSw; (try dsimp only at hSw); go_simp; try with_reducible rfl)
                (try simp only [Act.put, List.setIfInBounds_toArray, List.set_cons_zero, List.set_cons_succ])
                refine wpAnyH_ready (rs := [16]) (by kernel_rfl) (by simp) ?_
                refine AllReadyH.cons (o := { dst := none, op := Go.Op.store 27 (Go.Operand.tmp 7) (Go.Operand.tmp 55), type := 0, pos := "ref.go:238", after := #[{ on := 15, ground := Go.Ground.data }, { on := 13, ground := Go.Ground.data }, { on := 11, ground := Go.Ground.chain }, { on := 0, ground := Go.Ground.phase }, { on := 1, ground := Go.Ground.phase }, { on := 2, ground := Go.Ground.phase }, { on := 3, ground := Go.Ground.phase }, { on := 4, ground := Go.Ground.phase }, { on := 5, ground := Go.Ground.phase }, { on := 6, ground := Go.Ground.phase }, { on := 7, ground := Go.Ground.phase }, { on := 8, ground := Go.Ground.phase }, { on := 9, ground := Go.Ground.phase }, { on := 10, ground := Go.Ground.phase }, { on := 11, ground := Go.Ground.phase }, { on := 12, ground := Go.Ground.phase }, { on := 13, ground := Go.Ground.phase }, { on := 14, ground := Go.Ground.textOnly Go.Departure.lateStores }, { on := 15, ground := Go.Ground.phase }], guard := none }) rfl (fun KK hK => ?_) (AllReadyH.nil)
                · go_simp
                  refine hK.out _ _ (HC.out _ (by first | exact below_al hb6 _ | exact ((((hb6.setCell (Nat.le_refl _) _).setCell (Nat.le_refl _) _).setCell (Nat.le_refl _) _).setCell (Nat.le_refl _) _).setCell (Nat.le_refl _) _)) (fun hH3 => ?_)
                  clear hK KK
                  (try simp only [Act.put, List.setIfInBounds_toArray, List.set_cons_zero, List.set_cons_succ])
                  refine wpAnyH_take (i := 17) (oi := { dst := some 8, op := Go.Op.assign (Go.Operand.tmp 56), type := 28, pos := "ref.go:238", after := #[{ on := 14, ground := Go.Ground.data }, { on := 16, ground := Go.Ground.chain }, { on := 0, ground := Go.Ground.phase }, { on := 1, ground := Go.Ground.phase }, { on := 2, ground := Go.Ground.phase }, { on := 3, ground := Go.Ground.phase }, { on := 4, ground := Go.Ground.phase }, { on := 5, ground := Go.Ground.phase }, { on := 6, ground := Go.Ground.phase }, { on := 7, ground := Go.Ground.phase }, { on := 8, ground := Go.Ground.phase }, { on := 9, ground := Go.Ground.phase }, { on := 10, ground := Go.Ground.phase }, { on := 11, ground := Go.Ground.phase }, { on := 12, ground := Go.Ground.phase }, { on := 13, ground := Go.Ground.phase }, { on := 14, ground := Go.Ground.phase }, { on := 15, ground := Go.Ground.phase }, { on := 16, ground := Go.Ground.phase }], guard := none }) (v := ?_) rfl (by kernel_rfl) (by kernel_rfl) (by kernel_rfl) (fun _ _ _ h => h) (Or.inl ⟨by rfl, ?_⟩) (by assumption) ?_
                  rotate_left
                  · (intro w hSw; (try dsimp only at hSw); go_simp; try with_reducible rfl)
                  (try simp only [Act.put, List.setIfInBounds_toArray, List.set_cons_zero, List.set_cons_succ])
                  refine wpAnyH_done (by kernel_rfl) ?_ _
                  obtain ⟨W7, hW7⟩ : ∃ W7, W7 = put5 w6 wr.heap.size 0 (.int .i64 y.kind) (.int .i64 y.int) (.string y.text) (.slice A7 y.items.length c7) (.slice K7 y.keys.length d7) := ⟨_, rfl⟩
                  have H7 := Lib.hid (HS.out.1.ahead hl6 h6 hW7)
                  unfold put5 at hW7
                  simp only [Nat.zero_add] at hW7
                  rw [← hW7]
                  obtain ⟨h, hh⟩ : ∃ h, h = wr.heap.size := ⟨_, rfl⟩
                  rw [← hh] at H7 ⊢
                  clear hH0 hH1 hH2 hH3 hb6 hl6 h6 hh hW7 HC HPT
                  clear hbg g0 g1 g2 g3 g4 gl gf0 gf1 gf2 gf3 gf4
                  have HR7 := Lib.hid H7.out.1.rb
                  obtain ⟨x0, x1, x2, x3, x4⟩ := five_of H7.out.2.1
                  have xl := H7.out.2.1.lt
                  by_cases h0 : er = 0
                  · have k0 : (er != 0) = false := by simp [h0]
                    have H0 := Lib.hid h0
                    obtain ⟨v0, v1, v2, v3, v4⟩ := five_of H7.out.1.bx
                    obtain ⟨f0, f1, f2, f3, f4⟩ : (W7.frozen? ⟨g, 0, none⟩ = false ∧ W7.frozen? ⟨g, 1, none⟩ = false ∧ W7.frozen? ⟨g, 2, none⟩ = false ∧ W7.frozen? ⟨g, 3, none⟩ = false ∧ W7.frozen? ⟨g, 4, none⟩ = false) := ⟨H7.out.1.bx.frozen 0, H7.out.1.bx.frozen 1, H7.out.1.bx.frozen 2, H7.out.1.bx.frozen 3, H7.out.1.bx.frozen 4⟩
                    have vl := H7.out.1.bx.lt
                    clear h0
                    go_wp2_with fail
                    go_roundw
                    case rel =>
                      obtain ⟨-, hput, hstep, hpo, hq1, hq2⟩ := HS.out
                      have e0 := H0.out
                      have hpo := hpo (hq1.trans e0)
                      have hpv := hq2 e0
                      rw [if_pos (hq1.trans e0), hpv] at hstep
                      rw [hpv] at hpo
                      exact ⟨i + 1, by go_num, by omega, Lib.hid ⟨y, A7, c7, K7, d7, H7.out.1.store H7.out.2.2, hpo.1, hpo.2, hstep.symm.trans hput, HN.out⟩⟩
                    case measure => simp [intOf]; omega
                  · have k0 : (er != 0) = true := by simp [h0]
                    have HO := Lib.hid (show out = (nullV, 3) by
                      obtain ⟨-, hput, hstep, hpo, hq1, -⟩ := HS.out
                      rw [if_neg (by rw [hq1]; exact h0)] at hstep
                      rw [HOUT.out, buildOut, if_pos HF.out, if_neg (by rw [← HN.out]; exact h60), if_neg]
                      rintro ⟨e, -⟩
                      rw [← hput, hstep] at e
                      cases e)
                    clear h0 x0 x1 x2 x3 x4
                    obtain ⟨z0, z1, z2, z3, z4⟩ := five_of (show BlockIs W7 w.heap.size 27 #[.int .i64 0, .int .i64 0, .string ⟨#[]⟩, .slice none 0 0, .slice none 0 0] from HR7.out.br)
                    have y0 := HR7.out.br.frozen 0
                    have y1 := HR7.out.br.frozen 1
                    have y2 := HR7.out.br.frozen 2
                    have y3 := HR7.out.br.frozen 3
                    have y4 := HR7.out.br.frozen 4
                    have zl := HR7.out.br.lt
                    go_wp2_with fail
                    refine bodyPost_ret (v := .tuple #[aggOf (leaf 0 0 ⟨#[]⟩) none 0 none 0, .int .i64 3]) (by simp [results, Tryz.results6, go_sem, aggOf, leaf, V.kind, V.int, V.text, V.items, V.keys, z0, z1, z2, z3, z4]) rfl ?_
                    rw [HO.out]
                    exact RB.bad 3 HR7.out
          · have hjn : ¬ (i : Int) < n := by omega
            obtain ⟨v, A', c', K', d', hLR, hok, hnn, hput, -⟩ := hI2.out
            have hput : putsV nullV l = (v, 0) := by rw [← hput, List.drop_eq_nil_of_le (by rw [← HN.out]; omega)]; rfl
            obtain ⟨bv, hbv⟩ : ∃ q, v.valid = q := ⟨_, rfl⟩
            have HV := Lib.hid (show Calls Tryz.prog 22 #[.agg #[.int .i64 v.kind, .int .i64 v.int, .string v.text, .slice A' v.items.length c', .slice K' v.keys.length d']] wr (fun e w' => e = .returned (.bool bv) ∧ Below wr.heap.size wr w') from by
              rw [← hbv]; exact refValid_any v wr A' K' c' d' (LiesIn.lies (fun b hb => PR.lt hLR.rb hb) v hLR.ly))
            have HLR := Lib.hid hLR
            have HP := Lib.hid hput
            have HBV := Lib.hid hbv
            obtain ⟨v0, v1, v2, v3, v4⟩ := five_of hLR.bx
            have vl := hLR.bx.lt
            clear hLR hok hnn hput hbv hI2
            go_wp2_with fail
            refine HV.out.mono ?_
            rintro e w1 ⟨rfl, h1⟩
            have HL1 := Lib.hid (HLR.out.on h1)
            have HR1 := Lib.hid HL1.out.rb
            clear h1 v0 v1 v2 v3 v4 vl HV HLR
            cases bv
            · have HO := Lib.hid (show out = (nullV, 3) by
                rw [HOUT.out, buildOut, if_pos HF.out, if_neg (by rw [← HN.out]; exact h60), if_neg]
                rintro ⟨-, e⟩
                rw [HP.out] at e
                simp only [HBV.out, Bool.false_and] at e
                cases e)
              obtain ⟨z0, z1, z2, z3, z4⟩ := five_of (show BlockIs w1 w.heap.size 27 #[.int .i64 0, .int .i64 0, .string ⟨#[]⟩, .slice none 0 0, .slice none 0 0] from HR1.out.br)
              have y0 := HR1.out.br.frozen 0
              have y1 := HR1.out.br.frozen 1
              have y2 := HR1.out.br.frozen 2
              have y3 := HR1.out.br.frozen 3
              have y4 := HR1.out.br.frozen 4
              have zl := HR1.out.br.lt
              go_wp2_with fail
              refine bodyPost_ret (v := .tuple #[aggOf (leaf 0 0 ⟨#[]⟩) none 0 none 0, .int .i64 3]) (by simp [results, Tryz.results6, go_sem, aggOf, leaf, V.kind, V.int, V.text, V.items, V.keys, z0, z1, z2, z3, z4]) rfl ?_
              rw [HO.out]
              exact RB.bad 3 HR1.out
            · obtain ⟨m, hm⟩ : ∃ m, m = leavesV [] v := ⟨_, rfl⟩
              obtain ⟨hvo, hvn, hvd⟩ := valid_deep HBV.out
              have HLE := Lib.hid (show Calls Tryz.prog 25 #[.agg #[.int .i64 v.kind, .int .i64 v.int, .string v.text, .slice A' v.items.length c', .slice K' v.keys.length d'], .slice none 0 0] w1 (LeafQ (PR w g w1) m w1) from by
                rw [hm]; exact refLeaves_any v.nodes v (Nat.le_refl _) hvo (by omega) (PR w g w1) [] w1 A' K' c' d' none 0 (fun b hb => PR.lt HL1.out.rb hb) HL1.out.ly ⟨Nat.le_refl _, Nat.zero_le _, .inl rfl⟩ (by simp; omega))
              obtain ⟨bs, hbs⟩ : ∃ q, sameLs m l = q := ⟨_, rfl⟩
              have HSL := Lib.hid fun W (A : Option Addr) c (hW : Below w1.heap.size w1 W) (hr : LeafRow (fun b => b < W.heap.size) W A c m) => show Calls Tryz.prog 24 #[.slice A m.length c, .slice Al n cl] W (fun e w' => e = .returned (.bool bs) ∧ Below W.heap.size W w') from by
                have := refSameLeaves_any m l (fun x hx => (leaves_okL HBV.out (hm ▸ hx)).2.1) (fun x hx => by obtain ⟨j, hj, he⟩ := List.getElem_of_mem hx; exact (formB_at HF.out (by rw [List.getElem?_eq_getElem hj, he])).2) W A Al c cl hr (LeafRow.keep (P' := fun b => b < W.heap.size) (fun _ _ _ => rfl) (fun b hb => by have := HL1.out.rb.old.size; have := hW.size; omega) (HL.out _ (below_on HL1.out.rb.old hW)))
                rw [hbs, ← HN.out] at this
                exact this
              have HBS := Lib.hid (show sameLs (leavesV [] v) l = bs from by rw [← hm]; exact hbs)
              obtain ⟨v0, v1, v2, v3, v4⟩ := five_of HL1.out.bx
              have vl := HL1.out.bx.lt
              clear hbs hm hvo hvn hvd
              go_wp2_with fail
              refine HLE.out.mono ?_
              rintro e w2 ⟨A2, c2, rfl, hr2, h2⟩
              have hr2' := hr2.keep (P' := fun b => b < w2.heap.size) (fun _ _ _ => rfl) (fun b hb => by
                rcases hb with hb | hb
                · have := PR.lt HL1.out.rb hb; have := h2.size; omega
                · exact hb.2)
              have H2 := Lib.hid (And.intro h2 (And.intro hr2' (HL1.out.on h2)))
              clear v0 v1 v2 v3 v4 vl HLE hr2 hr2' h2 HR1
              go_wp2_with fail
              refine (HSL.out _ A2 c2 H2.out.1 H2.out.2.1).mono ?_
              rintro e w3 ⟨rfl, h3⟩
              have HL3 := Lib.hid (H2.out.2.2.on h3)
              have HR3 := Lib.hid HL3.out.rb
              clear h3 HSL H2 HL1
              cases bs
              · have HO := Lib.hid (show out = (nullV, 3) by
                  rw [HOUT.out, buildOut, if_pos HF.out, if_neg (by rw [← HN.out]; exact h60), if_neg]
                  rintro ⟨-, e⟩
                  rw [HP.out] at e
                  simp only [HBS.out, Bool.and_false] at e
                  cases e)
                obtain ⟨z0, z1, z2, z3, z4⟩ := five_of (show BlockIs w3 w.heap.size 27 #[.int .i64 0, .int .i64 0, .string ⟨#[]⟩, .slice none 0 0, .slice none 0 0] from HR3.out.br)
                have y0 := HR3.out.br.frozen 0
                have y1 := HR3.out.br.frozen 1
                have y2 := HR3.out.br.frozen 2
                have y3 := HR3.out.br.frozen 3
                have y4 := HR3.out.br.frozen 4
                have zl := HR3.out.br.lt
                go_wp2_with fail
                refine bodyPost_ret (v := .tuple #[aggOf (leaf 0 0 ⟨#[]⟩) none 0 none 0, .int .i64 3]) (by simp [results, Tryz.results6, go_sem, aggOf, leaf, V.kind, V.int, V.text, V.items, V.keys, z0, z1, z2, z3, z4]) rfl ?_
                rw [HO.out]
                exact RB.bad 3 HR3.out
              · have HO := Lib.hid (show out = (v, 0) by
                  rw [HOUT.out, buildOut, if_pos HF.out, if_neg (by rw [← HN.out]; exact h60), if_pos]
                  · rw [HP.out]
                  · rw [HP.out]
                    exact ⟨rfl, by simp only [HBV.out, HBS.out]; rfl⟩)
                obtain ⟨v0, v1, v2, v3, v4⟩ := five_of HL3.out.bx
                have vl := HL3.out.bx.lt
                obtain ⟨z0, z1, z2, z3, z4⟩ := five_of (show BlockIs w3 w.heap.size 27 #[.int .i64 0, .int .i64 0, .string ⟨#[]⟩, .slice none 0 0, .slice none 0 0] from HR3.out.br)
                have y0 := HR3.out.br.frozen 0
                have y1 := HR3.out.br.frozen 1
                have y2 := HR3.out.br.frozen 2
                have y3 := HR3.out.br.frozen 3
                have y4 := HR3.out.br.frozen 4
                have zl := HR3.out.br.lt
                go_wp2_with fail
                refine bodyPost_ret (v := .tuple #[aggOf v A' c' K' d', .int .i64 0]) (by simp [results, Tryz.results6, go_sem, aggOf, z0, z1, z2, z3, z4]) rfl ?_
                rw [HO.out]
                exact HR3.out.goodR HL3.out.ly HL3.out.hg
open Go.RowKit
set_option maxRecDepth 100000 in
set_option maxHeartbeats 4000000 in
theorem law_builds (l : List Lf) (w : World) (A : Option Addr) (c : Nat) (hl : LeafRow (fun b => b < w.heap.size) w A c l) (hpw : Pow w) :
    Calls Tryz.prog 3 #[.slice A l.length c] w fun e w' => e = .returned (.bool true) ∧ Below w.heap.size w w' := by
  have HA := Lib.hid fun W (hW : Below w.heap.size w W) => awake2_any W (hpw.on hW)
  obtain ⟨n, hn⟩ : ∃ n, n = l.length := ⟨_, rfl⟩
  obtain ⟨y, r, hy⟩ : ∃ y r, buildOut l = (y, r) := ⟨_, _, rfl⟩
  have HL := Lib.hid fun W (hW : Below w.heap.size w W) => hl.on hW
  have HM1 := Lib.hid fun W (hW : Below w.heap.size w W) => show Calls Tryz.prog 5 #[.slice A n c] W (PutAns (y, r) W) from by
    rw [← hy, hn]; exact progBuild_any l W A c (HL.out W hW)
  have HM2 := Lib.hid fun W (hW : Below w.heap.size w W) => show Calls Tryz.prog 6 #[.slice A n c] W (PutAns (y, r) W) from by
    rw [← hy, hn]; exact refBuild_any l W A c (HL.out W hW)
  have HS := Lib.hid fun W A K c d A' K' c' d' (h : Lies W W.heap.size y A c K d) (h' : Lies W W.heap.size y A' c' K' d') => same_is y y W A K c d A' K' c' d' h h' (r := true) (by simp)
  have hnl : n ≤ maxLen := by have := hl.1; have := hl.2.1; omega
  have hnc : n ≤ c := by have := hl.1; omega
  unfold maxLen at hnl
  rw [← hn]
  clear hl hpw hn hy HL
  by_cases h2 : 200 < n
  · have h2i : (200 : Int) < n := by omega
    go_enter Tryz.func3, Tryz.ntmps3
    go_wp2_with fail
    refine (HA.out _ (Below.refl _ w)).mono ?_
    rintro e w1 ⟨rfl, h1⟩
    have H1 := Lib.hid h1
    clear h1
    go_wp2_with fail
    go_ret
    exact ⟨rfl, H1.out⟩
  · have h2i : ¬ (200 : Int) < n := by omega
    go_enter Tryz.func3, Tryz.ntmps3
    go_wp2_with fail
    refine (HM1.out _ (Below.refl _ w)).mono ?_
    rintro e w1 ⟨A1, c1, K1, d1, rfl, hl1, h1⟩
    obtain ⟨W1, hW1⟩ : ∃ W1, W1 = w1.alloc (.cells #[.int .i64 y.kind, .int .i64 y.int, .string y.text, .slice A1 y.items.length c1, .slice K1 y.keys.length d1] 27) := ⟨_, rfl⟩
    have hb1 : Below w1.heap.size w1 W1 := by rw [hW1]; exact below_al (Below.refl _ w1) _
    have hx1 : BlockIs W1 w1.heap.size 27 #[.int .i64 y.kind, .int .i64 y.int, .string y.text, .slice A1 y.items.length c1, .slice K1 y.keys.length d1] := by rw [hW1]; exact BlockIs.new w1 _ _
    have H1 := Lib.hid (And.intro (below_on h1 hb1) (And.intro hx1 (lies_on hl1 hb1)))
    have HW1 := Lib.hid hW1
    clear h1 hl1 hb1 hx1 hW1 HM1
    unfold aggOf
    go_upto_region 4 with (fail)
    rw [← HW1.out]
    go_wp2_with fail
    refine (HM2.out _ H1.out.1).mono ?_
    rintro e w2 ⟨A2, c2, K2, d2, rfl, hl2, h2⟩
    obtain ⟨W2, hW2⟩ : ∃ W2, W2 = w2.alloc (.cells #[.int .i64 y.kind, .int .i64 y.int, .string y.text, .slice A2 y.items.length c2, .slice K2 y.keys.length d2] 27) := ⟨_, rfl⟩
    have hb2 : Below w2.heap.size w2 W2 := by rw [hW2]; exact below_al (Below.refl _ w2) _
    have hx2 : BlockIs W2 w2.heap.size 27 #[.int .i64 y.kind, .int .i64 y.int, .string y.text, .slice A2 y.items.length c2, .slice K2 y.keys.length d2] := by rw [hW2]; exact BlockIs.new w2 _ _
    have h12 := below_on h2 hb2
    have H2 := Lib.hid (And.intro (below_on H1.out.1 h12) (And.intro (H1.out.2.1.below h12 H1.out.2.1.lt) (And.intro (lies_on H1.out.2.2 h12) (And.intro hx2 (lies_on hl2 hb2)))))
    have HW2 := Lib.hid hW2
    clear h2 hl2 hb2 hx2 h12 hW2 HM2 H1 HW1
    unfold aggOf
    go_upto_region 5 with (fail)
    rw [← HW2.out]
    obtain ⟨v0, v1, v2, v3, v4⟩ := five_of H2.out.2.1
    have vl := H2.out.2.1.lt
    obtain ⟨u0, u1, u2, u3, u4⟩ := five_of H2.out.2.2.2.1
    have ul := H2.out.2.2.2.1.lt
    go_wp2_with fail
    refine (HS.out _ A1 K1 c1 d1 A2 K2 c2 d2 H2.out.2.2.1 H2.out.2.2.2.2).mono ?_
    rintro e w3 ⟨rfl, h3⟩
    have H3 := Lib.hid (below_on H2.out.1 h3)
    clear h3 v0 v1 v2 v3 v4 vl u0 u1 u2 u3 u4 ul H2 HW2
    go_wp2_with fail
    refine (HA.out _ H3.out).mono ?_
    rintro e w4 ⟨rfl, h4⟩
    have H4 := Lib.hid (below_on H3.out h4)
    clear h4
    go_wp2_with fail
    go_ret
    exact ⟨rfl, H4.out⟩
open Go.RowKit Go.ChangeShapes Go.WideShapes Go.Deep
theorem cLf : Tryz.prog.cellsOf 47 = 6 := by kernel_rfl
theorem cPt : Tryz.prog.cellsOf 36 = 1 := by kernel_rfl
theorem leafs_list {P : Nat → Prop} {W : World} {b : Nat} : ∀ (len off : Nat), (∀ i, i < len → ∃ (y : Lf) (cs : List Value), LeafIn P W y cs ∧ ∀ (j : Nat) (u : Value), cs[j]? = some u → W.cell? ⟨b, off + i * 6 + j, none⟩ = some u) →
    ∃ (l : List Lf) (css : List (List Value)), l.length = len ∧ LeafsIn P W l css ∧ ∀ (j : Nat) (u : Value), css.flatten[j]? = some u → W.cell? ⟨b, off + j, none⟩ = some u
  | 0, _, _ => ⟨[], [], rfl, trivial, fun j u h => by simp at h⟩
  | len + 1, off, h => by
    obtain ⟨y, cs, h1, h2⟩ := h 0 (by omega)
    obtain ⟨l, css, h3, h4, h5⟩ := leafs_list len (off + 6) (fun i hi => by
      obtain ⟨y, cs, h1, h2⟩ := h (i + 1) (by omega)
      exact ⟨y, cs, h1, fun j u hj => by rw [show off + 6 + i * 6 + j = off + (i + 1) * 6 + j by omega]; exact h2 j u hj⟩)
    refine ⟨y :: l, cs :: css, by simp [h3], ⟨h1, h4⟩, fun j u hj => ?_⟩
    have h6 := h1.six
    rw [List.flatten_cons] at hj
    by_cases hj6 : j < 6
    · rw [List.getElem?_append_left (by omega)] at hj
      have := h2 j u hj
      rw [Nat.zero_mul, Nat.add_zero] at this
      exact this
    · rw [List.getElem?_append_right (by omega), h6] at hj
      have := h5 (j - 6) u hj
      rw [show off + 6 + (j - 6) = off + j by omega] at this
      exact this
section
variable {H : Type} {enc : TypeId × Value → H} {W : World}
set_option maxRecDepth 100000 in
theorem open_pathc {fuel : Nat} {v : Value} {y : DataW H × List MemPlace} (hf : DataW.trod enc Tryz.prog W 0 (fun _ => true) true fuel 36 [v] = some y) :
    ∃ (x : List Stp) (A : Option Addr) (c : Nat), v = .slice A x.length c ∧ PLies W W.heap.size A c x := by
  rcases DataW.trod_slice Tryz.underlying36 hf with ⟨hc, _⟩ | ⟨a, len, cap, elems, rest, m, _, hc, _, _, hl, hm, hel, hat, _, _⟩
  · have hc' : v = .slice none 0 0 := by simpa using hc
    exact ⟨[], none, 0, hc', Nat.le_refl _, by simp [maxLen], .inl rfl⟩
  · have hc' : v = .slice (some a) len cap := by simpa using hc
    obtain ⟨b, off, sp⟩ := a
    have hs : ∀ i, i < len → ∃ s : Stp, (W.cell? (((⟨b, off, sp⟩ : Addr).add (i * 2)).add 0) = some (.int .i64 s.1) ∧ W.cell? (((⟨b, off, sp⟩ : Addr).add (i * 2)).add 1) = some (.string s.2)) ∧ s.2.size ≤ maxLen := by
      intro i hi
      have h1 := hat i hi
      rw [List.getElem?_eq_getElem (by omega), cT] at h1
      obtain ⟨cs, h2, h3⟩ := Option.bind_eq_some_iff.1 h1
      obtain ⟨s, rfl, hsz⟩ := open_step h3
      obtain ⟨_, _, hcell⟩ := World.cells?_some h2
      exact ⟨s, ⟨hcell 0 (by omega), hcell 1 (by omega)⟩, hsz⟩
    rcases Nat.eq_zero_or_pos len with h0 | hpos
    · subst h0
      exact ⟨[], _, cap, hc', by simp, hm, .inl rfl⟩
    · have hsp : sp = none := by
        obtain ⟨s, h1, _⟩ := hs 0 hpos
        have := World.cell?_spot h1.1
        simpa [Addr.add] using this
      subst hsp
      obtain ⟨l, h1, h2⟩ := steps_list (W := W) (b := b) len off (fun i hi => by
        obtain ⟨s, h1, h2⟩ := hs i hi
        simp only [Addr.add_lit, Nat.add_zero] at h1
        exact ⟨s, h1.1, h1.2, h2⟩)
      obtain ⟨s, h3, _⟩ := hs 0 hpos
      have h4 := h3.1
      exact ⟨l, _, cap, by rw [hc', h1], by omega, hm, .inr ⟨b, off, rfl, World.block_lt_of_cell? W _ h4, h2⟩⟩
set_option maxRecDepth 100000 in
theorem open_leafc {n : Nat} {cs : List Value} {x : DataW H × List MemPlace} (h : DataW.trod enc Tryz.prog W 0 (fun _ => true) true n 47 cs = some x) : ∃ y : Lf, LeafIn (fun b => b < W.heap.size) W y cs := by
  obtain ⟨xs, m, hn, _, hlen, hxl, hg⟩ := DataW.trod_struct Tryz.underlying47 h
  rw [cLf] at hlen
  match cs, hlen, xs, hxl with
  | [c0, c1, c2, c3, c4, c5], _, [y0, y1], _ =>
    have g0 := hg 0 _ rfl
    have g1 := hg 1 _ rfl
    simp [cPt, cV] at g0 g1
    obtain ⟨p, Ap, cp, rfl, hp⟩ := open_pathc g0
    obtain ⟨v, A, c, K, d, hv, hl⟩ := open_value _ _ _ g1
    exact ⟨(p, v), Ap, cp, A, c, K, d, by rw [hv], PIn.of (fun _ h => h) hp, lies_inn (fun _ h => h) v hl⟩
set_option maxRecDepth 100000 in
theorem open_leaves {base : Nat} {v : Value} {d : DataW H} {p : List MemPlace} (hv : Value.okWide Tryz.prog W .any base 22 v) (h : DataW.Trod enc Tryz.prog W 0 (fun _ => true) true 22 v d p) :
    ∃ (x : List Lf) (A : Option Addr) (c : Nat), v = .slice A x.length c ∧ LeafRow (fun b => b < W.heap.size) W A c x := by
  obtain ⟨a0, len0, cap0, rfl⟩ := okWide_slice Tryz.underlying22 hv
  obtain ⟨fuel, hf⟩ := h
  rcases DataW.trod_slice Tryz.underlying22 hf with ⟨hc, _⟩ | ⟨a, len, cap, elems, rest, m, _, hc, _, _, hl, hm, hel, hat, _, _⟩
  · have hc' : Value.slice a0 len0 cap0 = .slice none 0 0 := by have hc2 : [Value.slice a0 len0 cap0] = [Value.slice none 0 0] := hc; simpa using hc2
    exact ⟨[], none, 0, hc', Nat.le_refl _, by simp [maxLen], [], trivial, .inl rfl⟩
  · have hc' : Value.slice a0 len0 cap0 = .slice (some a) len cap := by have hc2 : [Value.slice a0 len0 cap0] = [Value.slice (some a) len cap] := hc; simpa using hc2
    obtain ⟨b, off, sp⟩ := a
    have hs : ∀ i, i < len → ∃ (y : Lf) (cs : List Value), LeafIn (fun b => b < W.heap.size) W y cs ∧ ∀ (j : Nat) (u : Value), cs[j]? = some u → W.cell? (((⟨b, off, sp⟩ : Addr).add (i * 6)).add j) = some u := by
      intro i hi
      have h1 := hat i hi
      rw [List.getElem?_eq_getElem (by omega), cLf] at h1
      obtain ⟨cs, h2, h3⟩ := Option.bind_eq_some_iff.1 h1
      obtain ⟨y, hy⟩ := open_leafc h3
      obtain ⟨_, _, hcell⟩ := World.cells?_some h2
      refine ⟨y, cs, hy, fun j u hj => ?_⟩
      have hj6 : j < 6 := by rw [← hy.six]; exact (List.getElem?_eq_some_iff.1 hj).1
      rw [hcell j hj6]
      exact hj
    rcases Nat.eq_zero_or_pos len with h0 | hpos
    · subst h0
      exact ⟨[], _, cap, hc', by simp, hm, [], trivial, .inl rfl⟩
    · have hfirst : ∃ u, W.cell? (((⟨b, off, sp⟩ : Addr).add (0 * 6)).add 0) = some u := by
        obtain ⟨y, cs, h1, h2⟩ := hs 0 hpos
        obtain ⟨_, _, _, _, _, _, rfl, -, -⟩ := h1
        exact ⟨_, h2 0 _ rfl⟩
      have hsp : sp = none := by
        obtain ⟨u, h1⟩ := hfirst
        have := World.cell?_spot h1
        simpa [Addr.add] using this
      subst hsp
      obtain ⟨l, css, h1, h2, h3⟩ := leafs_list (P := fun b => b < W.heap.size) (W := W) (b := b) len off (fun i hi => by
        obtain ⟨y, cs, h1, h2⟩ := hs i hi
        simp only [Addr.add_lit] at h2
        exact ⟨y, cs, h1, h2⟩)
      obtain ⟨u, h4⟩ := hfirst
      exact ⟨l, _, cap, by rw [hc', h1], by omega, hm, css, h2, .inr ⟨b, off, rfl, World.block_lt_of_cell? W _ h4, h3⟩⟩
set_option maxRecDepth 100000 in
theorem leaves_stays {W' : World} {sp : Nat → Bool} {v : Value} {d : DataW H} {p : List MemPlace} (h : DataW.Trod enc Tryz.prog W 0 (fun _ => true) true 22 v d p) (hb : Below W.heap.size W W') (hlt : ∀ x ∈ p, x.block < W.heap.size) (hs : ∀ x ∈ p, sp x.block = true) :
    DataW.Trod enc Tryz.prog W' 0 sp true 22 v d p :=
  WideElems.Trod_stays laidOutP (by kernel_rfl) (of_decide_eq_true (by kernel_rfl)) h (fun x hx => hb.same (hlt x hx)) hs
end
end Go.Proofs.YtchadlbhdcpojaaGreatDoor
namespace Go.Proofs.YtchadlbhdcpojaaGreatDoor.variantBuilds
open Go.ChangeShapes Go.WideShapes Go.ChangeAt Go.RowKit
set_option maxRecDepth 100000 in
set_option maxHeartbeats 1000000 in
theorem contract (H : Type) (enc : TypeId × Value → H) (W : World) (base : Nat) (args : Array Value) (ds gs : List (DataW H)) (before : List MemPlace)
    (hval : ∀ (j : Nat) t v, Tryz.f3.params[j]? = some t → args[j]? = some v → Value.okWide Tryz.prog W .any base t v)
    (hW : DataW.Whole enc Tryz.prog Tryz.f3.params.toList Rows.variantBuildsSpec.vars false W args.toList ds gs before) (hL : laidMetH Tryz.prog laidL W) :
    Calls Tryz.prog 3 args W fun e W' => ∃ v, e = .returned v ∧ Rows.variantBuildsSpec.post enc Tryz.prog Tryz.f3 false true false false W args v W' := by
  have hW' := hW
  have hlt := hW.lt
  obtain ⟨p, q, hA0, hV, rfl, _, _⟩ := hW
  have hA : DataW.TrodAll enc Tryz.prog W 0 (fun _ => true) true Tryz.f3.params.toList args.toList ds p := hA0
  rw [Tryz.params3] at hA hval
  obtain ⟨v0, vs0, d0, ds0, p0, q0, hargs, rfl, rfl, h0, r0⟩ := trodAll_cons hA
  obtain ⟨rfl, rfl, rfl⟩ := trodAll_nil r0
  obtain rfl : args = #[v0] := by cases args; simp_all
  obtain ⟨rfl, rfl⟩ := trodVars_none hV
  obtain ⟨x0, A0, c0, rfl, hx0⟩ := open_leaves (hval 0 22 v0 rfl rfl) h0
  clear hA0
  simp only [List.append_nil] at hW' hlt
  refine (law_builds x0 W A0 c0 hx0 (pow_of hL)).mono fun e W' ⟨he, hb⟩ => ?_
  subst he
  exact ⟨_, rfl, post_below (pa := p0) (pv := []) hW' (fun _ _ _ => trodAll_cons_mk (shut_bool Tryz.underlying4 _) trodAll_mk0)
    (fun sp hsp => by
      rw [Tryz.params3]
      have t0 := trodAll_cons_mk (leaves_stays (sp := sp) h0 hb (fun z hz => hlt z (by simp [hz])) (fun z hz => hsp z (by simp [hz]))) trodAll_mk0
      rw [List.append_nil] at t0
      exact t0)
    (fun _ _ => rfl) (by simp) hb (ok_one (by kernel_rfl) rfl (okWide_bool_mk Tryz.underlying4 _))⟩
theorem laid_met (os : Os) : laidMet Tryz.prog Rows.variantBuildsRow.laid ((laidWorld os).forCall (fun _ _ => 0) ⟨#[], #[.slice none 0 0], []⟩).memory :=
  laidMet_of_run' 8 (by kernel_rfl) (by kernel_rfl)
theorem reads (os : Os) {H : Type} (enc : TypeId × Value → H) : ∃ places, DataW.whole enc Tryz.prog ((laidWorld os).forCall (fun _ _ => 0) ⟨#[], #[.slice none 0 0], []⟩).memory Tryz.f3.params.toList Rows.variantBuildsSpec.vars false #[.slice none 0 0].toList 8 = some ([.nil], [], places) :=
  ⟨[], by kernel_rfl⟩
set_option maxRecDepth 100000 in
theorem lifted (os : Os) (started : os.Started) (H : Type) (enc : TypeId × Value → H) (F : Stop.Interp) :
    ReturnsInHanded {} Tryz.checked os 3 .any ((OpenSpec.ofChange Rows.variantBuildsSpec).preRow enc Tryz.prog Tryz.f3 Rows.variantBuildsRow.domain false Rows.variantBuildsRow.laid) (((OpenSpec.ofChange Rows.variantBuildsSpec).at F).post enc Tryz.prog Tryz.f3 false true false false) := by
  obtain ⟨places, hx⟩ := reads os enc
  refine returnsInHanded_of_row (C := Tryz.checked) (s := OpenSpec.ofChange Rows.variantBuildsSpec) own started (by kernel_rfl) Tryz.func3
    (witness_row_at (enc := enc) (C := Tryz.checked) false (laidWorld os) #[.slice none 0 0] rfl (by kernel_rfl) (by kernel_rfl) (by kernel_rfl)
      (OpenSpec.preRow_of_cond 8 hx (by kernel_rfl) (fun k hk => by cases hk) (by kernel_rfl) (laid_met os))) ?_
  intro W base args ds gs before hval hW _ _ _ hL _ _
  exact contract H enc W base args ds gs before hval hW hL
theorem said : Rows.VariantBuildsSaid :=
  OpenClaim.holds_of_cond 3 Tryz.f3 rfl rfl rfl rfl rfl rfl rfl ⟨rfl, rfl, rfl, rfl, rfl⟩ rfl rfl rfl rfl rfl (by kernel_rfl) Tryz.func3 (by kernel_rfl)
    (of_decide_eq_true (by kernel_rfl)) (by unfold Func.isWrapper; first | (rw [if_pos (by decide +kernel)]; kernel_rfl) | (rw [if_neg (by decide +kernel)]; exact ⟨rfl, rfl⟩))
    (fun os started H enc _ F => by rw [OpenClaim.pre_eq_preRow]; exact lifted os started H enc F)
theorem plain (f : FuncId) (fn : Func) (hf : Tryz.pinned.checked.prog.funcNamed "cirrus/cirruslaw02.VariantBuilds" = some f) (hfn : Tryz.pinned.checked.prog.funcs[f]? = some fn) :
    false = Tryz.pinned.checked.prog.looks [] ∧ ∀ (j : Nat) t, fn.params[j]? = some t → Tryz.pinned.checked.prog.wantsStandIn t = false := by
  obtain rfl : f = 3 := Option.some.inj ((show Tryz.prog.funcNamed "cirrus/cirruslaw02.VariantBuilds" = some 3 by kernel_rfl).symm.trans hf) |>.symm
  obtain rfl : fn = Tryz.f3 := (Option.some.inj (Tryz.func3.symm.trans hfn)).symm
  refine ⟨by kernel_rfl, fun j t ht => ?_⟩
  rw [Tryz.params3] at ht
  match j, ht with
  | 0, ht =>
    obtain rfl : t = 22 := (Option.some.inj ht).symm
    exact (show Tryz.prog.wantsStandIn 22 = false by kernel_rfl)
  | j + 1, ht => simp at ht
theorem card : Rows.VariantBuildsCardSaid :=
  Claim7.holds_tied_plain_at .later [] _ _ _ _ said (fun _ h => by cases h) (by kernel_rfl) (fun _ h => by cases h) variantBuilds_row_tie rfl ⟨rfl, rfl⟩ (by kernel_rfl) rfl plain (by kernel_rfl)
end Go.Proofs.YtchadlbhdcpojaaGreatDoor.variantBuilds
