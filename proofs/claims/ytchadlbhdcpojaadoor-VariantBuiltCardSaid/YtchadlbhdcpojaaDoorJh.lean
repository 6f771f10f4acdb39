/- The definition's Items and Flatten, walked. -/
import Derived.Test.YtchadlbhdcpojaaDoorJg
import Derived.Test.YtchadlbhdcpojaaDoorJf
import Derived.Test.YtchadlbhdcpojaaDoorTg
import Derived.Test.YtchadlbhdcpojaaDoorJb
namespace Go.Proofs.YtchadlbhdcpojaaDoor
open Go.RowKit
/-- The cells of a box and of an elder item. -/
theorem box_item2 {w W : World} {g b2 q : Nat} {t : TypeId} {x0 x1 x2 x3 x4 y0 y1 y2 y3 y4 : Value} (hb : Below w.heap.size w W) (hg : BlockIs W g t #[x0, x1, x2, x3, x4]) (hb2 : b2 < w.heap.size)
    (hy : w.cell? ⟨b2, q, none⟩ = some y0 ∧ w.cell? ⟨b2, q + 1, none⟩ = some y1 ∧ w.cell? ⟨b2, q + 2, none⟩ = some y2 ∧ w.cell? ⟨b2, q + 3, none⟩ = some y3 ∧ w.cell? ⟨b2, q + 4, none⟩ = some y4) :
    Hid (Below w.heap.size w W) ∧ (W.cell? ⟨g, 0, none⟩ = some x0 ∧ W.cell? ⟨g, 1, none⟩ = some x1 ∧ W.cell? ⟨g, 2, none⟩ = some x2 ∧ W.cell? ⟨g, 3, none⟩ = some x3 ∧ W.cell? ⟨g, 4, none⟩ = some x4) ∧ (W.cell? ⟨b2, q, none⟩ = some y0 ∧ W.cell? ⟨b2, q + 1, none⟩ = some y1 ∧ W.cell? ⟨b2, q + 2, none⟩ = some y2 ∧ W.cell? ⟨b2, q + 3, none⟩ = some y3 ∧ W.cell? ⟨b2, q + 4, none⟩ = some y4) := by
  obtain ⟨e0, e1, e2, e3, e4⟩ := hy
  exact ⟨Lib.hid hb, five_of hg, (bcell hb _ _ hb2).trans e0, (bcell hb _ _ hb2).trans e1, (bcell hb _ _ hb2).trans e2, (bcell hb _ _ hb2).trans e3, (bcell hb _ _ hb2).trans e4⟩
section
variable {w W : World} {P : Nat → Prop} {vc : Array Value} {acc : List Lf} {rO : Value} {css : List (List Value)} {y : V} {s : Stp} {Ay Ky : Option Addr} {cy dy : Nat}
/-- A leaf of one step, made behind the collected ones. -/
theorem LQ.fresh (hP : ∀ b, P b → b < w.heap.size) (h : LQ w P vc acc rO css W) (hy : LiesIn (PL w P rO W) W y Ay cy Ky dy) (hs : s.2.size ≤ maxLen) {X : World} (hX : X = (W.alloc (.cells #[.int .i64 s.1, .string s.2] 42)).alloc (.cells #[.slice (some ⟨W.heap.size, 0, none⟩) 1 1, .int .i64 y.kind, .int .i64 y.int, .string y.text, .slice Ay y.items.length cy, .slice Ky y.keys.length dy] 39)) :
    LQ w P vc acc rO css X ∧ LeafsIn (PL w P rO X) X [([s], y)] [[.slice (some ⟨W.heap.size, 0, none⟩) 1 1, .int .i64 y.kind, .int .i64 y.int, .string y.text, .slice Ay y.items.length cy, .slice Ky y.keys.length dy]] ∧ BlockIs X (W.heap.size + 1) 39 #[.slice (some ⟨W.heap.size, 0, none⟩) 1 1, .int .i64 y.kind, .int .i64 y.int, .string y.text, .slice Ay y.items.length cy, .slice Ky y.keys.length dy] := by
  have hb : Below W.heap.size W X := by rw [hX]; exact below_al (below_al (Below.refl _ W) _) _
  have hsz : X.heap.size = W.heap.size + 2 := by rw [hX]; simp
  have hps : BlockIs X W.heap.size 42 #[.int .i64 s.1, .string s.2] := by rw [hX]; exact (BlockIs.new W _ _).alloc _
  have hlf : BlockIs X (W.heap.size + 1) 39 #[.slice (some ⟨W.heap.size, 0, none⟩) 1 1, .int .i64 y.kind, .int .i64 y.int, .string y.text, .slice Ay y.items.length cy, .slice Ky y.keys.length dy] := by rw [hX]; exact BlockIs.newAt _ _ _ (by simp)
  have hlt := h.lt
  refine ⟨h.on hP hb, ⟨⟨_, _, Ay, cy, Ky, dy, rfl, ⟨Nat.le_refl _, by simp [maxLen], .inr ⟨W.heap.size, 0, rfl, .inr ⟨by omega, by omega, fun e => ?_⟩, hps.cell 0, hps.cell 1, hs, trivial⟩⟩, ?_⟩, trivial⟩, hlf⟩
  · have := (World.ownsRow.lt h.own _ e.symm).2
    omega
  · exact LiesIn.keep (fun b o hx => bcell hb b o (PL.lt hP h hx)) (fun b hx => hx.imp id fun hx => ⟨hx.1, by omega, hx.2.2⟩) y hy
end
open Go.RowKit
mutual
theorem Tree.inn {P : Nat → Prop} {w : World} {N : Nat} : ∀ (x : V) {vI vK : Value} {D : Nat → Prop}, Tree w N x vI vK D → (∀ b, D b → P b) → ∃ A c K d, vI = .slice A x.items.length c ∧ vK = .slice K x.keys.length d ∧ LiesIn P w x A c K d
  | .mk _ _ _ items keys, vI, vK, D, h, hD => by
    obtain ⟨h1, h2, h3, h4, h5, css, h6, h7⟩ := h
    have hcI := fun g hg => World.ownsRow.cells h6 (g := g) hg
    have hcK := fun g hg => World.ownsRow.cells h3 (g := g) hg
    obtain ⟨K, d, rfl, k1, k2, k3⟩ : ∃ K d, vK = Value.slice K keys.length d ∧ keys.length ≤ d ∧ d ≤ maxLen ∧ (keys = [] ∨ ∃ b o, K = some ⟨b, o, none⟩ ∧ P b ∧ StrsFrom w keys b o) := by
      obtain ⟨hl, ⟨rfl, h0⟩ | ⟨g, cap, cur, rfl, hB, hb, hn, hm, hs, ht⟩⟩ := h3
      · exact ⟨none, 0, (by rw [h0]), by omega, by simp [maxLen], .inl (List.length_eq_zero_iff.1 h0)⟩
      · refine ⟨_, _, rfl, hn, hm, .inr ⟨g, 0, rfl, hD g (h5 g rfl).1, keys_from h2 fun j v hj => ?_⟩⟩
        have := hcK g rfl j v hj
        rw [Addr.add_lit] at this
        exact this
    obtain ⟨A, c, rfl, i1, i2, i3⟩ : ∃ A c, vI = Value.slice A items.length c ∧ items.length ≤ c ∧ c ≤ maxLen ∧ (items = [] ∨ ∃ b o, A = some ⟨b, o, none⟩ ∧ P b ∧ LiesFromIn P w items b o) := by
      obtain ⟨hl, ⟨rfl, h0⟩ | ⟨g, cap, cur, rfl, hB, hb, hn, hm, hs, ht⟩⟩ := h6
      · exact ⟨none, 0, by rw [h0], by omega, by simp [maxLen], .inl (List.length_eq_zero_iff.1 h0)⟩
      · refine ⟨_, _, rfl, hn, hm, .inr ⟨g, 0, rfl, hD g (h4 g rfl), Trees.inn items h7 (fun b hb => hD b hb.1) fun j v hj => ?_⟩⟩
        have := hcI g rfl j v hj
        rw [Addr.add_lit] at this
        exact this
    exact ⟨A, c, K, d, rfl, rfl, h1, i1, i2, ⟨k1, k2, k3⟩, i3⟩
theorem Trees.inn {P : Nat → Prop} {w : World} {N b : Nat} : ∀ (l : List V) {css : List (List Value)} {D : Nat → Prop} {o : Nat}, Trees w N l css D → (∀ b, D b → P b) → (∀ (j : Nat) (v : Value), css.flatten[j]? = some v → w.cell? ⟨b, o + j, none⟩ = some v) → LiesFromIn P w l b o
  | [], [], _, _, _, _, _ => trivial
  | x :: r, cs :: t, _, o, h, hD, hc => by
    obtain ⟨D1, D2, h1, h2, ⟨vI, vK, rfl, hx⟩, hr⟩ := h
    obtain ⟨A, c, K, d, rfl, rfl, hl⟩ := Tree.inn x hx (fun b hb => hD b (h1 b hb))
    refine ⟨⟨A, c, K, d, hc 0 _ rfl, hc 1 _ rfl, hc 2 _ rfl, hc 3 _ rfl, hc 4 _ rfl, hl⟩, Trees.inn r hr (fun b hb => hD b (h2 b hb).1) fun j v hj => ?_⟩
    have := hc (j + 5) v (by rw [List.flatten_cons, List.getElem?_append_right (by simp)]; simpa using hj)
    rw [show o + 5 + j = o + (j + 5) by omega]
    exact this
  | [], _ :: _, _, _, h, _, _ => h.elim
  | _ :: _, [], _, _, h, _, _ => h.elim
end
set_option maxRecDepth 100000 in
set_option maxHeartbeats 1000000 in
theorem stepTo_list (x : V) (w : World) (A K : Option Addr) (c d j : Nat) (h5 : ¬ x.kind = 5) :
    Calls Tryd.prog 42 #[.agg #[.int .i64 x.kind, .int .i64 x.int, .string x.text, .slice A x.items.length c, .slice K x.keys.length d], .int .i64 j] w fun e w' => e = .returned (.agg #[.int .i64 j, .string ⟨#[]⟩]) ∧ Below w.heap.size w w' := by
  obtain ⟨W1, hW1⟩ : ∃ W1, W1 = (w.alloc (.cells #[.int .i64 x.kind, .int .i64 x.int, .string x.text, .slice A x.items.length c, .slice K x.keys.length d] 25)).alloc (.cells #[.int .i64 0, .string ⟨#[]⟩] 42) := ⟨_, rfl⟩
  have hb1 : Below w.heap.size w W1 := by rw [hW1]; exact below_al (below_al (Below.refl _ w) _) _
  have v0 : W1.cell? ⟨w.heap.size, 0, none⟩ = some (.int .i64 x.kind) := by rw [hW1]; exact ((BlockIs.new w _ _).alloc _).cell 0
  have hs := (BlockIs.newAt (w.alloc (.cells #[.int .i64 x.kind, .int .i64 x.int, .string x.text, .slice A x.items.length c, .slice K x.keys.length d] 25)) 42 #[.int .i64 0, .string ⟨#[]⟩] (n := w.heap.size + 1) (by simp))
  rw [← hW1] at hs
  have hkb : (x.kind == 5) = false := by simp [h5]
  have HB := Lib.hid hb1
  have HW := Lib.hid hW1
  have HS := Lib.hid hs
  clear hb1 hW1 hs h5
  obtain ⟨s0, s1⟩ : W1.cell? ⟨w.heap.size + 1, 0, none⟩ = some (.int .i64 0) ∧ W1.cell? ⟨w.heap.size + 1, 1, none⟩ = some (.string ⟨#[]⟩) := ⟨HS.out.cell 0, HS.out.cell 1⟩
  have f0 := HS.out.frozen 0
  have f1 := HS.out.frozen 1
  have sl := HS.out.lt
  go_enter Tryd.func42, Tryd.ntmps42
  go_upto_region 1 with (fail)
  rw [← HW.out]
  go_wp2_with fail
  refine bodyPost_ret (v := .agg #[.int .i64 j, .string ⟨#[]⟩]) (by simp [results, Tryd.results42, go_sem, s0, s1]) rfl ?_
  exact ⟨rfl, (HB.out.setCell (by simp) _).setCell (by simp) _⟩
/-- The step to an item, as the program says it. -/
theorem stepTo_any (x : V) (w : World) (A K : Option Addr) (c d j : Nat) (h : Lies w w.heap.size x A c K d) (hok : x.ok = true) (hj : j < x.items.length) :
    Calls Tryd.prog 42 #[.agg #[.int .i64 x.kind, .int .i64 x.int, .string x.text, .slice A x.items.length c, .slice K x.keys.length d], .int .i64 j] w fun e w' => e = .returned (.agg #[.int .i64 (stepI x.kind x.keys j).1, .string (stepI x.kind x.keys j).2]) ∧ Below w.heap.size w w' := by
  by_cases h5 : x.kind = 5
  · obtain ⟨-, -, hl⟩ := okk hok
    have hjk : j < x.keys.length := by rw [hl h5]; exact hj
    have := stepTo_key x w A K c d j (x.keys.getD j ⟨#[]⟩) h h5 (by rw [List.getD_eq_getElem?_getD, List.getElem?_eq_getElem hjk]; rfl)
    unfold stepI
    rw [if_pos h5]
    exact this
  · have := stepTo_list x w A K c d j h5
    unfold stepI
    rw [if_neg h5]
    exact this
/-- The cells of two boxes, behind a world. -/
theorem box_box {w W : World} {g h : Nat} {t t' : TypeId} {x0 x1 x2 x3 x4 y0 y1 y2 y3 y4 : Value} (hb : Below w.heap.size w W) (hg : BlockIs W g t #[x0, x1, x2, x3, x4]) (hh : BlockIs W h t' #[y0, y1, y2, y3, y4]) :
    Hid (Below w.heap.size w W) ∧ (W.cell? ⟨g, 0, none⟩ = some x0 ∧ W.cell? ⟨g, 1, none⟩ = some x1 ∧ W.cell? ⟨g, 2, none⟩ = some x2 ∧ W.cell? ⟨g, 3, none⟩ = some x3 ∧ W.cell? ⟨g, 4, none⟩ = some x4) ∧ (W.cell? ⟨h, 0, none⟩ = some y0 ∧ W.cell? ⟨h, 1, none⟩ = some y1 ∧ W.cell? ⟨h, 2, none⟩ = some y2 ∧ W.cell? ⟨h, 3, none⟩ = some y3 ∧ W.cell? ⟨h, 4, none⟩ = some y4) := ⟨Lib.hid hb, five_of hg, five_of hh⟩
section
variable {w W W' w5 : World} {P : Nat → Prop} {vc : Array Value} {acc : List Lf} {rO : Value} {css : List (List Value)} {y : V} {s : Stp} {Az Kz : Option Addr} {cz dz p g ql : Nat}
theorem PL.on (hP : ∀ b, P b → b < w.heap.size) (h : LQ w P vc acc rO css W) (hb : Below W.heap.size W W') (hl : LiesIn (PL w P rO W) W y Az cz Kz dz) : LiesIn (PL w P rO W') W' y Az cz Kz dz :=
  LiesIn.keep (fun b o hx => bcell hb b o (PL.lt hP h hx)) (fun b hx => hx.imp id fun hx => ⟨hx.1, by have := hb.size; omega, hx.2.2⟩) y hl
/-- What a call made behind the collected row is apart from it. -/
theorem PL.new (h : LQ w P vc acc rO css W) {X : World} (hW : W.heap.size ≤ X.heap.size) : ∀ b, Fresh X W' b → PL w P rO W' b := fun b hb => .inr ⟨by have := h.lt; have := hb.1; omega, hb.2, fun e => by
  have := (World.ownsRow.lt h.own b e.symm).2
  have := hb.1
  omega⟩
theorem LQ.leaf (hP : ∀ b, P b → b < w.heap.size) (h : LQ w P vc acc rO css W) (hps : BlockIs W p 42 #[.int .i64 s.1, .string s.2]) (hp : PL w P rO W p) (hy : LiesIn (PL w P rO W) W y Az cz Kz dz) (hs : s.2.size ≤ maxLen) {X : World} (hX : X = W.alloc (.cells #[.slice (some ⟨p, 0, none⟩) 1 1, .int .i64 y.kind, .int .i64 y.int, .string y.text, .slice Az y.items.length cz, .slice Kz y.keys.length dz] 39)) :
    LQ w P vc acc rO css X ∧ LeafsIn (PL w P rO X) X [([s], y)] [[.slice (some ⟨p, 0, none⟩) 1 1, .int .i64 y.kind, .int .i64 y.int, .string y.text, .slice Az y.items.length cz, .slice Kz y.keys.length dz]] ∧ BlockIs X W.heap.size 39 #[.slice (some ⟨p, 0, none⟩) 1 1, .int .i64 y.kind, .int .i64 y.int, .string y.text, .slice Az y.items.length cz, .slice Kz y.keys.length dz] := by
  have hb : Below W.heap.size W X := by rw [hX]; exact below_al (Below.refl _ W) _
  have hsz : X.heap.size = W.heap.size + 1 := by rw [hX]; simp
  have hps2 := hps.below hb hps.lt
  refine ⟨h.on hP hb, ⟨⟨_, _, Az, cz, Kz, dz, rfl, ⟨Nat.le_refl _, by simp [maxLen], .inr ⟨p, 0, rfl, hp.imp id fun hx => ⟨hx.1, by omega, hx.2.2⟩, hps2.cell 0, hps2.cell 1, hs, trivial⟩⟩, PL.on hP h hb hy⟩, trivial⟩, by rw [hX]; exact BlockIs.new W _ _⟩
end
end Go.Proofs.YtchadlbhdcpojaaDoor
