/- Remove, walked: any value, any path. -/
import Derived.Test.YtdlmphbaolejcaaDoorTo
import Derived.Test.YtdlmphbaolejcaaDoorTh
namespace Go.Proofs.YtdlmphbaolejcaaDoor
open Go.RowKit

/-- What Remove answers. -/
def remOut (x : V) (p : List Stp) : V × Int :=
  if (x.valid && pathB p) = true then (if p = [] then (nullV, 3) else if (removeV x p).2 = true then ((removeV x p).1, 0) else (nullV, 6)) else (nullV, 1)
/-- The boxes of Remove: its value, what is answered. -/
structure RB (w : World) (c0 : Array Value) (W : World) : Prop where
  old : Below w.heap.size w W
  bv : BlockIs W w.heap.size 25 c0
  br : BlockIs W (w.heap.size + 1) 25 zeroF
section
variable {w W W' : World} {c0 : Array Value} {g c d : Nat} {y : V} {D : Nat → Prop} {A K : Option Addr} {u0 u1 u2 u3 u4 : Value}
theorem RB.start (w : World) (c0 : Array Value) : RB w c0 ((w.alloc (.cells c0 25)).alloc (.cells zeroF 25)) := ⟨below_al (below_al (Below.refl _ w) _) _, (BlockIs.new w _ _).alloc _, BlockIs.newAt _ _ _ (by simp)⟩
theorem RB.below (h : RB w c0 W) (hb : Below W.heap.size W W') : RB w c0 W' := ⟨below_on h.old hb, h.bv.below hb h.bv.lt, h.br.below hb h.br.lt⟩
theorem RB.fr (h : RB w c0 W) (hb : Below (w.heap.size + 2) W W') : RB w c0 W' :=
  ⟨h.old.trans ⟨hb.os, hb.tape, hb.output, hb.size, fun b hlt => hb.block b (by omega)⟩, h.bv.below hb (by omega), h.br.below hb (by omega)⟩
theorem RB.ends (h : RB w c0 W) : Below w.heap.size w (put5 W (w.heap.size + 1) 0 u0 u1 u2 u3 u4) :=
  ((((h.old.setCell (by simp) _).setCell (by simp) _).setCell (by simp) _).setCell (by simp) _).setCell (by simp) _
theorem RB.bad (r : Int) (h : RB w c0 W) : PutAns (nullV, r) w (.returned (.tuple #[aggOf (leaf 0 0 ⟨#[]⟩) none 0 none 0, .int .i64 r])) (put5 W (w.heap.size + 1) 0 u0 u1 u2 u3 u4) := ⟨none, 0, none, 0, rfl, leaf_lies _ _ 0 0 (by decide), h.ends⟩
theorem RB.good (h : RB w c0 W) (hn : Node W (w.heap.size + 2) g 25 [] [] y (.slice A y.items.length c) (.slice K y.keys.length d) D) : PutAns (y, 0) w (.returned (.tuple #[aggOf y A c K d, .int .i64 0])) (put5 W (w.heap.size + 1) 0 u0 u1 u2 u3 u4) := by
  have hs := put5_size W (w.heap.size + 1) 0 u0 u1 u2 u3 u4
  have ht := hn.tree.keep (w' := put5 W (w.heap.size + 1) 0 u0 u1 u2 u3 u4) y (fun b hb => put5_heap W (w.heap.size + 1) 0 u0 u1 u2 u3 u4 (by have := (hn.low b hb).1; omega)) (fun _ h => h)
  obtain ⟨A', c', K', d', e1, e2, hl⟩ := ht.lies (B := (put5 W (w.heap.size + 1) 0 u0 u1 u2 u3 u4).heap.size) y (fun b hb => by rw [hs]; exact (hn.low b hb).2)
  cases e1
  cases e2
  exact ⟨A, c, K, d, rfl, hl, h.ends⟩
end

set_option maxRecDepth 100000 in
set_option maxHeartbeats 4000000 in
theorem progRemove_any (x : V) (p : List Stp) (w : World) (A0 K0 : Option Addr) (c0 d0 : Nat) (Ap : Option Addr) (cp : Nat) (hx : Lies w w.heap.size x A0 c0 K0 d0) (hp : PLies w w.heap.size Ap cp p) :
    Calls Tryd.prog 16 #[.agg #[.int .i64 x.kind, .int .i64 x.int, .string x.text, .slice A0 x.items.length c0, .slice K0 x.keys.length d0], .slice Ap p.length cp] w (PutAns (remOut x p) w) := by
  have HB0 := Lib.hid (RB.start w #[.int .i64 x.kind, .int .i64 x.int, .string x.text, .slice A0 x.items.length c0, .slice K0 x.keys.length d0])
  obtain ⟨n, hn⟩ : ∃ n, n = p.length := ⟨_, rfl⟩
  obtain ⟨bx, hbx⟩ : ∃ b, x.valid = b := ⟨_, rfl⟩
  obtain ⟨bp, hbp⟩ : ∃ b, pathB p = b := ⟨_, rfl⟩
  have HPV := Lib.hid fun W (hW : Below w.heap.size w W) => show Calls Tryd.prog 31 #[.slice Ap n cp] W fun e w' => e = .returned (.bool bp) ∧ Below W.heap.size W w' from by
    have := pathValid_any p W Ap cp (hp.on hW)
    rw [hbp, ← hn] at this
    exact this
  have HV := Lib.hid fun W (hW : Below w.heap.size w W) => valid_yes x W A0 K0 c0 d0 (lies_on hx hW) hbx
  have HCX := Lib.hid fun (h : bx = true) W (hW : Below w.heap.size w W) => copied_tree x.nodes x W A0 K0 c0 d0 (Nat.le_refl _) (valid_nodes (hbx.trans h)).2 (valid_nodes (hbx.trans h)).1 (lies_on hx hW)
  have HREM := Lib.hid fun (h : bx = true) (h0 : ¬ n = 0) W g vI vK D (hW : Below w.heap.size w W) (hN : Node W (w.heap.size + 2) g 25 [] [] x vI vK D) =>
    show Calls Tryd.prog 43 #[.pointer (some ⟨g, 0, none⟩), .slice Ap n cp] W (RemP (removeV x p) (w.heap.size + 2) g 25 [] [] D W) from by
      rw [hn]
      exact remove_any p (fun e => h0 (by rw [hn, e]; rfl)) x (valid_nodes (hbx.trans h)).1 (valid_nodes (hbx.trans h)).2 W (w.heap.size + 2) g _ [] [] vI vK D Ap cp hN ((hp.low_on hW).wider (by omega))
  have HOUT := Lib.hid (show remOut x p = if (bx && bp) = true then (if p = [] then (nullV, 3) else if (removeV x p).2 = true then ((removeV x p).1, 0) else (nullV, 6)) else (nullV, 1) by rw [← hbx, ← hbp]; rfl)
  have HNIL := Lib.hid (show p = [] ↔ n = 0 from ⟨fun e => by rw [hn, e]; rfl, fun e => List.length_eq_zero_iff.1 (hn.symm.trans e)⟩)
  obtain ⟨out, hout⟩ : ∃ out, out = remOut x p := ⟨_, rfl⟩
  obtain ⟨q, hq⟩ : ∃ q, q = removeV x p := ⟨_, rfl⟩
  rw [← hout, ← hq] at HOUT
  rw [← hq] at HREM
  rw [← hn, ← hout]
  clear hn hbx hbp hx hp hout hq
  go_enter Tryd.func16, Tryd.ntmps16
  go_wp2_with fail
  refine (HV.out _ HB0.out.old).mono ?_
  rintro e w1 ⟨rfl, h1⟩
  have HB1 := Lib.hid (HB0.out.below h1)
  clear h1 HB0
  cases bx
  case false =>
    obtain ⟨z0, z1, z2, z3, z4⟩ := five_of (show BlockIs w1 (w.heap.size + 1) 25 #[.int .i64 0, .int .i64 0, .string ⟨#[]⟩, .slice none 0 0, .slice none 0 0] from HB1.out.br)
    have y0 := HB1.out.br.frozen 0
    have y1 := HB1.out.br.frozen 1
    have y2 := HB1.out.br.frozen 2
    have y3 := HB1.out.br.frozen 3
    have y4 := HB1.out.br.frozen 4
    have zl := HB1.out.br.lt
    go_wp2_with fail
    refine bodyPost_ret (v := .tuple #[aggOf (leaf 0 0 ⟨#[]⟩) none 0 none 0, .int .i64 1]) (by simp [results, Tryd.results16, go_sem, aggOf, leaf, V.kind, V.int, V.text, V.items, V.keys, z0, z1, z2, z3, z4]) rfl ?_
    rw [HOUT.out, if_neg (by simp)]
    exact RB.bad 1 HB1.out
  obtain ⟨b0, b1, b2, b3, b4⟩ := five_of HB1.out.bv
  go_wp2_with fail
  refine (HPV.out _ HB1.out.old).mono ?_
  rintro e w2 ⟨rfl, h2⟩
  have HB2 := Lib.hid (HB1.out.below h2)
  clear h2 b0 b1 b2 b3 b4 HB1
  cases bp
  case false =>
    obtain ⟨z0, z1, z2, z3, z4⟩ := five_of (show BlockIs w2 (w.heap.size + 1) 25 #[.int .i64 0, .int .i64 0, .string ⟨#[]⟩, .slice none 0 0, .slice none 0 0] from HB2.out.br)
    have y0 := HB2.out.br.frozen 0
    have y1 := HB2.out.br.frozen 1
    have y2 := HB2.out.br.frozen 2
    have y3 := HB2.out.br.frozen 3
    have y4 := HB2.out.br.frozen 4
    have zl := HB2.out.br.lt
    go_wp2_with fail
    refine bodyPost_ret (v := .tuple #[aggOf (leaf 0 0 ⟨#[]⟩) none 0 none 0, .int .i64 1]) (by simp [results, Tryd.results16, go_sem, aggOf, leaf, V.kind, V.int, V.text, V.items, V.keys, z0, z1, z2, z3, z4]) rfl ?_
    rw [HOUT.out, if_neg (by simp)]
    exact RB.bad 1 HB2.out
  have HOUT := Lib.hid (show out = if n = 0 then (nullV, 3) else if q.2 = true then (q.1, 0) else (nullV, 6) by
    rw [HOUT.out, if_pos (by simp)]
    by_cases h0 : n = 0
    · rw [if_pos h0, if_pos (HNIL.out.2 h0)]
    · rw [if_neg h0, if_neg (fun e => h0 (HNIL.out.1 e))])
  by_cases h0 : n = 0
  · have HOUT := Lib.hid (show out = (nullV, 3) by rw [HOUT.out, if_pos h0])
    rw [h0]
    clear HREM HCX HNIL
    obtain ⟨z0, z1, z2, z3, z4⟩ := five_of (show BlockIs w2 (w.heap.size + 1) 25 #[.int .i64 0, .int .i64 0, .string ⟨#[]⟩, .slice none 0 0, .slice none 0 0] from HB2.out.br)
    have y0 := HB2.out.br.frozen 0
    have y1 := HB2.out.br.frozen 1
    have y2 := HB2.out.br.frozen 2
    have y3 := HB2.out.br.frozen 3
    have y4 := HB2.out.br.frozen 4
    have zl := HB2.out.br.lt
    go_wp2_with fail
    refine bodyPost_ret (v := .tuple #[aggOf (leaf 0 0 ⟨#[]⟩) none 0 none 0, .int .i64 3]) (by simp [results, Tryd.results16, go_sem, aggOf, leaf, V.kind, V.int, V.text, V.items, V.keys, z0, z1, z2, z3, z4]) rfl ?_
    rw [HOUT.out]
    exact RB.bad 3 HB2.out
  have hn0 : ¬ (n : Int) = 0 := by omega
  obtain ⟨b0, b1, b2, b3, b4⟩ := five_of HB2.out.bv
  have HREM := Lib.hid (fun W g vI vK D => HREM.out (by trivial) h0 W g vI vK D)
  go_wp2_with fail
  refine (HCX.out (by trivial) _ HB2.out.old).mono ?_
  rintro e w4 ⟨xI, xK, rfl, ht4, h4⟩
  obtain ⟨⟨XA, xc, rfl⟩, XK, xd, rfl⟩ := ht4.forms
  have hw2 : w.heap.size + 2 ≤ w2.heap.size := by have := HB2.out.br.lt; omega
  have HN5 := Lib.hid (made_node (N := w.heap.size + 2) ht4 hw2 h4.size)
  have HB5 := Lib.hid ((HB2.out.below h4).below (below_al (Below.refl _ w4) (.cells #[.int .i64 x.kind, .int .i64 x.int, .string x.text, .slice XA x.items.length xc, .slice XK x.keys.length xd] 25)))
  have hw4 : w.heap.size + 2 ≤ w4.heap.size := by have := h4.size; omega
  clear h4 ht4 b0 b1 b2 b3 b4 HB2 HCX HPV HV
  go_wp2_with fail
  refine (HREM.out _ _ _ _ _ HB5.out.old HN5.out).mono ?_
  rintro e w7 ⟨rfl, hF7, hN7⟩
  have HB7 := Lib.hid (HB5.out.fr (hF7.below hw4 (fun b hb => (HN5.out.low b hb).1) (by have := HN5.out.row.lt; omega)))
  clear hF7 HREM HN5 HB5
  cases hb : q.2 with
  | true =>
    obtain ⟨vI7, vK7, D7, hN, -⟩ := hN7 hb
    obtain ⟨A7, c7, K7, d7, rfl, rfl, hl7⟩ := hN.lies
    have HN7 := Lib.hid hN
    have HOUT := Lib.hid (show out = (q.1, 0) by rw [HOUT.out, if_neg h0, if_pos hb])
    obtain ⟨m0, m1, m2, m3, m4⟩ : w7.cell? ⟨w4.heap.size, 0, none⟩ = some (.int .i64 q.1.kind) ∧ w7.cell? ⟨w4.heap.size, 1, none⟩ = some (.int .i64 q.1.int) ∧ w7.cell? ⟨w4.heap.size, 2, none⟩ = some (.string q.1.text) ∧ w7.cell? ⟨w4.heap.size, 3, none⟩ = some (.slice A7 q.1.items.length c7) ∧ w7.cell? ⟨w4.heap.size, 4, none⟩ = some (.slice K7 q.1.keys.length d7) := hN.cells
    have ml := hN.row.lt
    clear hN hl7 hN7
    obtain ⟨z0, z1, z2, z3, z4⟩ := five_of (show BlockIs w7 (w.heap.size + 1) 25 #[.int .i64 0, .int .i64 0, .string ⟨#[]⟩, .slice none 0 0, .slice none 0 0] from HB7.out.br)
    have y0 := HB7.out.br.frozen 0
    have y1 := HB7.out.br.frozen 1
    have y2 := HB7.out.br.frozen 2
    have y3 := HB7.out.br.frozen 3
    have y4 := HB7.out.br.frozen 4
    have zl := HB7.out.br.lt
    go_wp2_with fail
    refine bodyPost_ret (v := .tuple #[aggOf q.1 A7 c7 K7 d7, .int .i64 0]) (by simp [results, Tryd.results16, go_sem, aggOf, z0, z1, z2, z3, z4]) rfl ?_
    rw [HOUT.out]
    exact RB.good HB7.out HN7.out
  | false =>
    have HOUT := Lib.hid (show out = (nullV, 6) by rw [HOUT.out, if_neg h0, if_neg (by simp [hb])])
    clear hN7
    obtain ⟨z0, z1, z2, z3, z4⟩ := five_of (show BlockIs w7 (w.heap.size + 1) 25 #[.int .i64 0, .int .i64 0, .string ⟨#[]⟩, .slice none 0 0, .slice none 0 0] from HB7.out.br)
    have y0 := HB7.out.br.frozen 0
    have y1 := HB7.out.br.frozen 1
    have y2 := HB7.out.br.frozen 2
    have y3 := HB7.out.br.frozen 3
    have y4 := HB7.out.br.frozen 4
    have zl := HB7.out.br.lt
    go_wp2_with fail
    refine bodyPost_ret (v := .tuple #[aggOf (leaf 0 0 ⟨#[]⟩) none 0 none 0, .int .i64 6]) (by simp [results, Tryd.results16, go_sem, aggOf, leaf, V.kind, V.int, V.text, V.items, V.keys, z0, z1, z2, z3, z4]) rfl ?_
    rw [HOUT.out]
    exact RB.bad 6 HB7.out
end Go.Proofs.YtdlmphbaolejcaaDoor
