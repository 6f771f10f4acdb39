/- Put, walked: any value, path and value to be laid. -/
import Derived.Test.YtdlmphbaolejcaaDoorTg
import Derived.Test.YtdlmphbaolejcaaDoorTf
import Derived.Test.YtdlmphbaolejcaaDoorVm
namespace Go.Proofs.YtdlmphbaolejcaaDoor
open Go.RowKit

/-- A value laid at a path. -/
theorem put_any (z : V) (N : Nat) (zI zK : Value) (Dz : Nat → Prop) : ∀ (p : List Stp), p.all stepB = true → ∀ (x : V), x.ok = true → x.nodes ≤ 60 → ∀ (W : World) (g : Nat) (t : TypeId) (pre post : List Value) (vI vK : Value) (D : Nat → Prop) (A : Option Addr) (cp : Nat), Node W N g t pre post x vI vK D → ZIn W N g z zI zK D Dz → PLies W N A cp p →
    Calls Tryd.prog 41 #[.pointer (some ⟨g, pre.length, none⟩), .slice A p.length cp, .agg #[.int .i64 z.kind, .int .i64 z.int, .string z.text, zI, zK]] W (PutP (putV x p z) N g t pre post D Dz W)
  | [], _, x, _, _, W, g, t, pre, post, vI, vK, D, A, cp, h, hz, _ => put_end x z N g t pre post vI vK zI zK D Dz W A cp h hz
  | (i, k) :: r, hp, x, hok, h60, W, g, t, pre, post, vI, vK, D, A, cp, h, hz, hl => by
    rw [List.all_cons, Bool.and_eq_true] at hp
    exact put_step x z i k r N g t pre post vI vK zI zK D Dz W A cp h hz hok h60 hp.1 hl fun y hy1 hy2 => put_any z N zI zK Dz r hp.2 y hy1 hy2
/-- What Put answers. -/
def putOut (x : V) (p : List Stp) (z : V) : V × Int :=
  if (x.valid && (pathB p && z.valid)) = true then (if (putV x p z).2 = 0 then (if (putV x p z).1.valid = true then ((putV x p z).1, 0) else (nullV, 2)) else (nullV, (putV x p z).2)) else (nullV, 1)
def PutAns (q : V × Int) (w : World) (e : Ending) (w' : World) : Prop := ∃ A c K d, e = .returned (.tuple #[aggOf q.1 A c K d, .int .i64 q.2]) ∧ Lies w' w'.heap.size q.1 A c K d ∧ Below w.heap.size w w'
section
variable {w w3 w4 W W' : World} {N g c d : Nat} {x y : V} {vI vK xI xK : Value} {D : Nat → Prop} {c0 c1 : Array Value} {t : TypeId} {A K : Option Addr} {u0 u1 u2 u3 u4 : Value}
theorem made_node (ht : Tree w4 w3.heap.size x xI xK (Fresh w3 w4)) (hN : N ≤ w3.heap.size) (hs : w3.heap.size ≤ w4.heap.size) :
    Node (w4.alloc (.cells #[.int .i64 x.kind, .int .i64 x.int, .string x.text, xI, xK] 25)) N w4.heap.size 25 [] [] x xI xK (Fresh w3 w4) := by
  have hb := below_al (Below.refl _ w4) (.cells #[.int .i64 x.kind, .int .i64 x.int, .string x.text, xI, xK] 25)
  exact ⟨BlockIs.new w4 _ _, Tree.base hN x (ht.keep x (fun b h => hb.block b h.2) (fun _ h => h)), fun h => by have := h.2; omega, fun b h => ⟨by have := h.1; omega, by have := h.2; have := hb.size; omega⟩, by omega⟩
theorem PB.fr (h : PB w c0 c1 W) (hb : Below (w.heap.size + 3) W W') : PB w c0 c1 W' :=
  ⟨h.old.trans ⟨hb.os, hb.tape, hb.output, hb.size, fun b hlt => hb.block b (by omega)⟩, h.bv.below hb (by omega), h.bx.below hb (by omega), h.br.below hb (by omega)⟩
theorem PutAns.bad (r : Int) (h : PB w c0 c1 W) : PutAns (nullV, r) w (.returned (.tuple #[aggOf (leaf 0 0 ⟨#[]⟩) none 0 none 0, .int .i64 r])) (put5 W (w.heap.size + 2) 0 u0 u1 u2 u3 u4) := ⟨none, 0, none, 0, rfl, leaf_lies _ _ 0 0 (by decide), h.ends⟩
theorem PutAns.good (h : PB w c0 c1 W) (hn : Node W (w.heap.size + 3) g t [] [] y (.slice A y.items.length c) (.slice K y.keys.length d) D) : PutAns (y, 0) w (.returned (.tuple #[aggOf y A c K d, .int .i64 0])) (put5 W (w.heap.size + 2) 0 u0 u1 u2 u3 u4) := by
  have hs := put5_size W (w.heap.size + 2) 0 u0 u1 u2 u3 u4
  have ht := hn.tree.keep (w' := put5 W (w.heap.size + 2) 0 u0 u1 u2 u3 u4) y (fun b hb => put5_heap W (w.heap.size + 2) 0 u0 u1 u2 u3 u4 (by have := (hn.low b hb).1; omega)) (fun _ h => h)
  obtain ⟨A', c', K', d', e1, e2, hl⟩ := ht.lies (B := (put5 W (w.heap.size + 2) 0 u0 u1 u2 u3 u4).heap.size) y (fun b hb => by rw [hs]; exact (hn.low b hb).2)
  cases e1
  cases e2
  exact ⟨A, c, K, d, rfl, hl, h.ends⟩
theorem PLies.wider {p : List Stp} {cp N' : Nat} (h : PLies W N A cp p) (hN : N ≤ N') : PLies W N' A cp p := by
  obtain ⟨h1, h2, h3⟩ := h
  refine ⟨h1, h2, h3.imp id ?_⟩
  rintro ⟨b, o, hA, hlt, hf⟩
  exact ⟨b, o, hA, by omega, hf⟩
end

set_option maxRecDepth 100000 in
set_option maxHeartbeats 8000000 in
theorem progPut_any (x : V) (p : List Stp) (z : V) (w : World) (A0 K0 : Option Addr) (c0 d0 : Nat) (Ap : Option Addr) (cp : Nat) (A1 K1 : Option Addr) (c1 d1 : Nat) (hx : Lies w w.heap.size x A0 c0 K0 d0) (hp : PLies w w.heap.size Ap cp p) (hz : Lies w w.heap.size z A1 c1 K1 d1) :
    Calls Tryd.prog 14 #[.agg #[.int .i64 x.kind, .int .i64 x.int, .string x.text, .slice A0 x.items.length c0, .slice K0 x.keys.length d0], .slice Ap p.length cp, .agg #[.int .i64 z.kind, .int .i64 z.int, .string z.text, .slice A1 z.items.length c1, .slice K1 z.keys.length d1]] w (PutAns (putOut x p z) w) := by
  have HB0 := Lib.hid (PB.start w #[.int .i64 x.kind, .int .i64 x.int, .string x.text, .slice A0 x.items.length c0, .slice K0 x.keys.length d0] #[.int .i64 z.kind, .int .i64 z.int, .string z.text, .slice A1 z.items.length c1, .slice K1 z.keys.length d1])
  obtain ⟨n, hn⟩ : ∃ n, n = p.length := ⟨_, rfl⟩
  obtain ⟨bx, hbx⟩ : ∃ b, x.valid = b := ⟨_, rfl⟩
  obtain ⟨bp, hbp⟩ : ∃ b, pathB p = b := ⟨_, rfl⟩
  obtain ⟨bz, hbz⟩ : ∃ b, z.valid = b := ⟨_, rfl⟩
  have HPV := Lib.hid fun W (hW : Below w.heap.size w W) => show Calls Tryd.prog 31 #[.slice Ap n cp] W fun e w' => e = .returned (.bool bp) ∧ Below W.heap.size W w' from by
    have := pathValid_any p W Ap cp (hp.on hW)
    rw [hbp, ← hn] at this
    exact this
  have HV := Lib.hid fun W (hW : Below w.heap.size w W) => valid_yes x W A0 K0 c0 d0 (lies_on hx hW) hbx
  have HX := Lib.hid fun W (hW : Below w.heap.size w W) => valid_yes z W A1 K1 c1 d1 (lies_on hz hW) hbz
  have HCX := Lib.hid fun (h : bx = true) W (hW : Below w.heap.size w W) => copied_tree x.nodes x W A0 K0 c0 d0 (Nat.le_refl _) (valid_nodes (hbx.trans h)).2 (valid_nodes (hbx.trans h)).1 (lies_on hx hW)
  have HCZ := Lib.hid fun (h : bz = true) W (hW : Below w.heap.size w W) => copied_tree z.nodes z W A1 K1 c1 d1 (Nat.le_refl _) (valid_nodes (hbz.trans h)).2 (valid_nodes (hbz.trans h)).1 (lies_on hz hW)
  have HPUT := Lib.hid fun (h : bx = true) (hb : bp = true) W g zI zK Dz vI vK D (hW : Below w.heap.size w W) (hN : Node W (w.heap.size + 3) g 25 [] [] x vI vK D) (hZ : ZIn W (w.heap.size + 3) g z zI zK D Dz) =>
    show Calls Tryd.prog 41 #[.pointer (some ⟨g, 0, none⟩), .slice Ap n cp, .agg #[.int .i64 z.kind, .int .i64 z.int, .string z.text, zI, zK]] W (PutP (putV x p z) (w.heap.size + 3) g 25 [] [] D Dz W) from by
      rw [hn]
      exact put_any z (w.heap.size + 3) zI zK Dz p (by have := hbp.trans hb; unfold pathB at this; rw [Bool.and_eq_true] at this; exact this.2) x (valid_nodes (hbx.trans h)).1 (valid_nodes (hbx.trans h)).2 W g _ [] [] vI vK D Ap cp hN hZ ((hp.low_on hW).wider (by omega))
  have HOUT := Lib.hid (show putOut x p z = if (bx && (bp && bz)) = true then (if (putV x p z).2 = 0 then (if (putV x p z).1.valid = true then ((putV x p z).1, 0) else (nullV, 2)) else (nullV, (putV x p z).2)) else (nullV, 1) by rw [← hbx, ← hbp, ← hbz]; rfl)
  obtain ⟨out, hout⟩ : ∃ out, out = putOut x p z := ⟨_, rfl⟩
  obtain ⟨q, hq⟩ : ∃ q, q = putV x p z := ⟨_, rfl⟩
  rw [← hout, ← hq] at HOUT
  rw [← hq] at HPUT
  rw [← hn, ← hout]
  clear hn hbx hbp hbz hx hp hz hout hq
  go_enter Tryd.func14, Tryd.ntmps14
  go_wp2_with fail
  refine (HV.out _ HB0.out.old).mono ?_
  rintro e w1 ⟨rfl, h1⟩
  have HB1 := Lib.hid (HB0.out.below h1)
  clear h1 HB0
  cases bx
  case false =>
    obtain ⟨z0, z1, z2, z3, z4⟩ := five_of (show BlockIs w1 (w.heap.size + 2) 25 #[.int .i64 0, .int .i64 0, .string ⟨#[]⟩, .slice none 0 0, .slice none 0 0] from HB1.out.br)
    have y0 := HB1.out.br.frozen 0
    have y1 := HB1.out.br.frozen 1
    have y2 := HB1.out.br.frozen 2
    have y3 := HB1.out.br.frozen 3
    have y4 := HB1.out.br.frozen 4
    have zl := HB1.out.br.lt
    go_wp2_with fail
    refine bodyPost_ret (v := .tuple #[aggOf (leaf 0 0 ⟨#[]⟩) none 0 none 0, .int .i64 1]) (by simp [results, Tryd.results14, go_sem, aggOf, leaf, V.kind, V.int, V.text, V.items, V.keys, z0, z1, z2, z3, z4]) rfl ?_
    rw [HOUT.out, if_neg (by simp)]
    exact PutAns.bad 1 HB1.out
  obtain ⟨b0, b1, b2, b3, b4⟩ := five_of HB1.out.bv
  obtain ⟨x0, x1, x2, x3, x4⟩ := five_of HB1.out.bx
  go_wp2_with fail
  refine (HPV.out _ HB1.out.old).mono ?_
  rintro e w2 ⟨rfl, h2⟩
  have HB2 := Lib.hid (HB1.out.below h2)
  clear h2 b0 b1 b2 b3 b4 x0 x1 x2 x3 x4 HB1
  cases bp
  case false =>
    obtain ⟨z0, z1, z2, z3, z4⟩ := five_of (show BlockIs w2 (w.heap.size + 2) 25 #[.int .i64 0, .int .i64 0, .string ⟨#[]⟩, .slice none 0 0, .slice none 0 0] from HB2.out.br)
    have y0 := HB2.out.br.frozen 0
    have y1 := HB2.out.br.frozen 1
    have y2 := HB2.out.br.frozen 2
    have y3 := HB2.out.br.frozen 3
    have y4 := HB2.out.br.frozen 4
    have zl := HB2.out.br.lt
    go_wp2_with fail
    refine bodyPost_ret (v := .tuple #[aggOf (leaf 0 0 ⟨#[]⟩) none 0 none 0, .int .i64 1]) (by simp [results, Tryd.results14, go_sem, aggOf, leaf, V.kind, V.int, V.text, V.items, V.keys, z0, z1, z2, z3, z4]) rfl ?_
    rw [HOUT.out, if_neg (by simp)]
    exact PutAns.bad 1 HB2.out
  obtain ⟨b0, b1, b2, b3, b4⟩ := five_of HB2.out.bv
  obtain ⟨x0, x1, x2, x3, x4⟩ := five_of HB2.out.bx
  go_wp2_with fail
  refine (HX.out _ HB2.out.old).mono ?_
  rintro e w3 ⟨rfl, h3⟩
  have HB3 := Lib.hid (HB2.out.below h3)
  clear h3 b0 b1 b2 b3 b4 x0 x1 x2 x3 x4 HB2
  cases bz
  case false =>
    obtain ⟨z0, z1, z2, z3, z4⟩ := five_of (show BlockIs w3 (w.heap.size + 2) 25 #[.int .i64 0, .int .i64 0, .string ⟨#[]⟩, .slice none 0 0, .slice none 0 0] from HB3.out.br)
    have y0 := HB3.out.br.frozen 0
    have y1 := HB3.out.br.frozen 1
    have y2 := HB3.out.br.frozen 2
    have y3 := HB3.out.br.frozen 3
    have y4 := HB3.out.br.frozen 4
    have zl := HB3.out.br.lt
    go_wp2_with fail
    refine bodyPost_ret (v := .tuple #[aggOf (leaf 0 0 ⟨#[]⟩) none 0 none 0, .int .i64 1]) (by simp [results, Tryd.results14, go_sem, aggOf, leaf, V.kind, V.int, V.text, V.items, V.keys, z0, z1, z2, z3, z4]) rfl ?_
    rw [HOUT.out, if_neg (by simp)]
    exact PutAns.bad 1 HB3.out
  have HOUT := Lib.hid (show out = if q.2 = 0 then (if q.1.valid = true then (q.1, 0) else (nullV, 2)) else (nullV, q.2) by rw [HOUT.out, if_pos (by simp)])
  obtain ⟨b0, b1, b2, b3, b4⟩ := five_of HB3.out.bv
  go_wp2_with fail
  refine (HCX.out (by trivial) _ HB3.out.old).mono ?_
  rintro e w4 ⟨xI, xK, rfl, ht4, h4⟩
  obtain ⟨⟨XA, xc, rfl⟩, XK, xd, rfl⟩ := ht4.forms
  have HB4 := Lib.hid (HB3.out.below h4)
  have HN5 := Lib.hid (made_node (N := w.heap.size + 3) ht4 HB3.out.fresh h4.size)
  have HB5 := Lib.hid (HB4.out.al (.cells #[.int .i64 x.kind, .int .i64 x.int, .string x.text, .slice XA x.items.length xc, .slice XK x.keys.length xd] 25))
  have hw4 : w.heap.size + 3 ≤ w4.heap.size := HB4.out.fresh
  clear h4 ht4 b0 b1 b2 b3 b4
  obtain ⟨x0, x1, x2, x3, x4⟩ := five_of HB4.out.bx
  have xl := HB4.out.bx.lt
  go_wp2_with fail
  refine (HCZ.out (by trivial) _ HB5.out.old).mono ?_
  rintro e w6 ⟨zI, zK, rfl, ht6, h6⟩
  obtain ⟨⟨ZA, zc, rfl⟩, ZK, zd, rfl⟩ := ht6.forms
  have HB6 := Lib.hid (HB5.out.below h6)
  have HN6 := Lib.hid (HN5.out.on h6)
  have HZ6 := Lib.hid (show ZIn w6 (w.heap.size + 3) w4.heap.size z (.slice ZA z.items.length zc) (.slice ZK z.keys.length zd) (Fresh w3 w4) (Fresh (w4.alloc (.cells #[.int .i64 x.kind, .int .i64 x.int, .string x.text, .slice XA x.items.length xc, .slice XK x.keys.length xd] 25)) w6) from
    ⟨Tree.base (by simp; omega) z ht6, fun b hb => ⟨by have := hb.1; simp at this; omega, hb.2⟩, fun b hb => ⟨fun e => by have := e.2; have := hb.1; simp at this; omega, by have := hb.1; simp at this; omega⟩⟩)
  clear ht6 h6 x0 x1 x2 x3 x4 xl HN5 HB5 HB4 HB3
  go_wp2_with fail
  refine (HPUT.out (by trivial) (by trivial) _ _ _ _ _ _ _ _ HB6.out.old HN6.out HZ6.out).mono ?_
  rintro e w7 ⟨rfl, hF7, hN7⟩
  have HB7 := Lib.hid (HB6.out.fr (hF7.below hw4 (fun b hb => (HN6.out.low b hb).1) (by have := HN6.out.row.lt; omega)))
  clear hF7 HPUT HCX HCZ HPV HX HN6 HZ6 HB6
  by_cases h0 : q.2 = 0
  · obtain ⟨vI7, vK7, D7, hN, -⟩ := hN7 h0
    obtain ⟨A7, c7, K7, d7, rfl, rfl, hl7⟩ := hN.lies
    have HN7 := Lib.hid hN
    have HV7 := Lib.hid (valid_yes q.1 w7 A7 K7 c7 d7 hl7 rfl)
    obtain ⟨vb, hvb⟩ : ∃ vb, q.1.valid = vb := ⟨_, rfl⟩
    have HOUT := Lib.hid (show out = if vb = true then (q.1, 0) else (nullV, 2) by rw [HOUT.out, if_pos h0, hvb])
    rw [hvb] at HV7
    obtain ⟨m0, m1, m2, m3, m4⟩ : w7.cell? ⟨w4.heap.size, 0, none⟩ = some (.int .i64 q.1.kind) ∧ w7.cell? ⟨w4.heap.size, 1, none⟩ = some (.int .i64 q.1.int) ∧ w7.cell? ⟨w4.heap.size, 2, none⟩ = some (.string q.1.text) ∧ w7.cell? ⟨w4.heap.size, 3, none⟩ = some (.slice A7 q.1.items.length c7) ∧ w7.cell? ⟨w4.heap.size, 4, none⟩ = some (.slice K7 q.1.keys.length d7) := hN.cells
    have ml := hN.row.lt
    rw [h0]
    clear hN hl7 hvb hN7
    go_wp2_with fail
    refine HV7.out.mono ?_
    rintro e w8 ⟨rfl, h8⟩
    have HB8 := Lib.hid (HB7.out.below h8)
    have HN8 := Lib.hid (HN7.out.on h8)
    clear h8 m0 m1 m2 m3 m4 ml HV7 HN7 HB7
    cases vb
    case false =>
      obtain ⟨z0, z1, z2, z3, z4⟩ := five_of (show BlockIs w8 (w.heap.size + 2) 25 #[.int .i64 0, .int .i64 0, .string ⟨#[]⟩, .slice none 0 0, .slice none 0 0] from HB8.out.br)
      have y0 := HB8.out.br.frozen 0
      have y1 := HB8.out.br.frozen 1
      have y2 := HB8.out.br.frozen 2
      have y3 := HB8.out.br.frozen 3
      have y4 := HB8.out.br.frozen 4
      have zl := HB8.out.br.lt
      go_wp2_with fail
      refine bodyPost_ret (v := .tuple #[aggOf (leaf 0 0 ⟨#[]⟩) none 0 none 0, .int .i64 2]) (by simp [results, Tryd.results14, go_sem, aggOf, leaf, V.kind, V.int, V.text, V.items, V.keys, z0, z1, z2, z3, z4]) rfl ?_
      rw [HOUT.out, if_neg (by simp)]
      exact PutAns.bad 2 HB8.out
    obtain ⟨m0, m1, m2, m3, m4⟩ : w8.cell? ⟨w4.heap.size, 0, none⟩ = some (.int .i64 q.1.kind) ∧ w8.cell? ⟨w4.heap.size, 1, none⟩ = some (.int .i64 q.1.int) ∧ w8.cell? ⟨w4.heap.size, 2, none⟩ = some (.string q.1.text) ∧ w8.cell? ⟨w4.heap.size, 3, none⟩ = some (.slice A7 q.1.items.length c7) ∧ w8.cell? ⟨w4.heap.size, 4, none⟩ = some (.slice K7 q.1.keys.length d7) := HN8.out.cells
    have ml := HN8.out.row.lt
    obtain ⟨z0, z1, z2, z3, z4⟩ := five_of (show BlockIs w8 (w.heap.size + 2) 25 #[.int .i64 0, .int .i64 0, .string ⟨#[]⟩, .slice none 0 0, .slice none 0 0] from HB8.out.br)
    have y0 := HB8.out.br.frozen 0
    have y1 := HB8.out.br.frozen 1
    have y2 := HB8.out.br.frozen 2
    have y3 := HB8.out.br.frozen 3
    have y4 := HB8.out.br.frozen 4
    have zl := HB8.out.br.lt
    go_wp2_with fail
    refine bodyPost_ret (v := .tuple #[aggOf q.1 A7 c7 K7 d7, .int .i64 0]) (by simp [results, Tryd.results14, go_sem, aggOf, z0, z1, z2, z3, z4]) rfl ?_
    rw [HOUT.out, if_pos (by trivial)]
    exact PutAns.good HB8.out HN8.out
  · obtain ⟨r, hr⟩ : ∃ r, q.2 = r := ⟨_, rfl⟩
    have HOUT := Lib.hid (show out = (nullV, r) by rw [HOUT.out, if_neg h0, hr])
    rw [hr] at h0
    rw [hr]
    clear hN7 hr
    obtain ⟨z0, z1, z2, z3, z4⟩ := five_of (show BlockIs w7 (w.heap.size + 2) 25 #[.int .i64 0, .int .i64 0, .string ⟨#[]⟩, .slice none 0 0, .slice none 0 0] from HB7.out.br)
    have y0 := HB7.out.br.frozen 0
    have y1 := HB7.out.br.frozen 1
    have y2 := HB7.out.br.frozen 2
    have y3 := HB7.out.br.frozen 3
    have y4 := HB7.out.br.frozen 4
    have zl := HB7.out.br.lt
    go_wp2_with fail
    refine bodyPost_ret (v := .tuple #[aggOf (leaf 0 0 ⟨#[]⟩) none 0 none 0, .int .i64 r]) (by simp [results, Tryd.results14, go_sem, aggOf, leaf, V.kind, V.int, V.text, V.items, V.keys, z0, z1, z2, z3, z4]) rfl ?_
    rw [HOUT.out]
    exact PutAns.bad r HB7.out
end Go.Proofs.YtdlmphbaolejcaaDoor
