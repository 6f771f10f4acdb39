/- Merge and Patch, walked: any two values. -/
import Derived.Test.YtebmjefimbcefaaGreatDoorJh
import Derived.Test.YtebmjefimbcefaaGreatDoorYe
import Derived.Test.YtebmjefimbcefaaGreatDoorJb
import Derived.Test.YtebmjefimbcefaaGreatDoorJj
import Derived.Test.YtebmjefimbcefaaGreatDoorJk
import Derived.Test.YtebmjefimbcefaaGreatDoorJc
namespace Go.Proofs.YtebmjefimbcefaaGreatDoor
open Go.RowKit
def MAns (q : V × Int) (w : World) (e : Ending) (w' : World) : Prop := ∃ A c K d, e = .returned (.tuple #[aggOf q.1 A c K d, .int .i64 q.2]) ∧ Lies w' w'.heap.size q.1 A c K d ∧ Below w.heap.size w w'
def mergeOut (a b : V) : V × Int := if (a.valid && b.valid) = true then (if (mergeV a b).valid = true then (mergeV a b, 0) else (nullV, 2)) else (nullV, 1)
def patchOut (a b : V) : V × Int := if (a.valid && b.valid) = true then (if (patchV a b).valid = true then (if eqV (mergeV a (patchV a b)) b = true then (patchV a b, 0) else (nullV, 3)) else (nullV, 2)) else (nullV, 1)
structure RX (g : Nat) (y : V) (A : Option Addr) (c : Nat) (K : Option Addr) (d : Nat) (W : World) : Prop where
  box : Boxed W g y A c K d
  lies : Lies W W.heap.size y A c K d
section
variable {W W' : World} {g : Nat} {y : V} {A K : Option Addr} {c d : Nat}
theorem RX.start (h : Lies W W.heap.size y A c K d) : RX W.heap.size y A c K d (W.alloc (.cells #[.int .i64 y.kind, .int .i64 y.int, .string y.text, .slice A y.items.length c, .slice K y.keys.length d] 27)) := ⟨BlockIs.new W _ _, lies_alloc h _⟩
theorem RX.on (h : RX g y A c K d W) (hb : Below W.heap.size W W') : RX g y A c K d W' := ⟨h.box.on hb, lies_on h.lies hb⟩
end
section
variable {w W : World} {ca cb : Array Value} {q : V} {zI zK u0 u1 u2 u3 u4 : Value} {D : Nat → Prop} {N : Nat}
theorem MB.bad (h : MB w ca cb W) (r : Int) : MAns (nullV, r) w (.returned (.tuple #[aggOf (leaf 0 0 ⟨#[]⟩) none 0 none 0, .int .i64 r])) (put5 W (w.heap.size + 2) 0 u0 u1 u2 u3 u4) := ⟨none, 0, none, 0, rfl, leaf_lies _ _ 0 0 (by decide), h.ends⟩
theorem MB.fine {A K : Option Addr} {c d : Nat} (h : MB w ca cb W) (ht : Tree W N q (.slice A q.items.length c) (.slice K q.keys.length d) D) (hN : w.heap.size ≤ N) (hD : ∀ b, D b → w.heap.size + 3 ≤ b ∧ b < W.heap.size) : MAns (q, 0) w (.returned (.tuple #[aggOf q A c K d, .int .i64 0])) (put5 W (w.heap.size + 2) 0 u0 u1 u2 u3 u4) := by
  obtain ⟨zI, zK, e, h1, h2⟩ := h.good (u0 := u0) (u1 := u1) (u2 := u2) (u3 := u3) (u4 := u4) ht hN hD
  simp only [Ending.returned.injEq, Value.agg.injEq] at e
  obtain ⟨A', c', K', d', e1, e2, hl⟩ := Tree.lies (B := (put5 W (w.heap.size + 2) 0 u0 u1 u2 u3 u4).heap.size) q h1 (fun b hb => hb.2)
  subst e1 e2
  simp at e
  obtain ⟨⟨rfl, rfl⟩, rfl, rfl⟩ := e
  exact ⟨A, c, K, d, rfl, hl, h2⟩
end
set_option maxRecDepth 100000 in
set_option maxHeartbeats 4000000 in
theorem progMerge_any (a b : V) (w : World) (A K : Option Addr) (c d : Nat) (A' K' : Option Addr) (c' d' : Nat) (ha : Lies w w.heap.size a A c K d) (hb : Lies w w.heap.size b A' c' K' d') :
    Calls Tryz.prog 9 #[.agg #[.int .i64 a.kind, .int .i64 a.int, .string a.text, .slice A a.items.length c, .slice K a.keys.length d], .agg #[.int .i64 b.kind, .int .i64 b.int, .string b.text, .slice A' b.items.length c', .slice K' b.keys.length d']] w (MAns (mergeOut a b) w) := by
  have HB0 := Lib.hid (MB.start w #[.int .i64 a.kind, .int .i64 a.int, .string a.text, .slice A a.items.length c, .slice K a.keys.length d] #[.int .i64 b.kind, .int .i64 b.int, .string b.text, .slice A' b.items.length c', .slice K' b.keys.length d'])
  obtain ⟨bx, hbx⟩ : ∃ q, a.valid = q := ⟨_, rfl⟩
  obtain ⟨bz, hbz⟩ : ∃ q, b.valid = q := ⟨_, rfl⟩
  have HV := Lib.hid fun W (hW : Below w.heap.size w W) => valid_yes a W A K c d (lies_on ha hW) hbx
  have HX := Lib.hid fun W (hW : Below w.heap.size w W) => valid_yes b W A' K' c' d' (lies_on hb hW) hbz
  obtain ⟨y, hy⟩ : ∃ y, y = mergeV a b := ⟨_, rfl⟩
  have HC := Lib.hid fun (h1 : bx = true) (h2 : bz = true) W (hW : Below w.heap.size w W) => show Calls Tryz.prog 32 #[.agg #[.int .i64 a.kind, .int .i64 a.int, .string a.text, .slice A a.items.length c, .slice K a.keys.length d], .agg #[.int .i64 b.kind, .int .i64 b.int, .string b.text, .slice A' b.items.length c', .slice K' b.keys.length d']] W (MPost y W) from by
    rw [hy]
    exact merge_any b.nodes b (Nat.le_refl _) a (valid_nodes (hbx.trans h1)).1 (valid_nodes (hbz.trans h2)).1 (by have := (valid_nodes (hbx.trans h1)).2; have := (valid_nodes (hbz.trans h2)).2; omega) W A K c d A' K' c' d' (lies_on ha hW) (lies_on hb hW)
  have HOUT := Lib.hid (show mergeOut a b = if (bx && bz) = true then (if y.valid = true then (y, 0) else (nullV, 2)) else (nullV, 1) by unfold mergeOut; rw [hbx, hbz, ← hy])
  obtain ⟨out, hout⟩ : ∃ out, out = mergeOut a b := ⟨_, rfl⟩
  rw [← hout] at HOUT ⊢
  clear hbx hbz ha hb hout hy
  go_enter Tryz.func9, Tryz.ntmps9
  go_wp2_with fail
  refine (HV.out _ HB0.out.old).mono ?_
  rintro e w1 ⟨rfl, h1⟩
  have HB1 := Lib.hid (HB0.out.on h1)
  clear h1 HB0
  cases bx
  case false =>
    obtain ⟨z0, z1, z2, z3, z4⟩ := five_of (show BlockIs w1 (w.heap.size + 2) 27 #[.int .i64 0, .int .i64 0, .string ⟨#[]⟩, .slice none 0 0, .slice none 0 0] from HB1.out.br)
    have y0 := HB1.out.br.frozen 0
    have y1 := HB1.out.br.frozen 1
    have y2 := HB1.out.br.frozen 2
    have y3 := HB1.out.br.frozen 3
    have y4 := HB1.out.br.frozen 4
    have zl := HB1.out.br.lt
    go_wp2_with fail
    refine bodyPost_ret (v := .tuple #[aggOf (leaf 0 0 ⟨#[]⟩) none 0 none 0, .int .i64 1]) (by simp [results, Tryz.results9, go_sem, aggOf, leaf, V.kind, V.int, V.text, V.items, V.keys, z0, z1, z2, z3, z4]) rfl ?_
    rw [HOUT.out, if_neg (by simp)]
    exact HB1.out.bad 1
  obtain ⟨x0, x1, x2, x3, x4⟩ := five_of HB1.out.bb
  have xl := HB1.out.bb.lt
  go_wp2_with fail
  refine (HX.out _ HB1.out.old).mono ?_
  rintro e w2 ⟨rfl, h2⟩
  have HB2 := Lib.hid (HB1.out.on h2)
  clear h2 x0 x1 x2 x3 x4 xl HB1
  cases bz
  case false =>
    obtain ⟨z0, z1, z2, z3, z4⟩ := five_of (show BlockIs w2 (w.heap.size + 2) 27 #[.int .i64 0, .int .i64 0, .string ⟨#[]⟩, .slice none 0 0, .slice none 0 0] from HB2.out.br)
    have y0 := HB2.out.br.frozen 0
    have y1 := HB2.out.br.frozen 1
    have y2 := HB2.out.br.frozen 2
    have y3 := HB2.out.br.frozen 3
    have y4 := HB2.out.br.frozen 4
    have zl := HB2.out.br.lt
    go_wp2_with fail
    refine bodyPost_ret (v := .tuple #[aggOf (leaf 0 0 ⟨#[]⟩) none 0 none 0, .int .i64 1]) (by simp [results, Tryz.results9, go_sem, aggOf, leaf, V.kind, V.int, V.text, V.items, V.keys, z0, z1, z2, z3, z4]) rfl ?_
    rw [HOUT.out, if_neg (by simp)]
    exact HB2.out.bad 1
  obtain ⟨b0, b1, b2, b3, b4⟩ := five_of HB2.out.ba
  obtain ⟨x0, x1, x2, x3, x4⟩ := five_of HB2.out.bb
  have bl := HB2.out.ba.lt
  have xl := HB2.out.bb.lt
  go_wp2_with fail
  refine (HC.out (by trivial) (by trivial) _ HB2.out.old).mono ?_
  rintro e w3 ⟨yI, yK, rfl, ht, h3⟩
  obtain ⟨⟨MA, mc, rfl⟩, MK, md, rfl⟩ := ht.forms
  clear HC
  have HB3 := Lib.hid (HB2.out.on h3)
  have HB4 := Lib.hid (HB3.out.on (below_al (Below.refl _ w3) (.cells #[.int .i64 y.kind, .int .i64 y.int, .string y.text, .slice MA y.items.length mc, .slice MK y.keys.length md] 27)))
  obtain ⟨MA', mc', MK', md', e1, e2, hly⟩ := Tree.lies (B := w3.heap.size) y ht (fun b hb => hb.2)
  cases e1
  cases e2
  have HX4 := Lib.hid (RX.start hly)
  have HT4 := Lib.hid (show Tree (w3.alloc (.cells #[.int .i64 y.kind, .int .i64 y.int, .string y.text, .slice MA y.items.length mc, .slice MK y.keys.length md] 27)) w2.heap.size y (.slice MA y.items.length mc) (.slice MK y.keys.length md) (Fresh w2 w3) from ht.keep y (fun b hb => Below.heap_alloc w3 _ b hb.2) (fun _ h => h))
  have HS2 := Lib.hid HB2.out.lt
  have HS3 := Lib.hid h3.size
  clear h3 ht hly b0 b1 b2 b3 b4 bl x0 x1 x2 x3 x4 xl HB2 HB3
  go_upto_region 4 with (fail)
  obtain ⟨Wa, hWa⟩ : ∃ Wa, Wa = w3.alloc (.cells #[.int .i64 y.kind, .int .i64 y.int, .string y.text, .slice MA y.items.length mc, .slice MK y.keys.length md] 27) := ⟨_, rfl⟩
  have hsa : Wa.heap.size = w3.heap.size + 1 := by rw [hWa]; simp
  rw [← hWa] at HB4 HX4 HT4 ⊢
  clear hWa
  obtain ⟨s0, s1, s2, s3, s4⟩ := HX4.out.box.cells
  have sl := HX4.out.box.lt
  obtain ⟨bv, hbv⟩ : ∃ q, y.valid = q := ⟨_, rfl⟩
  have HVY := Lib.hid (valid_yes y Wa MA MK mc md HX4.out.lies hbv)
  have HBV := Lib.hid hbv
  clear hbv
  go_wp2_with fail
  refine HVY.out.mono ?_
  rintro e w5 ⟨rfl, h5⟩
  have HB5 := Lib.hid (HB4.out.on h5)
  have HX5 := Lib.hid (HX4.out.on h5)
  have HT5 := Lib.hid (HT4.out.keep (w' := w5) y (fun b hb => h5.block b (by have := hb.2; omega)) (fun _ h => h))
  have HS5 := Lib.hid h5.size
  clear h5 s0 s1 s2 s3 s4 sl HB4 HX4 HT4 HVY
  obtain ⟨z0, z1, z2, z3, z4⟩ := five_of (show BlockIs w5 (w.heap.size + 2) 27 #[.int .i64 0, .int .i64 0, .string ⟨#[]⟩, .slice none 0 0, .slice none 0 0] from HB5.out.br)
  have y0 := HB5.out.br.frozen 0
  have y1 := HB5.out.br.frozen 1
  have y2 := HB5.out.br.frozen 2
  have y3 := HB5.out.br.frozen 3
  have y4 := HB5.out.br.frozen 4
  have zl := HB5.out.br.lt
  cases bv
  · have HA := Lib.hid (show out = (nullV, 2) by rw [HOUT.out, if_pos (by simp), if_neg (by rw [HBV.out]; simp)])
    go_wp2_with fail
    refine bodyPost_ret (v := .tuple #[aggOf (leaf 0 0 ⟨#[]⟩) none 0 none 0, .int .i64 2]) (by simp [results, Tryz.results9, go_sem, aggOf, leaf, V.kind, V.int, V.text, V.items, V.keys, z0, z1, z2, z3, z4]) rfl ?_
    rw [HA.out]
    exact HB5.out.bad 2
  · have HA := Lib.hid (show out = (y, 0) by rw [HOUT.out, if_pos (by simp), if_pos HBV.out])
    obtain ⟨s0, s1, s2, s3, s4⟩ := HX5.out.box.cells
    have sl := HX5.out.box.lt
    go_wp2_with fail
    refine bodyPost_ret (v := .tuple #[aggOf y MA mc MK md, .int .i64 0]) (by simp [results, Tryz.results9, go_sem, aggOf, z0, z1, z2, z3, z4]) rfl ?_
    rw [HA.out]
    exact HB5.out.fine HT5.out (by have := HS2.out; omega) (fun b hb => ⟨by have := HS2.out; have := hb.1; omega, by have := HS5.out; have := hb.2; omega⟩)
set_option maxRecDepth 100000 in
set_option maxHeartbeats 4000000 in
theorem progPatch_any (a b : V) (w : World) (A K : Option Addr) (c d : Nat) (A' K' : Option Addr) (c' d' : Nat) (ha : Lies w w.heap.size a A c K d) (hb : Lies w w.heap.size b A' c' K' d') :
    Calls Tryz.prog 11 #[.agg #[.int .i64 a.kind, .int .i64 a.int, .string a.text, .slice A a.items.length c, .slice K a.keys.length d], .agg #[.int .i64 b.kind, .int .i64 b.int, .string b.text, .slice A' b.items.length c', .slice K' b.keys.length d']] w (MAns (patchOut a b) w) := by
  have HB0 := Lib.hid (MB.start w #[.int .i64 a.kind, .int .i64 a.int, .string a.text, .slice A a.items.length c, .slice K a.keys.length d] #[.int .i64 b.kind, .int .i64 b.int, .string b.text, .slice A' b.items.length c', .slice K' b.keys.length d'])
  obtain ⟨bx, hbx⟩ : ∃ q, a.valid = q := ⟨_, rfl⟩
  obtain ⟨bz, hbz⟩ : ∃ q, b.valid = q := ⟨_, rfl⟩
  have HV := Lib.hid fun W (hW : Below w.heap.size w W) => valid_yes a W A K c d (lies_on ha hW) hbx
  have HX := Lib.hid fun W (hW : Below w.heap.size w W) => valid_yes b W A' K' c' d' (lies_on hb hW) hbz
  obtain ⟨y, hy⟩ : ∃ y, y = patchV a b := ⟨_, rfl⟩
  obtain ⟨u, hu⟩ : ∃ u, u = mergeV a y := ⟨_, rfl⟩
  have HC := Lib.hid fun (h1 : bx = true) (h2 : bz = true) W (hW : Below w.heap.size w W) => show Calls Tryz.prog 34 #[.agg #[.int .i64 a.kind, .int .i64 a.int, .string a.text, .slice A a.items.length c, .slice K a.keys.length d], .agg #[.int .i64 b.kind, .int .i64 b.int, .string b.text, .slice A' b.items.length c', .slice K' b.keys.length d']] W (MPost y W) from by
    rw [hy]
    have ha2 := (valid_nodes (hbx.trans h1)).2
    have hb2 := (valid_nodes (hbz.trans h2)).2
    have hm : (1 + a.nodes) * b.nodes ≤ 61 * 60 := Nat.mul_le_mul (by omega) hb2
    exact patch_any b.nodes b (Nat.le_refl _) a (valid_nodes (hbx.trans h1)).1 (valid_nodes (hbz.trans h2)).1 (by omega) W A K c d A' K' c' d' (lies_on ha hW) (lies_on hb hW)
  have HMG := Lib.hid fun (h1 : bx = true) (h2 : y.valid = true) W AY KY cy dy (hW : Below w.heap.size w W) (hy2 : Lies W W.heap.size y AY cy KY dy) => show Calls Tryz.prog 32 #[.agg #[.int .i64 a.kind, .int .i64 a.int, .string a.text, .slice A a.items.length c, .slice K a.keys.length d], .agg #[.int .i64 y.kind, .int .i64 y.int, .string y.text, .slice AY y.items.length cy, .slice KY y.keys.length dy]] W (MPost u W) from by
    rw [hu]
    exact merge_any y.nodes y (Nat.le_refl _) a (valid_nodes (hbx.trans h1)).1 (valid_nodes h2).1 (by have := (valid_nodes (hbx.trans h1)).2; have := (valid_nodes h2).2; omega) W A K c d AY KY cy dy (lies_on ha hW) hy2
  have HEQ := Lib.hid fun W AU KU cu du (hW : Below w.heap.size w W) (hu2 : Lies W W.heap.size u AU cu KU du) => equal_any u b W AU KU cu du A' K' c' d' hu2 (lies_on hb hW)
  obtain ⟨be, hbe⟩ : ∃ q, eqV u b = q := ⟨_, rfl⟩
  rw [hbe] at HEQ
  have HOUT := Lib.hid (show patchOut a b = if (bx && bz) = true then (if y.valid = true then (if be = true then (y, 0) else (nullV, 3)) else (nullV, 2)) else (nullV, 1) by unfold patchOut; rw [hbx, hbz, ← hy, ← hu, hbe])
  obtain ⟨out, hout⟩ : ∃ out, out = patchOut a b := ⟨_, rfl⟩
  rw [← hout] at HOUT ⊢
  clear hbx hbz ha hb hout hy hu hbe
  go_enter Tryz.func11, Tryz.ntmps11
  go_wp2_with fail
  refine (HV.out _ HB0.out.old).mono ?_
  rintro e w1 ⟨rfl, h1⟩
  have HB1 := Lib.hid (HB0.out.on h1)
  clear h1 HB0
  cases bx
  case false =>
    obtain ⟨z0, z1, z2, z3, z4⟩ := five_of (show BlockIs w1 (w.heap.size + 2) 27 #[.int .i64 0, .int .i64 0, .string ⟨#[]⟩, .slice none 0 0, .slice none 0 0] from HB1.out.br)
    have y0 := HB1.out.br.frozen 0
    have y1 := HB1.out.br.frozen 1
    have y2 := HB1.out.br.frozen 2
    have y3 := HB1.out.br.frozen 3
    have y4 := HB1.out.br.frozen 4
    have zl := HB1.out.br.lt
    go_wp2_with fail
    refine bodyPost_ret (v := .tuple #[aggOf (leaf 0 0 ⟨#[]⟩) none 0 none 0, .int .i64 1]) (by simp [results, Tryz.results11, go_sem, aggOf, leaf, V.kind, V.int, V.text, V.items, V.keys, z0, z1, z2, z3, z4]) rfl ?_
    rw [HOUT.out, if_neg (by simp)]
    exact HB1.out.bad 1
  obtain ⟨x0, x1, x2, x3, x4⟩ := five_of HB1.out.bb
  have xl := HB1.out.bb.lt
  go_wp2_with fail
  refine (HX.out _ HB1.out.old).mono ?_
  rintro e w2 ⟨rfl, h2⟩
  have HB2 := Lib.hid (HB1.out.on h2)
  clear h2 x0 x1 x2 x3 x4 xl HB1
  cases bz
  case false =>
    obtain ⟨z0, z1, z2, z3, z4⟩ := five_of (show BlockIs w2 (w.heap.size + 2) 27 #[.int .i64 0, .int .i64 0, .string ⟨#[]⟩, .slice none 0 0, .slice none 0 0] from HB2.out.br)
    have y0 := HB2.out.br.frozen 0
    have y1 := HB2.out.br.frozen 1
    have y2 := HB2.out.br.frozen 2
    have y3 := HB2.out.br.frozen 3
    have y4 := HB2.out.br.frozen 4
    have zl := HB2.out.br.lt
    go_wp2_with fail
    refine bodyPost_ret (v := .tuple #[aggOf (leaf 0 0 ⟨#[]⟩) none 0 none 0, .int .i64 1]) (by simp [results, Tryz.results11, go_sem, aggOf, leaf, V.kind, V.int, V.text, V.items, V.keys, z0, z1, z2, z3, z4]) rfl ?_
    rw [HOUT.out, if_neg (by simp)]
    exact HB2.out.bad 1
  obtain ⟨b0, b1, b2, b3, b4⟩ := five_of HB2.out.ba
  obtain ⟨x0, x1, x2, x3, x4⟩ := five_of HB2.out.bb
  have bl := HB2.out.ba.lt
  have xl := HB2.out.bb.lt
  go_wp2_with fail
  refine (HC.out (by trivial) (by trivial) _ HB2.out.old).mono ?_
  rintro e w3 ⟨yI, yK, rfl, ht, h3⟩
  obtain ⟨⟨MA, mc, rfl⟩, MK, md, rfl⟩ := ht.forms
  clear HC
  have HB3 := Lib.hid (HB2.out.on h3)
  have HB4 := Lib.hid (HB3.out.on (below_al (Below.refl _ w3) (.cells #[.int .i64 y.kind, .int .i64 y.int, .string y.text, .slice MA y.items.length mc, .slice MK y.keys.length md] 27)))
  obtain ⟨MA', mc', MK', md', e1, e2, hly⟩ := Tree.lies (B := w3.heap.size) y ht (fun b hb => hb.2)
  cases e1
  cases e2
  have HX4 := Lib.hid (RX.start hly)
  have HT4 := Lib.hid (show Tree (w3.alloc (.cells #[.int .i64 y.kind, .int .i64 y.int, .string y.text, .slice MA y.items.length mc, .slice MK y.keys.length md] 27)) w2.heap.size y (.slice MA y.items.length mc) (.slice MK y.keys.length md) (Fresh w2 w3) from ht.keep y (fun b hb => Below.heap_alloc w3 _ b hb.2) (fun _ h => h))
  have HS2 := Lib.hid HB2.out.lt
  have HS3 := Lib.hid h3.size
  clear h3 ht hly b0 b1 b2 b3 b4 bl x0 x1 x2 x3 x4 xl HB2 HB3
  go_upto_region 4 with (fail)
  obtain ⟨Wa, hWa⟩ : ∃ Wa, Wa = w3.alloc (.cells #[.int .i64 y.kind, .int .i64 y.int, .string y.text, .slice MA y.items.length mc, .slice MK y.keys.length md] 27) := ⟨_, rfl⟩
  have hsa : Wa.heap.size = w3.heap.size + 1 := by rw [hWa]; simp
  rw [← hWa] at HB4 HX4 HT4 ⊢
  clear hWa
  obtain ⟨s0, s1, s2, s3, s4⟩ := HX4.out.box.cells
  have sl := HX4.out.box.lt
  obtain ⟨bv, hbv⟩ : ∃ q, y.valid = q := ⟨_, rfl⟩
  have HVY := Lib.hid (valid_yes y Wa MA MK mc md HX4.out.lies hbv)
  have HBV := Lib.hid hbv
  clear hbv
  go_wp2_with fail
  refine HVY.out.mono ?_
  rintro e w5 ⟨rfl, h5⟩
  have HB5 := Lib.hid (HB4.out.on h5)
  have HX5 := Lib.hid (HX4.out.on h5)
  have HT5 := Lib.hid (HT4.out.keep (w' := w5) y (fun b hb => h5.block b (by have := hb.2; omega)) (fun _ h => h))
  have HS5 := Lib.hid h5.size
  clear h5 s0 s1 s2 s3 s4 sl HB4 HX4 HT4 HVY
  cases bv
  case false =>
    have HA := Lib.hid (show out = (nullV, 2) by rw [HOUT.out, if_pos (by simp), if_neg (by rw [HBV.out]; simp)])
    obtain ⟨z0, z1, z2, z3, z4⟩ := five_of (show BlockIs w5 (w.heap.size + 2) 27 #[.int .i64 0, .int .i64 0, .string ⟨#[]⟩, .slice none 0 0, .slice none 0 0] from HB5.out.br)
    have y0 := HB5.out.br.frozen 0
    have y1 := HB5.out.br.frozen 1
    have y2 := HB5.out.br.frozen 2
    have y3 := HB5.out.br.frozen 3
    have y4 := HB5.out.br.frozen 4
    have zl := HB5.out.br.lt
    go_wp2_with fail
    refine bodyPost_ret (v := .tuple #[aggOf (leaf 0 0 ⟨#[]⟩) none 0 none 0, .int .i64 2]) (by simp [results, Tryz.results11, go_sem, aggOf, leaf, V.kind, V.int, V.text, V.items, V.keys, z0, z1, z2, z3, z4]) rfl ?_
    rw [HA.out]
    exact HB5.out.bad 2
  have HOUT := Lib.hid (show out = if be = true then (y, 0) else (nullV, 3) by rw [HOUT.out, if_pos (by simp), if_pos HBV.out])
  obtain ⟨s0, s1, s2, s3, s4⟩ := HX5.out.box.cells
  have sl := HX5.out.box.lt
  obtain ⟨b0, b1, b2, b3, b4⟩ := five_of HB5.out.ba
  obtain ⟨x0, x1, x2, x3, x4⟩ := five_of HB5.out.bb
  have bl := HB5.out.ba.lt
  have xl := HB5.out.bb.lt
  go_upto_region 6 with (fail)
  have HD := Lib.hid (below_on HB5.out.old (Below.refl _ w5).drew)
  have HYD := Lib.hid (lies_on HX5.out.lies (Below.refl _ w5).drew)
  go_region_with (first
    | (go_at_call 32; refine (HMG.out (by trivial) HBV.out w5.drew MA MK mc md HD.out HYD.out).mono ?_; rintro e w6 ⟨uI, uK, rfl, hu, h6⟩; obtain ⟨UA, uc, UK, ud, e1, e2, hlu⟩ := Tree.lies (B := w6.heap.size) u hu (fun b hb => hb.2); subst e1 e2; have hbb6 := (show BlockIs w5.drew (w.heap.size + 1) _ _ from HB5.out.bb).below h6 HB5.out.bb.lt; obtain ⟨t0, t1, t2, t3, t4⟩ := five_of hbb6; have tl := BlockIs.lt hbb6; have HLU := Lib.hid hlu; have HD6 := Lib.hid (below_on HD.out h6); have HW6 := Lib.hid h6; clear hu hlu hbb6 h6)
    | (go_at_call 35; refine (HEQ.out w6 UA UK uc ud HD6.out HLU.out).mono ?_; rintro e w7 ⟨rfl, h7⟩; have HW7 := Lib.hid h7; clear h7))
  all_goals
    have hb7 : Below w5.heap.size w5 w7 := (⟨HW6.out.os, HW6.out.tape, HW6.out.output, HW6.out.size, HW6.out.block⟩ : Below w5.heap.size w5 w6).trans (HW7.out.mono HW6.out.size)
    have HB7 := Lib.hid (HB5.out.on hb7)
    have HX7 := Lib.hid (HX5.out.on hb7)
    have HT7 := Lib.hid (HT5.out.keep (w' := w7) y (fun b hb => hb7.block b (by have := HS5.out; have := hb.2; omega)) (fun _ h => h))
    have HS7 := Lib.hid hb7.size
    clear hb7 s0 s1 s2 s3 s4 sl b0 b1 b2 b3 b4 x0 x1 x2 x3 x4 bl xl t0 t1 t2 t3 t4 tl HD HYD HLU HD6 HW6 HW7 HB5 HX5 HT5 HMG HEQ
    obtain ⟨z0, z1, z2, z3, z4⟩ := five_of (show BlockIs w7 (w.heap.size + 2) 27 #[.int .i64 0, .int .i64 0, .string ⟨#[]⟩, .slice none 0 0, .slice none 0 0] from HB7.out.br)
    have y0 := HB7.out.br.frozen 0
    have y1 := HB7.out.br.frozen 1
    have y2 := HB7.out.br.frozen 2
    have y3 := HB7.out.br.frozen 3
    have y4 := HB7.out.br.frozen 4
    have zl := HB7.out.br.lt
    cases be
    · have HA := Lib.hid (show out = (nullV, 3) by rw [HOUT.out, if_neg (by simp)])
      go_wp2_with fail
      refine bodyPost_ret (v := .tuple #[aggOf (leaf 0 0 ⟨#[]⟩) none 0 none 0, .int .i64 3]) (by simp [results, Tryz.results11, go_sem, aggOf, leaf, V.kind, V.int, V.text, V.items, V.keys, z0, z1, z2, z3, z4]) rfl ?_
      rw [HA.out]
      exact HB7.out.bad 3
    · have HA := Lib.hid (show out = (y, 0) by rw [HOUT.out, if_pos (by rfl)])
      obtain ⟨s0, s1, s2, s3, s4⟩ := HX7.out.box.cells
      have sl := HX7.out.box.lt
      go_wp2_with fail
      refine bodyPost_ret (v := .tuple #[aggOf y MA mc MK md, .int .i64 0]) (by simp [results, Tryz.results11, go_sem, aggOf, z0, z1, z2, z3, z4]) rfl ?_
      rw [HA.out]
      exact HB7.out.fine HT7.out (by have := HS2.out; omega) (fun b hb => ⟨by have := HS2.out; have := hb.1; omega, by have := HS5.out; have := HS7.out; have := hb.2; omega⟩)
open Go.RowKit
theorem eqV_same {x y : V} (hy : y.valid = true) : eqV x y = true ↔ x = y := by
  unfold eqV
  simp only [Bool.and_eq_true, decide_eq_true_eq]
  constructor
  · rintro ⟨⟨hx, -⟩, h0⟩
    exact (cmp_zero (valid_ok hx) (valid_ok hy)).1 h0
  · rintro rfl
    exact ⟨⟨hy, hy⟩, (cmp_order x x x).2.2.1⟩
theorem OutQ.lies {y : V} {w w' : World} {e : Ending} (h : OutQ (fun b => b < w.heap.size) y w e w') : ∃ A c K d, e = .returned (.agg #[.int .i64 y.kind, .int .i64 y.int, .string y.text, .slice A y.items.length c, .slice K y.keys.length d]) ∧ Lies w' w'.heap.size y A c K d ∧ Below w.heap.size w w' := by
  obtain ⟨A, c, K, d, he, hl, hb⟩ := h
  refine ⟨A, c, K, d, he, LiesIn.lies (fun b hx => ?_) y hl, hb⟩
  have := hb.size
  rcases hx with hx | hx
  · omega
  · exact hx.2
section
variable {w W W' : World} {ca cb : Array Value} {y : V} {A K : Option Addr} {c d : Nat} {u0 u1 u2 u3 u4 : Value}
theorem ans_on (h : MB w ca cb W) (hl : LiesIn (fun b => b < w.heap.size ∨ Fresh W W' b) W' y A c K d) : LiesIn (MP w (fun b => b < w.heap.size) W') W' y A c K d :=
  LiesIn.keep (fun _ _ _ => rfl) (fun _ hx => hx.imp id fun hx => ⟨by have := h.lt; have := hx.1; omega, hx.2⟩) y hl
theorem ans_lies (h : MB w ca cb W) (hl : LiesIn (MP w (fun b => b < w.heap.size) W) W y A c K d) : Lies W W.heap.size y A c K d :=
  LiesIn.lies (fun _ hx => MP.lt (P := (fun b => b < w.heap.size)) (fun _ h => h) h hx) y hl
theorem MB.fineQ (h : MB w ca cb W) (hl : LiesIn (MP w (fun b => b < w.heap.size) W) W y A c K d) : MAns (y, 0) w (.returned (.tuple #[aggOf y A c K d, .int .i64 0])) (put5 W (w.heap.size + 2) 0 u0 u1 u2 u3 u4) :=
  ⟨A, c, K, d, rfl, LiesIn.lies (fun _ hx => by
    rw [put5_size]
    exact MP.lt (P := (fun b => b < w.heap.size)) (fun _ h => h) h (hx.imp id fun hx => ⟨hx.1, by have := hx.2; rw [put5_size] at this; exact this⟩)) y (inn_set (P := (fun b => b < w.heap.size)) (fun _ h => h) hl ⟨by omega, by omega⟩), h.ends⟩
end
theorem three_cells {wr W : World} {g h k : Nat} {t : TypeId} {x0 x1 x2 x3 x4 y0 y1 y2 y3 y4 z0 z1 z2 z3 z4 : Value} (hg : BlockIs wr g t #[x0, x1, x2, x3, x4]) (hh : BlockIs wr h t #[y0, y1, y2, y3, y4]) (hk : BlockIs wr k t #[z0, z1, z2, z3, z4]) (hb : Below wr.heap.size wr W) :
    Hid (Below wr.heap.size wr W) ∧ (W.cell? ⟨g, 0, none⟩ = some x0 ∧ W.cell? ⟨g, 1, none⟩ = some x1 ∧ W.cell? ⟨g, 2, none⟩ = some x2 ∧ W.cell? ⟨g, 3, none⟩ = some x3 ∧ W.cell? ⟨g, 4, none⟩ = some x4) ∧ (W.cell? ⟨h, 0, none⟩ = some y0 ∧ W.cell? ⟨h, 1, none⟩ = some y1 ∧ W.cell? ⟨h, 2, none⟩ = some y2 ∧ W.cell? ⟨h, 3, none⟩ = some y3 ∧ W.cell? ⟨h, 4, none⟩ = some y4) ∧ (W.cell? ⟨k, 0, none⟩ = some z0 ∧ W.cell? ⟨k, 1, none⟩ = some z1 ∧ W.cell? ⟨k, 2, none⟩ = some z2 ∧ W.cell? ⟨k, 3, none⟩ = some z3 ∧ W.cell? ⟨k, 4, none⟩ = some z4) :=
  ⟨Lib.hid hb, five_of (hg.below hb hg.lt), five_of (hh.below hb hh.lt), five_of (hk.below hb hk.lt)⟩
set_option maxRecDepth 100000 in
set_option maxHeartbeats 4000000 in
theorem refMergeW_any (a b : V) (w : World) (A K : Option Addr) (c d : Nat) (A' K' : Option Addr) (c' d' : Nat) (ha : Lies w w.heap.size a A c K d) (hb : Lies w w.heap.size b A' c' K' d') :
    Calls Tryz.prog 10 #[.agg #[.int .i64 a.kind, .int .i64 a.int, .string a.text, .slice A a.items.length c, .slice K a.keys.length d], .agg #[.int .i64 b.kind, .int .i64 b.int, .string b.text, .slice A' b.items.length c', .slice K' b.keys.length d']] w (MAns (mergeOut a b) w) := by
  have HB0 := Lib.hid (MB.start w #[.int .i64 a.kind, .int .i64 a.int, .string a.text, .slice A a.items.length c, .slice K a.keys.length d] #[.int .i64 b.kind, .int .i64 b.int, .string b.text, .slice A' b.items.length c', .slice K' b.keys.length d'])
  obtain ⟨bx, hbx⟩ : ∃ q, a.valid = q := ⟨_, rfl⟩
  obtain ⟨bz, hbz⟩ : ∃ q, b.valid = q := ⟨_, rfl⟩
  have HV := Lib.hid fun W (hW : Below w.heap.size w W) => valid_is a W A K c d (lies_on ha hW) hbx
  have HX := Lib.hid fun W (hW : Below w.heap.size w W) => valid_is b W A' K' c' d' (lies_on hb hW) hbz
  obtain ⟨y, hy⟩ : ∃ y, y = mergeV a b := ⟨_, rfl⟩
  have HC := Lib.hid fun (h1 : bx = true) (h2 : bz = true) W (hW : Below w.heap.size w W) => show Calls Tryz.prog 33 #[.agg #[.int .i64 a.kind, .int .i64 a.int, .string a.text, .slice A a.items.length c, .slice K a.keys.length d], .agg #[.int .i64 b.kind, .int .i64 b.int, .string b.text, .slice A' b.items.length c', .slice K' b.keys.length d']] W (OutQ (fun b => b < w.heap.size) y W) from by
    rw [hy]
    exact refMerge_any b.nodes b (Nat.le_refl _) a (valid_nodes (hbx.trans h1)).1 (valid_nodes (hbz.trans h2)).1 (by have := (valid_nodes (hbx.trans h1)).2; have := (valid_nodes (hbz.trans h2)).2; omega) (fun b => b < w.heap.size) W A K c d A' K' c' d' (fun b hb => by have := hW.size; omega) (lies_inn (fun _ h => h) a (ha.below hW)) (lies_inn (fun _ h => h) b (hb.below hW))
  have HOUT := Lib.hid (show mergeOut a b = if (bx && bz) = true then (if y.valid = true then (y, 0) else (nullV, 2)) else (nullV, 1) by unfold mergeOut; rw [hbx, hbz, ← hy])
  obtain ⟨out, hout⟩ : ∃ out, out = mergeOut a b := ⟨_, rfl⟩
  rw [← hout] at HOUT ⊢
  clear hbx hbz ha hb hout hy
  go_enter Tryz.func10, Tryz.ntmps10
  go_wp2_with fail
  refine (HV.out _ HB0.out.old).mono ?_
  rintro e w1 ⟨rfl, h1⟩
  have HB1 := Lib.hid (HB0.out.on h1)
  clear h1 HB0
  cases bx
  case false =>
    obtain ⟨z0, z1, z2, z3, z4⟩ := five_of (show BlockIs w1 (w.heap.size + 2) 27 #[.int .i64 0, .int .i64 0, .string ⟨#[]⟩, .slice none 0 0, .slice none 0 0] from HB1.out.br)
    have y0 := HB1.out.br.frozen 0
    have y1 := HB1.out.br.frozen 1
    have y2 := HB1.out.br.frozen 2
    have y3 := HB1.out.br.frozen 3
    have y4 := HB1.out.br.frozen 4
    have zl := HB1.out.br.lt
    go_wp2_with fail
    refine bodyPost_ret (v := .tuple #[aggOf (leaf 0 0 ⟨#[]⟩) none 0 none 0, .int .i64 1]) (by simp [results, Tryz.results10, go_sem, aggOf, leaf, V.kind, V.int, V.text, V.items, V.keys, z0, z1, z2, z3, z4]) rfl ?_
    rw [HOUT.out, if_neg (by simp)]
    exact HB1.out.bad 1
  obtain ⟨x0, x1, x2, x3, x4⟩ := five_of HB1.out.bb
  have xl := HB1.out.bb.lt
  go_wp2_with fail
  refine (HX.out _ HB1.out.old).mono ?_
  rintro e w2 ⟨rfl, h2⟩
  have HB2 := Lib.hid (HB1.out.on h2)
  clear h2 x0 x1 x2 x3 x4 xl HB1
  cases bz
  case false =>
    obtain ⟨z0, z1, z2, z3, z4⟩ := five_of (show BlockIs w2 (w.heap.size + 2) 27 #[.int .i64 0, .int .i64 0, .string ⟨#[]⟩, .slice none 0 0, .slice none 0 0] from HB2.out.br)
    have y0 := HB2.out.br.frozen 0
    have y1 := HB2.out.br.frozen 1
    have y2 := HB2.out.br.frozen 2
    have y3 := HB2.out.br.frozen 3
    have y4 := HB2.out.br.frozen 4
    have zl := HB2.out.br.lt
    go_wp2_with fail
    refine bodyPost_ret (v := .tuple #[aggOf (leaf 0 0 ⟨#[]⟩) none 0 none 0, .int .i64 1]) (by simp [results, Tryz.results10, go_sem, aggOf, leaf, V.kind, V.int, V.text, V.items, V.keys, z0, z1, z2, z3, z4]) rfl ?_
    rw [HOUT.out, if_neg (by simp)]
    exact HB2.out.bad 1
  obtain ⟨b0, b1, b2, b3, b4⟩ := five_of HB2.out.ba
  obtain ⟨x0, x1, x2, x3, x4⟩ := five_of HB2.out.bb
  have bl := HB2.out.ba.lt
  have xl := HB2.out.bb.lt
  go_wp2_with fail
  refine (HC.out (by trivial) (by trivial) _ HB2.out.old).mono ?_
  rintro e w3 ⟨MA, mc, MK, md, he, hly, h3⟩
  unfold aggOf at he
  subst he
  clear HC
  have HB3 := Lib.hid (HB2.out.on h3)
  have hal := below_al (Below.refl _ w3) (.cells #[.int .i64 y.kind, .int .i64 y.int, .string y.text, .slice MA y.items.length mc, .slice MK y.keys.length md] 27)
  have HB4 := Lib.hid (HB3.out.on hal)
  have HY4 := Lib.hid (inn_on (P := (fun b => b < w.heap.size)) (fun _ h => h) HB3.out hal (ans_on HB2.out hly))
  have HX4 := Lib.hid (show Boxed (w3.alloc (.cells #[.int .i64 y.kind, .int .i64 y.int, .string y.text, .slice MA y.items.length mc, .slice MK y.keys.length md] 27)) w3.heap.size y MA mc MK md from BlockIs.new w3 _ _)
  clear h3 hly hal b0 b1 b2 b3 b4 bl x0 x1 x2 x3 x4 xl HB2 HB3
  go_upto_region 4 with (fail)
  obtain ⟨Wa, hWa⟩ : ∃ Wa, Wa = w3.alloc (.cells #[.int .i64 y.kind, .int .i64 y.int, .string y.text, .slice MA y.items.length mc, .slice MK y.keys.length md] 27) := ⟨_, rfl⟩
  have hsa : Wa.heap.size = w3.heap.size + 1 := by rw [hWa]; simp
  rw [← hWa] at HB4 HX4 HY4 ⊢
  clear hWa
  obtain ⟨s0, s1, s2, s3, s4⟩ := HX4.out.cells
  have sl := HX4.out.lt
  obtain ⟨bv, hbv⟩ : ∃ q, y.valid = q := ⟨_, rfl⟩
  have HVY := Lib.hid (valid_is y Wa MA MK mc md (ans_lies HB4.out HY4.out) hbv)
  have HYV := Lib.hid hbv
  clear hbv
  go_wp2_with fail
  refine HVY.out.mono ?_
  rintro e w5 ⟨rfl, h5⟩
  have HB5 := Lib.hid (HB4.out.on h5)
  have HX5 := Lib.hid (HX4.out.on h5)
  have HY5 := Lib.hid (inn_on (P := (fun b => b < w.heap.size)) (fun _ h => h) HB4.out h5 HY4.out)
  clear h5 s0 s1 s2 s3 s4 sl HB4 HX4 HY4 HVY hsa
  cases bv
  case false =>
    have HA := Lib.hid (show out = (nullV, 2) by rw [HOUT.out, if_pos (by simp), if_neg (by rw [HYV.out]; simp)])
    obtain ⟨z0, z1, z2, z3, z4⟩ := five_of (show BlockIs w5 (w.heap.size + 2) 27 #[.int .i64 0, .int .i64 0, .string ⟨#[]⟩, .slice none 0 0, .slice none 0 0] from HB5.out.br)
    have y0 := HB5.out.br.frozen 0
    have y1 := HB5.out.br.frozen 1
    have y2 := HB5.out.br.frozen 2
    have y3 := HB5.out.br.frozen 3
    have y4 := HB5.out.br.frozen 4
    have zl := HB5.out.br.lt
    go_wp2_with fail
    refine bodyPost_ret (v := .tuple #[aggOf (leaf 0 0 ⟨#[]⟩) none 0 none 0, .int .i64 2]) (by simp [results, Tryz.results10, go_sem, aggOf, leaf, V.kind, V.int, V.text, V.items, V.keys, z0, z1, z2, z3, z4]) rfl ?_
    rw [HA.out]
    exact HB5.out.bad 2
  have HA := Lib.hid (show out = (y, 0) by rw [HOUT.out, if_pos (by simp), if_pos HYV.out])
  obtain ⟨z0, z1, z2, z3, z4⟩ := five_of (show BlockIs w5 (w.heap.size + 2) 27 #[.int .i64 0, .int .i64 0, .string ⟨#[]⟩, .slice none 0 0, .slice none 0 0] from HB5.out.br)
  have y0 := HB5.out.br.frozen 0
  have y1 := HB5.out.br.frozen 1
  have y2 := HB5.out.br.frozen 2
  have y3 := HB5.out.br.frozen 3
  have y4 := HB5.out.br.frozen 4
  have zl := HB5.out.br.lt
  obtain ⟨s0, s1, s2, s3, s4⟩ := HX5.out.cells
  have sl := HX5.out.lt
  go_wp2_with fail
  refine bodyPost_ret (v := .tuple #[aggOf y MA mc MK md, .int .i64 0]) (by simp [results, Tryz.results10, go_sem, aggOf, z0, z1, z2, z3, z4]) rfl ?_
  rw [HA.out]
  exact HB5.out.fineQ HY5.out
set_option maxRecDepth 100000 in
set_option maxHeartbeats 4000000 in
theorem refPatchW_any (a b : V) (w : World) (A K : Option Addr) (c d : Nat) (A' K' : Option Addr) (c' d' : Nat) (ha : Lies w w.heap.size a A c K d) (hb : Lies w w.heap.size b A' c' K' d') :
    Calls Tryz.prog 12 #[.agg #[.int .i64 a.kind, .int .i64 a.int, .string a.text, .slice A a.items.length c, .slice K a.keys.length d], .agg #[.int .i64 b.kind, .int .i64 b.int, .string b.text, .slice A' b.items.length c', .slice K' b.keys.length d']] w (MAns (patchOut a b) w) := by
  have HB0 := Lib.hid (MB.start w #[.int .i64 a.kind, .int .i64 a.int, .string a.text, .slice A a.items.length c, .slice K a.keys.length d] #[.int .i64 b.kind, .int .i64 b.int, .string b.text, .slice A' b.items.length c', .slice K' b.keys.length d'])
  obtain ⟨bx, hbx⟩ : ∃ q, a.valid = q := ⟨_, rfl⟩
  obtain ⟨bz, hbz⟩ : ∃ q, b.valid = q := ⟨_, rfl⟩
  have HV := Lib.hid fun W (hW : Below w.heap.size w W) => valid_is a W A K c d (lies_on ha hW) hbx
  have HX := Lib.hid fun W (hW : Below w.heap.size w W) => valid_is b W A' K' c' d' (lies_on hb hW) hbz
  obtain ⟨y, hy⟩ : ∃ y, y = patchV a b := ⟨_, rfl⟩
  obtain ⟨u, hu⟩ : ∃ u, u = mergeV a y := ⟨_, rfl⟩
  have HC := Lib.hid fun (h1 : bx = true) (h2 : bz = true) W (hW : Below w.heap.size w W) => show Calls Tryz.prog 36 #[.agg #[.int .i64 a.kind, .int .i64 a.int, .string a.text, .slice A a.items.length c, .slice K a.keys.length d], .agg #[.int .i64 b.kind, .int .i64 b.int, .string b.text, .slice A' b.items.length c', .slice K' b.keys.length d']] W (OutQ (fun b => b < w.heap.size) y W) from by
    rw [hy]
    have ha2 := (valid_nodes (hbx.trans h1)).2
    have hb2 := (valid_nodes (hbz.trans h2)).2
    have hm : (1 + a.nodes) * b.nodes ≤ 61 * 60 := Nat.mul_le_mul (by omega) hb2
    exact refPatch_any b.nodes b (Nat.le_refl _) a (hbx.trans h1) (hbz.trans h2) (by omega) (fun b => b < w.heap.size) W A K c d A' K' c' d' (fun b hb => by have := hW.size; omega) (lies_inn (fun _ h => h) a (ha.below hW)) (lies_inn (fun _ h => h) b (hb.below hW))
  have HMG := Lib.hid fun (h1 : bx = true) (h2 : y.valid = true) W AY KY cy dy (hW : Below w.heap.size w W) (hy2 : Lies W W.heap.size y AY cy KY dy) => show Calls Tryz.prog 33 #[.agg #[.int .i64 a.kind, .int .i64 a.int, .string a.text, .slice A a.items.length c, .slice K a.keys.length d], .agg #[.int .i64 y.kind, .int .i64 y.int, .string y.text, .slice AY y.items.length cy, .slice KY y.keys.length dy]] W (fun e w' => ∃ A c K d, e = .returned (.agg #[.int .i64 u.kind, .int .i64 u.int, .string u.text, .slice A u.items.length c, .slice K u.keys.length d]) ∧ Lies w' w'.heap.size u A c K d ∧ Below W.heap.size W w') from by
    rw [hu]
    exact (refMerge_any y.nodes y (Nat.le_refl _) a (valid_nodes (hbx.trans h1)).1 (valid_nodes h2).1 (by have := (valid_nodes (hbx.trans h1)).2; have := (valid_nodes h2).2; omega) (fun b => b < W.heap.size) W A K c d AY KY cy dy (fun _ h => h) (lies_inn (fun _ h => h) a (lies_on ha hW)) (lies_inn (fun _ h => h) y hy2)).mono fun e w' h => OutQ.lies h
  have HEQ := Lib.hid fun (h2 : bz = true) W AU KU cu du (hW : Below w.heap.size w W) (hu2 : Lies W W.heap.size u AU cu KU du) => same_is u b W AU KU cu du A' K' c' d' hu2 (lies_on hb hW) (r := eqV u b) (eqV_same (hbz.trans h2))
  obtain ⟨be, hbe⟩ : ∃ q, eqV u b = q := ⟨_, rfl⟩
  rw [hbe] at HEQ
  have HOUT := Lib.hid (show patchOut a b = if (bx && bz) = true then (if y.valid = true then (if be = true then (y, 0) else (nullV, 3)) else (nullV, 2)) else (nullV, 1) by unfold patchOut; rw [hbx, hbz, ← hy, ← hu, hbe])
  obtain ⟨out, hout⟩ : ∃ out, out = patchOut a b := ⟨_, rfl⟩
  rw [← hout] at HOUT ⊢
  clear hbx hbz ha hb hout hy hu hbe
  go_enter Tryz.func12, Tryz.ntmps12
  go_wp2_with fail
  refine (HV.out _ HB0.out.old).mono ?_
  rintro e w1 ⟨rfl, h1⟩
  have HB1 := Lib.hid (HB0.out.on h1)
  clear h1 HB0
  cases bx
  case false =>
    obtain ⟨z0, z1, z2, z3, z4⟩ := five_of (show BlockIs w1 (w.heap.size + 2) 27 #[.int .i64 0, .int .i64 0, .string ⟨#[]⟩, .slice none 0 0, .slice none 0 0] from HB1.out.br)
    have y0 := HB1.out.br.frozen 0
    have y1 := HB1.out.br.frozen 1
    have y2 := HB1.out.br.frozen 2
    have y3 := HB1.out.br.frozen 3
    have y4 := HB1.out.br.frozen 4
    have zl := HB1.out.br.lt
    go_wp2_with fail
    refine bodyPost_ret (v := .tuple #[aggOf (leaf 0 0 ⟨#[]⟩) none 0 none 0, .int .i64 1]) (by simp [results, Tryz.results12, go_sem, aggOf, leaf, V.kind, V.int, V.text, V.items, V.keys, z0, z1, z2, z3, z4]) rfl ?_
    rw [HOUT.out, if_neg (by simp)]
    exact HB1.out.bad 1
  obtain ⟨x0, x1, x2, x3, x4⟩ := five_of HB1.out.bb
  have xl := HB1.out.bb.lt
  go_wp2_with fail
  refine (HX.out _ HB1.out.old).mono ?_
  rintro e w2 ⟨rfl, h2⟩
  have HB2 := Lib.hid (HB1.out.on h2)
  clear h2 x0 x1 x2 x3 x4 xl HB1
  cases bz
  case false =>
    obtain ⟨z0, z1, z2, z3, z4⟩ := five_of (show BlockIs w2 (w.heap.size + 2) 27 #[.int .i64 0, .int .i64 0, .string ⟨#[]⟩, .slice none 0 0, .slice none 0 0] from HB2.out.br)
    have y0 := HB2.out.br.frozen 0
    have y1 := HB2.out.br.frozen 1
    have y2 := HB2.out.br.frozen 2
    have y3 := HB2.out.br.frozen 3
    have y4 := HB2.out.br.frozen 4
    have zl := HB2.out.br.lt
    go_wp2_with fail
    refine bodyPost_ret (v := .tuple #[aggOf (leaf 0 0 ⟨#[]⟩) none 0 none 0, .int .i64 1]) (by simp [results, Tryz.results12, go_sem, aggOf, leaf, V.kind, V.int, V.text, V.items, V.keys, z0, z1, z2, z3, z4]) rfl ?_
    rw [HOUT.out, if_neg (by simp)]
    exact HB2.out.bad 1
  obtain ⟨b0, b1, b2, b3, b4⟩ := five_of HB2.out.ba
  obtain ⟨x0, x1, x2, x3, x4⟩ := five_of HB2.out.bb
  have bl := HB2.out.ba.lt
  have xl := HB2.out.bb.lt
  go_wp2_with fail
  refine (HC.out (by trivial) (by trivial) _ HB2.out.old).mono ?_
  rintro e w3 ⟨MA, mc, MK, md, he, hly, h3⟩
  unfold aggOf at he
  subst he
  clear HC
  have HB3 := Lib.hid (HB2.out.on h3)
  have hal := below_al (Below.refl _ w3) (.cells #[.int .i64 y.kind, .int .i64 y.int, .string y.text, .slice MA y.items.length mc, .slice MK y.keys.length md] 27)
  have HB4 := Lib.hid (HB3.out.on hal)
  have HY4 := Lib.hid (inn_on (P := (fun b => b < w.heap.size)) (fun _ h => h) HB3.out hal (ans_on HB2.out hly))
  have HX4 := Lib.hid (show Boxed (w3.alloc (.cells #[.int .i64 y.kind, .int .i64 y.int, .string y.text, .slice MA y.items.length mc, .slice MK y.keys.length md] 27)) w3.heap.size y MA mc MK md from BlockIs.new w3 _ _)
  clear h3 hly hal b0 b1 b2 b3 b4 bl x0 x1 x2 x3 x4 xl HB2 HB3
  go_upto_region 4 with (fail)
  obtain ⟨Wa, hWa⟩ : ∃ Wa, Wa = w3.alloc (.cells #[.int .i64 y.kind, .int .i64 y.int, .string y.text, .slice MA y.items.length mc, .slice MK y.keys.length md] 27) := ⟨_, rfl⟩
  have hsa : Wa.heap.size = w3.heap.size + 1 := by rw [hWa]; simp
  rw [← hWa] at HB4 HX4 HY4 ⊢
  clear hWa
  obtain ⟨s0, s1, s2, s3, s4⟩ := HX4.out.cells
  have sl := HX4.out.lt
  obtain ⟨bv, hbv⟩ : ∃ q, y.valid = q := ⟨_, rfl⟩
  have HVY := Lib.hid (valid_is y Wa MA MK mc md (ans_lies HB4.out HY4.out) hbv)
  have HYV := Lib.hid hbv
  clear hbv
  go_wp2_with fail
  refine HVY.out.mono ?_
  rintro e w5 ⟨rfl, h5⟩
  have HB5 := Lib.hid (HB4.out.on h5)
  have HX5 := Lib.hid (HX4.out.on h5)
  have HY5 := Lib.hid (inn_on (P := (fun b => b < w.heap.size)) (fun _ h => h) HB4.out h5 HY4.out)
  clear h5 s0 s1 s2 s3 s4 sl HB4 HX4 HY4 HVY hsa
  cases bv
  case false =>
    have HA := Lib.hid (show out = (nullV, 2) by rw [HOUT.out, if_pos (by simp), if_neg (by rw [HYV.out]; simp)])
    obtain ⟨z0, z1, z2, z3, z4⟩ := five_of (show BlockIs w5 (w.heap.size + 2) 27 #[.int .i64 0, .int .i64 0, .string ⟨#[]⟩, .slice none 0 0, .slice none 0 0] from HB5.out.br)
    have y0 := HB5.out.br.frozen 0
    have y1 := HB5.out.br.frozen 1
    have y2 := HB5.out.br.frozen 2
    have y3 := HB5.out.br.frozen 3
    have y4 := HB5.out.br.frozen 4
    have zl := HB5.out.br.lt
    go_wp2_with fail
    refine bodyPost_ret (v := .tuple #[aggOf (leaf 0 0 ⟨#[]⟩) none 0 none 0, .int .i64 2]) (by simp [results, Tryz.results12, go_sem, aggOf, leaf, V.kind, V.int, V.text, V.items, V.keys, z0, z1, z2, z3, z4]) rfl ?_
    rw [HA.out]
    exact HB5.out.bad 2
  have HOUT := Lib.hid (show out = if be = true then (y, 0) else (nullV, 3) by rw [HOUT.out, if_pos (by simp), if_pos HYV.out])
  have hbx : BlockIs w5 w3.heap.size 27 #[.int .i64 y.kind, .int .i64 y.int, .string y.text, .slice MA y.items.length mc, .slice MK y.keys.length md] := HX5.out
  go_upto_region 6 with (fail)
  go_region_held3 (fun W => Hid (Below w5.heap.size w5 W) ∧ (W.cell? ⟨w.heap.size, 0, none⟩ = some (.int .i64 a.kind) ∧ W.cell? ⟨w.heap.size, 1, none⟩ = some (.int .i64 a.int) ∧ W.cell? ⟨w.heap.size, 2, none⟩ = some (.string a.text) ∧ W.cell? ⟨w.heap.size, 3, none⟩ = some (.slice A a.items.length c) ∧ W.cell? ⟨w.heap.size, 4, none⟩ = some (.slice K a.keys.length d)) ∧ (W.cell? ⟨w.heap.size + 1, 0, none⟩ = some (.int .i64 b.kind) ∧ W.cell? ⟨w.heap.size + 1, 1, none⟩ = some (.int .i64 b.int) ∧ W.cell? ⟨w.heap.size + 1, 2, none⟩ = some (.string b.text) ∧ W.cell? ⟨w.heap.size + 1, 3, none⟩ = some (.slice A' b.items.length c') ∧ W.cell? ⟨w.heap.size + 1, 4, none⟩ = some (.slice K' b.keys.length d')) ∧ (W.cell? ⟨w3.heap.size, 0, none⟩ = some (.int .i64 y.kind) ∧ W.cell? ⟨w3.heap.size, 1, none⟩ = some (.int .i64 y.int) ∧ W.cell? ⟨w3.heap.size, 2, none⟩ = some (.string y.text) ∧ W.cell? ⟨w3.heap.size, 3, none⟩ = some (.slice MA y.items.length mc) ∧ W.cell? ⟨w3.heap.size, 4, none⟩ = some (.slice MK y.keys.length md)))
    (first
      | (with_reducible exact three_cells HB5.out.ba HB5.out.bb hbx (Below.drew (Below.refl _ _)))
      | (go_split_ands; with_reducible exact three_cells HB5.out.ba HB5.out.bb hbx (below_on (Hid.out (by assumption)) h6))
      | (go_split_ands; with_reducible exact three_cells HB5.out.ba HB5.out.bb hbx (below_on (Hid.out (by assumption)) h7)))
    (first
      | (go_at_call 33; refine (HMG.out (by trivial) HYV.out _ MA MK mc md (below_on HB5.out.old ?_) (lies_on (ans_lies HB5.out HY5.out) ?_)).mono ?_; (go_split_ands; exact Hid.out (by assumption)); (go_split_ands; exact Hid.out (by assumption)); rintro e w6 ⟨UA, uc, UK, ud, rfl, hlu, h6⟩)
      | (go_at_call 8; refine (HEQ.out (by trivial) w6 UA UK uc ud (below_on HB5.out.old ?_) hlu).mono ?_; (go_split_ands; exact Hid.out (by assumption)); rintro e w7 ⟨rfl, h7⟩))
  all_goals
    go_split_ands
    have hb7 : Below w5.heap.size w5 w7 := Hid.out (by assumption)
    have HB7 := Lib.hid (HB5.out.on hb7)
    have HX7 := Lib.hid (HX5.out.on hb7)
    have HY7 := Lib.hid (inn_on (P := (fun b => b < w.heap.size)) (fun _ h => h) HB5.out hb7 HY5.out)
    clear hbx hb7 h6 h7 hlu HB5 HX5 HY5 HMG HEQ
    obtain ⟨z0, z1, z2, z3, z4⟩ := five_of (show BlockIs w7 (w.heap.size + 2) 27 #[.int .i64 0, .int .i64 0, .string ⟨#[]⟩, .slice none 0 0, .slice none 0 0] from HB7.out.br)
    have y0 := HB7.out.br.frozen 0
    have y1 := HB7.out.br.frozen 1
    have y2 := HB7.out.br.frozen 2
    have y3 := HB7.out.br.frozen 3
    have y4 := HB7.out.br.frozen 4
    have zl := HB7.out.br.lt
    cases be
    · have HA := Lib.hid (show out = (nullV, 3) by rw [HOUT.out, if_neg (by simp)])
      go_wp2_with fail
      refine bodyPost_ret (v := .tuple #[aggOf (leaf 0 0 ⟨#[]⟩) none 0 none 0, .int .i64 3]) (by simp [results, Tryz.results12, go_sem, aggOf, leaf, V.kind, V.int, V.text, V.items, V.keys, z0, z1, z2, z3, z4]) rfl ?_
      rw [HA.out]
      exact HB7.out.bad 3
    · have HA := Lib.hid (show out = (y, 0) by rw [HOUT.out, if_pos (by rfl)])
      obtain ⟨s0, s1, s2, s3, s4⟩ := HX7.out.cells
      have sl := HX7.out.lt
      go_wp2_with fail
      refine bodyPost_ret (v := .tuple #[aggOf y MA mc MK md, .int .i64 0]) (by simp [results, Tryz.results12, go_sem, aggOf, z0, z1, z2, z3, z4]) rfl ?_
      rw [HA.out]
      exact HB7.out.fineQ HY7.out
end Go.Proofs.YtebmjefimbcefaaGreatDoor
