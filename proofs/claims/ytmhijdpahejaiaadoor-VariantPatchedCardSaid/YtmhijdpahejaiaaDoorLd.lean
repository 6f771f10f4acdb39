/- PROVED: for every two values the law VariantPatched (if there is a patch from a to b, Merge of a and the patch is b; of an object to itself the patch is an empty object) returns true and leaves its arguments as they read before; the card ties the three listed tables. -/
import Derived.Test.YtmhijdpahejaiaaDoorLc
import Derived.Test.YtmhijdpahejaiaaDoorYe
import Derived.Test.YtmhijdpahejaiaaDoorJg
import Derived.Test.YtmhijdpahejaiaaDoorJh
import Derived.Test.YtmhijdpahejaiaaDoorZc
import Derived.Test.YtmhijdpahejaiaaDoorZr
namespace Go.Proofs.YtmhijdpahejaiaaDoor
open Go.RowKit
/-- A value and an error, answered. -/
def MAns (q : V × Int) (w : World) (e : Ending) (w' : World) : Prop := ∃ A c K d, e = .returned (.tuple #[aggOf q.1 A c K d, .int .i64 q.2]) ∧ Lies w' w'.heap.size q.1 A c K d ∧ Below w.heap.size w w'
/-- What Merge, Patch answer. -/
def mergeOut (a b : V) : V × Int := if (a.valid && b.valid) = true then (if (mergeV a b).valid = true then (mergeV a b, 0) else (nullV, 2)) else (nullV, 1)
def patchOut (a b : V) : V × Int := if (a.valid && b.valid) = true then (if (patchV a b).valid = true then (if eqV (mergeV a (patchV a b)) b = true then (patchV a b, 0) else (nullV, 3)) else (nullV, 2)) else (nullV, 1)
/-- A value of which there is a box. -/
structure RX (g : Nat) (y : V) (A : Option Addr) (c : Nat) (K : Option Addr) (d : Nat) (W : World) : Prop where
  box : Boxed W g y A c K d
  lies : Lies W W.heap.size y A c K d
section
variable {W W' : World} {g : Nat} {y : V} {A K : Option Addr} {c d : Nat}
theorem RX.start (h : Lies W W.heap.size y A c K d) : RX W.heap.size y A c K d (W.alloc (.cells #[.int .i64 y.kind, .int .i64 y.int, .string y.text, .slice A y.items.length c, .slice K y.keys.length d] 25)) := ⟨BlockIs.new W _ _, lies_alloc h _⟩
theorem RX.on (h : RX g y A c K d W) (hb : Below W.heap.size W W') : RX g y A c K d W' := ⟨h.box.on hb, lies_on h.lies hb⟩
end
section
variable {w W : World} {ca cb : Array Value} {q : V} {zI zK u0 u1 u2 u3 u4 : Value} {D : Nat → Prop} {N : Nat}
theorem MB.bad (h : MB w ca cb W) (r : Int) : MAns (nullV, r) w (.returned (.tuple #[aggOf (leaf 0 0 ⟨#[]⟩) none 0 none 0, .int .i64 r])) (put5 W (w.heap.size + 2) 0 u0 u1 u2 u3 u4) := ⟨none, 0, none, 0, rfl, leaf_lies _ _ 0 0 (by decide), h.ends⟩
theorem MB.fine {A K : Option Addr} {c d : Nat} (h : MB w ca cb W) (ht : Tree W N q (.slice A q.items.length c) (.slice K q.keys.length d) D) (hN : w.heap.size ≤ N) (hD : ∀ b, D b → w.heap.size + 3 ≤ b ∧ b < W.heap.size) : MAns (q, 0) w (.returned (.tuple #[aggOf q A c K d, .int .i64 0])) (put5 W (w.heap.size + 2) 0 u0 u1 u2 u3 u4) := by
  obtain ⟨zI, zK, e, h1, h2⟩ := h.good (u0 := u0) (u1 := u1) (u2 := u2) (u3 := u3) (u4 := u4) ht hN hD
  simp only [Ending.returned.injEq, Value.agg.injEq] at e
  obtain ⟨A', c', K', d', e1, e2, hl⟩ := Tree.lies (B := (put5 W (w.heap.size + 2) 0 u0 u1 u2 u3 u4).heap.size) q h1 (fun b hb => hb.2)
  subst e1 e2
  simp at e
  obtain ⟨⟨rfl, rfl⟩, rfl, rfl⟩ := e
  exact ⟨A, c, K, d, rfl, hl, h2⟩
end
set_option maxRecDepth 100000 in
set_option maxHeartbeats 4000000 in
theorem progMerge_any (a b : V) (w : World) (A K : Option Addr) (c d : Nat) (A' K' : Option Addr) (c' d' : Nat) (ha : Lies w w.heap.size a A c K d) (hb : Lies w w.heap.size b A' c' K' d') :
    Calls Tryd.prog 28 #[.agg #[.int .i64 a.kind, .int .i64 a.int, .string a.text, .slice A a.items.length c, .slice K a.keys.length d], .agg #[.int .i64 b.kind, .int .i64 b.int, .string b.text, .slice A' b.items.length c', .slice K' b.keys.length d']] w (MAns (mergeOut a b) w) := by
  have HB0 := Lib.hid (MB.start w #[.int .i64 a.kind, .int .i64 a.int, .string a.text, .slice A a.items.length c, .slice K a.keys.length d] #[.int .i64 b.kind, .int .i64 b.int, .string b.text, .slice A' b.items.length c', .slice K' b.keys.length d'])
  obtain ⟨bx, hbx⟩ : ∃ q, a.valid = q := ⟨_, rfl⟩
  obtain ⟨bz, hbz⟩ : ∃ q, b.valid = q := ⟨_, rfl⟩
  have HV := Lib.hid fun W (hW : Below w.heap.size w W) => valid_yes a W A K c d (lies_on ha hW) hbx
  have HX := Lib.hid fun W (hW : Below w.heap.size w W) => valid_yes b W A' K' c' d' (lies_on hb hW) hbz
  obtain ⟨y, hy⟩ : ∃ y, y = mergeV a b := ⟨_, rfl⟩
  have HC := Lib.hid fun (h1 : bx = true) (h2 : bz = true) W (hW : Below w.heap.size w W) => show Calls Tryd.prog 55 #[.agg #[.int .i64 a.kind, .int .i64 a.int, .string a.text, .slice A a.items.length c, .slice K a.keys.length d], .agg #[.int .i64 b.kind, .int .i64 b.int, .string b.text, .slice A' b.items.length c', .slice K' b.keys.length d']] W (MPost y W) from by
    rw [hy]
    exact merge_any b.nodes b (Nat.le_refl _) a (valid_nodes (hbx.trans h1)).1 (valid_nodes (hbz.trans h2)).1 (by have := (valid_nodes (hbx.trans h1)).2; have := (valid_nodes (hbz.trans h2)).2; omega) W A K c d A' K' c' d' (lies_on ha hW) (lies_on hb hW)
  have HOUT := Lib.hid (show mergeOut a b = if (bx && bz) = true then (if y.valid = true then (y, 0) else (nullV, 2)) else (nullV, 1) by unfold mergeOut; rw [hbx, hbz, ← hy])
  obtain ⟨out, hout⟩ : ∃ out, out = mergeOut a b := ⟨_, rfl⟩
  rw [← hout] at HOUT ⊢
  clear hbx hbz ha hb hout hy
  go_enter Tryd.func28, Tryd.ntmps28
  go_wp2_with fail
  refine (HV.out _ HB0.out.old).mono ?_
  rintro e w1 ⟨rfl, h1⟩
  have HB1 := Lib.hid (HB0.out.on h1)
  clear h1 HB0
  cases bx
  case false =>
    obtain ⟨z0, z1, z2, z3, z4⟩ := five_of (show BlockIs w1 (w.heap.size + 2) 25 #[.int .i64 0, .int .i64 0, .string ⟨#[]⟩, .slice none 0 0, .slice none 0 0] from HB1.out.br)
    have y0 := HB1.out.br.frozen 0
    have y1 := HB1.out.br.frozen 1
    have y2 := HB1.out.br.frozen 2
    have y3 := HB1.out.br.frozen 3
    have y4 := HB1.out.br.frozen 4
    have zl := HB1.out.br.lt
    go_wp2_with fail
    refine bodyPost_ret (v := .tuple #[aggOf (leaf 0 0 ⟨#[]⟩) none 0 none 0, .int .i64 1]) (by simp [results, Tryd.results28, go_sem, aggOf, leaf, V.kind, V.int, V.text, V.items, V.keys, z0, z1, z2, z3, z4]) rfl ?_
    rw [HOUT.out, if_neg (by simp)]
    exact HB1.out.bad 1
  obtain ⟨x0, x1, x2, x3, x4⟩ := five_of HB1.out.bb
  have xl := HB1.out.bb.lt
  go_wp2_with fail
  refine (HX.out _ HB1.out.old).mono ?_
  rintro e w2 ⟨rfl, h2⟩
  have HB2 := Lib.hid (HB1.out.on h2)
  clear h2 x0 x1 x2 x3 x4 xl HB1
  cases bz
  case false =>
    obtain ⟨z0, z1, z2, z3, z4⟩ := five_of (show BlockIs w2 (w.heap.size + 2) 25 #[.int .i64 0, .int .i64 0, .string ⟨#[]⟩, .slice none 0 0, .slice none 0 0] from HB2.out.br)
    have y0 := HB2.out.br.frozen 0
    have y1 := HB2.out.br.frozen 1
    have y2 := HB2.out.br.frozen 2
    have y3 := HB2.out.br.frozen 3
    have y4 := HB2.out.br.frozen 4
    have zl := HB2.out.br.lt
    go_wp2_with fail
    refine bodyPost_ret (v := .tuple #[aggOf (leaf 0 0 ⟨#[]⟩) none 0 none 0, .int .i64 1]) (by simp [results, Tryd.results28, go_sem, aggOf, leaf, V.kind, V.int, V.text, V.items, V.keys, z0, z1, z2, z3, z4]) rfl ?_
    rw [HOUT.out, if_neg (by simp)]
    exact HB2.out.bad 1
  obtain ⟨b0, b1, b2, b3, b4⟩ := five_of HB2.out.ba
  obtain ⟨x0, x1, x2, x3, x4⟩ := five_of HB2.out.bb
  have bl := HB2.out.ba.lt
  have xl := HB2.out.bb.lt
  go_wp2_with fail
  refine (HC.out (by trivial) (by trivial) _ HB2.out.old).mono ?_
  rintro e w3 ⟨yI, yK, rfl, ht, h3⟩
  obtain ⟨⟨MA, mc, rfl⟩, MK, md, rfl⟩ := ht.forms
  clear HC
  have HB3 := Lib.hid (HB2.out.on h3)
  have HB4 := Lib.hid (HB3.out.on (below_al (Below.refl _ w3) (.cells #[.int .i64 y.kind, .int .i64 y.int, .string y.text, .slice MA y.items.length mc, .slice MK y.keys.length md] 25)))
  obtain ⟨MA', mc', MK', md', e1, e2, hly⟩ := Tree.lies (B := w3.heap.size) y ht (fun b hb => hb.2)
  cases e1
  cases e2
  have HX4 := Lib.hid (RX.start hly)
  have HT4 := Lib.hid (show Tree (w3.alloc (.cells #[.int .i64 y.kind, .int .i64 y.int, .string y.text, .slice MA y.items.length mc, .slice MK y.keys.length md] 25)) w2.heap.size y (.slice MA y.items.length mc) (.slice MK y.keys.length md) (Fresh w2 w3) from ht.keep y (fun b hb => Below.heap_alloc w3 _ b hb.2) (fun _ h => h))
  have HS2 := Lib.hid HB2.out.lt
  have HS3 := Lib.hid h3.size
  clear h3 ht hly b0 b1 b2 b3 b4 bl x0 x1 x2 x3 x4 xl HB2 HB3
  go_upto_region 4 with (fail)
  obtain ⟨Wa, hWa⟩ : ∃ Wa, Wa = w3.alloc (.cells #[.int .i64 y.kind, .int .i64 y.int, .string y.text, .slice MA y.items.length mc, .slice MK y.keys.length md] 25) := ⟨_, rfl⟩
  have hsa : Wa.heap.size = w3.heap.size + 1 := by rw [hWa]; simp
  rw [← hWa] at HB4 HX4 HT4 ⊢
  clear hWa
  obtain ⟨s0, s1, s2, s3, s4⟩ := HX4.out.box.cells
  have sl := HX4.out.box.lt
  obtain ⟨bv, hbv⟩ : ∃ q, y.valid = q := ⟨_, rfl⟩
  have HVY := Lib.hid (valid_yes y Wa MA MK mc md HX4.out.lies hbv)
  have HBV := Lib.hid hbv
  clear hbv
  go_wp2_with fail
  refine HVY.out.mono ?_
  rintro e w5 ⟨rfl, h5⟩
  have HB5 := Lib.hid (HB4.out.on h5)
  have HX5 := Lib.hid (HX4.out.on h5)
  have HT5 := Lib.hid (HT4.out.keep (w' := w5) y (fun b hb => h5.block b (by have := hb.2; omega)) (fun _ h => h))
  have HS5 := Lib.hid h5.size
  clear h5 s0 s1 s2 s3 s4 sl HB4 HX4 HT4 HVY
  obtain ⟨z0, z1, z2, z3, z4⟩ := five_of (show BlockIs w5 (w.heap.size + 2) 25 #[.int .i64 0, .int .i64 0, .string ⟨#[]⟩, .slice none 0 0, .slice none 0 0] from HB5.out.br)
  have y0 := HB5.out.br.frozen 0
  have y1 := HB5.out.br.frozen 1
  have y2 := HB5.out.br.frozen 2
  have y3 := HB5.out.br.frozen 3
  have y4 := HB5.out.br.frozen 4
  have zl := HB5.out.br.lt
  cases bv
  · have HA := Lib.hid (show out = (nullV, 2) by rw [HOUT.out, if_pos (by simp), if_neg (by rw [HBV.out]; simp)])
    go_wp2_with fail
    refine bodyPost_ret (v := .tuple #[aggOf (leaf 0 0 ⟨#[]⟩) none 0 none 0, .int .i64 2]) (by simp [results, Tryd.results28, go_sem, aggOf, leaf, V.kind, V.int, V.text, V.items, V.keys, z0, z1, z2, z3, z4]) rfl ?_
    rw [HA.out]
    exact HB5.out.bad 2
  · have HA := Lib.hid (show out = (y, 0) by rw [HOUT.out, if_pos (by simp), if_pos HBV.out])
    obtain ⟨s0, s1, s2, s3, s4⟩ := HX5.out.box.cells
    have sl := HX5.out.box.lt
    go_wp2_with fail
    refine bodyPost_ret (v := .tuple #[aggOf y MA mc MK md, .int .i64 0]) (by simp [results, Tryd.results28, go_sem, aggOf, z0, z1, z2, z3, z4]) rfl ?_
    rw [HA.out]
    exact HB5.out.fine HT5.out (by have := HS2.out; omega) (fun b hb => ⟨by have := HS2.out; have := hb.1; omega, by have := HS5.out; have := hb.2; omega⟩)
set_option maxRecDepth 100000 in
set_option maxHeartbeats 4000000 in
theorem progPatch_any (a b : V) (w : World) (A K : Option Addr) (c d : Nat) (A' K' : Option Addr) (c' d' : Nat) (ha : Lies w w.heap.size a A c K d) (hb : Lies w w.heap.size b A' c' K' d') :
    Calls Tryd.prog 27 #[.agg #[.int .i64 a.kind, .int .i64 a.int, .string a.text, .slice A a.items.length c, .slice K a.keys.length d], .agg #[.int .i64 b.kind, .int .i64 b.int, .string b.text, .slice A' b.items.length c', .slice K' b.keys.length d']] w (MAns (patchOut a b) w) := by
  have HB0 := Lib.hid (MB.start w #[.int .i64 a.kind, .int .i64 a.int, .string a.text, .slice A a.items.length c, .slice K a.keys.length d] #[.int .i64 b.kind, .int .i64 b.int, .string b.text, .slice A' b.items.length c', .slice K' b.keys.length d'])
  obtain ⟨bx, hbx⟩ : ∃ q, a.valid = q := ⟨_, rfl⟩
  obtain ⟨bz, hbz⟩ : ∃ q, b.valid = q := ⟨_, rfl⟩
  have HV := Lib.hid fun W (hW : Below w.heap.size w W) => valid_yes a W A K c d (lies_on ha hW) hbx
  have HX := Lib.hid fun W (hW : Below w.heap.size w W) => valid_yes b W A' K' c' d' (lies_on hb hW) hbz
  obtain ⟨y, hy⟩ : ∃ y, y = patchV a b := ⟨_, rfl⟩
  obtain ⟨u, hu⟩ : ∃ u, u = mergeV a y := ⟨_, rfl⟩
  have HC := Lib.hid fun (h1 : bx = true) (h2 : bz = true) W (hW : Below w.heap.size w W) => show Calls Tryd.prog 53 #[.agg #[.int .i64 a.kind, .int .i64 a.int, .string a.text, .slice A a.items.length c, .slice K a.keys.length d], .agg #[.int .i64 b.kind, .int .i64 b.int, .string b.text, .slice A' b.items.length c', .slice K' b.keys.length d']] W (MPost y W) from by
    rw [hy]
    have ha2 := (valid_nodes (hbx.trans h1)).2
    have hb2 := (valid_nodes (hbz.trans h2)).2
    have hm : (1 + a.nodes) * b.nodes ≤ 61 * 60 := Nat.mul_le_mul (by omega) hb2
    exact patch_any b.nodes b (Nat.le_refl _) a (valid_nodes (hbx.trans h1)).1 (valid_nodes (hbz.trans h2)).1 (by omega) W A K c d A' K' c' d' (lies_on ha hW) (lies_on hb hW)
  have HMG := Lib.hid fun (h1 : bx = true) (h2 : y.valid = true) W AY KY cy dy (hW : Below w.heap.size w W) (hy2 : Lies W W.heap.size y AY cy KY dy) => show Calls Tryd.prog 55 #[.agg #[.int .i64 a.kind, .int .i64 a.int, .string a.text, .slice A a.items.length c, .slice K a.keys.length d], .agg #[.int .i64 y.kind, .int .i64 y.int, .string y.text, .slice AY y.items.length cy, .slice KY y.keys.length dy]] W (MPost u W) from by
    rw [hu]
    exact merge_any y.nodes y (Nat.le_refl _) a (valid_nodes (hbx.trans h1)).1 (valid_nodes h2).1 (by have := (valid_nodes (hbx.trans h1)).2; have := (valid_nodes h2).2; omega) W A K c d AY KY cy dy (lies_on ha hW) hy2
  have HEQ := Lib.hid fun W AU KU cu du (hW : Below w.heap.size w W) (hu2 : Lies W W.heap.size u AU cu KU du) => equal_any u b W AU KU cu du A' K' c' d' hu2 (lies_on hb hW)
  obtain ⟨be, hbe⟩ : ∃ q, eqV u b = q := ⟨_, rfl⟩
  rw [hbe] at HEQ
  have HOUT := Lib.hid (show patchOut a b = if (bx && bz) = true then (if y.valid = true then (if be = true then (y, 0) else (nullV, 3)) else (nullV, 2)) else (nullV, 1) by unfold patchOut; rw [hbx, hbz, ← hy, ← hu, hbe])
  obtain ⟨out, hout⟩ : ∃ out, out = patchOut a b := ⟨_, rfl⟩
  rw [← hout] at HOUT ⊢
  clear hbx hbz ha hb hout hy hu hbe
  go_enter Tryd.func27, Tryd.ntmps27
  go_wp2_with fail
  refine (HV.out _ HB0.out.old).mono ?_
  rintro e w1 ⟨rfl, h1⟩
  have HB1 := Lib.hid (HB0.out.on h1)
  clear h1 HB0
  cases bx
  case false =>
    obtain ⟨z0, z1, z2, z3, z4⟩ := five_of (show BlockIs w1 (w.heap.size + 2) 25 #[.int .i64 0, .int .i64 0, .string ⟨#[]⟩, .slice none 0 0, .slice none 0 0] from HB1.out.br)
    have y0 := HB1.out.br.frozen 0
    have y1 := HB1.out.br.frozen 1
    have y2 := HB1.out.br.frozen 2
    have y3 := HB1.out.br.frozen 3
    have y4 := HB1.out.br.frozen 4
    have zl := HB1.out.br.lt
    go_wp2_with fail
    refine bodyPost_ret (v := .tuple #[aggOf (leaf 0 0 ⟨#[]⟩) none 0 none 0, .int .i64 1]) (by simp [results, Tryd.results27, go_sem, aggOf, leaf, V.kind, V.int, V.text, V.items, V.keys, z0, z1, z2, z3, z4]) rfl ?_
    rw [HOUT.out, if_neg (by simp)]
    exact HB1.out.bad 1
  obtain ⟨x0, x1, x2, x3, x4⟩ := five_of HB1.out.bb
  have xl := HB1.out.bb.lt
  go_wp2_with fail
  refine (HX.out _ HB1.out.old).mono ?_
  rintro e w2 ⟨rfl, h2⟩
  have HB2 := Lib.hid (HB1.out.on h2)
  clear h2 x0 x1 x2 x3 x4 xl HB1
  cases bz
  case false =>
    obtain ⟨z0, z1, z2, z3, z4⟩ := five_of (show BlockIs w2 (w.heap.size + 2) 25 #[.int .i64 0, .int .i64 0, .string ⟨#[]⟩, .slice none 0 0, .slice none 0 0] from HB2.out.br)
    have y0 := HB2.out.br.frozen 0
    have y1 := HB2.out.br.frozen 1
    have y2 := HB2.out.br.frozen 2
    have y3 := HB2.out.br.frozen 3
    have y4 := HB2.out.br.frozen 4
    have zl := HB2.out.br.lt
    go_wp2_with fail
    refine bodyPost_ret (v := .tuple #[aggOf (leaf 0 0 ⟨#[]⟩) none 0 none 0, .int .i64 1]) (by simp [results, Tryd.results27, go_sem, aggOf, leaf, V.kind, V.int, V.text, V.items, V.keys, z0, z1, z2, z3, z4]) rfl ?_
    rw [HOUT.out, if_neg (by simp)]
    exact HB2.out.bad 1
  obtain ⟨b0, b1, b2, b3, b4⟩ := five_of HB2.out.ba
  obtain ⟨x0, x1, x2, x3, x4⟩ := five_of HB2.out.bb
  have bl := HB2.out.ba.lt
  have xl := HB2.out.bb.lt
  go_wp2_with fail
  refine (HC.out (by trivial) (by trivial) _ HB2.out.old).mono ?_
  rintro e w3 ⟨yI, yK, rfl, ht, h3⟩
  obtain ⟨⟨MA, mc, rfl⟩, MK, md, rfl⟩ := ht.forms
  clear HC
  have HB3 := Lib.hid (HB2.out.on h3)
  have HB4 := Lib.hid (HB3.out.on (below_al (Below.refl _ w3) (.cells #[.int .i64 y.kind, .int .i64 y.int, .string y.text, .slice MA y.items.length mc, .slice MK y.keys.length md] 25)))
  obtain ⟨MA', mc', MK', md', e1, e2, hly⟩ := Tree.lies (B := w3.heap.size) y ht (fun b hb => hb.2)
  cases e1
  cases e2
  have HX4 := Lib.hid (RX.start hly)
  have HT4 := Lib.hid (show Tree (w3.alloc (.cells #[.int .i64 y.kind, .int .i64 y.int, .string y.text, .slice MA y.items.length mc, .slice MK y.keys.length md] 25)) w2.heap.size y (.slice MA y.items.length mc) (.slice MK y.keys.length md) (Fresh w2 w3) from ht.keep y (fun b hb => Below.heap_alloc w3 _ b hb.2) (fun _ h => h))
  have HS2 := Lib.hid HB2.out.lt
  have HS3 := Lib.hid h3.size
  clear h3 ht hly b0 b1 b2 b3 b4 bl x0 x1 x2 x3 x4 xl HB2 HB3
  go_upto_region 4 with (fail)
  obtain ⟨Wa, hWa⟩ : ∃ Wa, Wa = w3.alloc (.cells #[.int .i64 y.kind, .int .i64 y.int, .string y.text, .slice MA y.items.length mc, .slice MK y.keys.length md] 25) := ⟨_, rfl⟩
  have hsa : Wa.heap.size = w3.heap.size + 1 := by rw [hWa]; simp
  rw [← hWa] at HB4 HX4 HT4 ⊢
  clear hWa
  obtain ⟨s0, s1, s2, s3, s4⟩ := HX4.out.box.cells
  have sl := HX4.out.box.lt
  obtain ⟨bv, hbv⟩ : ∃ q, y.valid = q := ⟨_, rfl⟩
  have HVY := Lib.hid (valid_yes y Wa MA MK mc md HX4.out.lies hbv)
  have HBV := Lib.hid hbv
  clear hbv
  go_wp2_with fail
  refine HVY.out.mono ?_
  rintro e w5 ⟨rfl, h5⟩
  have HB5 := Lib.hid (HB4.out.on h5)
  have HX5 := Lib.hid (HX4.out.on h5)
  have HT5 := Lib.hid (HT4.out.keep (w' := w5) y (fun b hb => h5.block b (by have := hb.2; omega)) (fun _ h => h))
  have HS5 := Lib.hid h5.size
  clear h5 s0 s1 s2 s3 s4 sl HB4 HX4 HT4 HVY
  cases bv
  case false =>
    have HA := Lib.hid (show out = (nullV, 2) by rw [HOUT.out, if_pos (by simp), if_neg (by rw [HBV.out]; simp)])
    obtain ⟨z0, z1, z2, z3, z4⟩ := five_of (show BlockIs w5 (w.heap.size + 2) 25 #[.int .i64 0, .int .i64 0, .string ⟨#[]⟩, .slice none 0 0, .slice none 0 0] from HB5.out.br)
    have y0 := HB5.out.br.frozen 0
    have y1 := HB5.out.br.frozen 1
    have y2 := HB5.out.br.frozen 2
    have y3 := HB5.out.br.frozen 3
    have y4 := HB5.out.br.frozen 4
    have zl := HB5.out.br.lt
    go_wp2_with fail
    refine bodyPost_ret (v := .tuple #[aggOf (leaf 0 0 ⟨#[]⟩) none 0 none 0, .int .i64 2]) (by simp [results, Tryd.results27, go_sem, aggOf, leaf, V.kind, V.int, V.text, V.items, V.keys, z0, z1, z2, z3, z4]) rfl ?_
    rw [HA.out]
    exact HB5.out.bad 2
  have HOUT := Lib.hid (show out = if be = true then (y, 0) else (nullV, 3) by rw [HOUT.out, if_pos (by simp), if_pos HBV.out])
  obtain ⟨s0, s1, s2, s3, s4⟩ := HX5.out.box.cells
  have sl := HX5.out.box.lt
  obtain ⟨b0, b1, b2, b3, b4⟩ := five_of HB5.out.ba
  obtain ⟨x0, x1, x2, x3, x4⟩ := five_of HB5.out.bb
  have bl := HB5.out.ba.lt
  have xl := HB5.out.bb.lt
  go_upto_region 6 with (fail)
  have HD := Lib.hid (below_on HB5.out.old (Below.refl _ w5).drew)
  have HYD := Lib.hid (lies_on HX5.out.lies (Below.refl _ w5).drew)
  go_region_with (first
    | (go_at_call 55; refine (HMG.out (by trivial) HBV.out w5.drew MA MK mc md HD.out HYD.out).mono ?_; rintro e w6 ⟨uI, uK, rfl, hu, h6⟩; obtain ⟨UA, uc, UK, ud, e1, e2, hlu⟩ := Tree.lies (B := w6.heap.size) u hu (fun b hb => hb.2); subst e1 e2; have hbb6 := (show BlockIs w5.drew (w.heap.size + 1) _ _ from HB5.out.bb).below h6 HB5.out.bb.lt; obtain ⟨t0, t1, t2, t3, t4⟩ := five_of hbb6; have tl := BlockIs.lt hbb6; have HLU := Lib.hid hlu; have HD6 := Lib.hid (below_on HD.out h6); have HW6 := Lib.hid h6; clear hu hlu hbb6 h6)
    | (go_at_call 54; refine (HEQ.out w6 UA UK uc ud HD6.out HLU.out).mono ?_; rintro e w7 ⟨rfl, h7⟩; have HW7 := Lib.hid h7; clear h7))
  all_goals
    have hb7 : Below w5.heap.size w5 w7 := (⟨HW6.out.os, HW6.out.tape, HW6.out.output, HW6.out.size, HW6.out.block⟩ : Below w5.heap.size w5 w6).trans (HW7.out.mono HW6.out.size)
    have HB7 := Lib.hid (HB5.out.on hb7)
    have HX7 := Lib.hid (HX5.out.on hb7)
    have HT7 := Lib.hid (HT5.out.keep (w' := w7) y (fun b hb => hb7.block b (by have := HS5.out; have := hb.2; omega)) (fun _ h => h))
    have HS7 := Lib.hid hb7.size
    clear hb7 s0 s1 s2 s3 s4 sl b0 b1 b2 b3 b4 x0 x1 x2 x3 x4 bl xl t0 t1 t2 t3 t4 tl HD HYD HLU HD6 HW6 HW7 HB5 HX5 HT5 HMG HEQ
    obtain ⟨z0, z1, z2, z3, z4⟩ := five_of (show BlockIs w7 (w.heap.size + 2) 25 #[.int .i64 0, .int .i64 0, .string ⟨#[]⟩, .slice none 0 0, .slice none 0 0] from HB7.out.br)
    have y0 := HB7.out.br.frozen 0
    have y1 := HB7.out.br.frozen 1
    have y2 := HB7.out.br.frozen 2
    have y3 := HB7.out.br.frozen 3
    have y4 := HB7.out.br.frozen 4
    have zl := HB7.out.br.lt
    cases be
    · have HA := Lib.hid (show out = (nullV, 3) by rw [HOUT.out, if_neg (by simp)])
      go_wp2_with fail
      refine bodyPost_ret (v := .tuple #[aggOf (leaf 0 0 ⟨#[]⟩) none 0 none 0, .int .i64 3]) (by simp [results, Tryd.results27, go_sem, aggOf, leaf, V.kind, V.int, V.text, V.items, V.keys, z0, z1, z2, z3, z4]) rfl ?_
      rw [HA.out]
      exact HB7.out.bad 3
    · have HA := Lib.hid (show out = (y, 0) by rw [HOUT.out, if_pos (by rfl)])
      obtain ⟨s0, s1, s2, s3, s4⟩ := HX7.out.box.cells
      have sl := HX7.out.box.lt
      go_wp2_with fail
      refine bodyPost_ret (v := .tuple #[aggOf y MA mc MK md, .int .i64 0]) (by simp [results, Tryd.results27, go_sem, aggOf, z0, z1, z2, z3, z4]) rfl ?_
      rw [HA.out]
      exact HB7.out.fine HT7.out (by have := HS2.out; omega) (fun b hb => ⟨by have := HS2.out; have := hb.1; omega, by have := HS5.out; have := HS7.out; have := hb.2; omega⟩)
open Go.RowKit
theorem item_valid {x y : V} (h : x.valid = true) (hy : y ∈ x.items) : y.valid = true := by
  have hok := valid_ok h
  unfold V.valid V.fits at h ⊢
  simp only [Bool.and_eq_true, decide_eq_true_eq] at h ⊢
  obtain ⟨k, i, t, l, ks⟩ := x
  have h1 := V.nodes_mem hy
  have h2 := V.depth_mem hy
  have h3 := h.1.2
  have h4 := h.2
  simp only [V.items, V.nodes, V.depth] at h1 h2 h3 h4
  exact ⟨⟨okItems hok y hy, by omega⟩, by omega⟩
theorem eqV_self {x : V} (h : x.valid = true) : eqV x x = true := by
  unfold eqV
  rw [h, (cmp_order x x x).2.2.1]; rfl
theorem patchA_self (a : V) : ∀ (ks : List ByteArray) (p : V), (∀ k ∈ ks, hasI a k = true) → patchA a ks p = p
  | [], p, _ => by rw [patchA]
  | k :: ks, p, h => by rw [patchA, if_pos (h k (by simp)), patchA_self a ks p (fun q hq => h q (by simp [hq]))]
theorem patchL_self (a p : V) : ∀ (l : List V) (ks : List ByteArray), (∀ (j : Nat) (k : ByteArray) (c : V), ks[j]? = some k → l[j]? = some c → (hasI a k && eqV (gotK a k) c) = true) → patchL a p ks l = p
  | [], [], _ => by rw [patchL]
  | [], _ :: _, _ => by rw [patchL]
  | c :: l, [], _ => by rw [patchL]
  | c :: l, k :: ks, h => by rw [patchL, if_pos (h 0 k c rfl rfl), patchL_self a p l ks (fun j k c h1 h2 => h (j + 1) k c (by simpa using h1) (by simpa using h2))]
theorem patch_self {a : V} (hv : a.valid = true) (h5 : a.kind = 5) : patchV a a = emptyO := by
  obtain ⟨hr, -, hl⟩ := okk (valid_ok hv)
  have hhas : ∀ k ∈ a.keys, hasI a k = true := fun k hk => by
    unfold hasI findV
    rw [if_neg (show ¬ (0 : Int) ≤ -1 by decide)]
    exact (hasK_iff _ _).2 hk
  rw [patchV_obj h5 h5, patchA_self a a.keys emptyO hhas]
  refine patchL_self a emptyO a.items a.keys fun j k c hk hc => ?_
  obtain ⟨y, h1, h2⟩ := step_key (i := -1) (by decide) hr (hl h5) hk
  have hyc : y = c := Option.some.inj (h2.symm.trans hc)
  rw [hhas k (List.mem_of_getElem? hk), show gotK a k = c by rw [gotK, h1, hyc]; rfl, eqV_self (item_valid hv (List.mem_of_getElem? hc))]
  rfl
theorem patched_self {a : V} (hv : a.valid = true) (h5 : a.kind = 5) : patchOut a a = (emptyO, 0) := by
  have hm : mergeV a emptyO = a := by
    rw [mergeV_obj (show emptyO.kind = 5 from rfl)]
    show mergeL (baseV a) [] [] = a
    rw [mergeL, baseV, if_pos h5]
  unfold patchOut
  rw [patch_self hv h5, hm, hv, if_pos (by rfl), if_pos (by decide), if_pos (eqV_self hv)]
theorem patched_back {a b p : V} (h : patchOut a b = (p, 0)) : mergeOut a p = (b, 0) := by
  unfold patchOut at h
  split at h
  · rename_i hv
    rw [Bool.and_eq_true] at hv
    split at h
    · rename_i hp
      split at h
      · rename_i he
        obtain rfl : patchV a b = p := by simpa using h
        unfold eqV at he
        simp only [Bool.and_eq_true, decide_eq_true_eq] at he
        have hb : mergeV a (patchV a b) = b := (cmp_zero (valid_ok he.1.1) (valid_ok he.1.2)).1 he.2
        unfold mergeOut
        rw [hv.1, hp, if_pos (by rfl), hb, if_pos hv.2]
      · simp at h
    · simp at h
  · simp at h
theorem MAns.empty {w w' : World} {e : Ending} (h : MAns (emptyO, 0) w e w') : ∃ A c K d, e = .returned (.tuple #[.agg #[.int .i64 5, .int .i64 0, .string ⟨#[]⟩, .slice A 0 c, .slice K 0 d], .int .i64 0]) ∧ Lies w' w'.heap.size emptyO A c K d ∧ Below w.heap.size w w' := h
/-- The boxes of the law: the two values. -/
structure VL (w : World) (ca cb : Array Value) (W : World) : Prop where
  old : Below w.heap.size w W
  ba : BlockIs W w.heap.size 25 ca
  bb : BlockIs W (w.heap.size + 1) 25 cb
section
variable {w W W' : World} {ca cb : Array Value}
theorem VL.start (w : World) (ca cb : Array Value) : VL w ca cb ((w.alloc (.cells ca 25)).alloc (.cells cb 25)) := ⟨below_al (below_al (Below.refl _ w) _) _, (BlockIs.new w _ _).alloc _, BlockIs.newAt _ _ _ (by simp)⟩
theorem VL.on (h : VL w ca cb W) (hb : Below W.heap.size W W') : VL w ca cb W' := ⟨below_on h.old hb, h.ba.below hb h.ba.lt, h.bb.below hb h.bb.lt⟩
end
set_option maxRecDepth 100000 in
set_option maxHeartbeats 4000000 in
theorem law_patched (a b : V) (w : World) (A K : Option Addr) (c d : Nat) (A' K' : Option Addr) (c' d' : Nat) (ha : Lies w w.heap.size a A c K d) (hb : Lies w w.heap.size b A' c' K' d') (hpw : Pow w) :
    Calls Tryd.prog 8 #[aggOf a A c K d, aggOf b A' c' K' d'] w fun e w' => e = .returned (.bool true) ∧ Below w.heap.size w w' := by
  have HA := Lib.hid fun W (hW : Below w.heap.size w W) => awake2_any W (hpw.on hW)
  have HB0 := Lib.hid (VL.start w #[.int .i64 a.kind, .int .i64 a.int, .string a.text, .slice A a.items.length c, .slice K a.keys.length d] #[.int .i64 b.kind, .int .i64 b.int, .string b.text, .slice A' b.items.length c', .slice K' b.keys.length d'])
  obtain ⟨bx, hbx⟩ : ∃ q, a.valid = q := ⟨_, rfl⟩
  obtain ⟨bz, hbz⟩ : ∃ q, b.valid = q := ⟨_, rfl⟩
  have HV := Lib.hid fun W (hW : Below w.heap.size w W) => (refValid_any a W A K c d (lies_on ha hW)).mono (R' := fun e w' => e = .returned (.bool bx) ∧ Below W.heap.size W w') fun e w' h' => by rw [hbx] at h'; exact h'
  have HX := Lib.hid fun W (hW : Below w.heap.size w W) => (refValid_any b W A' K' c' d' (lies_on hb hW)).mono (R' := fun e w' => e = .returned (.bool bz) ∧ Below W.heap.size W w') fun e w' h' => by rw [hbz] at h'; exact h'
  obtain ⟨y, r, hy⟩ : ∃ y r, patchOut a b = (y, r) := ⟨_, _, rfl⟩
  have HP := Lib.hid fun W (hW : Below w.heap.size w W) => show Calls Tryd.prog 27 #[.agg #[.int .i64 a.kind, .int .i64 a.int, .string a.text, .slice A a.items.length c, .slice K a.keys.length d], .agg #[.int .i64 b.kind, .int .i64 b.int, .string b.text, .slice A' b.items.length c', .slice K' b.keys.length d']] W (MAns (y, r) W) from by
    rw [← hy]; exact progPatch_any a b W A K c d A' K' c' d' (lies_on ha hW) (lies_on hb hW)
  have HM := Lib.hid fun (h0 : r = 0) W AY KY cy dy (hW : Below w.heap.size w W) (hl : Lies W W.heap.size y AY cy KY dy) => show Calls Tryd.prog 28 #[.agg #[.int .i64 a.kind, .int .i64 a.int, .string a.text, .slice A a.items.length c, .slice K a.keys.length d], .agg #[.int .i64 y.kind, .int .i64 y.int, .string y.text, .slice AY y.items.length cy, .slice KY y.keys.length dy]] W (MAns (b, 0) W) from by
    rw [← patched_back (hy.trans (by rw [h0]))]; exact progMerge_any a y W A K c d AY KY cy dy (lies_on ha hW) hl
  have HQ := Lib.hid fun (h1 : bx = true) (h5 : a.kind = 5) W (hW : Below w.heap.size w W) => show Calls Tryd.prog 27 #[.agg #[.int .i64 a.kind, .int .i64 a.int, .string a.text, .slice A a.items.length c, .slice K a.keys.length d], .agg #[.int .i64 a.kind, .int .i64 a.int, .string a.text, .slice A a.items.length c, .slice K a.keys.length d]] W (MAns (emptyO, 0) W) from by
    rw [← patched_self (hbx.trans h1) h5]; exact progPatch_any a a W A K c d A K c d (lies_on ha hW) (lies_on ha hW)
  have HS := Lib.hid fun (u : V) W A K c d A' K' c' d' (h : Lies W W.heap.size u A c K d) (h' : Lies W W.heap.size u A' c' K' d') => same_is u u W A K c d A' K' c' d' h h' (r := true) (by simp)
  have HLB := Lib.hid fun W (hW : Below w.heap.size w W) => lies_on hb hW
  clear ha hb hpw hbx hbz hy
  unfold aggOf
  go_enter Tryd.func8, Tryd.ntmps8
  go_wp2_with fail
  refine (HV.out _ HB0.out.old).mono ?_
  rintro e w1 ⟨rfl, h1⟩
  have HB1 := Lib.hid (HB0.out.on h1)
  clear h1 HB0 HV
  cases bx
  case false =>
    go_wp2_with fail
    refine (HA.out _ HB1.out.old).mono ?_
    rintro e w9 ⟨rfl, h9⟩
    have HB9 := Lib.hid (below_on HB1.out.old h9)
    clear h9
    go_wp2_with fail
    go_ret
    exact ⟨rfl, HB9.out⟩
  obtain ⟨x0, x1, x2, x3, x4⟩ := five_of HB1.out.bb
  have xl := HB1.out.bb.lt
  go_wp2_with fail
  refine (HX.out _ HB1.out.old).mono ?_
  rintro e w2 ⟨rfl, h2⟩
  have HB2 := Lib.hid (HB1.out.on h2)
  clear h2 HB1 HX x0 x1 x2 x3 x4 xl
  cases bz
  case false =>
    go_wp2_with fail
    refine (HA.out _ HB2.out.old).mono ?_
    rintro e w9 ⟨rfl, h9⟩
    have HB9 := Lib.hid (below_on HB2.out.old h9)
    clear h9
    go_wp2_with fail
    go_ret
    exact ⟨rfl, HB9.out⟩
  obtain ⟨v0, v1, v2, v3, v4⟩ := five_of HB2.out.ba
  have vl := HB2.out.ba.lt
  obtain ⟨x0, x1, x2, x3, x4⟩ := five_of HB2.out.bb
  have xl := HB2.out.bb.lt
  go_wp2_with fail
  refine (HP.out _ HB2.out.old).mono ?_
  rintro e w3 ⟨AY, cy, KY, dy, rfl, hl3, h3⟩
  have HB3 := Lib.hid ((HB2.out.on h3).on (below_al (Below.refl _ w3) (.cells #[.int .i64 y.kind, .int .i64 y.int, .string y.text, .slice AY y.items.length cy, .slice KY y.keys.length dy] 25)))
  have HX3 := Lib.hid (RX.start hl3)
  clear h3 hl3 HP HB2 v0 v1 v2 v3 v4 vl x0 x1 x2 x3 x4 xl
  unfold aggOf
  go_upto_if 27 with (fail)
  obtain ⟨Wa, hWa⟩ : ∃ Wa, Wa = w3.alloc (.cells #[.int .i64 y.kind, .int .i64 y.int, .string y.text, .slice AY y.items.length cy, .slice KY y.keys.length dy] 25) := ⟨_, rfl⟩
  rw [← hWa] at HB3 HX3 ⊢
  clear hWa
  go_cut [] from 26 to 59 (fun wx => Hid (VL w #[.int .i64 a.kind, .int .i64 a.int, .string a.text, .slice A a.items.length c, .slice K a.keys.length d] #[.int .i64 b.kind, .int .i64 b.int, .string b.text, .slice A' b.items.length c', .slice K' b.keys.length d'] wx))
  case first =>
    by_cases h0 : r = 0
    · have h0b : (r == 0) = true := by simp [h0]
      have H0 := Lib.hid h0
      clear h0
      obtain ⟨v0, v1, v2, v3, v4⟩ := five_of HB3.out.ba
      have vl := HB3.out.ba.lt
      obtain ⟨s0, s1, s2, s3, s4⟩ := HX3.out.box.cells
      have sl := HX3.out.box.lt
      go_wp2_with fail
      refine (HM.out H0.out _ AY KY cy dy HB3.out.old HX3.out.lies).mono ?_
      rintro e w4 ⟨AB, cb, KB, db, rfl, hl4, h4⟩
      have HB4 := Lib.hid ((HB3.out.on h4).on (below_al (Below.refl _ w4) (.cells #[.int .i64 b.kind, .int .i64 b.int, .string b.text, .slice AB b.items.length cb, .slice KB b.keys.length db] 25)))
      have HX4 := Lib.hid (RX.start hl4)
      clear h4 hl4 v0 v1 v2 v3 v4 vl s0 s1 s2 s3 s4 sl HB3 HX3
      unfold aggOf
      obtain ⟨x0, x1, x2, x3, x4⟩ := five_of HB4.out.bb
      have xl := HB4.out.bb.lt
      obtain ⟨s0, s1, s2, s3, s4⟩ := HX4.out.box.cells
      have sl := HX4.out.box.lt
      go_wp2_with fail
      refine (HS.out b _ AB KB cb db A' K' c' d' HX4.out.lies (HLB.out _ HB4.out.old)).mono ?_
      rintro e w5 ⟨rfl, h5⟩
      have HB5 := Lib.hid (HB4.out.on h5)
      clear h5
      go_wp2_with fail
      go_meet
      exact HB5
    · have h0b : (r == 0) = false := by simp [h0]
      clear h0
      go_wp2_with fail
      go_meet
      exact HB3
  case rest =>
    have HB4 := hcut
    clear HB3 HX3 hcut HM
    obtain ⟨v0, v1, v2, v3, v4⟩ := five_of HB4.out.ba
    have vl := HB4.out.ba.lt
    by_cases h5 : a.kind = 5
    · have h5b : (a.kind == 5) = true := by simp [h5]
      have H5 := Lib.hid h5
      clear h5
      go_wp2_with fail
      refine ((HQ.out (by trivial) H5.out _ HB4.out.old).mono fun e w' h => h.empty).mono ?_
      rintro e w6 ⟨AE, ce, KE, de, rfl, hl6, h6⟩
      have HB6 := Lib.hid ((HB4.out.on h6).on (below_al (Below.refl _ w6) (.cells #[.int .i64 5, .int .i64 0, .string ⟨#[]⟩, .slice AE 0 ce, .slice KE 0 de] 25)))
      have HX6 := Lib.hid (show BlockIs (w6.alloc (.cells #[.int .i64 5, .int .i64 0, .string ⟨#[]⟩, .slice AE 0 ce, .slice KE 0 de] 25)) w6.heap.size 25 #[.int .i64 5, .int .i64 0, .string ⟨#[]⟩, .slice AE 0 ce, .slice KE 0 de] from BlockIs.new w6 _ _)
      have HL6 := Lib.hid (lies_alloc hl6 (.cells #[.int .i64 5, .int .i64 0, .string ⟨#[]⟩, .slice AE 0 ce, .slice KE 0 de] 25))
      clear h6 hl6 v0 v1 v2 v3 v4 vl HB4 HQ
      go_upto_region 10 with (fail)
      obtain ⟨Wb, hWb⟩ : ∃ Wb, Wb = w6.alloc (.cells #[.int .i64 5, .int .i64 0, .string ⟨#[]⟩, .slice AE 0 ce, .slice KE 0 de] 25) := ⟨_, rfl⟩
      rw [← hWb] at HB6 HX6 HL6 ⊢
      clear hWb
      have HSE := Lib.hid fun W (hl : Lies W W.heap.size emptyO AE ce KE de) => show Calls Tryd.prog 12 #[.agg #[.int .i64 5, .int .i64 0, .string ⟨#[]⟩, .slice AE 0 ce, .slice KE 0 de], .agg #[.int .i64 5, .int .i64 0, .string ⟨#[]⟩, .slice none 0 0, .slice none 0 0]] W fun e w' => e = .returned (.bool true) ∧ Below W.heap.size W w' from
        HS.out emptyO W AE KE ce de none none 0 0 hl (leaf_lies _ _ 5 0 (by decide))
      obtain ⟨s0, s1, s2, s3, s4⟩ := five_of HX6.out
      have sl := HX6.out.lt
      go_region_with (first
        | (go_at_call 29; refine (refObject_any none none 0 0 0 0 _).mono ?_; rintro e w7 ⟨rfl, h7⟩; have hx7 := (show BlockIs Wb.drew w6.heap.size _ _ from HX6.out).below (h7.mono (show Wb.drew.heap.size ≤ Wb.drew.heap.size from Nat.le_refl _)) HX6.out.lt; obtain ⟨t0, t1, t2, t3, t4⟩ := five_of hx7; have tl := BlockIs.lt hx7; have HW7 := Lib.hid h7; clear h7 hx7)
        | (go_at_call 12; refine (HSE.out w7 (lies_on (lies_on HL6.out (Below.refl _ Wb).drew) HW7.out)).mono ?_; rintro e w8 ⟨rfl, h8⟩; have HW8 := Lib.hid h8; clear h8))
      all_goals
        have HB8 := Lib.hid (below_on (below_on (below_on HB6.out.old (Below.refl _ Wb).drew) HW7.out) HW8.out)
        go_wp2_with fail
        refine (HA.out _ HB8.out).mono ?_
        rintro e w9 ⟨rfl, h9⟩
        have HB9 := Lib.hid (below_on HB8.out h9)
        clear h9
        go_wp2_with fail
        go_ret
        exact ⟨rfl, HB9.out⟩
    · have h5b : (a.kind == 5) = false := by simp [h5]
      clear h5
      go_wp2_with fail
      refine (HA.out _ HB4.out.old).mono ?_
      rintro e w9 ⟨rfl, h9⟩
      have HB9 := Lib.hid (below_on HB4.out.old h9)
      clear h9
      go_wp2_with fail
      go_ret
      exact ⟨rfl, HB9.out⟩
end Go.Proofs.YtmhijdpahejaiaaDoor
namespace Go.Proofs.YtmhijdpahejaiaaDoor.variantPatched
open Go.ChangeShapes Go.WideShapes Go.ChangeAt Go.RowKit
set_option maxRecDepth 100000 in
set_option maxHeartbeats 1000000 in
theorem contract (H : Type) (enc : TypeId × Value → H) (W : World) (base : Nat) (args : Array Value) (ds gs : List (DataW H)) (before : List MemPlace)
    (hval : ∀ (j : Nat) t v, Tryd.f8.params[j]? = some t → args[j]? = some v → Value.okWide Tryd.prog W .any base t v)
    (hW : DataW.Whole enc Tryd.prog Tryd.f8.params.toList Rows.variantPatchedSpec.vars false W args.toList ds gs before) (hL : laidMetH Tryd.prog laidL W) :
    Calls Tryd.prog 8 args W fun e W' => ∃ v, e = .returned v ∧ Rows.variantPatchedSpec.post enc Tryd.prog Tryd.f8 false true false false W args v W' := by
  have hW' := hW
  have hlt := hW.lt
  obtain ⟨p, q, hA0, hV, rfl, _, _⟩ := hW
  have hA : DataW.TrodAll enc Tryd.prog W 0 (fun _ => true) true Tryd.f8.params.toList args.toList ds p := hA0
  rw [Tryd.params8] at hA hval
  obtain ⟨v0, vs0, d0, ds0, p0, q0, hargs, rfl, rfl, h0, r0⟩ := trodAll_cons hA
  obtain ⟨v1, vs1, d1, ds1, p1, q1, rfl, rfl, rfl, h1, r1⟩ := trodAll_cons r0
  obtain ⟨rfl, rfl, rfl⟩ := trodAll_nil r1
  obtain rfl : args = #[v0, v1] := by cases args; simp_all
  obtain ⟨rfl, rfl⟩ := trodVars_none hV
  obtain ⟨x0, A0, c0, K0, m0, rfl, hx0⟩ := open_arg (hval 0 25 v0 rfl rfl) h0
  obtain ⟨x1, A1, c1, K1, m1, rfl, hx1⟩ := open_arg (hval 1 25 v1 rfl rfl) h1
  clear hA0
  simp only [List.append_nil] at hW' hlt
  refine (law_patched x0 x1 W A0 K0 c0 m0 A1 K1 c1 m1 hx0 hx1 (pow_of hL)).mono fun e W' ⟨he, hb⟩ => ?_
  subst he
  exact ⟨_, rfl, post_below (pa := p0 ++ p1) (pv := []) hW' (fun _ _ _ => trodAll_cons_mk (shut_bool Tryd.underlying4 _) trodAll_mk0)
    (fun sp hsp => by
      rw [Tryd.params8]
      have t1 := trodAll_cons_mk (arg_stays (sp := sp) h1 hb (fun z hz => hlt z (by simp [hz])) (fun z hz => hsp z (by simp [hz]))) trodAll_mk0
      rw [List.append_nil] at t1
      have t0 := trodAll_cons_mk (arg_stays (sp := sp) h0 hb (fun z hz => hlt z (by simp [hz])) (fun z hz => hsp z (by simp [hz]))) t1
      exact t0)
    (fun _ _ => rfl) (by simp) hb (ok_one (by kernel_rfl) rfl (okWide_bool_mk Tryd.underlying4 _))⟩
theorem laid_met (os : Os) : laidMet Tryd.prog Rows.variantPatchedRow.laid ((laidWorld os).forCall (fun _ _ => 0) ⟨#[], #[zeroA, zeroA], []⟩).memory :=
  laidMet_of_run' 8 (by kernel_rfl) (by kernel_rfl)
theorem reads (os : Os) {H : Type} (enc : TypeId × Value → H) : ∃ places, DataW.whole enc Tryd.prog ((laidWorld os).forCall (fun _ _ => 0) ⟨#[], #[zeroA, zeroA], []⟩).memory Tryd.f8.params.toList Rows.variantPatchedSpec.vars false #[zeroA, zeroA].toList 8 = some ([zeroD, zeroD], [], places) :=
  ⟨[], by kernel_rfl⟩
set_option maxRecDepth 100000 in
theorem lifted (os : Os) (started : os.Started) (H : Type) (enc : TypeId × Value → H) (F : Stop.Interp) :
    ReturnsInHanded {} Tryd.checked os 8 .any ((OpenSpec.ofChange Rows.variantPatchedSpec).preRow enc Tryd.prog Tryd.f8 Rows.variantPatchedRow.domain false Rows.variantPatchedRow.laid) (((OpenSpec.ofChange Rows.variantPatchedSpec).at F).post enc Tryd.prog Tryd.f8 false true false false) := by
  obtain ⟨places, hx⟩ := reads os enc
  refine returnsInHanded_of_row (C := Tryd.checked) (s := OpenSpec.ofChange Rows.variantPatchedSpec) own started (by kernel_rfl) Tryd.func8
    (witness_row_at (enc := enc) (C := Tryd.checked) false (laidWorld os) #[zeroA, zeroA] rfl (by kernel_rfl) (by kernel_rfl) (by kernel_rfl)
      (OpenSpec.preRow_of_cond 8 hx (by kernel_rfl) (fun k hk => by cases hk) (by kernel_rfl) (laid_met os))) ?_
  intro W base args ds gs before hval hW _ _ _ hL _ _
  exact contract H enc W base args ds gs before hval hW hL
theorem said : Rows.VariantPatchedSaid :=
  OpenClaim.holds_of_cond 8 Tryd.f8 rfl rfl rfl rfl rfl rfl rfl ⟨rfl, rfl, rfl, rfl, rfl⟩ rfl rfl rfl rfl rfl (by kernel_rfl) Tryd.func8 (by kernel_rfl)
    (of_decide_eq_true (by kernel_rfl)) (by unfold Func.isWrapper; first | (rw [if_pos (by decide +kernel)]; kernel_rfl) | (rw [if_neg (by decide +kernel)]; exact ⟨rfl, rfl⟩))
    (fun os started H enc _ F => by rw [OpenClaim.pre_eq_preRow]; exact lifted os started H enc F)
theorem plain (f : FuncId) (fn : Func) (hf : Tryd.pinned.checked.prog.funcNamed "cirrus/cirruslaw02.VariantPatched" = some f) (hfn : Tryd.pinned.checked.prog.funcs[f]? = some fn) :
    false = Tryd.pinned.checked.prog.looks [] ∧ ∀ (j : Nat) t, fn.params[j]? = some t → Tryd.pinned.checked.prog.wantsStandIn t = false := by
  obtain rfl : f = 8 := Option.some.inj ((show Tryd.prog.funcNamed "cirrus/cirruslaw02.VariantPatched" = some 8 by kernel_rfl).symm.trans hf) |>.symm
  obtain rfl : fn = Tryd.f8 := (Option.some.inj (Tryd.func8.symm.trans hfn)).symm
  refine ⟨by kernel_rfl, fun j t ht => ?_⟩
  rw [Tryd.params8] at ht
  match j, ht with
  | 0, ht =>
    obtain rfl : t = 25 := (Option.some.inj ht).symm
    exact (show Tryd.prog.wantsStandIn 25 = false by kernel_rfl)
  | 1, ht =>
    obtain rfl : t = 25 := (Option.some.inj ht).symm
    exact (show Tryd.prog.wantsStandIn 25 = false by kernel_rfl)
  | j + 2, ht => simp at ht
theorem card : Rows.VariantPatchedCardSaid :=
  Claim7.holds_tied_plain_at .later [] _ _ _ _ said (fun _ h => by cases h) (by kernel_rfl) (fun _ h => by cases h) variantPatched_row_tie rfl ⟨rfl, rfl⟩ (by kernel_rfl) rfl plain (by kernel_rfl)
end Go.Proofs.YtmhijdpahejaiaaDoor.variantPatched
