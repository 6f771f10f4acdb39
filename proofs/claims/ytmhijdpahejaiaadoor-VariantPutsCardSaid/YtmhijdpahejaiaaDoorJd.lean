/- PROVED: for every two values and every path the law VariantPuts (Put and Remove are as the chapter says) returns true and leaves its arguments as they read before; the card ties the three listed tables. -/
import Derived.Test.YtmhijdpahejaiaaDoorKc
import Derived.Test.YtmhijdpahejaiaaDoorJa
import Derived.Test.YtmhijdpahejaiaaDoorYe
import Derived.Test.YtmhijdpahejaiaaDoorJc
import Derived.Test.YtmhijdpahejaiaaDoorJf
import Derived.Test.YtmhijdpahejaiaaDoorZc
import Derived.Test.YtmhijdpahejaiaaDoorZr
namespace Go.Proofs.YtmhijdpahejaiaaDoor
open Go.RowKit
/-- A value of which there is a box. -/
structure QZ (g : Nat) (y : V) (A : Option Addr) (c : Nat) (K : Option Addr) (d : Nat) (W : World) : Prop where
  box : Boxed W g y A c K d
  lies : Lies W W.heap.size y A c K d
section
variable {W W' : World} {g : Nat} {y : V} {A K : Option Addr} {c d : Nat}
theorem QZ.start (h : Lies W W.heap.size y A c K d) : QZ W.heap.size y A c K d (W.alloc (.cells #[.int .i64 y.kind, .int .i64 y.int, .string y.text, .slice A y.items.length c, .slice K y.keys.length d] 25)) := ⟨BlockIs.new W _ _, lies_alloc h _⟩
theorem QZ.on (h : QZ g y A c K d W) (hb : Below W.heap.size W W') : QZ g y A c K d W' := ⟨h.box.on hb, lies_on h.lies hb⟩
end
/-- A value laid at a path, as the specification says it. -/
theorem refPut_any (B : Nat) (z : V) (Az Kz : Option Addr) (cz dz : Nat) : ∀ (p : List Stp), p.all stepB = true → ∀ (x : V), x.ok = true → x.nodes ≤ 10000 → ∀ (w : World) (A K : Option Addr) (c d : Nat) (Ap : Option Addr) (cp : Nat), B ≤ w.heap.size → Lies w B x A c K d → PLies w w.heap.size Ap cp p → Lies w B z Az cz Kz dz →
    Calls Tryd.prog 63 #[.agg #[.int .i64 x.kind, .int .i64 x.int, .string x.text, .slice A x.items.length c, .slice K x.keys.length d], .slice Ap p.length cp, .agg #[.int .i64 z.kind, .int .i64 z.int, .string z.text, .slice Az z.items.length cz, .slice Kz z.keys.length dz]] w (RefP B (putR x p z) w)
  | [], _, x, _, _, w, A, K, c, d, Ap, cp, hB, _, _, hz => refPut_end B x z w A K c d Ap cp Az Kz cz dz hB hz
  | (i, k) :: r, hp, x, hok, hn, w, A, K, c, d, Ap, cp, hB, hx, hl, hz => by
    rw [List.all_cons, Bool.and_eq_true] at hp
    exact refPut_step B x z i k r w A K c d Ap cp Az Kz cz dz hB hx hl hz hok hn hp.1 fun y hy1 hy2 w A K c d Ap cp h1 h2 h3 h4 => refPut_any B z Az Kz cz dz r hp.2 y hy1 hy2 w A K c d Ap cp h1 h2 h3 h4
section
variable {w W W' : World} {B : Nat} {q : V × Int} {e : Ending} {c0 c1 : Array Value} {x y : V} {A K : Option Addr} {c d : Nat} {u0 u1 u2 u3 u4 : Value}
theorem RefP.ans (h : RefP B q w e W') (hB : B ≤ w.heap.size) : PutAns q w e W' := by
  obtain ⟨A, c, K, d, he, hl, hb⟩ := h
  refine ⟨A, c, K, d, he, LiesIn.lies (fun b hb' => ?_) _ hl, hb⟩
  have := hb.size
  rcases hb' with h | h
  · omega
  · exact h.2
/-- What is answered from the boxes. -/
theorem PB.bad2 (r : Int) (h : PB w c0 c1 W) : RefP B (nullV, r) w (.returned (.tuple #[aggOf (leaf 0 0 ⟨#[]⟩) none 0 none 0, .int .i64 r])) (put5 W (w.heap.size + 2) 0 u0 u1 u2 u3 u4) := ⟨none, 0, none, 0, rfl, lies_leaf _ _ 0 0 _ (by decide), h.ends⟩
theorem PB.good3 (h : PB w c0 c1 W) (hB : B ≤ w.heap.size) (r : Int) (hl : LiesIn (fun b => b < B ∨ (w.heap.size + 3 ≤ b ∧ b < W.heap.size)) W y A c K d) : RefP B (y, r) w (.returned (.tuple #[aggOf y A c K d, .int .i64 r])) (put5 W (w.heap.size + 2) 0 u0 u1 u2 u3 u4) := by
  have hs := put5_size W (w.heap.size + 2) 0 u0 u1 u2 u3 u4
  refine ⟨A, c, K, d, rfl, LiesIn.keep (fun b o hb => World.cell?_of_block (put5_heap W (w.heap.size + 2) 0 u0 u1 u2 u3 u4 ?_)) (fun b hb => hb.imp id fun hb => ⟨by omega, by rw [hs]; exact hb.2⟩) _ hl, h.ends⟩
  rcases (show b < B ∨ _ from hb) with hb | hb
  · show b ≠ w.heap.size + 2; omega
  · have := hb.1; show b ≠ w.heap.size + 2; omega
theorem PB.good2 (h : PB w c0 c1 W) (hB : B ≤ w.heap.size) (hl : LiesIn (fun b => b < B ∨ (w.heap.size + 3 ≤ b ∧ b < W.heap.size)) W y A c K d) : RefP B (y, 0) w (.returned (.tuple #[aggOf y A c K d, .int .i64 0])) (put5 W (w.heap.size + 2) 0 u0 u1 u2 u3 u4) := h.good3 hB 0 hl
/-- What Into answers. -/
def intoV (x : V) (p : List Stp) (z : V) : V × Int := if (putR x p z).2 = 0 then (if (putR x p z).1.valid = true then ((putR x p z).1, 0) else (nullV, 2)) else (nullV, (putR x p z).2)
end
set_option maxRecDepth 100000 in
set_option maxHeartbeats 4000000 in
theorem refInto_any (B : Nat) (x : V) (p : List Stp) (z : V) (w : World) (A0 K0 : Option Addr) (c0 d0 : Nat) (Ap : Option Addr) (cp : Nat) (A1 K1 : Option Addr) (c1 d1 : Nat) (hB : B ≤ w.heap.size) (hx : Lies w B x A0 c0 K0 d0) (hp : PLies w w.heap.size Ap cp p) (hz : Lies w B z A1 c1 K1 d1) (hok : x.ok = true) (hn : x.nodes ≤ 10000) (hpb : p.all stepB = true) :
    Calls Tryd.prog 42 #[.agg #[.int .i64 x.kind, .int .i64 x.int, .string x.text, .slice A0 x.items.length c0, .slice K0 x.keys.length d0], .slice Ap p.length cp, .agg #[.int .i64 z.kind, .int .i64 z.int, .string z.text, .slice A1 z.items.length c1, .slice K1 z.keys.length d1]] w (RefP B (intoV x p z) w) := by
  have HB0 := Lib.hid (PB.start w #[.int .i64 x.kind, .int .i64 x.int, .string x.text, .slice A0 x.items.length c0, .slice K0 x.keys.length d0] #[.int .i64 z.kind, .int .i64 z.int, .string z.text, .slice A1 z.items.length c1, .slice K1 z.keys.length d1])
  have HB := Lib.hid hB
  obtain ⟨y, er, hq⟩ : ∃ y er, putR x p z = (y, er) := ⟨_, _, rfl⟩
  obtain ⟨n, hn'⟩ : ∃ n, n = p.length := ⟨_, rfl⟩
  have HC := Lib.hid fun W (hW : Below w.heap.size w W) => show Calls Tryd.prog 63 #[.agg #[.int .i64 x.kind, .int .i64 x.int, .string x.text, .slice A0 x.items.length c0, .slice K0 x.keys.length d0], .slice Ap n cp, .agg #[.int .i64 z.kind, .int .i64 z.int, .string z.text, .slice A1 z.items.length c1, .slice K1 z.keys.length d1]] W (RefP B (y, er) W) from by
    rw [← hq, hn']
    exact refPut_any B z A1 K1 c1 d1 p hpb x hok hn W A0 K0 c0 d0 Ap cp (by have := hW.size; omega) (hx.keep (fun b o hlt => bcell hW b o (by omega)) (Nat.le_refl _) x) (hp.on hW) (hz.keep (fun b o hlt => bcell hW b o (by omega)) (Nat.le_refl _) z)
  have HQ := Lib.hid (show intoV x p z = if er = 0 then (if y.valid = true then (y, 0) else (nullV, 2)) else (nullV, er) by unfold intoV; rw [hq])
  obtain ⟨q, hq2⟩ : ∃ q, q = intoV x p z := ⟨_, rfl⟩
  rw [← hq2] at HQ ⊢
  rw [← hn']
  clear hq2 hq hx hp hz hok hn hpb hB hn'
  go_enter Tryd.func42, Tryd.ntmps42
  go_wp2_with fail
  refine (HC.out _ HB0.out.old).mono ?_
  rintro e w1 ⟨A, c, K, d, rfl, hl1, h1⟩
  have hly := LiesIn.lies (B := w1.heap.size) (fun b hb' => by
    have := HB.out; have := h1.size; have := HB0.out.old.size
    rcases hb' with h | h
    · omega
    · exact h.2) _ hl1
  have HB1 := Lib.hid ((HB0.out.below h1).below (below_al (Below.refl _ w1) (.cells #[.int .i64 y.kind, .int .i64 y.int, .string y.text, .slice A y.items.length c, .slice K y.keys.length d] 25)))
  have HX1 := Lib.hid (QZ.start hly)
  have HL1 := Lib.hid (show LiesIn (fun b => b < B ∨ (w.heap.size + 3 ≤ b ∧ b < w1.heap.size)) (w1.alloc (.cells #[.int .i64 y.kind, .int .i64 y.int, .string y.text, .slice A y.items.length c, .slice K y.keys.length d] 25)) y A c K d from LiesIn.keep (fun b o hb => World.cell?_alloc_lt _ _ _ (by
    show b < w1.heap.size
    have := HB.out; have := h1.size; have := HB0.out.old.size
    rcases (show b < B ∨ _ from hb) with h | h
    · omega
    · exact h.2)) (fun b hb => hb.imp id fun h => ⟨by have := h.1; simp at this; omega, h.2⟩) _ hl1)
  clear h1 hl1 hly HC HB0
  unfold aggOf
  go_upto_region 2 with (fail)
  obtain ⟨Wa, hWa⟩ : ∃ Wa, Wa = w1.alloc (.cells #[.int .i64 y.kind, .int .i64 y.int, .string y.text, .slice A y.items.length c, .slice K y.keys.length d] 25) := ⟨_, rfl⟩
  have hsa : Wa.heap.size = w1.heap.size + 1 := by rw [hWa]; simp
  rw [← hWa] at HB1 HX1 HL1 ⊢
  clear hWa
  obtain ⟨s0, s1, s2, s3, s4⟩ := HX1.out.box.cells
  have sl := HX1.out.box.lt
  by_cases her : er = 0
  · subst her
    go_wp2_with fail
    refine (refValid_any y _ A K c d HX1.out.lies).mono ?_
    rintro e w2 ⟨rfl, h2⟩
    have HB2 := Lib.hid (HB1.out.below h2)
    have HX2 := Lib.hid (HX1.out.on h2)
    have HL2 := Lib.hid (LiesIn.keep (P' := fun b => b < B ∨ (w.heap.size + 3 ≤ b ∧ b < w2.heap.size)) (fun b o hb => bcell h2 b o (by
      have := HB.out; have := HB1.out.old.size
      rcases (show b < B ∨ (w.heap.size + 3 ≤ b ∧ b < w1.heap.size) from hb) with h | h
      · omega
      · have := h.2; omega)) (fun b hb => hb.imp id fun h => ⟨h.1, by have := h.2; have := h2.size; omega⟩) _ HL1.out)
    clear h2 s0 s1 s2 s3 s4 sl HB1 HX1 HL1
    obtain ⟨s0, s1, s2, s3, s4⟩ := HX2.out.box.cells
    have sl := HX2.out.box.lt
    obtain ⟨z0, z1, z2, z3, z4⟩ := five_of (show BlockIs w2 (w.heap.size + 2) 25 #[.int .i64 0, .int .i64 0, .string ⟨#[]⟩, .slice none 0 0, .slice none 0 0] from HB2.out.br)
    have y0' := HB2.out.br.frozen 0
    have y1' := HB2.out.br.frozen 1
    have y2' := HB2.out.br.frozen 2
    have y3' := HB2.out.br.frozen 3
    have y4' := HB2.out.br.frozen 4
    have zl := HB2.out.br.lt
    cases hv : y.valid
    · have HA := Lib.hid (show q = (nullV, 2) by rw [HQ.out]; simp [hv])
      clear hv HQ
      go_wp2_with fail
      refine bodyPost_ret (v := .tuple #[aggOf (leaf 0 0 ⟨#[]⟩) none 0 none 0, .int .i64 2]) (by simp [results, Tryd.results42, go_sem, aggOf, leaf, V.kind, V.int, V.text, V.items, V.keys, z0, z1, z2, z3, z4]) rfl ?_
      rw [HA.out]
      exact HB2.out.bad2 2
    · have HA := Lib.hid (show q = (y, 0) by rw [HQ.out]; simp [hv])
      clear hv HQ
      go_wp2_with fail
      refine bodyPost_ret (v := .tuple #[aggOf y A c K d, .int .i64 0]) (by simp [results, Tryd.results42, go_sem, aggOf, z0, z1, z2, z3, z4]) rfl ?_
      rw [HA.out]
      exact HB2.out.good2 HB.out HL2.out
  · have HA := Lib.hid (show q = (nullV, er) by rw [HQ.out, if_neg her])
    have heb : (er != 0) = true := by simp [her]
    clear HQ her s0 s1 s2 s3 s4 sl
    obtain ⟨z0, z1, z2, z3, z4⟩ := five_of (show BlockIs Wa (w.heap.size + 2) 25 #[.int .i64 0, .int .i64 0, .string ⟨#[]⟩, .slice none 0 0, .slice none 0 0] from HB1.out.br)
    have y0' := HB1.out.br.frozen 0
    have y1' := HB1.out.br.frozen 1
    have y2' := HB1.out.br.frozen 2
    have y3' := HB1.out.br.frozen 3
    have y4' := HB1.out.br.frozen 4
    have zl := HB1.out.br.lt
    go_wp2_with fail
    refine bodyPost_ret (v := .tuple #[aggOf (leaf 0 0 ⟨#[]⟩) none 0 none 0, .int .i64 er]) (by simp [results, Tryd.results42, go_sem, aggOf, leaf, V.kind, V.int, V.text, V.items, V.keys, z0, z1, z2, z3, z4]) rfl ?_
    rw [HA.out]
    exact HB1.out.bad2 er
theorem into_eq (x : V) (p : List Stp) (z : V) : putOut x p z = if (x.valid && (pathB p && z.valid)) = true then intoV x p z else (nullV, 1) := by
  unfold putOut intoV putR
  by_cases h0 : (putV x p z).2 = 0
  · simp [h0]
  · simp [h0]
set_option maxRecDepth 100000 in
set_option maxHeartbeats 4000000 in
theorem refPutWhole_any (x : V) (p : List Stp) (z : V) (w : World) (A0 K0 : Option Addr) (c0 d0 : Nat) (Ap : Option Addr) (cp : Nat) (A1 K1 : Option Addr) (c1 d1 : Nat) (hx : Lies w w.heap.size x A0 c0 K0 d0) (hp : PLies w w.heap.size Ap cp p) (hz : Lies w w.heap.size z A1 c1 K1 d1) :
    Calls Tryd.prog 15 #[.agg #[.int .i64 x.kind, .int .i64 x.int, .string x.text, .slice A0 x.items.length c0, .slice K0 x.keys.length d0], .slice Ap p.length cp, .agg #[.int .i64 z.kind, .int .i64 z.int, .string z.text, .slice A1 z.items.length c1, .slice K1 z.keys.length d1]] w (PutAns (putOut x p z) w) := by
  refine Calls.mono (R := RefP w.heap.size (putOut x p z) w) ?_ (fun e w' h => h.ans (Nat.le_refl _))
  have HB0 := Lib.hid (PB.start w #[.int .i64 x.kind, .int .i64 x.int, .string x.text, .slice A0 x.items.length c0, .slice K0 x.keys.length d0] #[.int .i64 z.kind, .int .i64 z.int, .string z.text, .slice A1 z.items.length c1, .slice K1 z.keys.length d1])
  obtain ⟨n, hn⟩ : ∃ n, n = p.length := ⟨_, rfl⟩
  obtain ⟨bx, hbx⟩ : ∃ b, x.valid = b := ⟨_, rfl⟩
  obtain ⟨bp, hbp⟩ : ∃ b, pathB p = b := ⟨_, rfl⟩
  obtain ⟨bz, hbz⟩ : ∃ b, z.valid = b := ⟨_, rfl⟩
  have HPV := Lib.hid fun W (hW : Below w.heap.size w W) => show Calls Tryd.prog 24 #[.slice Ap n cp] W fun e w' => e = .returned (.bool bp) ∧ Below W.heap.size W w' from by
    have := refPathValid_any p W Ap cp (hp.on hW)
    rw [hbp, ← hn] at this
    exact this.mono (by rintro e w' ⟨rfl, rfl⟩; exact ⟨rfl, Below.refl _ _⟩)
  have HV := Lib.hid fun W (hW : Below w.heap.size w W) => (refValid_any x W A0 K0 c0 d0 (lies_on hx hW)).mono (R' := fun e w' => e = .returned (.bool bx) ∧ Below W.heap.size W w') fun e w' h' => by rw [hbx] at h'; exact h'
  have HX := Lib.hid fun W (hW : Below w.heap.size w W) => (refValid_any z W A1 K1 c1 d1 (lies_on hz hW)).mono (R' := fun e w' => e = .returned (.bool bz) ∧ Below W.heap.size W w') fun e w' h' => by rw [hbz] at h'; exact h'
  obtain ⟨y, er, hq⟩ : ∃ y er, intoV x p z = (y, er) := ⟨_, _, rfl⟩
  have HIN := Lib.hid fun (h : bx = true) (hb : bp = true) W (hW : Below w.heap.size w W) => show Calls Tryd.prog 42 #[.agg #[.int .i64 x.kind, .int .i64 x.int, .string x.text, .slice A0 x.items.length c0, .slice K0 x.keys.length d0], .slice Ap n cp, .agg #[.int .i64 z.kind, .int .i64 z.int, .string z.text, .slice A1 z.items.length c1, .slice K1 z.keys.length d1]] W (RefP w.heap.size (y, er) W) from by
    rw [hn, ← hq]
    exact refInto_any w.heap.size x p z W A0 K0 c0 d0 Ap cp A1 K1 c1 d1 hW.size (hx.below hW) (hp.on hW) (hz.below hW) (valid_nodes (hbx.trans h)).1 (by have := (valid_nodes (hbx.trans h)).2; omega) (by have := hbp.trans hb; unfold pathB at this; rw [Bool.and_eq_true] at this; exact this.2)
  have HOUT := Lib.hid (show putOut x p z = if (bx && (bp && bz)) = true then (y, er) else (nullV, 1) by rw [into_eq, hbx, hbp, hbz, hq])
  obtain ⟨out, hout⟩ : ∃ out, out = putOut x p z := ⟨_, rfl⟩
  rw [← hout] at HOUT
  rw [← hn, ← hout]
  clear hn hbx hbp hbz hx hp hz hout hq
  go_enter Tryd.func15, Tryd.ntmps15
  go_wp2_with fail
  refine (HV.out _ HB0.out.old).mono ?_
  rintro e w1 ⟨rfl, h1⟩
  have HB1 := Lib.hid (HB0.out.below h1)
  clear h1 HB0
  cases bx
  case false =>
    obtain ⟨z0, z1, z2, z3, z4⟩ := five_of (show BlockIs w1 (w.heap.size + 2) 25 #[.int .i64 0, .int .i64 0, .string ⟨#[]⟩, .slice none 0 0, .slice none 0 0] from HB1.out.br)
    have y0' := HB1.out.br.frozen 0
    have y1' := HB1.out.br.frozen 1
    have y2' := HB1.out.br.frozen 2
    have y3' := HB1.out.br.frozen 3
    have y4' := HB1.out.br.frozen 4
    have zl := HB1.out.br.lt
    go_wp2_with fail
    refine bodyPost_ret (v := .tuple #[aggOf (leaf 0 0 ⟨#[]⟩) none 0 none 0, .int .i64 1]) (by simp [results, Tryd.results15, go_sem, aggOf, leaf, V.kind, V.int, V.text, V.items, V.keys, z0, z1, z2, z3, z4]) rfl ?_
    rw [HOUT.out, if_neg (by simp)]
    exact HB1.out.bad2 1
  obtain ⟨b0, b1, b2, b3, b4⟩ := five_of HB1.out.bv
  obtain ⟨x0, x1, x2, x3, x4⟩ := five_of HB1.out.bx
  go_wp2_with fail
  refine (HPV.out _ HB1.out.old).mono ?_
  rintro e w2 ⟨rfl, h2⟩
  have HB2 := Lib.hid (HB1.out.below h2)
  clear h2 b0 b1 b2 b3 b4 x0 x1 x2 x3 x4 HB1
  cases bp
  case false =>
    obtain ⟨z0, z1, z2, z3, z4⟩ := five_of (show BlockIs w2 (w.heap.size + 2) 25 #[.int .i64 0, .int .i64 0, .string ⟨#[]⟩, .slice none 0 0, .slice none 0 0] from HB2.out.br)
    have y0' := HB2.out.br.frozen 0
    have y1' := HB2.out.br.frozen 1
    have y2' := HB2.out.br.frozen 2
    have y3' := HB2.out.br.frozen 3
    have y4' := HB2.out.br.frozen 4
    have zl := HB2.out.br.lt
    go_wp2_with fail
    refine bodyPost_ret (v := .tuple #[aggOf (leaf 0 0 ⟨#[]⟩) none 0 none 0, .int .i64 1]) (by simp [results, Tryd.results15, go_sem, aggOf, leaf, V.kind, V.int, V.text, V.items, V.keys, z0, z1, z2, z3, z4]) rfl ?_
    rw [HOUT.out, if_neg (by simp)]
    exact HB2.out.bad2 1
  obtain ⟨b0, b1, b2, b3, b4⟩ := five_of HB2.out.bv
  obtain ⟨x0, x1, x2, x3, x4⟩ := five_of HB2.out.bx
  go_wp2_with fail
  refine (HX.out _ HB2.out.old).mono ?_
  rintro e w3 ⟨rfl, h3⟩
  have HB3 := Lib.hid (HB2.out.below h3)
  clear h3 b0 b1 b2 b3 b4 x0 x1 x2 x3 x4 HB2
  cases bz
  case false =>
    obtain ⟨z0, z1, z2, z3, z4⟩ := five_of (show BlockIs w3 (w.heap.size + 2) 25 #[.int .i64 0, .int .i64 0, .string ⟨#[]⟩, .slice none 0 0, .slice none 0 0] from HB3.out.br)
    have y0' := HB3.out.br.frozen 0
    have y1' := HB3.out.br.frozen 1
    have y2' := HB3.out.br.frozen 2
    have y3' := HB3.out.br.frozen 3
    have y4' := HB3.out.br.frozen 4
    have zl := HB3.out.br.lt
    go_wp2_with fail
    refine bodyPost_ret (v := .tuple #[aggOf (leaf 0 0 ⟨#[]⟩) none 0 none 0, .int .i64 1]) (by simp [results, Tryd.results15, go_sem, aggOf, leaf, V.kind, V.int, V.text, V.items, V.keys, z0, z1, z2, z3, z4]) rfl ?_
    rw [HOUT.out, if_neg (by simp)]
    exact HB3.out.bad2 1
  have HOUT := Lib.hid (show out = (y, er) by rw [HOUT.out, if_pos (by simp)])
  obtain ⟨b0, b1, b2, b3, b4⟩ := five_of HB3.out.bv
  obtain ⟨x0, x1, x2, x3, x4⟩ := five_of HB3.out.bx
  go_wp2_with fail
  refine (HIN.out (by trivial) (by trivial) _ HB3.out.old).mono ?_
  rintro e w4 ⟨A, c, K, d, rfl, hl4, h4⟩
  have HB4 := Lib.hid (HB3.out.below h4)
  have HL4 := Lib.hid (show LiesIn (fun b => b < w.heap.size ∨ (w.heap.size + 3 ≤ b ∧ b < w4.heap.size)) w4 y A c K d from LiesIn.keep (fun _ _ _ => rfl) (fun b hb => hb.imp id fun h => ⟨by have := h.1; have := HB3.out.fresh; omega, h.2⟩) _ hl4)
  clear h4 hl4 b0 b1 b2 b3 b4 x0 x1 x2 x3 x4 HB3
  obtain ⟨z0, z1, z2, z3, z4⟩ := five_of (show BlockIs w4 (w.heap.size + 2) 25 #[.int .i64 0, .int .i64 0, .string ⟨#[]⟩, .slice none 0 0, .slice none 0 0] from HB4.out.br)
  have y0' := HB4.out.br.frozen 0
  have y1' := HB4.out.br.frozen 1
  have y2' := HB4.out.br.frozen 2
  have y3' := HB4.out.br.frozen 3
  have y4' := HB4.out.br.frozen 4
  have zl := HB4.out.br.lt
  unfold aggOf
  go_wp2_with fail
  refine bodyPost_ret (v := .tuple #[aggOf y A c K d, .int .i64 er]) (by simp [results, Tryd.results15, go_sem, aggOf, z0, z1, z2, z3, z4]) rfl ?_
  rw [HOUT.out]
  exact HB4.out.good3 (Nat.le_refl _) er HL4.out
open Go.RowKit
/-- The boxes of the law: the value, what is laid. -/
structure UL (w : World) (cv cx : Array Value) (W : World) : Prop where
  old : Below w.heap.size w W
  bv : BlockIs W w.heap.size 25 cv
  bx : BlockIs W (w.heap.size + 1) 25 cx
section
variable {w W W' : World} {cv cx : Array Value}
theorem UL.start (w : World) (cv cx : Array Value) : UL w cv cx ((w.alloc (.cells cv 25)).alloc (.cells cx 25)) := ⟨below_al (below_al (Below.refl _ w) _) _, (BlockIs.new w _ _).alloc _, BlockIs.newAt _ _ _ (by simp)⟩
theorem UL.on (h : UL w cv cx W) (hb : Below W.heap.size W W') : UL w cv cx W' := ⟨below_on h.old hb, h.bv.below hb h.bv.lt, h.bx.below hb h.bx.lt⟩
end
set_option maxRecDepth 100000 in
set_option maxHeartbeats 2000000 in
theorem law_puts (x : V) (p : List Stp) (z : V) (w : World) (A0 K0 : Option Addr) (c0 m0 : Nat) (A1 : Option Addr) (c1 : Nat) (A2 K2 : Option Addr) (c2 m2 : Nat) (hx : Lies w w.heap.size x A0 c0 K0 m0) (hp : PLies w w.heap.size A1 c1 p) (hz : Lies w w.heap.size z A2 c2 K2 m2) (hpw : Pow w) :
    Calls Tryd.prog 4 #[aggOf x A0 c0 K0 m0, .slice A1 p.length c1, aggOf z A2 c2 K2 m2] w fun e w' => e = .returned (.bool true) ∧ Below w.heap.size w w' := by
  have HA := Lib.hid fun W (hW : Below w.heap.size w W) => awake2_any W (hpw.on hW)
  have HB0 := Lib.hid (UL.start w #[.int .i64 x.kind, .int .i64 x.int, .string x.text, .slice A0 x.items.length c0, .slice K0 x.keys.length m0] #[.int .i64 z.kind, .int .i64 z.int, .string z.text, .slice A2 z.items.length c2, .slice K2 z.keys.length m2])
  obtain ⟨y, r, hy⟩ : ∃ y r, putOut x p z = (y, r) := ⟨_, _, rfl⟩
  obtain ⟨u, s, hu⟩ : ∃ u s, remOut x p = (u, s) := ⟨_, _, rfl⟩
  have HP := Lib.hid fun W (hW : Below w.heap.size w W) => progPut_any x p z W A0 K0 c0 m0 A1 c1 A2 K2 c2 m2 (lies_on hx hW) (hp.on hW) (lies_on hz hW)
  have HQ := Lib.hid fun W (hW : Below w.heap.size w W) => refPutWhole_any x p z W A0 K0 c0 m0 A1 c1 A2 K2 c2 m2 (lies_on hx hW) (hp.on hW) (lies_on hz hW)
  have HM := Lib.hid fun W (hW : Below w.heap.size w W) => progRemove_any x p W A0 K0 c0 m0 A1 c1 (lies_on hx hW) (hp.on hW)
  have HN := Lib.hid fun W (hW : Below w.heap.size w W) => refRemove_any x p W A0 K0 c0 m0 A1 c1 (lies_on hx hW) (hp.on hW)
  have HS := Lib.hid fun (v : V) W A K c d A' K' c' d' (h : Lies W W.heap.size v A c K d) (h' : Lies W W.heap.size v A' c' K' d') => same_is v v W A K c d A' K' c' d' h h' (r := true) (by simp)
  obtain ⟨n, hn⟩ : ∃ n, n = p.length := ⟨_, rfl⟩
  rw [hy, ← hn] at HP HQ
  rw [hu, ← hn] at HM HN
  rw [← hn]
  clear hx hp hz hpw hy hu hn
  unfold aggOf
  go_enter Tryd.func4, Tryd.ntmps4
  go_wp2_with fail
  refine (HP.out _ HB0.out.old).mono ?_
  rintro e w1 ⟨Aa, ca, Ka, da, rfl, hla, h1⟩
  have HB1 := Lib.hid ((HB0.out.on h1).on (below_al (Below.refl _ w1) (.cells #[.int .i64 y.kind, .int .i64 y.int, .string y.text, .slice Aa y.items.length ca, .slice Ka y.keys.length da] 25)))
  have HXa := Lib.hid (QZ.start hla)
  clear h1 hla HP HB0
  unfold aggOf
  obtain ⟨s0, s1, s2, s3, s4⟩ := five_of HB1.out.bv
  have sl := HB1.out.bv.lt
  obtain ⟨t0, t1, t2, t3, t4⟩ := five_of HB1.out.bx
  have tl := HB1.out.bx.lt
  go_wp2_with fail
  refine (HQ.out _ HB1.out.old).mono ?_
  rintro e w2 ⟨Ab, cb, Kb, db, rfl, hlb, h2⟩
  have HB2 := Lib.hid ((HB1.out.on h2).on (below_al (Below.refl _ w2) (.cells #[.int .i64 y.kind, .int .i64 y.int, .string y.text, .slice Ab y.items.length cb, .slice Kb y.keys.length db] 25)))
  have HXa2 := Lib.hid ((HXa.out.on h2).on (below_al (Below.refl _ w2) (.cells #[.int .i64 y.kind, .int .i64 y.int, .string y.text, .slice Ab y.items.length cb, .slice Kb y.keys.length db] 25)))
  have HXb := Lib.hid (QZ.start hlb)
  clear h2 hlb HQ HB1 HXa s0 s1 s2 s3 s4 sl t0 t1 t2 t3 t4 tl
  unfold aggOf
  obtain ⟨s0, s1, s2, s3, s4⟩ := five_of HB2.out.bv
  have sl := HB2.out.bv.lt
  go_wp2_with fail
  refine (HM.out _ HB2.out.old).mono ?_
  rintro e w3 ⟨Ac, cc, Kc, dc, rfl, hlc, h3⟩
  have HB3 := Lib.hid ((HB2.out.on h3).on (below_al (Below.refl _ w3) (.cells #[.int .i64 u.kind, .int .i64 u.int, .string u.text, .slice Ac u.items.length cc, .slice Kc u.keys.length dc] 25)))
  have HXa3 := Lib.hid ((HXa2.out.on h3).on (below_al (Below.refl _ w3) (.cells #[.int .i64 u.kind, .int .i64 u.int, .string u.text, .slice Ac u.items.length cc, .slice Kc u.keys.length dc] 25)))
  have HXb3 := Lib.hid ((HXb.out.on h3).on (below_al (Below.refl _ w3) (.cells #[.int .i64 u.kind, .int .i64 u.int, .string u.text, .slice Ac u.items.length cc, .slice Kc u.keys.length dc] 25)))
  have HXc := Lib.hid (QZ.start hlc)
  clear h3 hlc HM HB2 HXa2 HXb s0 s1 s2 s3 s4 sl
  unfold aggOf
  obtain ⟨s0, s1, s2, s3, s4⟩ := five_of HB3.out.bv
  have sl := HB3.out.bv.lt
  go_wp2_with fail
  refine (HN.out _ HB3.out.old).mono ?_
  rintro e w4 ⟨Ad, cd, Kd, dd, rfl, hld, h4⟩
  have HB4 := Lib.hid ((HB3.out.on h4).on (below_al (Below.refl _ w4) (.cells #[.int .i64 u.kind, .int .i64 u.int, .string u.text, .slice Ad u.items.length cd, .slice Kd u.keys.length dd] 25)))
  have HXa4 := Lib.hid ((HXa3.out.on h4).on (below_al (Below.refl _ w4) (.cells #[.int .i64 u.kind, .int .i64 u.int, .string u.text, .slice Ad u.items.length cd, .slice Kd u.keys.length dd] 25)))
  have HXb4 := Lib.hid ((HXb3.out.on h4).on (below_al (Below.refl _ w4) (.cells #[.int .i64 u.kind, .int .i64 u.int, .string u.text, .slice Ad u.items.length cd, .slice Kd u.keys.length dd] 25)))
  have HXc4 := Lib.hid ((HXc.out.on h4).on (below_al (Below.refl _ w4) (.cells #[.int .i64 u.kind, .int .i64 u.int, .string u.text, .slice Ad u.items.length cd, .slice Kd u.keys.length dd] 25)))
  have HXd := Lib.hid (QZ.start hld)
  clear h4 hld HN HB3 HXa3 HXb3 HXc s0 s1 s2 s3 s4 sl
  unfold aggOf
  obtain ⟨s0, s1, s2, s3, s4⟩ := HXa4.out.box.cells
  have sl := HXa4.out.box.lt
  obtain ⟨t0, t1, t2, t3, t4⟩ := HXb4.out.box.cells
  have tl := HXb4.out.box.lt
  go_wp2_with fail
  refine (HS.out y _ Aa Ka ca da Ab Kb cb db HXa4.out.lies HXb4.out.lies).mono ?_
  rintro e w5 ⟨rfl, h5⟩
  have HB5 := Lib.hid (HB4.out.on h5)
  have HXc5 := Lib.hid (HXc4.out.on h5)
  have HXd5 := Lib.hid (HXd.out.on h5)
  clear h5 s0 s1 s2 s3 s4 sl t0 t1 t2 t3 t4 tl HB4 HXa4 HXb4 HXc4 HXd
  obtain ⟨s0, s1, s2, s3, s4⟩ := HXc5.out.box.cells
  have sl := HXc5.out.box.lt
  obtain ⟨t0, t1, t2, t3, t4⟩ := HXd5.out.box.cells
  have tl := HXd5.out.box.lt
  go_wp2_with fail
  refine (HS.out u _ Ac Kc cc dc Ad Kd cd dd HXc5.out.lies HXd5.out.lies).mono ?_
  rintro e w6 ⟨rfl, h6⟩
  have HB6 := Lib.hid (HB5.out.on h6)
  clear h6 s0 s1 s2 s3 s4 sl t0 t1 t2 t3 t4 tl HB5 HXc5 HXd5
  go_wp2_with fail
  refine (HA.out _ HB6.out.old).mono ?_
  rintro e w7 ⟨rfl, h7⟩
  have HB7 := Lib.hid (below_on HB6.out.old h7)
  clear h7
  go_wp2_with fail
  go_ret
  exact ⟨rfl, HB7.out⟩
end Go.Proofs.YtmhijdpahejaiaaDoor
namespace Go.Proofs.YtmhijdpahejaiaaDoor.variantPuts
open Go.ChangeShapes Go.WideShapes Go.ChangeAt Go.RowKit
set_option maxRecDepth 100000 in
set_option maxHeartbeats 1000000 in
theorem contract (H : Type) (enc : TypeId × Value → H) (W : World) (base : Nat) (args : Array Value) (ds gs : List (DataW H)) (before : List MemPlace)
    (hval : ∀ (j : Nat) t v, Tryd.f4.params[j]? = some t → args[j]? = some v → Value.okWide Tryd.prog W .any base t v)
    (hW : DataW.Whole enc Tryd.prog Tryd.f4.params.toList Rows.variantPutsSpec.vars false W args.toList ds gs before) (hL : laidMetH Tryd.prog laidL W) :
    Calls Tryd.prog 4 args W fun e W' => ∃ v, e = .returned v ∧ Rows.variantPutsSpec.post enc Tryd.prog Tryd.f4 false true false false W args v W' := by
  have hW' := hW
  have hlt := hW.lt
  obtain ⟨p, q, hA0, hV, rfl, _, _⟩ := hW
  have hA : DataW.TrodAll enc Tryd.prog W 0 (fun _ => true) true Tryd.f4.params.toList args.toList ds p := hA0
  rw [Tryd.params4] at hA hval
  obtain ⟨v0, vs0, d0, ds0, p0, q0, hargs, rfl, rfl, h0, r0⟩ := trodAll_cons hA
  obtain ⟨v1, vs1, d1, ds1, p1, q1, rfl, rfl, rfl, h1, r1⟩ := trodAll_cons r0
  obtain ⟨v2, vs2, d2, ds2, p2, q2, rfl, rfl, rfl, h2, r2⟩ := trodAll_cons r1
  obtain ⟨rfl, rfl, rfl⟩ := trodAll_nil r2
  obtain rfl : args = #[v0, v1, v2] := by cases args; simp_all
  obtain ⟨rfl, rfl⟩ := trodVars_none hV
  obtain ⟨x0, A0, c0, K0, m0, rfl, hx0⟩ := open_arg (hval 0 25 v0 rfl rfl) h0
  obtain ⟨x1, A1, c1, rfl, hx1⟩ := open_path (hval 1 26 v1 rfl rfl) h1
  obtain ⟨x2, A2, c2, K2, m2, rfl, hx2⟩ := open_arg (hval 2 25 v2 rfl rfl) h2
  clear hA0
  simp only [List.append_nil] at hW' hlt
  refine (law_puts x0 x1 x2 W A0 K0 c0 m0 A1 c1 A2 K2 c2 m2 hx0 hx1 hx2 (pow_of hL)).mono fun e W' ⟨he, hb⟩ => ?_
  subst he
  exact ⟨_, rfl, post_below (pa := p0 ++ (p1 ++ p2)) (pv := []) hW' (fun _ _ _ => trodAll_cons_mk (shut_bool Tryd.underlying4 _) trodAll_mk0)
    (fun sp hsp => by
      rw [Tryd.params4]
      have t2 := trodAll_cons_mk (arg_stays (sp := sp) h2 hb (fun z hz => hlt z (by simp [hz])) (fun z hz => hsp z (by simp [hz]))) trodAll_mk0
      rw [List.append_nil] at t2
      have t1 := trodAll_cons_mk (path_stays (sp := sp) h1 hb (fun z hz => hlt z (by simp [hz])) (fun z hz => hsp z (by simp [hz]))) t2
      have t0 := trodAll_cons_mk (arg_stays (sp := sp) h0 hb (fun z hz => hlt z (by simp [hz])) (fun z hz => hsp z (by simp [hz]))) t1
      exact t0)
    (fun _ _ => rfl) (by simp) hb (ok_one (by kernel_rfl) rfl (okWide_bool_mk Tryd.underlying4 _))⟩
theorem laid_met (os : Os) : laidMet Tryd.prog Rows.variantPutsRow.laid ((laidWorld os).forCall (fun _ _ => 0) ⟨#[], #[zeroA, .slice none 0 0, zeroA], []⟩).memory :=
  laidMet_of_run' 8 (by kernel_rfl) (by kernel_rfl)
theorem reads (os : Os) {H : Type} (enc : TypeId × Value → H) : ∃ places, DataW.whole enc Tryd.prog ((laidWorld os).forCall (fun _ _ => 0) ⟨#[], #[zeroA, .slice none 0 0, zeroA], []⟩).memory Tryd.f4.params.toList Rows.variantPutsSpec.vars false #[zeroA, .slice none 0 0, zeroA].toList 8 = some ([zeroD, .nil, zeroD], [], places) :=
  ⟨[], by kernel_rfl⟩
set_option maxRecDepth 100000 in
theorem lifted (os : Os) (started : os.Started) (H : Type) (enc : TypeId × Value → H) (F : Stop.Interp) :
    ReturnsInHanded {} Tryd.checked os 4 .any ((OpenSpec.ofChange Rows.variantPutsSpec).preRow enc Tryd.prog Tryd.f4 Rows.variantPutsRow.domain false Rows.variantPutsRow.laid) (((OpenSpec.ofChange Rows.variantPutsSpec).at F).post enc Tryd.prog Tryd.f4 false true false false) := by
  obtain ⟨places, hx⟩ := reads os enc
  refine returnsInHanded_of_row (C := Tryd.checked) (s := OpenSpec.ofChange Rows.variantPutsSpec) own started (by kernel_rfl) Tryd.func4
    (witness_row_at (enc := enc) (C := Tryd.checked) false (laidWorld os) #[zeroA, .slice none 0 0, zeroA] rfl (by kernel_rfl) (by kernel_rfl) (by kernel_rfl)
      (OpenSpec.preRow_of_cond 8 hx (by kernel_rfl) (fun k hk => by cases hk) (by kernel_rfl) (laid_met os))) ?_
  intro W base args ds gs before hval hW _ _ _ hL _ _
  exact contract H enc W base args ds gs before hval hW hL
theorem said : Rows.VariantPutsSaid :=
  OpenClaim.holds_of_cond 4 Tryd.f4 rfl rfl rfl rfl rfl rfl rfl ⟨rfl, rfl, rfl, rfl, rfl⟩ rfl rfl rfl rfl rfl (by kernel_rfl) Tryd.func4 (by kernel_rfl)
    (of_decide_eq_true (by kernel_rfl)) (by unfold Func.isWrapper; first | (rw [if_pos (by decide +kernel)]; kernel_rfl) | (rw [if_neg (by decide +kernel)]; exact ⟨rfl, rfl⟩))
    (fun os started H enc _ F => by rw [OpenClaim.pre_eq_preRow]; exact lifted os started H enc F)
theorem plain (f : FuncId) (fn : Func) (hf : Tryd.pinned.checked.prog.funcNamed "cirrus/cirruslaw02.VariantPuts" = some f) (hfn : Tryd.pinned.checked.prog.funcs[f]? = some fn) :
    false = Tryd.pinned.checked.prog.looks [] ∧ ∀ (j : Nat) t, fn.params[j]? = some t → Tryd.pinned.checked.prog.wantsStandIn t = false := by
  obtain rfl : f = 4 := Option.some.inj ((show Tryd.prog.funcNamed "cirrus/cirruslaw02.VariantPuts" = some 4 by kernel_rfl).symm.trans hf) |>.symm
  obtain rfl : fn = Tryd.f4 := (Option.some.inj (Tryd.func4.symm.trans hfn)).symm
  refine ⟨by kernel_rfl, fun j t ht => ?_⟩
  rw [Tryd.params4] at ht
  match j, ht with
  | 0, ht =>
    obtain rfl : t = 25 := (Option.some.inj ht).symm
    exact (show Tryd.prog.wantsStandIn 25 = false by kernel_rfl)
  | 1, ht =>
    obtain rfl : t = 26 := (Option.some.inj ht).symm
    exact (show Tryd.prog.wantsStandIn 26 = false by kernel_rfl)
  | 2, ht =>
    obtain rfl : t = 25 := (Option.some.inj ht).symm
    exact (show Tryd.prog.wantsStandIn 25 = false by kernel_rfl)
  | j + 3, ht => simp at ht
theorem card : Rows.VariantPutsCardSaid :=
  Claim7.holds_tied_plain_at .later [] _ _ _ _ said (fun _ h => by cases h) (by kernel_rfl) (fun _ h => by cases h) variantPuts_row_tie rfl ⟨rfl, rfl⟩ (by kernel_rfl) rfl plain (by kernel_rfl)
end Go.Proofs.YtmhijdpahejaiaaDoor.variantPuts
