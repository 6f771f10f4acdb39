/- Put, at the chapter's examples: a path of keys where nothing is yet; a value of another kind; an index beyond the end. -/
import Derived.Test.YtmhijdpahejaiaaDoorVl
import Derived.Test.YtmhijdpahejaiaaDoorJg
import Derived.Test.YtmhijdpahejaiaaDoorTd
import Derived.Test.YtmhijdpahejaiaaDoorTg
namespace Go.Proofs.YtmhijdpahejaiaaDoor
open Go.RowKit
theorem append_none (ty : TypeId) (W : World) : (Builtin.append_ #[23, 23] ty #[.slice none 0 0, .slice none 0 0]).run Tryd.prog W = .ok (.slice none 0 0) W := by
  obtain ⟨i0, hi, hz0, hz1, hz2⟩ := info_parts (P := Tryd.prog) (e := 9) (z := (.string ⟨#[]⟩)) (size := 1) (bytes := 16) (by kernel_rfl)
  exact run_append_nothing (P := Tryd.prog) W 23 23 ty 9 i0 Tryd.underlying23 hi none 0 0 (Nat.le_refl _) _ (Src.ofNil W Tryd.underlying23 0)
/-- Where the copying of a value without items stands. -/
structure CL (w : World) (k i : Int) (t : ByteArray) (W : World) : Prop where
  old : Below w.heap.size w W
  bv : BlockIs W w.heap.size 25 #[.int .i64 k, .int .i64 i, .string t, .slice none 0 0, .slice none 0 0]
  br : BlockIs W (w.heap.size + 1) 25 zeroF
theorem CL.start (w : World) (k i : Int) (t : ByteArray) : CL w k i t ((w.alloc (.cells #[.int .i64 k, .int .i64 i, .string t, .slice none 0 0, .slice none 0 0] 25)).alloc (.cells zeroF 25)) :=
  ⟨below_al (below_al (Below.refl _ w) _) _, (BlockIs.new w _ _).alloc _, BlockIs.newAt _ _ _ (by simp)⟩
theorem CL.ends {w W : World} {k i : Int} {t : ByteArray} {u0 u1 u2 u3 u4 : Value} (h : CL w k i t W) : Below w.heap.size w (put5 W (w.heap.size + 1) 0 u0 u1 u2 u3 u4) :=
  ((((h.old.setCell (by simp) _).setCell (by simp) _).setCell (by simp) _).setCell (by simp) _).setCell (by simp) _
set_option maxRecDepth 100000 in
set_option maxHeartbeats 4000000 in
/-- A value without items, copied. -/
theorem copied_leaf (k i : Int) (t : ByteArray) (w : World) :
    Calls Tryd.prog 33 #[.agg #[.int .i64 k, .int .i64 i, .string t, .slice none 0 0, .slice none 0 0]] w fun e w' => e = .returned (.agg #[.int .i64 k, .int .i64 i, .string t, .slice none 0 0, .slice none 0 0]) ∧ Below w.heap.size w w' := by
  have HRUN := Lib.hid (fun W => append_none 23 W)
  have HC := Lib.hid (CL.start w k i t)
  go_enter Tryd.func33, Tryd.ntmps33
  go_wp2_with (at_builtin; refine Lib.wpList_append_run _ rfl _ _ _ _ rfl _ _ rfl rfl _ _ (HRUN.out _) ?_)
  go_loopw [15] (fun iv wr => iv = .int .i64 0 ∧ Hid (CL w k i t wr)) (fun iv _ => 0)
  case atStart => exact ⟨rfl, HC⟩
  case round =>
    obtain ⟨rfl, hI⟩ := hrel
    obtain ⟨b0, b1, b2, b3, b4⟩ := five_of hI.out.bv
    obtain ⟨z0, z1, z2, z3, z4⟩ := five_of (show BlockIs wr (w.heap.size + 1) 25 #[.int .i64 0, .int .i64 0, .string ⟨#[]⟩, .slice none 0 0, .slice none 0 0] from hI.out.br)
    have x0 := hI.out.br.frozen 0
    have x1 := hI.out.br.frozen 1
    have x2 := hI.out.br.frozen 2
    have x3 := hI.out.br.frozen 3
    have x4 := hI.out.br.frozen 4
    have zl := hI.out.br.lt
    go_wp2_with fail
    refine bodyPost_ret (v := .agg #[.int .i64 k, .int .i64 i, .string t, .slice none 0 0, .slice none 0 0]) (by simp [results, Tryd.results33, go_sem, z0, z1, z2, z3, z4]) rfl ?_
    exact ⟨rfl, hI.out.ends⟩
/-- The boxes of Put: its value, what is put, what is answered. -/
structure PB (w : World) (c0 c1 : Array Value) (W : World) : Prop where
  old : Below w.heap.size w W
  bv : BlockIs W w.heap.size 25 c0
  bx : BlockIs W (w.heap.size + 1) 25 c1
  br : BlockIs W (w.heap.size + 2) 25 zeroF
section
variable {w W W' : World} {c0 c1 : Array Value} {g : Nat} {u0 u1 u2 u3 u4 : Value}
theorem PB.start (w : World) (c0 c1 : Array Value) : PB w c0 c1 (((w.alloc (.cells c0 25)).alloc (.cells c1 25)).alloc (.cells zeroF 25)) :=
  ⟨below_al (below_al (below_al (Below.refl _ w) _) _) _, ((BlockIs.new w _ _).alloc _).alloc _, (BlockIs.newAt _ _ _ (by simp)).alloc _, BlockIs.newAt _ _ _ (by simp)⟩
theorem PB.below (h : PB w c0 c1 W) (hb : Below W.heap.size W W') : PB w c0 c1 W' :=
  ⟨below_on h.old hb, h.bv.below hb h.bv.lt, h.bx.below hb h.bx.lt, h.br.below hb h.br.lt⟩
theorem PB.al (h : PB w c0 c1 W) (o : Obj) : PB w c0 c1 (W.alloc o) := h.below (below_al (Below.refl _ W) o)
theorem PB.grown (h : PB w c0 c1 W) (hw : W.grownBy W' (some g)) (hg : w.heap.size + 3 ≤ g) : PB w c0 c1 W' :=
  ⟨h.old.grown hw h.old.size (fun j hj => by cases hj; omega), h.bv.grown hw (by simp; omega), h.bx.grown hw (by simp; omega), h.br.grown hw (by simp; omega)⟩
theorem PB.ends (h : PB w c0 c1 W) : Below w.heap.size w (put5 W (w.heap.size + 2) 0 u0 u1 u2 u3 u4) :=
  ((((h.old.setCell (by simp) _).setCell (by simp) _).setCell (by simp) _).setCell (by simp) _).setCell (by simp) _
theorem PB.fresh (h : PB w c0 c1 W) : w.heap.size + 3 ≤ W.heap.size := by have := h.br.lt; omega
end
theorem PLies.low_on {w W : World} {A : Option Addr} {c : Nat} {p : List Stp} (h : PLies w w.heap.size A c p) (hb : Below w.heap.size w W) : PLies W w.heap.size A c p := h.low fun b hlt => hb.block b hlt
/-- What Put leaves where it can't. -/
def PutErr (r : Int) (w : World) (e : Ending) (w' : World) : Prop := e = .returned (.tuple #[aggOf (leaf 0 0 ⟨#[]⟩) none 0 none 0, .int .i64 r]) ∧ Below w.heap.size w w'
theorem PutErr.mk {w W : World} {c0 c1 : Array Value} {u0 u1 u2 u3 u4 : Value} (r : Int) (h : PB w c0 c1 W) : PutErr r w (.returned (.tuple #[aggOf (leaf 0 0 ⟨#[]⟩) none 0 none 0, .int .i64 r])) (put5 W (w.heap.size + 2) 0 u0 u1 u2 u3 u4) := ⟨rfl, h.ends⟩
set_option maxRecDepth 100000 in
set_option maxHeartbeats 8000000 in
theorem put_err (r : Int) (hr : ¬ r = 0) (k0 i0 k1 i1 : Int) (t0 t1 : ByteArray) (p : List Stp) (w : World) (Ap : Option Addr) (cp : Nat) (ht0 : t0.size ≤ maxLen) (ht1 : t1.size ≤ maxLen)
    (hv : (leaf k0 i0 t0).valid = true) (hx : (leaf k1 i1 t1).valid = true) (hpb : pathB p = true) (hp : PLies w w.heap.size Ap cp p)
    (hput : ∀ (W : World) (g : Nat), Five W g (.int .i64 k0) (.int .i64 i0) (.string t0) (.slice none 0 0) (.slice none 0 0) → PLies W w.heap.size Ap cp p → w.heap.size ≤ W.heap.size →
      Calls Tryd.prog 41 #[.pointer (some ⟨g, 0, none⟩), .slice Ap p.length cp, .agg #[.int .i64 k1, .int .i64 i1, .string t1, .slice none 0 0, .slice none 0 0]] W fun e w' => e = .returned (.int .i64 r) ∧ Below W.heap.size W w') :
    Calls Tryd.prog 14 #[.agg #[.int .i64 k0, .int .i64 i0, .string t0, .slice none 0 0, .slice none 0 0], .slice Ap p.length cp, .agg #[.int .i64 k1, .int .i64 i1, .string t1, .slice none 0 0, .slice none 0 0]] w (PutErr r w) := by
  have hr' : (r == 0) = false := by simpa using hr
  have hr2 : (r != 0) = true := by simpa using hr
  have HB0 := Lib.hid (PB.start w #[.int .i64 k0, .int .i64 i0, .string t0, .slice none 0 0, .slice none 0 0] #[.int .i64 k1, .int .i64 i1, .string t1, .slice none 0 0, .slice none 0 0])
  obtain ⟨n, hn⟩ : ∃ n, n = p.length := ⟨_, rfl⟩
  have HPV := Lib.hid fun W (hW : Below w.heap.size w W) => show Calls Tryd.prog 31 #[.slice Ap n cp] W fun e w' => e = .returned (.bool true) ∧ Below W.heap.size W w' from by
    have := pathValid_any p W Ap cp (hp.on hW)
    rw [hpb, ← hn] at this
    exact this
  have HV := Lib.hid fun W => valid_yes (leaf k0 i0 t0) W none none 0 0 (leaf_lies W _ k0 i0 ht0) hv
  have HX := Lib.hid fun W => valid_yes (leaf k1 i1 t1) W none none 0 0 (leaf_lies W _ k1 i1 ht1) hx
  have HPUT := Lib.hid fun W g (hF : Five W g (.int .i64 k0) (.int .i64 i0) (.string t0) (.slice none 0 0) (.slice none 0 0)) (hW : Below w.heap.size w W) => hput W g hF (hp.low_on hW) hW.size
  rw [← hn] at HPUT
  rw [← hn]
  clear hn hp hput hv hx hr hpb
  go_enter Tryd.func14, Tryd.ntmps14
  go_wp2_with fail
  refine (HV.out _).mono ?_
  rintro e w1 ⟨rfl, h1⟩
  have HB1 := Lib.hid (HB0.out.below h1)
  clear h1
  obtain ⟨b0, b1, b2, b3, b4⟩ := five_of HB1.out.bv
  obtain ⟨x0, x1, x2, x3, x4⟩ := five_of HB1.out.bx
  go_wp2_with fail
  refine (HPV.out _ HB1.out.old).mono ?_
  rintro e w2 ⟨rfl, h2⟩
  have HB2 := Lib.hid (HB1.out.below h2)
  clear h2 b0 b1 b2 b3 b4 x0 x1 x2 x3 x4
  obtain ⟨b0, b1, b2, b3, b4⟩ := five_of HB2.out.bv
  obtain ⟨x0, x1, x2, x3, x4⟩ := five_of HB2.out.bx
  go_wp2_with fail
  refine (HX.out _).mono ?_
  rintro e w3 ⟨rfl, h3⟩
  have HB3 := Lib.hid (HB2.out.below h3)
  clear h3 b0 b1 b2 b3 b4 x0 x1 x2 x3 x4
  obtain ⟨b0, b1, b2, b3, b4⟩ := five_of HB3.out.bv
  go_wp2_with fail
  refine (copied_leaf k0 i0 t0 _).mono ?_
  rintro e w4 ⟨rfl, h4⟩
  have HB4 := Lib.hid (HB3.out.below h4)
  clear h4 b0 b1 b2 b3 b4
  have HM := Lib.hid (BlockIs.new w4 25 #[.int .i64 k0, .int .i64 i0, .string t0, .slice none 0 0, .slice none 0 0])
  have HB5 := Lib.hid (HB4.out.al (.cells #[.int .i64 k0, .int .i64 i0, .string t0, .slice none 0 0, .slice none 0 0] 25))
  obtain ⟨x0, x1, x2, x3, x4⟩ := five_of HB4.out.bx
  have xl := HB4.out.bx.lt
  go_wp2_with fail
  refine (copied_leaf k1 i1 t1 _).mono ?_
  rintro e w6 ⟨rfl, h6⟩
  have HB6 := Lib.hid (HB5.out.below h6)
  have HF6 := Lib.hid (Five.of (HM.out.below h6 HM.out.lt) rfl)
  clear h6 x0 x1 x2 x3 x4 xl
  go_wp2_with fail
  refine (HPUT.out _ _ HF6.out HB6.out.old).mono ?_
  rintro e w7 ⟨rfl, h7⟩
  have HB7 := Lib.hid (HB6.out.below h7)
  clear h7
  obtain ⟨z0, z1, z2, z3, z4⟩ := five_of (show BlockIs w7 (w.heap.size + 2) 25 #[.int .i64 0, .int .i64 0, .string ⟨#[]⟩, .slice none 0 0, .slice none 0 0] from HB7.out.br)
  have y0 := HB7.out.br.frozen 0
  have y1 := HB7.out.br.frozen 1
  have y2 := HB7.out.br.frozen 2
  have y3 := HB7.out.br.frozen 3
  have y4 := HB7.out.br.frozen 4
  have zl := HB7.out.br.lt
  go_wp2_with fail
  refine bodyPost_ret (v := .tuple #[aggOf (leaf 0 0 ⟨#[]⟩) none 0 none 0, .int .i64 r]) (by simp [results, Tryd.results14, go_sem, aggOf, leaf, V.kind, V.int, V.text, V.items, V.keys, z0, z1, z2, z3, z4]) rfl ?_
  exact PutErr.mk r HB7.out
set_option maxRecDepth 100000 in
set_option maxHeartbeats 8000000 in
/-- A key in what is no object. -/
theorem put_type (n : Int) (k : ByteArray) (k1 i1 : Int) (t1 : ByteArray) (N : Nat) (W : World) (g : Nat) (A : Option Addr) (cp : Nat) (hN : N ≤ W.heap.size) (h : Five W g (.int .i64 2) (.int .i64 n) (.string ⟨#[]⟩) (.slice none 0 0) (.slice none 0 0)) (hp : PLies W N A cp [(-1, k)]) :
    Calls Tryd.prog 41 #[.pointer (some ⟨g, 0, none⟩), .slice A 1 cp, .agg #[.int .i64 k1, .int .i64 i1, .string t1, .slice none 0 0, .slice none 0 0]] W fun e w' => e = .returned (.int .i64 8) ∧ Below W.heap.size W w' := by
  obtain ⟨b, o, rfl, hb, e0, e1, hks⟩ := hp.at_ (k := 0) rfl
  have HB1 := Lib.hid (below_al (Below.refl _ W) (.cells #[.int .i64 k1, .int .i64 i1, .string t1, .slice none 0 0, .slice none 0 0] 25))
  have HF1 := Lib.hid (h.below HB1.out)
  simp only [Nat.zero_mul, Nat.add_zero] at e0 e1
  have hbW : b < W.heap.size := by omega
  clear hks h hp
  go_enter Tryd.func41, Tryd.ntmps41
  go_wp2_with fail
  refine (holder_key k _).mono ?_
  rintro e w2 ⟨rfl, h2⟩
  have HB2 := Lib.hid (below_on HB1.out h2)
  obtain ⟨c0, c1, c2, c3, c4, f0, f1, f2, f3, f4, gl⟩ := HF1.out.below h2
  clear h2 e0 e1
  go_wp2_with fail
  go_ret
  exact ⟨rfl, HB2.out⟩
set_option maxRecDepth 100000 in
set_option maxHeartbeats 8000000 in
/-- An index beyond the end. -/
theorem put_arg (k1 i1 : Int) (t1 : ByteArray) (N : Nat) (W : World) (g : Nat) (A : Option Addr) (cp : Nat) (hN : N ≤ W.heap.size) (h : Five W g (.int .i64 4) (.int .i64 0) (.string ⟨#[]⟩) (.slice none 0 0) (.slice none 0 0)) (hp : PLies W N A cp [(1, ⟨#[]⟩)]) :
    Calls Tryd.prog 41 #[.pointer (some ⟨g, 0, none⟩), .slice A 1 cp, .agg #[.int .i64 k1, .int .i64 i1, .string t1, .slice none 0 0, .slice none 0 0]] W fun e w' => e = .returned (.int .i64 3) ∧ Below W.heap.size W w' := by
  obtain ⟨b, o, rfl, hb, e0, e1, hks⟩ := hp.at_ (k := 0) rfl
  have HB1 := Lib.hid (below_al (Below.refl _ W) (.cells #[.int .i64 k1, .int .i64 i1, .string t1, .slice none 0 0, .slice none 0 0] 25))
  have HF1 := Lib.hid (h.below HB1.out)
  simp only [Nat.zero_mul, Nat.add_zero] at e0 e1
  have hbW : b < W.heap.size := by omega
  have HE := Lib.hid (And.intro ((bcell HB1.out b o hbW).trans e0) ((bcell HB1.out b (o + 1) hbW).trans e1))
  clear hks h hp
  go_enter Tryd.func41, Tryd.ntmps41
  go_wp2_with fail
  refine (holder_index 1 (by decide) ⟨#[]⟩ _).mono ?_
  rintro e w2 ⟨rfl, h2⟩
  have HB2 := Lib.hid (below_on HB1.out h2)
  have g0 := (bcell h2 b o (by simp; omega)).trans HE.out.1
  obtain ⟨c0, c1, c2, c3, c4, f0, f1, f2, f3, f4, gl⟩ := HF1.out.below h2
  clear h2 e0 e1
  go_wp2_with fail
  go_quiet (fail)
  go_wp2_with fail
  go_ret
  exact ⟨rfl, below_drewN HB2.out _⟩
/-- What Put leaves where it lays a value. -/
def PutPost (y : V) (w : World) (e : Ending) (w' : World) : Prop := ∃ A c K d, e = .returned (.tuple #[aggOf y A c K d, .int .i64 0]) ∧ Lies w' w'.heap.size y A c K d ∧ Below w.heap.size w w'
theorem PutPost.mk {y : V} {w W W1 : World} {c0 c1 : Array Value} {A K : Option Addr} {c d : Nat} {u0 u1 u2 u3 u4 : Value} (h : PB w c0 c1 W) (hl : LiesIn (Fresh W1 W) W y A c K d) (hs : w.heap.size + 2 < W1.heap.size) :
    PutPost y w (.returned (.tuple #[aggOf y A c K d, .int .i64 0])) (put5 W (w.heap.size + 2) 0 u0 u1 u2 u3 u4) := ⟨A, c, K, d, rfl, liesPutNew hl hs, h.ends⟩
set_option maxRecDepth 100000 in
set_option maxHeartbeats 16000000 in
/-- Put at a path of keys, into null. -/
theorem put_ok (k1 i1 : Int) (t1 : ByteArray) (ks : List ByteArray) (y : V) (hy : y = nestV ks (leaf k1 i1 t1)) (w : World) (Ap : Option Addr) (cp : Nat) (ht1 : t1.size ≤ maxLen)
    (hx : (leaf k1 i1 t1).valid = true) (hpb : pathB (keysP ks) = true) (hyv : y.valid = true) (hp : PLies w w.heap.size Ap cp (keysP ks)) :
    Calls Tryd.prog 14 #[.agg #[.int .i64 0, .int .i64 0, .string ⟨#[]⟩, .slice none 0 0, .slice none 0 0], .slice Ap ks.length cp, .agg #[.int .i64 k1, .int .i64 i1, .string t1, .slice none 0 0, .slice none 0 0]] w (PutPost y w) := by
  have HB0 := Lib.hid (PB.start w #[.int .i64 0, .int .i64 0, .string ⟨#[]⟩, .slice none 0 0, .slice none 0 0] #[.int .i64 k1, .int .i64 i1, .string t1, .slice none 0 0, .slice none 0 0])
  obtain ⟨n, hn⟩ : ∃ n, n = ks.length := ⟨_, rfl⟩
  have hn' : n = (keysP ks).length := by rw [hn]; simp [keysP]
  have HPV := Lib.hid fun W (hW : Below w.heap.size w W) => show Calls Tryd.prog 31 #[.slice Ap n cp] W fun e w' => e = .returned (.bool true) ∧ Below W.heap.size W w' from by
    have := pathValid_any (keysP ks) W Ap cp (hp.on hW)
    rw [hpb, ← hn'] at this
    exact this
  have HV := Lib.hid fun W => valid_yes (leaf 0 0 ⟨#[]⟩) W none none 0 0 (leaf_lies W _ 0 0 (by decide)) (show (leaf 0 0 ⟨#[]⟩).valid = true by decide +kernel)
  have HX := Lib.hid fun W => valid_yes (leaf k1 i1 t1) W none none 0 0 (leaf_lies W _ k1 i1 ht1) hx
  have HPUT := Lib.hid fun W g (hF : Five W g (.int .i64 0) (.int .i64 0) (.string ⟨#[]⟩) (.slice none 0 0) (.slice none 0 0)) (hW : Below w.heap.size w W) (hg : w.heap.size ≤ g) => put_nest k1 i1 t1 ht1 w.heap.size ks W g Ap cp hg hF (hp.low_on hW)
  rw [← hn, ← hy] at HPUT
  rw [← hn]
  have HY := Lib.hid fun W A c K d (hl : Lies W W.heap.size y A c K d) => valid_yes y W A K c d hl hyv
  clear hn hn' hp hx hpb hyv hy
  go_enter Tryd.func14, Tryd.ntmps14
  go_wp2_with fail
  refine (HV.out _).mono ?_
  rintro e w1 ⟨rfl, h1⟩
  have HB1 := Lib.hid (HB0.out.below h1)
  clear h1
  obtain ⟨b0, b1, b2, b3, b4⟩ := five_of HB1.out.bv
  obtain ⟨x0, x1, x2, x3, x4⟩ := five_of HB1.out.bx
  go_wp2_with fail
  refine (HPV.out _ HB1.out.old).mono ?_
  rintro e w2 ⟨rfl, h2⟩
  have HB2 := Lib.hid (HB1.out.below h2)
  clear h2 b0 b1 b2 b3 b4 x0 x1 x2 x3 x4
  obtain ⟨b0, b1, b2, b3, b4⟩ := five_of HB2.out.bv
  obtain ⟨x0, x1, x2, x3, x4⟩ := five_of HB2.out.bx
  go_wp2_with fail
  refine (HX.out _).mono ?_
  rintro e w3 ⟨rfl, h3⟩
  have HB3 := Lib.hid (HB2.out.below h3)
  clear h3 b0 b1 b2 b3 b4 x0 x1 x2 x3 x4
  obtain ⟨b0, b1, b2, b3, b4⟩ := five_of HB3.out.bv
  go_wp2_with fail
  refine (copied_leaf 0 0 ⟨#[]⟩ _).mono ?_
  rintro e w4 ⟨rfl, h4⟩
  have HB4 := Lib.hid (HB3.out.below h4)
  clear h4 b0 b1 b2 b3 b4
  have HM := Lib.hid (BlockIs.new w4 25 #[.int .i64 0, .int .i64 0, .string ⟨#[]⟩, .slice none 0 0, .slice none 0 0])
  have HB5 := Lib.hid (HB4.out.al (.cells #[.int .i64 0, .int .i64 0, .string ⟨#[]⟩, .slice none 0 0, .slice none 0 0] 25))
  obtain ⟨x0, x1, x2, x3, x4⟩ := five_of HB4.out.bx
  have xl := HB4.out.bx.lt
  go_wp2_with fail
  refine (copied_leaf k1 i1 t1 _).mono ?_
  rintro e w6 ⟨rfl, h6⟩
  have HB6 := Lib.hid (HB5.out.below h6)
  have HF6 := Lib.hid (Five.of (HM.out.below h6 HM.out.lt) rfl)
  have HG6 := Lib.hid (show w.heap.size + 3 ≤ w4.heap.size from HB4.out.fresh)
  clear h6 x0 x1 x2 x3 x4 xl
  go_wp2_with fail
  refine (HPUT.out _ _ HF6.out HB6.out.old (by have := HG6.out; omega)).mono ?_
  rintro e w7 ⟨rfl, h7, A7, c7, K7, d7, hf7, hl7⟩
  have HB7 := Lib.hid (HB6.out.grown h7 HG6.out)
  have HL7 := Lib.hid hl7
  have HF7 := Lib.hid hf7
  have HZ7 := Lib.hid (show w.heap.size + 2 < w6.heap.size from HB6.out.fresh)
  obtain ⟨m0, m1, m2, m3, m4, -, -, -, -, -, ml⟩ := hf7
  clear h7 hl7
  go_wp2_with fail
  refine (HY.out _ A7 c7 K7 d7 (LiesIn.lies (fun b h => h.2) y HL7.out)).mono ?_
  rintro e w8 ⟨rfl, h8⟩
  have HB8 := Lib.hid (HB7.out.below h8)
  have HL8 := Lib.hid (show LiesIn (Fresh w6 w8) w8 y A7 c7 K7 d7 from LiesIn.keep (fun b o hb => bcell h8 b o hb.2) (fun b hb => ⟨hb.1, by have := h8.size; have := hb.2; omega⟩) y HL7.out)
  have hf8 := HF7.out.below h8
  clear h8 m0 m1 m2 m3 m4 ml
  obtain ⟨m0, m1, m2, m3, m4, -, -, -, -, -, ml⟩ := hf8
  obtain ⟨z0, z1, z2, z3, z4⟩ := five_of (show BlockIs w8 (w.heap.size + 2) 25 #[.int .i64 0, .int .i64 0, .string ⟨#[]⟩, .slice none 0 0, .slice none 0 0] from HB8.out.br)
  have y0 := HB8.out.br.frozen 0
  have y1 := HB8.out.br.frozen 1
  have y2 := HB8.out.br.frozen 2
  have y3 := HB8.out.br.frozen 3
  have y4 := HB8.out.br.frozen 4
  have zl := HB8.out.br.lt
  go_wp2_with fail
  refine bodyPost_ret (v := .tuple #[aggOf y A7 c7 K7 d7, .int .i64 0]) (by simp [results, Tryd.results14, go_sem, aggOf, z0, z1, z2, z3, z4]) rfl ?_
  exact PutPost.mk HB8.out HL8.out HZ7.out
open Go.RowKit
theorem holder_any (i : Int) (t : ByteArray) (hs : stepB (i, t) = true) (w : World) : Calls Tryd.prog 61 #[.agg #[.int .i64 i, .string t]] w fun e w' => e = .returned (.int .i64 (holderS (i, t))) ∧ Below w.heap.size w w' := by
  by_cases h0 : 0 ≤ i
  · rw [holderS, if_neg (by simp only; omega)]; exact holder_index i h0 t w
  · have h1 : i = -1 := by
      unfold stepB at hs
      by_cases e : i = -1
      · exact e
      · rw [if_neg (by simpa using e)] at hs
        simp at hs
        omega
    subst h1
    exact holder_key t w
/-- A value that is to be laid, apart from where it is laid. -/
structure ZIn (W : World) (N g : Nat) (z : V) (zI zK : Value) (D Dz : Nat → Prop) : Prop where
  tree : Tree W N z zI zK Dz
  low : ∀ b, Dz b → N ≤ b ∧ b < W.heap.size
  far : ∀ b, Dz b → ¬ D b ∧ b ≠ g
/-- What put leaves. -/
def PutP (q : V × Int) (N g : Nat) (t : TypeId) (pre post : List Value) (D Dz : Nat → Prop) (W : World) (e : Ending) (W' : World) : Prop :=
  e = .returned (.int .i64 q.2) ∧ Fr W W' g D ∧ (q.2 = 0 → ∃ vI' vK' D', Node W' N g t pre post q.1 vI' vK' D' ∧ ∀ b, D' b → D b ∨ Dz b ∨ W.heap.size ≤ b)
section
variable {W W' W1 W2 : World} {N g n m c gI cp : Nat} {t : TypeId} {pre post : List Value} {x y z : V} {vI vK zI zK : Value} {D D1 Dz : Nat → Prop} {q : V × Int} {e : Ending}
theorem ZIn.fr (h : ZIn W N g z zI zK D Dz) (hF : Fr W W' g D) (hD : ∀ b, D1 b → D b ∨ W.heap.size ≤ b) : ZIn W' N g z zI zK D1 Dz :=
  ⟨h.tree.keep z (fun b hb => hF.block b (h.low b hb).2 (h.far b hb).2 (h.far b hb).1) (fun _ h => h), fun b hb => ⟨(h.low b hb).1, by have := (h.low b hb).2; have := hF.size; omega⟩, fun b hb => ⟨fun e => by
    rcases hD b e with e | e
    · exact (h.far b hb).1 e
    · have := (h.low b hb).2; omega, (h.far b hb).2⟩⟩
theorem ZIn.on (h : ZIn W N g z zI zK D Dz) (hb : Below W.heap.size W W') : ZIn W' N g z zI zK D Dz := h.fr (Fr.of_below hb g D) (fun _ h => .inl h)
theorem PutP.trans (h : PutP q N g t pre post D1 Dz W1 e W') (hF : Fr W W1 g D) (hD : ∀ b, D1 b → D b ∨ W.heap.size ≤ b) : PutP q N g t pre post D Dz W e W' := by
  obtain ⟨h1, h2, h3⟩ := h
  refine ⟨h1, hF.trans h2 hD, fun h0 => ?_⟩
  obtain ⟨vI', vK', D', hN, hD'⟩ := h3 h0
  refine ⟨vI', vK', D', hN, fun b hb => ?_⟩
  rcases hD' b hb with h | h | h
  · rcases hD b h with h | h
    · exact .inl h
    · exact .inr (.inr h)
  · exact .inr (.inl h)
  · exact .inr (.inr (Nat.le_trans hF.size h))
theorem PutP.bad {r : Int} (hq : q.2 = r) (h0 : ¬ r = 0) (hF : Fr W W' g D) : PutP q N g t pre post D Dz W (.returned (.int .i64 r)) W' :=
  ⟨by rw [hq], hF, fun h => absurd (hq.symm.trans h) h0⟩
theorem Fr.set (W : World) (g o : Nat) (u : Value) (D : Nat → Prop) : Fr W (W.setCell ⟨g, o, none⟩ u) g D := ⟨rfl, rfl, rfl, by simp, fun b _ hb _ => Below.heap_setCell _ _ _ _ hb⟩
/-- The five cells of a value are laid. -/
theorem Node.put5 (h : Node W N g t pre post x vI vK D) (hz : ZIn W N g z zI zK D Dz) (hW : W' = ((((W.setCell ⟨g, pre.length, none⟩ (.int .i64 z.kind)).setCell ⟨g, pre.length + 1, none⟩ (.int .i64 z.int)).setCell ⟨g, pre.length + 2, none⟩ (.string z.text)).setCell ⟨g, pre.length + 3, none⟩ zI).setCell ⟨g, pre.length + 4, none⟩ zK) :
    Node W' N g t pre post z zI zK Dz ∧ Fr W W' g D := by
  have h0 := block_set h.row 0 (by simp [five]) (.int .i64 z.kind)
  rw [Nat.add_zero] at h0
  have h1 := block_set h0 1 (by simp [five]) (.int .i64 z.int)
  have h2 := block_set h1 2 (by simp [five]) (.string z.text)
  have h3 := block_set h2 3 (by simp [five]) zI
  have h4 := block_set h3 4 (by simp [five]) zK
  have hF : Fr W W' g D := by
    rw [hW]
    exact ((((Fr.set W g _ _ D).trans (Fr.set _ g _ _ D) fun _ h => .inl h).trans (Fr.set _ g _ _ D) fun _ h => .inl h).trans (Fr.set _ g _ _ D) fun _ h => .inl h).trans (Fr.set _ g _ _ D) fun _ h => .inl h
  rw [← hW] at h4
  have hz' := hz.fr (D1 := D) hF (fun _ h => .inl h)
  exact ⟨⟨by simpa [five] using h4, hz'.tree, fun e => (hz.far g e).2 rfl, hz'.low, h.base⟩, hF⟩
theorem put_inner {r : List Stp} {A : Option Addr} (hN : Node W N g t pre post x (.slice (some ⟨gI, 0, none⟩) m c) vK D) (hy : x.items[n]? = some y) (hz : ZIn W N g z zI zK D Dz) (hp : PLies W N A cp r)
    (ih : ∀ (W : World) (g : Nat) (t : TypeId) (pre post : List Value) (vI vK : Value) (D : Nat → Prop) (A : Option Addr) (cp : Nat), Node W N g t pre post y vI vK D → ZIn W N g z zI zK D Dz → PLies W N A cp r →
      Calls Tryd.prog 41 #[.pointer (some ⟨g, pre.length, none⟩), .slice A r.length cp, .agg #[.int .i64 z.kind, .int .i64 z.int, .string z.text, zI, zK]] W (PutP q N g t pre post D Dz W)) :
    Calls Tryd.prog 41 #[.pointer (some ⟨gI, n * 5, none⟩), .slice A r.length cp, .agg #[.int .i64 z.kind, .int .i64 z.int, .string z.text, zI, zK]] W (PutP (setIt x n q.1, q.2) N g t pre post D Dz W) := by
  obtain ⟨gJ, cJ, pre', post', yI, yK, D0, eJ, hpre, hNy, hD0, hDg, hup⟩ := hN.down hy
  have eg : gI = gJ := by
    have := eJ
    simp at this
    exact this.1
  subst eg
  rw [← hpre]
  refine (ih W gI _ pre' post' yI yK D0 A cp hNy ⟨hz.tree, hz.low, fun b hb => ⟨fun h => (hz.far b hb).1 (hD0 b h), fun e => (hz.far b hb).1 (by rw [e]; exact hDg)⟩⟩ hp).mono ?_
  rintro e w' ⟨h1, h2, h3⟩
  refine ⟨h1, h2.up hD0 hDg, fun h0 => ?_⟩
  obtain ⟨vI', vK', D', hN', hD'⟩ := h3 h0
  refine ⟨_, _, _, hup Dz w' q.1 vI' vK' D' (fun b hb => ⟨(hz.far b hb).1, (hz.far b hb).2, hz.low b hb⟩) hN' hD' h2, fun b hb => ?_⟩
  rcases hb with h | h | h
  · exact .inl h
  · exact .inr (.inl h)
  · exact .inr (.inr h.1)
end
set_option maxRecDepth 100000 in
set_option maxHeartbeats 8000000 in
theorem put_end (x z : V) (N g : Nat) (t : TypeId) (pre post : List Value) (vI vK zI zK : Value) (D Dz : Nat → Prop) (W : World) (A : Option Addr) (cp : Nat) (h : Node W N g t pre post x vI vK D) (hz : ZIn W N g z zI zK D Dz) :
    Calls Tryd.prog 41 #[.pointer (some ⟨g, pre.length, none⟩), .slice A 0 cp, .agg #[.int .i64 z.kind, .int .i64 z.int, .string z.text, zI, zK]] W (PutP (z, 0) N g t pre post D Dz W) := by
  obtain ⟨⟨ZA, zc, rfl⟩, ZK, zd, rfl⟩ := hz.tree.forms
  have HP := Lib.hid (fun W' (e : W' = ((((W.setCell ⟨g, pre.length, none⟩ (.int .i64 z.kind)).setCell ⟨g, pre.length + 1, none⟩ (.int .i64 z.int)).setCell ⟨g, pre.length + 2, none⟩ (.string z.text)).setCell ⟨g, pre.length + 3, none⟩ (.slice ZA z.items.length zc)).setCell ⟨g, pre.length + 4, none⟩ (.slice ZK z.keys.length zd)) => h.put5 hz e)
  obtain ⟨c0, c1, c2, c3, c4⟩ := h.cells
  obtain ⟨f0, f1, f2, f3, f4, gl⟩ := h.frozen
  clear h hz
  go_enter Tryd.func41, Tryd.ntmps41
  go_wp2_with fail
  refine bodyPost_ret (v := .int .i64 0) (by simp [results, Tryd.results41, go_sem]) rfl ?_
  obtain ⟨W', hW'⟩ : ∃ W', W' = ((((W.setCell ⟨g, pre.length, none⟩ (.int .i64 z.kind)).setCell ⟨g, pre.length + 1, none⟩ (.int .i64 z.int)).setCell ⟨g, pre.length + 2, none⟩ (.string z.text)).setCell ⟨g, pre.length + 3, none⟩ (.slice ZA z.items.length zc)).setCell ⟨g, pre.length + 4, none⟩ (.slice ZK z.keys.length zd) := ⟨_, rfl⟩
  rw [← hW']
  obtain ⟨hN, hF⟩ := HP.out W' hW'
  have hb := below_al (Below.refl _ W') (.cells #[.int .i64 z.kind, .int .i64 z.int, .string z.text, .slice ZA z.items.length zc, .slice ZK z.keys.length zd] 25)
  exact ⟨rfl, hF.trans (Fr.of_below hb g D) (fun _ h => .inl h), fun _ => ⟨_, _, _, hN.on hb, fun b hb => .inr (.inl hb)⟩⟩
open Go.RowKit
theorem put_plain {x z : V} {s : Stp} {r : List Stp} (hok : x.ok = true) (h60 : x.nodes ≤ 60) (hs : stepB s = true) (h1 : (kindV x s).kind = holderS s) (h2 : ¬ s.1 > x.items.length) :
    Fit (kindV x s) ∧ (kindV x s).items.length ≤ 99 ∧ ∃ y, (roomV (kindV x s) s).items[whereV (kindV x s) s]? = some y ∧ y.ok = true ∧ y.nodes ≤ 60 ∧ putV x (s :: r) z = (setIt (roomV (kindV x s) s) (whereV (kindV x s) s) (putV y r z).1, (putV y r z).2) := by
  have hi : (kindV x s).items = x.items := by unfold kindV; split <;> rfl
  have hf := (fit_of hok).kindV s
  have hl : ¬ s.1 > (kindV x s).items.length := by rw [hi]; exact h2
  obtain ⟨-, -, h3, h4, -⟩ := room_items hf h1 hs hl nullV
  refine ⟨hf, by rw [hi]; have := nodes_items x; have := length_le_nodesL x.items; omega, (roomV (kindV x s) s).items.getD (whereV (kindV x s) s) nullV, ?_, ?_, ?_, ?_⟩
  · rw [List.getD_eq_getElem?_getD, List.getElem?_eq_getElem h4]; rfl
  · rw [h3, kindV_item (fit_of hok)]
    cases hit : itemV x s with
    | none => exact (by decide : nullV.ok = true)
    | some y => exact okItems hok y (item_mem hit)
  · rw [h3, kindV_item (fit_of hok)]
    cases hit : itemV x s with
    | none => exact (by decide : nullV.nodes ≤ 60)
    | some y => have := V.nodes_mem (item_mem hit); have := nodes_items x; simp only [Option.getD_some]; omega
  · rw [putV, if_neg (by simpa using h1), if_neg hl]
theorem put_type8 {x z : V} {s : Stp} {r : List Stp} (h1 : ¬ (kindV x s).kind = holderS s) : (putV x (s :: r) z).2 = 8 := by rw [putV, if_pos h1]
theorem put_arg3 {x z : V} {s : Stp} {r : List Stp} (h1 : (kindV x s).kind = holderS s) (h2 : s.1 > x.items.length) : (putV x (s :: r) z).2 = 3 := by
  have hi : (kindV x s).items = x.items := by unfold kindV; split <;> rfl
  rw [putV, if_neg (by simpa using h1), if_pos (by rw [hi]; exact h2)]
set_option maxRecDepth 100000 in
set_option maxHeartbeats 8000000 in
theorem put_step (x z : V) (i : Int) (k : ByteArray) (r : List Stp) (N g : Nat) (t : TypeId) (pre post : List Value) (vI vK zI zK : Value) (D Dz : Nat → Prop) (W : World) (A : Option Addr) (cp : Nat)
    (h : Node W N g t pre post x vI vK D) (hz : ZIn W N g z zI zK D Dz) (hok : x.ok = true) (h60 : x.nodes ≤ 60) (hs : stepB (i, k) = true) (hp : PLies W N A cp ((i, k) :: r))
    (ih : ∀ y : V, y.ok = true → y.nodes ≤ 60 → ∀ (W : World) (g : Nat) (t : TypeId) (pre post : List Value) (vI vK : Value) (D : Nat → Prop) (A : Option Addr) (cp : Nat), Node W N g t pre post y vI vK D → ZIn W N g z zI zK D Dz → PLies W N A cp r →
      Calls Tryd.prog 41 #[.pointer (some ⟨g, pre.length, none⟩), .slice A r.length cp, .agg #[.int .i64 z.kind, .int .i64 z.int, .string z.text, zI, zK]] W (PutP (putV y r z) N g t pre post D Dz W)) :
    Calls Tryd.prog 41 #[.pointer (some ⟨g, pre.length, none⟩), .slice A (r.length + 1) cp, .agg #[.int .i64 z.kind, .int .i64 z.int, .string z.text, zI, zK]] W (PutP (putV x ((i, k) :: r) z) N g t pre post D Dz W) := by
  have hgW := h.row.lt
  obtain ⟨⟨ZA, zc, rfl⟩, ZK, zd, rfl⟩ := hz.tree.forms
  obtain ⟨hp1, hp2, hp3⟩ := hp
  obtain ⟨b, o, rfl, hb, hf⟩ : ∃ b o, A = some ⟨b, o, none⟩ ∧ b < N ∧ StepsFrom W ((i, k) :: r) b o := by
    rcases hp3 with h | h
    · simp at h
    · exact h
  have hcp : r.length + 1 ≤ cp := by simpa using hp1
  unfold maxLen at hp2
  obtain ⟨e0, e1, hks, hrest⟩ := hf
  have hNg : N ≤ g := h.base
  have HKS := Lib.hid hks
  have HPR := Lib.hid (show PLies W N (some ⟨b, o + 2, none⟩) (cp - 1) r from ⟨by omega, by unfold maxLen; omega, .inr ⟨b, o + 2, rfl, hb, hrest⟩⟩)
  have HT8 := Lib.hid (put_type8 (x := x) (z := z) (s := (i, k)) (r := r))
  have HA3 := Lib.hid (put_arg3 (x := x) (z := z) (s := (i, k)) (r := r))
  have HPL := Lib.hid (put_plain (z := z) (r := r) hok h60 hs)
  have HHOLD := Lib.hid (holder_any i k hs)
  have HNULL := Lib.hid ((fit_of hok).null)
  have HKV := Lib.hid (show kindV x (i, k) = if x.kind = 0 then .mk (holderS (i, k)) x.int x.text x.items x.keys else x from rfl)
  obtain ⟨q, hq⟩ : ∃ q, q = putV x ((i, k) :: r) z := ⟨_, rfl⟩
  obtain ⟨hd, hhd⟩ : ∃ hd, hd = holderS (i, k) := ⟨_, rfl⟩
  rw [← hq] at HT8 HA3 HPL ⊢
  rw [← hhd] at HT8 HA3 HPL HHOLD HKV
  have hd0 : ¬ hd = 0 := by rw [hhd, holderS]; split <;> omega
  have HHD := Lib.hid hhd
  obtain ⟨W1, hW1⟩ : ∃ W1, W1 = W.alloc (.cells #[.int .i64 z.kind, .int .i64 z.int, .string z.text, .slice ZA z.items.length zc, .slice ZK z.keys.length zd] 25) := ⟨_, rfl⟩
  have hb1 : Below W.heap.size W W1 := by rw [hW1]; exact below_al (Below.refl _ W) _
  have HW1 := Lib.hid hW1
  have HB1 := Lib.hid hb1
  have HX1 := Lib.hid (show BlockIs W1 W.heap.size 25 #[.int .i64 z.kind, .int .i64 z.int, .string z.text, .slice ZA z.items.length zc, .slice ZK z.keys.length zd] by rw [hW1]; exact BlockIs.new W _ _)
  have hz1 : W.heap.size < W1.heap.size := HX1.out.lt
  have e0' : W1.cell? ⟨b, o, none⟩ = some (.int .i64 i) := (bcell hb1 b o (by omega)).trans e0
  have e1' : W1.cell? ⟨b, o + 1, none⟩ = some (.string k) := (bcell hb1 b (o + 1) (by omega)).trans e1
  have HN1 := Lib.hid (h.on hb1)
  have HZ1 := Lib.hid (hz.on hb1)
  have HIH := Lib.hid ih
  have HDW := Lib.hid (show ∀ b, D b → b < W.heap.size from fun b hb => (h.low b hb).2)
  obtain ⟨A0, c0', K0, d0', rfl, rfl, hlie⟩ := h.lies
  clear ih hrest hp1 hp3 hks h hz hW1 hb1 e0 e1 hq hhd hok h60 hs hlie
  have hr0 : (0 : Int) < (r.length : Int) + 1 := by omega
  have hr1 : (1 : Int) ≤ (r.length : Int) + 1 := by omega
  have hr2 : (r.length : Int) + 1 ≤ cp := by omega
  have hr3 : (1 : Int) ≤ cp := by omega
  go_enter Tryd.func41, Tryd.ntmps41
  go_upto_region 1 with (fail)
  rw [← HW1.out]
  go_wp2_with fail
  refine (HHOLD.out W1).mono ?_
  rintro e w2 ⟨rfl, h2⟩
  have HN2 := Lib.hid (HN1.out.on h2)
  have HZ2 := Lib.hid (HZ1.out.on h2)
  have HB2 := Lib.hid (below_on HB1.out h2)
  have HX2 := Lib.hid (HX1.out.below h2 hz1)
  have hz2 := h2.size
  have e0 : w2.cell? ⟨b, o, none⟩ = some (.int .i64 i) := (bcell h2 b o (by omega)).trans e0'
  have e1 : w2.cell? ⟨b, o + 1, none⟩ = some (.string k) := (bcell h2 b (o + 1) (by omega)).trans e1'
  obtain ⟨c0, c1, c2, c3, c4⟩ := HN2.out.cells
  obtain ⟨f0, f1, f2, f3, f4, gl⟩ := HN2.out.frozen
  clear h2 e0' e1' HN1 HX1 HB1 HW1 HZ1 HHOLD
  have HKI := Lib.hid (show (kindV x (i, k)).items = x.items by unfold kindV; split <;> rfl)
  have HDN := Lib.hid (show ∀ b, D b → N ≤ b from fun b hb => (HN2.out.low b hb).1)
  by_cases h1 : (kindV x (i, k)).kind = hd
  · by_cases hi : i > x.items.length
    · have hq3 := HA3.out h1 hi
      have hi' : (x.items.length : Int) < i := hi
      clear HT8 HA3 HPL
      by_cases h0 : x.kind = 0
      · rw [h0] at c0
        go_wp2_with fail
        go_quiet (fail)
        go_wp2_with fail
        refine bodyPost_ret (v := .int .i64 3) (by simp [results, Tryd.results41, go_sem]) rfl ?_
        exact PutP.bad hq3 (by decide) (((Fr.of_below HB2.out g D).trans (Fr.set w2 g _ _ D) fun _ h => .inl h).trans (Fr.of_below (below_drewN (Below.refl _ _) _) g D) fun _ h => .inl h)
      · have hk : x.kind = hd := by rw [HKV.out, if_neg h0] at h1; exact h1
        rw [hk] at c0
        go_wp2_with fail
        go_quiet (fail)
        go_wp2_with fail
        refine bodyPost_ret (v := .int .i64 3) (by simp [results, Tryd.results41, go_sem]) rfl ?_
        exact PutP.bad hq3 (by decide) ((Fr.of_below HB2.out g D).trans (Fr.of_below (below_drewN (Below.refl _ _) _) g D) fun _ h => .inl h)
    · obtain ⟨hfit, h99, y, hy, hyok, hy60, hqe⟩ := HPL.out h1 (by omega)
      have HY := Lib.hid hy
      have HFIT := Lib.hid (And.intro hfit h99)
      have HYO := Lib.hid (And.intro hyok hy60)
      obtain ⟨qy, hqy⟩ : ∃ qy, qy = putV y r z := ⟨_, rfl⟩
      rw [← hqy] at hqe
      have HQE := Lib.hid hqe
      have HQY := Lib.hid hqy
      have hi' : i ≤ x.items.length := by omega
      have HI := Lib.hid hi
      have H1 := Lib.hid h1
      clear HT8 HA3 HPL hqe hqy hfit h99 hy hyok hy60 hi
      by_cases h0 : x.kind = 0
      focus
        have hkv : kindV x (i, k) = .mk hd x.int x.text x.items x.keys := by rw [HKV.out, if_pos h0]
        rw [h0] at c0
        clear h1
        go_wp2_with fail
        go_quiet (fail)
        obtain ⟨W4, hW4⟩ : ∃ W4, W4 = (w2.setCell ⟨g, pre.length, none⟩ (.int .i64 hd)).drewN nq := ⟨_, rfl⟩
        have hn3 := HN2.out.kind hd
        rw [← hkv] at hn3
        have HN4 := Lib.hid (show Node W4 N g t pre post (kindV x (i, k)) (.slice A0 x.items.length c0') (.slice K0 x.keys.length d0') D by rw [hW4]; exact hn3.on (below_drewN (Below.refl _ _) _))
        have hF3 : Fr w2 W4 g D := by rw [hW4]; exact (Fr.set w2 g _ _ D).trans (Fr.of_below (below_drewN (Below.refl _ _) _) g D) fun _ h => .inl h
      rotate_left
      focus
        have hkv : kindV x (i, k) = x := by rw [HKV.out, if_neg h0]
        have hk : x.kind = hd := by rw [hkv] at h1; exact h1
        rw [hk] at c0
        clear h1 hk
        go_wp2_with fail
        go_quiet (fail)
        obtain ⟨W4, hW4⟩ : ∃ W4, W4 = w2.drewN nq := ⟨_, rfl⟩
        have HN4 := Lib.hid (show Node W4 N g t pre post (kindV x (i, k)) (.slice A0 x.items.length c0') (.slice K0 x.keys.length d0') D by rw [hW4, hkv]; exact HN2.out.on (below_drewN (Below.refl _ _) _))
        have hF3 : Fr w2 W4 g D := by rw [hW4]; exact Fr.of_below (below_drewN (Below.refl _ _) _) g D
      all_goals
        have HF4 := Lib.hid ((Fr.of_below HB2.out g D).trans hF3 fun _ h => .inl h)
        have HZ4 := Lib.hid (HZ2.out.fr hF3 fun _ h => .inl h)
        have HX4 := Lib.hid (show BlockIs W4 W.heap.size 25 #[.int .i64 z.kind, .int .i64 z.int, .string z.text, .slice ZA z.items.length zc, .slice ZK z.keys.length zd] from HX2.out.to (hF3.block W.heap.size (by omega) (by omega) (fun e => by have := HDW.out _ e; omega)))
        have hlow : ∀ b', b' < N → W4.heap[b']? = w2.heap[b']? := fun b' hb' => hF3.block b' (by omega) (by omega) (fun e => by have := HDN.out _ e; omega)
        have e0' : W4.cell? ⟨b, o, none⟩ = some (.int .i64 i) := (World.cell?_of_block (hlow b hb)).trans e0
        have e1' : W4.cell? ⟨b, o + 1, none⟩ = some (.string k) := (World.cell?_of_block (hlow b hb)).trans e1
        have hz4 : W.heap.size < W4.heap.size := HX4.out.lt
        have HROOM := Lib.hid (room_any (kindV x (i, k)) i k N g t pre post _ _ D W4.drew (HN4.out.on (Below.refl _ W4).drew) HFIT.out.1 HFIT.out.2 (H1.out.trans HHD.out) (by rw [HKI.out]; have := HI.out; omega) HKS.out)
        obtain ⟨n, hn⟩ : ∃ n, n = whereV (kindV x (i, k)) (i, k) := ⟨_, rfl⟩
        obtain ⟨x2, hx2⟩ : ∃ x2, x2 = roomV (kindV x (i, k)) (i, k) := ⟨_, rfl⟩
        rw [← hn, ← hx2] at HROOM HQE HY
        have HINN := Lib.hid (fun W5 gI m c5 vK5 D5 A' cp' hN hz hp => put_inner (W := W5) (gI := gI) (m := m) (c := c5) (vK := vK5) (D := D5) (A := A') (cp := cp') (g := g) (t := t) (pre := pre) (post := post) (N := N) (Dz := Dz) (z := z) (zI := .slice ZA z.items.length zc) (zK := .slice ZK z.keys.length zd) (r := r) (n := n) (q := qy) hN HY.out hz hp (by rw [HQY.out]; exact HIH.out y HYO.out.1 HYO.out.2))
        have HPR4 := Lib.hid (HPR.out.low (W' := W4) (fun b' hb' => HF4.out.block b' (by omega) (by omega) (fun e => by have := HDN.out _ e; omega)))
        rw [← hW4]
        clear hn hx2 hF3 hlow HN2 HZ2 HB2 HX2 HNULL HKV HIH HY HFIT HYO HQY HI H1 HHD HKS HPR e0 e1 c0 c1 c2 c3 c4 f0 f1 f2 f3 f4 gl hW4 h0 hkv
        obtain ⟨c0, c1, c2, c3, c4⟩ := HN4.out.cells
        obtain ⟨f0, f1, f2, f3, f4, gl⟩ := HN4.out.frozen
        obtain ⟨x0, x1, x2', x3, x4⟩ := five_of HX4.out
        go_wp2_with fail
        by_cases hc1 : cp = 1
        · have hrn : r = [] := by
            cases r with
            | nil => rfl
            | cons y q => simp at hcp; omega
          subst hrn hc1
          have HPR1 := Lib.hid (show PLies W4 N (some ⟨b, o, none⟩) 0 ([] : List Stp) from ⟨Nat.zero_le _, by simp [maxLen], .inl rfl⟩)
          have HINN1 := Lib.hid (fun W5 gI m c5 vK5 D5 A' cp' hN hz (hp : PLies W5 N A' cp' []) => show Calls Tryd.prog 41 #[.pointer (some ⟨gI, n * 5, none⟩), .slice A' 0 cp', .agg #[.int .i64 z.kind, .int .i64 z.int, .string z.text, .slice ZA z.items.length zc, .slice ZK z.keys.length zd]] W5 (PutP (setIt x2 n qy.1, qy.2) N g t pre post D5 Dz W5) from HINN.out W5 gI m c5 vK5 D5 A' cp' hN hz hp)
          clear HINN HPR4
          go_region_with (first
            | (go_at_call 62; refine HROOM.out.mono ?_; rintro e w5 ⟨gI, c5, vK5, D5, rfl, hN5, hD5, hF5⟩; have hx5 := HX4.out.to (hF5.block W.heap.size hz4 (by omega) (fun e => by have := HDW.out _ e; omega)); obtain ⟨y0, y1, y2, y3, y4⟩ := five_of hx5; have HM5 := Lib.hid (And.intro hN5 (And.intro hD5 hF5)); clear hN5 hD5 hF5)
            | (go_at_call 41; refine (HINN1.out _ gI _ _ _ _ _ _ HM5.out.1 ((HZ4.out.on (Below.refl _ W4).drew).fr HM5.out.2.2 HM5.out.2.1) (HPR1.out.low (fun b' hb' => HM5.out.2.2.block b' (by show b' < W4.heap.size; omega) (by omega) (fun e => by have := HDN.out _ e; omega)))).mono ?_; rintro e w6 ⟨rfl, h6⟩))
          all_goals
            have HPO := Lib.hid (show PutP (setIt x2 n qy.1, qy.2) N g t pre post D Dz W (.returned (.int .i64 qy.2)) w6 from PutP.trans (D1 := D5) (W1 := w5) ⟨rfl, h6⟩ (HF4.out.trans ((Fr.of_below (Below.refl _ W4).drew g D).trans HM5.out.2.2 fun _ h => .inl h) fun _ h => .inl h) (fun b hb => (HM5.out.2.1 b hb).elim .inl (fun h => .inr (by have : W4.drew.heap.size = W4.heap.size := rfl; omega))))
            clear h6
            rw [← HQE.out] at HPO
            clear y0 y1 y2 y3 y4 hx5 c0 c1 c2 c3 c4 f0 f1 f2 f3 f4 x0 x1 x2' x3 x4
            go_wp2_with fail
            refine bodyPost_ret (v := .int .i64 qy.2) (by simp [results, Tryd.results41, go_sem]) rfl ?_
            exact HPO.out
        · go_region_with (first
            | (go_at_call 62; refine HROOM.out.mono ?_; rintro e w5 ⟨gI, c5, vK5, D5, rfl, hN5, hD5, hF5⟩; have hx5 := HX4.out.to (hF5.block W.heap.size hz4 (by omega) (fun e => by have := HDW.out _ e; omega)); obtain ⟨y0, y1, y2, y3, y4⟩ := five_of hx5; have HM5 := Lib.hid (And.intro hN5 (And.intro hD5 hF5)); clear hN5 hD5 hF5)
            | (go_at_call 41; refine (HINN.out _ gI _ _ _ _ _ _ HM5.out.1 ((HZ4.out.on (Below.refl _ W4).drew).fr HM5.out.2.2 HM5.out.2.1) (HPR4.out.low (fun b' hb' => HM5.out.2.2.block b' (by show b' < W4.heap.size; omega) (by omega) (fun e => by have := HDN.out _ e; omega)))).mono ?_; rintro e w6 ⟨rfl, h6⟩))
          all_goals
            have HPO := Lib.hid (show PutP (setIt x2 n qy.1, qy.2) N g t pre post D Dz W (.returned (.int .i64 qy.2)) w6 from PutP.trans (D1 := D5) (W1 := w5) ⟨rfl, h6⟩ (HF4.out.trans ((Fr.of_below (Below.refl _ W4).drew g D).trans HM5.out.2.2 fun _ h => .inl h) fun _ h => .inl h) (fun b hb => (HM5.out.2.1 b hb).elim .inl (fun h => .inr (by have : W4.drew.heap.size = W4.heap.size := rfl; omega))))
            clear h6
            rw [← HQE.out] at HPO
            clear y0 y1 y2 y3 y4 hx5 c0 c1 c2 c3 c4 f0 f1 f2 f3 f4 x0 x1 x2' x3 x4
            go_wp2_with fail
            refine bodyPost_ret (v := .int .i64 qy.2) (by simp [results, Tryd.results41, go_sem]) rfl ?_
            exact HPO.out
  · have hq8 := HT8.out h1
    have h0 : ¬ x.kind = 0 := fun e => h1 (by rw [HKV.out, if_pos e]; rfl)
    have hk : ¬ x.kind = hd := by rw [HKV.out, if_neg h0] at h1; exact h1
    clear HT8 HA3 HPL h1
    go_wp2_with fail
    refine bodyPost_ret (v := .int .i64 8) (by simp [results, Tryd.results41, go_sem]) rfl ?_
    exact PutP.bad hq8 (by decide) (Fr.of_below HB2.out g D)
open Go.RowKit
/-- A value laid at a path. -/
theorem put_any (z : V) (N : Nat) (zI zK : Value) (Dz : Nat → Prop) : ∀ (p : List Stp), p.all stepB = true → ∀ (x : V), x.ok = true → x.nodes ≤ 60 → ∀ (W : World) (g : Nat) (t : TypeId) (pre post : List Value) (vI vK : Value) (D : Nat → Prop) (A : Option Addr) (cp : Nat), Node W N g t pre post x vI vK D → ZIn W N g z zI zK D Dz → PLies W N A cp p →
    Calls Tryd.prog 41 #[.pointer (some ⟨g, pre.length, none⟩), .slice A p.length cp, .agg #[.int .i64 z.kind, .int .i64 z.int, .string z.text, zI, zK]] W (PutP (putV x p z) N g t pre post D Dz W)
  | [], _, x, _, _, W, g, t, pre, post, vI, vK, D, A, cp, h, hz, _ => put_end x z N g t pre post vI vK zI zK D Dz W A cp h hz
  | (i, k) :: r, hp, x, hok, h60, W, g, t, pre, post, vI, vK, D, A, cp, h, hz, hl => by
    rw [List.all_cons, Bool.and_eq_true] at hp
    exact put_step x z i k r N g t pre post vI vK zI zK D Dz W A cp h hz hok h60 hp.1 hl fun y hy1 hy2 => put_any z N zI zK Dz r hp.2 y hy1 hy2
/-- What Put answers. -/
def putOut (x : V) (p : List Stp) (z : V) : V × Int :=
  if (x.valid && (pathB p && z.valid)) = true then (if (putV x p z).2 = 0 then (if (putV x p z).1.valid = true then ((putV x p z).1, 0) else (nullV, 2)) else (nullV, (putV x p z).2)) else (nullV, 1)
def PutAns (q : V × Int) (w : World) (e : Ending) (w' : World) : Prop := ∃ A c K d, e = .returned (.tuple #[aggOf q.1 A c K d, .int .i64 q.2]) ∧ Lies w' w'.heap.size q.1 A c K d ∧ Below w.heap.size w w'
section
variable {w w3 w4 W W' : World} {N g c d : Nat} {x y : V} {vI vK xI xK : Value} {D : Nat → Prop} {c0 c1 : Array Value} {t : TypeId} {A K : Option Addr} {u0 u1 u2 u3 u4 : Value}
theorem made_node (ht : Tree w4 w3.heap.size x xI xK (Fresh w3 w4)) (hN : N ≤ w3.heap.size) (hs : w3.heap.size ≤ w4.heap.size) :
    Node (w4.alloc (.cells #[.int .i64 x.kind, .int .i64 x.int, .string x.text, xI, xK] 25)) N w4.heap.size 25 [] [] x xI xK (Fresh w3 w4) := by
  have hb := below_al (Below.refl _ w4) (.cells #[.int .i64 x.kind, .int .i64 x.int, .string x.text, xI, xK] 25)
  exact ⟨BlockIs.new w4 _ _, Tree.base hN x (ht.keep x (fun b h => hb.block b h.2) (fun _ h => h)), fun h => by have := h.2; omega, fun b h => ⟨by have := h.1; omega, by have := h.2; have := hb.size; omega⟩, by omega⟩
theorem PB.fr (h : PB w c0 c1 W) (hb : Below (w.heap.size + 3) W W') : PB w c0 c1 W' :=
  ⟨h.old.trans ⟨hb.os, hb.tape, hb.output, hb.size, fun b hlt => hb.block b (by omega)⟩, h.bv.below hb (by omega), h.bx.below hb (by omega), h.br.below hb (by omega)⟩
theorem PutAns.bad (r : Int) (h : PB w c0 c1 W) : PutAns (nullV, r) w (.returned (.tuple #[aggOf (leaf 0 0 ⟨#[]⟩) none 0 none 0, .int .i64 r])) (put5 W (w.heap.size + 2) 0 u0 u1 u2 u3 u4) := ⟨none, 0, none, 0, rfl, leaf_lies _ _ 0 0 (by decide), h.ends⟩
theorem PutAns.good (h : PB w c0 c1 W) (hn : Node W (w.heap.size + 3) g t [] [] y (.slice A y.items.length c) (.slice K y.keys.length d) D) : PutAns (y, 0) w (.returned (.tuple #[aggOf y A c K d, .int .i64 0])) (put5 W (w.heap.size + 2) 0 u0 u1 u2 u3 u4) := by
  have hs := put5_size W (w.heap.size + 2) 0 u0 u1 u2 u3 u4
  have ht := hn.tree.keep (w' := put5 W (w.heap.size + 2) 0 u0 u1 u2 u3 u4) y (fun b hb => put5_heap W (w.heap.size + 2) 0 u0 u1 u2 u3 u4 (by have := (hn.low b hb).1; omega)) (fun _ h => h)
  obtain ⟨A', c', K', d', e1, e2, hl⟩ := ht.lies (B := (put5 W (w.heap.size + 2) 0 u0 u1 u2 u3 u4).heap.size) y (fun b hb => by rw [hs]; exact (hn.low b hb).2)
  cases e1
  cases e2
  exact ⟨A, c, K, d, rfl, hl, h.ends⟩
theorem PLies.wider {p : List Stp} {cp N' : Nat} (h : PLies W N A cp p) (hN : N ≤ N') : PLies W N' A cp p := by
  obtain ⟨h1, h2, h3⟩ := h
  refine ⟨h1, h2, h3.imp id ?_⟩
  rintro ⟨b, o, hA, hlt, hf⟩
  exact ⟨b, o, hA, by omega, hf⟩
end
set_option maxRecDepth 100000 in
set_option maxHeartbeats 8000000 in
theorem progPut_any (x : V) (p : List Stp) (z : V) (w : World) (A0 K0 : Option Addr) (c0 d0 : Nat) (Ap : Option Addr) (cp : Nat) (A1 K1 : Option Addr) (c1 d1 : Nat) (hx : Lies w w.heap.size x A0 c0 K0 d0) (hp : PLies w w.heap.size Ap cp p) (hz : Lies w w.heap.size z A1 c1 K1 d1) :
    Calls Tryd.prog 14 #[.agg #[.int .i64 x.kind, .int .i64 x.int, .string x.text, .slice A0 x.items.length c0, .slice K0 x.keys.length d0], .slice Ap p.length cp, .agg #[.int .i64 z.kind, .int .i64 z.int, .string z.text, .slice A1 z.items.length c1, .slice K1 z.keys.length d1]] w (PutAns (putOut x p z) w) := by
  have HB0 := Lib.hid (PB.start w #[.int .i64 x.kind, .int .i64 x.int, .string x.text, .slice A0 x.items.length c0, .slice K0 x.keys.length d0] #[.int .i64 z.kind, .int .i64 z.int, .string z.text, .slice A1 z.items.length c1, .slice K1 z.keys.length d1])
  obtain ⟨n, hn⟩ : ∃ n, n = p.length := ⟨_, rfl⟩
  obtain ⟨bx, hbx⟩ : ∃ b, x.valid = b := ⟨_, rfl⟩
  obtain ⟨bp, hbp⟩ : ∃ b, pathB p = b := ⟨_, rfl⟩
  obtain ⟨bz, hbz⟩ : ∃ b, z.valid = b := ⟨_, rfl⟩
  have HPV := Lib.hid fun W (hW : Below w.heap.size w W) => show Calls Tryd.prog 31 #[.slice Ap n cp] W fun e w' => e = .returned (.bool bp) ∧ Below W.heap.size W w' from by
    have := pathValid_any p W Ap cp (hp.on hW)
    rw [hbp, ← hn] at this
    exact this
  have HV := Lib.hid fun W (hW : Below w.heap.size w W) => valid_yes x W A0 K0 c0 d0 (lies_on hx hW) hbx
  have HX := Lib.hid fun W (hW : Below w.heap.size w W) => valid_yes z W A1 K1 c1 d1 (lies_on hz hW) hbz
  have HCX := Lib.hid fun (h : bx = true) W (hW : Below w.heap.size w W) => copied_tree x.nodes x W A0 K0 c0 d0 (Nat.le_refl _) (valid_nodes (hbx.trans h)).2 (valid_nodes (hbx.trans h)).1 (lies_on hx hW)
  have HCZ := Lib.hid fun (h : bz = true) W (hW : Below w.heap.size w W) => copied_tree z.nodes z W A1 K1 c1 d1 (Nat.le_refl _) (valid_nodes (hbz.trans h)).2 (valid_nodes (hbz.trans h)).1 (lies_on hz hW)
  have HPUT := Lib.hid fun (h : bx = true) (hb : bp = true) W g zI zK Dz vI vK D (hW : Below w.heap.size w W) (hN : Node W (w.heap.size + 3) g 25 [] [] x vI vK D) (hZ : ZIn W (w.heap.size + 3) g z zI zK D Dz) =>
    show Calls Tryd.prog 41 #[.pointer (some ⟨g, 0, none⟩), .slice Ap n cp, .agg #[.int .i64 z.kind, .int .i64 z.int, .string z.text, zI, zK]] W (PutP (putV x p z) (w.heap.size + 3) g 25 [] [] D Dz W) from by
      rw [hn]
      exact put_any z (w.heap.size + 3) zI zK Dz p (by have := hbp.trans hb; unfold pathB at this; rw [Bool.and_eq_true] at this; exact this.2) x (valid_nodes (hbx.trans h)).1 (valid_nodes (hbx.trans h)).2 W g _ [] [] vI vK D Ap cp hN hZ ((hp.low_on hW).wider (by omega))
  have HOUT := Lib.hid (show putOut x p z = if (bx && (bp && bz)) = true then (if (putV x p z).2 = 0 then (if (putV x p z).1.valid = true then ((putV x p z).1, 0) else (nullV, 2)) else (nullV, (putV x p z).2)) else (nullV, 1) by rw [← hbx, ← hbp, ← hbz]; rfl)
  obtain ⟨out, hout⟩ : ∃ out, out = putOut x p z := ⟨_, rfl⟩
  obtain ⟨q, hq⟩ : ∃ q, q = putV x p z := ⟨_, rfl⟩
  rw [← hout, ← hq] at HOUT
  rw [← hq] at HPUT
  rw [← hn, ← hout]
  clear hn hbx hbp hbz hx hp hz hout hq
  go_enter Tryd.func14, Tryd.ntmps14
  go_wp2_with fail
  refine (HV.out _ HB0.out.old).mono ?_
  rintro e w1 ⟨rfl, h1⟩
  have HB1 := Lib.hid (HB0.out.below h1)
  clear h1 HB0
  cases bx
  case false =>
    obtain ⟨z0, z1, z2, z3, z4⟩ := five_of (show BlockIs w1 (w.heap.size + 2) 25 #[.int .i64 0, .int .i64 0, .string ⟨#[]⟩, .slice none 0 0, .slice none 0 0] from HB1.out.br)
    have y0 := HB1.out.br.frozen 0
    have y1 := HB1.out.br.frozen 1
    have y2 := HB1.out.br.frozen 2
    have y3 := HB1.out.br.frozen 3
    have y4 := HB1.out.br.frozen 4
    have zl := HB1.out.br.lt
    go_wp2_with fail
    refine bodyPost_ret (v := .tuple #[aggOf (leaf 0 0 ⟨#[]⟩) none 0 none 0, .int .i64 1]) (by simp [results, Tryd.results14, go_sem, aggOf, leaf, V.kind, V.int, V.text, V.items, V.keys, z0, z1, z2, z3, z4]) rfl ?_
    rw [HOUT.out, if_neg (by simp)]
    exact PutAns.bad 1 HB1.out
  obtain ⟨b0, b1, b2, b3, b4⟩ := five_of HB1.out.bv
  obtain ⟨x0, x1, x2, x3, x4⟩ := five_of HB1.out.bx
  go_wp2_with fail
  refine (HPV.out _ HB1.out.old).mono ?_
  rintro e w2 ⟨rfl, h2⟩
  have HB2 := Lib.hid (HB1.out.below h2)
  clear h2 b0 b1 b2 b3 b4 x0 x1 x2 x3 x4 HB1
  cases bp
  case false =>
    obtain ⟨z0, z1, z2, z3, z4⟩ := five_of (show BlockIs w2 (w.heap.size + 2) 25 #[.int .i64 0, .int .i64 0, .string ⟨#[]⟩, .slice none 0 0, .slice none 0 0] from HB2.out.br)
    have y0 := HB2.out.br.frozen 0
    have y1 := HB2.out.br.frozen 1
    have y2 := HB2.out.br.frozen 2
    have y3 := HB2.out.br.frozen 3
    have y4 := HB2.out.br.frozen 4
    have zl := HB2.out.br.lt
    go_wp2_with fail
    refine bodyPost_ret (v := .tuple #[aggOf (leaf 0 0 ⟨#[]⟩) none 0 none 0, .int .i64 1]) (by simp [results, Tryd.results14, go_sem, aggOf, leaf, V.kind, V.int, V.text, V.items, V.keys, z0, z1, z2, z3, z4]) rfl ?_
    rw [HOUT.out, if_neg (by simp)]
    exact PutAns.bad 1 HB2.out
  obtain ⟨b0, b1, b2, b3, b4⟩ := five_of HB2.out.bv
  obtain ⟨x0, x1, x2, x3, x4⟩ := five_of HB2.out.bx
  go_wp2_with fail
  refine (HX.out _ HB2.out.old).mono ?_
  rintro e w3 ⟨rfl, h3⟩
  have HB3 := Lib.hid (HB2.out.below h3)
  clear h3 b0 b1 b2 b3 b4 x0 x1 x2 x3 x4 HB2
  cases bz
  case false =>
    obtain ⟨z0, z1, z2, z3, z4⟩ := five_of (show BlockIs w3 (w.heap.size + 2) 25 #[.int .i64 0, .int .i64 0, .string ⟨#[]⟩, .slice none 0 0, .slice none 0 0] from HB3.out.br)
    have y0 := HB3.out.br.frozen 0
    have y1 := HB3.out.br.frozen 1
    have y2 := HB3.out.br.frozen 2
    have y3 := HB3.out.br.frozen 3
    have y4 := HB3.out.br.frozen 4
    have zl := HB3.out.br.lt
    go_wp2_with fail
    refine bodyPost_ret (v := .tuple #[aggOf (leaf 0 0 ⟨#[]⟩) none 0 none 0, .int .i64 1]) (by simp [results, Tryd.results14, go_sem, aggOf, leaf, V.kind, V.int, V.text, V.items, V.keys, z0, z1, z2, z3, z4]) rfl ?_
    rw [HOUT.out, if_neg (by simp)]
    exact PutAns.bad 1 HB3.out
  have HOUT := Lib.hid (show out = if q.2 = 0 then (if q.1.valid = true then (q.1, 0) else (nullV, 2)) else (nullV, q.2) by rw [HOUT.out, if_pos (by simp)])
  obtain ⟨b0, b1, b2, b3, b4⟩ := five_of HB3.out.bv
  go_wp2_with fail
  refine (HCX.out (by trivial) _ HB3.out.old).mono ?_
  rintro e w4 ⟨xI, xK, rfl, ht4, h4⟩
  obtain ⟨⟨XA, xc, rfl⟩, XK, xd, rfl⟩ := ht4.forms
  have HB4 := Lib.hid (HB3.out.below h4)
  have HN5 := Lib.hid (made_node (N := w.heap.size + 3) ht4 HB3.out.fresh h4.size)
  have HB5 := Lib.hid (HB4.out.al (.cells #[.int .i64 x.kind, .int .i64 x.int, .string x.text, .slice XA x.items.length xc, .slice XK x.keys.length xd] 25))
  have hw4 : w.heap.size + 3 ≤ w4.heap.size := HB4.out.fresh
  clear h4 ht4 b0 b1 b2 b3 b4
  obtain ⟨x0, x1, x2, x3, x4⟩ := five_of HB4.out.bx
  have xl := HB4.out.bx.lt
  go_wp2_with fail
  refine (HCZ.out (by trivial) _ HB5.out.old).mono ?_
  rintro e w6 ⟨zI, zK, rfl, ht6, h6⟩
  obtain ⟨⟨ZA, zc, rfl⟩, ZK, zd, rfl⟩ := ht6.forms
  have HB6 := Lib.hid (HB5.out.below h6)
  have HN6 := Lib.hid (HN5.out.on h6)
  have HZ6 := Lib.hid (show ZIn w6 (w.heap.size + 3) w4.heap.size z (.slice ZA z.items.length zc) (.slice ZK z.keys.length zd) (Fresh w3 w4) (Fresh (w4.alloc (.cells #[.int .i64 x.kind, .int .i64 x.int, .string x.text, .slice XA x.items.length xc, .slice XK x.keys.length xd] 25)) w6) from
    ⟨Tree.base (by simp; omega) z ht6, fun b hb => ⟨by have := hb.1; simp at this; omega, hb.2⟩, fun b hb => ⟨fun e => by have := e.2; have := hb.1; simp at this; omega, by have := hb.1; simp at this; omega⟩⟩)
  clear ht6 h6 x0 x1 x2 x3 x4 xl HN5 HB5 HB4 HB3
  go_wp2_with fail
  refine (HPUT.out (by trivial) (by trivial) _ _ _ _ _ _ _ _ HB6.out.old HN6.out HZ6.out).mono ?_
  rintro e w7 ⟨rfl, hF7, hN7⟩
  have HB7 := Lib.hid (HB6.out.fr (hF7.below hw4 (fun b hb => (HN6.out.low b hb).1) (by have := HN6.out.row.lt; omega)))
  clear hF7 HPUT HCX HCZ HPV HX HN6 HZ6 HB6
  by_cases h0 : q.2 = 0
  · obtain ⟨vI7, vK7, D7, hN, -⟩ := hN7 h0
    obtain ⟨A7, c7, K7, d7, rfl, rfl, hl7⟩ := hN.lies
    have HN7 := Lib.hid hN
    have HV7 := Lib.hid (valid_yes q.1 w7 A7 K7 c7 d7 hl7 rfl)
    obtain ⟨vb, hvb⟩ : ∃ vb, q.1.valid = vb := ⟨_, rfl⟩
    have HOUT := Lib.hid (show out = if vb = true then (q.1, 0) else (nullV, 2) by rw [HOUT.out, if_pos h0, hvb])
    rw [hvb] at HV7
    obtain ⟨m0, m1, m2, m3, m4⟩ : w7.cell? ⟨w4.heap.size, 0, none⟩ = some (.int .i64 q.1.kind) ∧ w7.cell? ⟨w4.heap.size, 1, none⟩ = some (.int .i64 q.1.int) ∧ w7.cell? ⟨w4.heap.size, 2, none⟩ = some (.string q.1.text) ∧ w7.cell? ⟨w4.heap.size, 3, none⟩ = some (.slice A7 q.1.items.length c7) ∧ w7.cell? ⟨w4.heap.size, 4, none⟩ = some (.slice K7 q.1.keys.length d7) := hN.cells
    have ml := hN.row.lt
    rw [h0]
    clear hN hl7 hvb hN7
    go_wp2_with fail
    refine HV7.out.mono ?_
    rintro e w8 ⟨rfl, h8⟩
    have HB8 := Lib.hid (HB7.out.below h8)
    have HN8 := Lib.hid (HN7.out.on h8)
    clear h8 m0 m1 m2 m3 m4 ml HV7 HN7 HB7
    cases vb
    case false =>
      obtain ⟨z0, z1, z2, z3, z4⟩ := five_of (show BlockIs w8 (w.heap.size + 2) 25 #[.int .i64 0, .int .i64 0, .string ⟨#[]⟩, .slice none 0 0, .slice none 0 0] from HB8.out.br)
      have y0 := HB8.out.br.frozen 0
      have y1 := HB8.out.br.frozen 1
      have y2 := HB8.out.br.frozen 2
      have y3 := HB8.out.br.frozen 3
      have y4 := HB8.out.br.frozen 4
      have zl := HB8.out.br.lt
      go_wp2_with fail
      refine bodyPost_ret (v := .tuple #[aggOf (leaf 0 0 ⟨#[]⟩) none 0 none 0, .int .i64 2]) (by simp [results, Tryd.results14, go_sem, aggOf, leaf, V.kind, V.int, V.text, V.items, V.keys, z0, z1, z2, z3, z4]) rfl ?_
      rw [HOUT.out, if_neg (by simp)]
      exact PutAns.bad 2 HB8.out
    obtain ⟨m0, m1, m2, m3, m4⟩ : w8.cell? ⟨w4.heap.size, 0, none⟩ = some (.int .i64 q.1.kind) ∧ w8.cell? ⟨w4.heap.size, 1, none⟩ = some (.int .i64 q.1.int) ∧ w8.cell? ⟨w4.heap.size, 2, none⟩ = some (.string q.1.text) ∧ w8.cell? ⟨w4.heap.size, 3, none⟩ = some (.slice A7 q.1.items.length c7) ∧ w8.cell? ⟨w4.heap.size, 4, none⟩ = some (.slice K7 q.1.keys.length d7) := HN8.out.cells
    have ml := HN8.out.row.lt
    obtain ⟨z0, z1, z2, z3, z4⟩ := five_of (show BlockIs w8 (w.heap.size + 2) 25 #[.int .i64 0, .int .i64 0, .string ⟨#[]⟩, .slice none 0 0, .slice none 0 0] from HB8.out.br)
    have y0 := HB8.out.br.frozen 0
    have y1 := HB8.out.br.frozen 1
    have y2 := HB8.out.br.frozen 2
    have y3 := HB8.out.br.frozen 3
    have y4 := HB8.out.br.frozen 4
    have zl := HB8.out.br.lt
    go_wp2_with fail
    refine bodyPost_ret (v := .tuple #[aggOf q.1 A7 c7 K7 d7, .int .i64 0]) (by simp [results, Tryd.results14, go_sem, aggOf, z0, z1, z2, z3, z4]) rfl ?_
    rw [HOUT.out, if_pos (by trivial)]
    exact PutAns.good HB8.out HN8.out
  · obtain ⟨r, hr⟩ : ∃ r, q.2 = r := ⟨_, rfl⟩
    have HOUT := Lib.hid (show out = (nullV, r) by rw [HOUT.out, if_neg h0, hr])
    rw [hr] at h0
    rw [hr]
    clear hN7 hr
    obtain ⟨z0, z1, z2, z3, z4⟩ := five_of (show BlockIs w7 (w.heap.size + 2) 25 #[.int .i64 0, .int .i64 0, .string ⟨#[]⟩, .slice none 0 0, .slice none 0 0] from HB7.out.br)
    have y0 := HB7.out.br.frozen 0
    have y1 := HB7.out.br.frozen 1
    have y2 := HB7.out.br.frozen 2
    have y3 := HB7.out.br.frozen 3
    have y4 := HB7.out.br.frozen 4
    have zl := HB7.out.br.lt
    go_wp2_with fail
    refine bodyPost_ret (v := .tuple #[aggOf (leaf 0 0 ⟨#[]⟩) none 0 none 0, .int .i64 r]) (by simp [results, Tryd.results14, go_sem, aggOf, leaf, V.kind, V.int, V.text, V.items, V.keys, z0, z1, z2, z3, z4]) rfl ?_
    rw [HOUT.out]
    exact PutAns.bad r HB7.out
end Go.Proofs.YtmhijdpahejaiaaDoor
