/- Put, at the chapter's examples: a path of keys where nothing is yet; a value of another kind; an index beyond the end. -/
import Derived.Test.YtdlmphbaolejcaaDoorVl
import Derived.Test.YtdlmphbaolejcaaDoorVk
namespace Go.Proofs.YtdlmphbaolejcaaDoor
open Go.RowKit

theorem append_none (ty : TypeId) (W : World) : (Builtin.append_ #[23, 23] ty #[.slice none 0 0, .slice none 0 0]).run Tryd.prog W = .ok (.slice none 0 0) W := by
  obtain ⟨i0, hi, hz0, hz1, hz2⟩ := info_parts (P := Tryd.prog) (e := 9) (z := (.string ⟨#[]⟩)) (size := 1) (bytes := 16) (by kernel_rfl)
  exact run_append_nothing (P := Tryd.prog) W 23 23 ty 9 i0 Tryd.underlying23 hi none 0 0 (Nat.le_refl _) _ (Src.ofNil W Tryd.underlying23 0)
/-- Where the copying of a value without items stands. -/
structure CL (w : World) (k i : Int) (t : ByteArray) (W : World) : Prop where
  old : Below w.heap.size w W
  bv : BlockIs W w.heap.size 25 #[.int .i64 k, .int .i64 i, .string t, .slice none 0 0, .slice none 0 0]
  br : BlockIs W (w.heap.size + 1) 25 zeroF
theorem CL.start (w : World) (k i : Int) (t : ByteArray) : CL w k i t ((w.alloc (.cells #[.int .i64 k, .int .i64 i, .string t, .slice none 0 0, .slice none 0 0] 25)).alloc (.cells zeroF 25)) :=
  ⟨below_al (below_al (Below.refl _ w) _) _, (BlockIs.new w _ _).alloc _, BlockIs.newAt _ _ _ (by simp)⟩
theorem CL.ends {w W : World} {k i : Int} {t : ByteArray} {u0 u1 u2 u3 u4 : Value} (h : CL w k i t W) : Below w.heap.size w (put5 W (w.heap.size + 1) 0 u0 u1 u2 u3 u4) :=
  ((((h.old.setCell (by simp) _).setCell (by simp) _).setCell (by simp) _).setCell (by simp) _).setCell (by simp) _
set_option maxRecDepth 100000 in
set_option maxHeartbeats 4000000 in
/-- A value without items, copied. -/
theorem copied_leaf (k i : Int) (t : ByteArray) (w : World) :
    Calls Tryd.prog 33 #[.agg #[.int .i64 k, .int .i64 i, .string t, .slice none 0 0, .slice none 0 0]] w fun e w' => e = .returned (.agg #[.int .i64 k, .int .i64 i, .string t, .slice none 0 0, .slice none 0 0]) ∧ Below w.heap.size w w' := by
  have HRUN := Lib.hid (fun W => append_none 23 W)
  have HC := Lib.hid (CL.start w k i t)
  go_enter Tryd.func33, Tryd.ntmps33
  go_wp2_with (at_builtin; refine Lib.wpList_append_run _ rfl _ _ _ _ rfl _ _ rfl rfl _ _ (HRUN.out _) ?_)
  go_loopw [15] (fun iv wr => iv = .int .i64 0 ∧ Hid (CL w k i t wr)) (fun iv _ => 0)
  case atStart => exact ⟨rfl, HC⟩
  case round =>
    obtain ⟨rfl, hI⟩ := hrel
    obtain ⟨b0, b1, b2, b3, b4⟩ := five_of hI.out.bv
    obtain ⟨z0, z1, z2, z3, z4⟩ := five_of (show BlockIs wr (w.heap.size + 1) 25 #[.int .i64 0, .int .i64 0, .string ⟨#[]⟩, .slice none 0 0, .slice none 0 0] from hI.out.br)
    have x0 := hI.out.br.frozen 0
    have x1 := hI.out.br.frozen 1
    have x2 := hI.out.br.frozen 2
    have x3 := hI.out.br.frozen 3
    have x4 := hI.out.br.frozen 4
    have zl := hI.out.br.lt
    go_wp2_with fail
    refine bodyPost_ret (v := .agg #[.int .i64 k, .int .i64 i, .string t, .slice none 0 0, .slice none 0 0]) (by simp [results, Tryd.results33, go_sem, z0, z1, z2, z3, z4]) rfl ?_
    exact ⟨rfl, hI.out.ends⟩
/-- The boxes of Put: its value, what is put, what is answered. -/
structure PB (w : World) (c0 c1 : Array Value) (W : World) : Prop where
  old : Below w.heap.size w W
  bv : BlockIs W w.heap.size 25 c0
  bx : BlockIs W (w.heap.size + 1) 25 c1
  br : BlockIs W (w.heap.size + 2) 25 zeroF
section
variable {w W W' : World} {c0 c1 : Array Value} {g : Nat} {u0 u1 u2 u3 u4 : Value}
theorem PB.start (w : World) (c0 c1 : Array Value) : PB w c0 c1 (((w.alloc (.cells c0 25)).alloc (.cells c1 25)).alloc (.cells zeroF 25)) :=
  ⟨below_al (below_al (below_al (Below.refl _ w) _) _) _, ((BlockIs.new w _ _).alloc _).alloc _, (BlockIs.newAt _ _ _ (by simp)).alloc _, BlockIs.newAt _ _ _ (by simp)⟩
theorem PB.below (h : PB w c0 c1 W) (hb : Below W.heap.size W W') : PB w c0 c1 W' :=
  ⟨below_on h.old hb, h.bv.below hb h.bv.lt, h.bx.below hb h.bx.lt, h.br.below hb h.br.lt⟩
theorem PB.al (h : PB w c0 c1 W) (o : Obj) : PB w c0 c1 (W.alloc o) := h.below (below_al (Below.refl _ W) o)
theorem PB.grown (h : PB w c0 c1 W) (hw : W.grownBy W' (some g)) (hg : w.heap.size + 3 ≤ g) : PB w c0 c1 W' :=
  ⟨h.old.grown hw h.old.size (fun j hj => by cases hj; omega), h.bv.grown hw (by simp; omega), h.bx.grown hw (by simp; omega), h.br.grown hw (by simp; omega)⟩
theorem PB.ends (h : PB w c0 c1 W) : Below w.heap.size w (put5 W (w.heap.size + 2) 0 u0 u1 u2 u3 u4) :=
  ((((h.old.setCell (by simp) _).setCell (by simp) _).setCell (by simp) _).setCell (by simp) _).setCell (by simp) _
theorem PB.fresh (h : PB w c0 c1 W) : w.heap.size + 3 ≤ W.heap.size := by have := h.br.lt; omega
end
theorem PLies.low_on {w W : World} {A : Option Addr} {c : Nat} {p : List Stp} (h : PLies w w.heap.size A c p) (hb : Below w.heap.size w W) : PLies W w.heap.size A c p := h.low fun b hlt => hb.block b hlt
/-- What Put leaves where it can't. -/
def PutErr (r : Int) (w : World) (e : Ending) (w' : World) : Prop := e = .returned (.tuple #[aggOf (leaf 0 0 ⟨#[]⟩) none 0 none 0, .int .i64 r]) ∧ Below w.heap.size w w'
theorem PutErr.mk {w W : World} {c0 c1 : Array Value} {u0 u1 u2 u3 u4 : Value} (r : Int) (h : PB w c0 c1 W) : PutErr r w (.returned (.tuple #[aggOf (leaf 0 0 ⟨#[]⟩) none 0 none 0, .int .i64 r])) (put5 W (w.heap.size + 2) 0 u0 u1 u2 u3 u4) := ⟨rfl, h.ends⟩

set_option maxRecDepth 100000 in
set_option maxHeartbeats 8000000 in
theorem put_err (r : Int) (hr : ¬ r = 0) (k0 i0 k1 i1 : Int) (t0 t1 : ByteArray) (p : List Stp) (w : World) (Ap : Option Addr) (cp : Nat) (ht0 : t0.size ≤ maxLen) (ht1 : t1.size ≤ maxLen)
    (hv : (leaf k0 i0 t0).valid = true) (hx : (leaf k1 i1 t1).valid = true) (hpb : pathB p = true) (hp : PLies w w.heap.size Ap cp p)
    (hput : ∀ (W : World) (g : Nat), Five W g (.int .i64 k0) (.int .i64 i0) (.string t0) (.slice none 0 0) (.slice none 0 0) → PLies W w.heap.size Ap cp p → w.heap.size ≤ W.heap.size →
      Calls Tryd.prog 41 #[.pointer (some ⟨g, 0, none⟩), .slice Ap p.length cp, .agg #[.int .i64 k1, .int .i64 i1, .string t1, .slice none 0 0, .slice none 0 0]] W fun e w' => e = .returned (.int .i64 r) ∧ Below W.heap.size W w') :
    Calls Tryd.prog 14 #[.agg #[.int .i64 k0, .int .i64 i0, .string t0, .slice none 0 0, .slice none 0 0], .slice Ap p.length cp, .agg #[.int .i64 k1, .int .i64 i1, .string t1, .slice none 0 0, .slice none 0 0]] w (PutErr r w) := by
  have hr' : (r == 0) = false := by simpa using hr
  have hr2 : (r != 0) = true := by simpa using hr
  have HB0 := Lib.hid (PB.start w #[.int .i64 k0, .int .i64 i0, .string t0, .slice none 0 0, .slice none 0 0] #[.int .i64 k1, .int .i64 i1, .string t1, .slice none 0 0, .slice none 0 0])
  obtain ⟨n, hn⟩ : ∃ n, n = p.length := ⟨_, rfl⟩
  have HPV := Lib.hid fun W (hW : Below w.heap.size w W) => show Calls Tryd.prog 31 #[.slice Ap n cp] W fun e w' => e = .returned (.bool true) ∧ Below W.heap.size W w' from by
    have := pathValid_any p W Ap cp (hp.on hW)
    rw [hpb, ← hn] at this
    exact this
  have HV := Lib.hid fun W => valid_yes (leaf k0 i0 t0) W none none 0 0 (leaf_lies W _ k0 i0 ht0) hv
  have HX := Lib.hid fun W => valid_yes (leaf k1 i1 t1) W none none 0 0 (leaf_lies W _ k1 i1 ht1) hx
  have HPUT := Lib.hid fun W g (hF : Five W g (.int .i64 k0) (.int .i64 i0) (.string t0) (.slice none 0 0) (.slice none 0 0)) (hW : Below w.heap.size w W) => hput W g hF (hp.low_on hW) hW.size
  rw [← hn] at HPUT
  rw [← hn]
  clear hn hp hput hv hx hr hpb
  go_enter Tryd.func14, Tryd.ntmps14
  go_wp2_with fail
  refine (HV.out _).mono ?_
  rintro e w1 ⟨rfl, h1⟩
  have HB1 := Lib.hid (HB0.out.below h1)
  clear h1
  obtain ⟨b0, b1, b2, b3, b4⟩ := five_of HB1.out.bv
  obtain ⟨x0, x1, x2, x3, x4⟩ := five_of HB1.out.bx
  go_wp2_with fail
  refine (HPV.out _ HB1.out.old).mono ?_
  rintro e w2 ⟨rfl, h2⟩
  have HB2 := Lib.hid (HB1.out.below h2)
  clear h2 b0 b1 b2 b3 b4 x0 x1 x2 x3 x4
  obtain ⟨b0, b1, b2, b3, b4⟩ := five_of HB2.out.bv
  obtain ⟨x0, x1, x2, x3, x4⟩ := five_of HB2.out.bx
  go_wp2_with fail
  refine (HX.out _).mono ?_
  rintro e w3 ⟨rfl, h3⟩
  have HB3 := Lib.hid (HB2.out.below h3)
  clear h3 b0 b1 b2 b3 b4 x0 x1 x2 x3 x4
  obtain ⟨b0, b1, b2, b3, b4⟩ := five_of HB3.out.bv
  go_wp2_with fail
  refine (copied_leaf k0 i0 t0 _).mono ?_
  rintro e w4 ⟨rfl, h4⟩
  have HB4 := Lib.hid (HB3.out.below h4)
  clear h4 b0 b1 b2 b3 b4
  have HM := Lib.hid (BlockIs.new w4 25 #[.int .i64 k0, .int .i64 i0, .string t0, .slice none 0 0, .slice none 0 0])
  have HB5 := Lib.hid (HB4.out.al (.cells #[.int .i64 k0, .int .i64 i0, .string t0, .slice none 0 0, .slice none 0 0] 25))
  obtain ⟨x0, x1, x2, x3, x4⟩ := five_of HB4.out.bx
  have xl := HB4.out.bx.lt
  go_wp2_with fail
  refine (copied_leaf k1 i1 t1 _).mono ?_
  rintro e w6 ⟨rfl, h6⟩
  have HB6 := Lib.hid (HB5.out.below h6)
  have HF6 := Lib.hid (Five.of (HM.out.below h6 HM.out.lt) rfl)
  clear h6 x0 x1 x2 x3 x4 xl
  go_wp2_with fail
  refine (HPUT.out _ _ HF6.out HB6.out.old).mono ?_
  rintro e w7 ⟨rfl, h7⟩
  have HB7 := Lib.hid (HB6.out.below h7)
  clear h7
  obtain ⟨z0, z1, z2, z3, z4⟩ := five_of (show BlockIs w7 (w.heap.size + 2) 25 #[.int .i64 0, .int .i64 0, .string ⟨#[]⟩, .slice none 0 0, .slice none 0 0] from HB7.out.br)
  have y0 := HB7.out.br.frozen 0
  have y1 := HB7.out.br.frozen 1
  have y2 := HB7.out.br.frozen 2
  have y3 := HB7.out.br.frozen 3
  have y4 := HB7.out.br.frozen 4
  have zl := HB7.out.br.lt
  go_wp2_with fail
  refine bodyPost_ret (v := .tuple #[aggOf (leaf 0 0 ⟨#[]⟩) none 0 none 0, .int .i64 r]) (by simp [results, Tryd.results14, go_sem, aggOf, leaf, V.kind, V.int, V.text, V.items, V.keys, z0, z1, z2, z3, z4]) rfl ?_
  exact PutErr.mk r HB7.out

set_option maxRecDepth 100000 in
set_option maxHeartbeats 8000000 in
/-- A key in what is no object. -/
theorem put_type (n : Int) (k : ByteArray) (k1 i1 : Int) (t1 : ByteArray) (N : Nat) (W : World) (g : Nat) (A : Option Addr) (cp : Nat) (hN : N ≤ W.heap.size) (h : Five W g (.int .i64 2) (.int .i64 n) (.string ⟨#[]⟩) (.slice none 0 0) (.slice none 0 0)) (hp : PLies W N A cp [(-1, k)]) :
    Calls Tryd.prog 41 #[.pointer (some ⟨g, 0, none⟩), .slice A 1 cp, .agg #[.int .i64 k1, .int .i64 i1, .string t1, .slice none 0 0, .slice none 0 0]] W fun e w' => e = .returned (.int .i64 8) ∧ Below W.heap.size W w' := by
  obtain ⟨b, o, rfl, hb, e0, e1, hks⟩ := hp.at_ (k := 0) rfl
  have HB1 := Lib.hid (below_al (Below.refl _ W) (.cells #[.int .i64 k1, .int .i64 i1, .string t1, .slice none 0 0, .slice none 0 0] 25))
  have HF1 := Lib.hid (h.below HB1.out)
  simp only [Nat.zero_mul, Nat.add_zero] at e0 e1
  have hbW : b < W.heap.size := by omega
  clear hks h hp
  go_enter Tryd.func41, Tryd.ntmps41
  go_wp2_with fail
  refine (holder_key k _).mono ?_
  rintro e w2 ⟨rfl, h2⟩
  have HB2 := Lib.hid (below_on HB1.out h2)
  obtain ⟨c0, c1, c2, c3, c4, f0, f1, f2, f3, f4, gl⟩ := HF1.out.below h2
  clear h2 e0 e1
  go_wp2_with fail
  go_ret
  exact ⟨rfl, HB2.out⟩

set_option maxRecDepth 100000 in
set_option maxHeartbeats 8000000 in
/-- An index beyond the end. -/
theorem put_arg (k1 i1 : Int) (t1 : ByteArray) (N : Nat) (W : World) (g : Nat) (A : Option Addr) (cp : Nat) (hN : N ≤ W.heap.size) (h : Five W g (.int .i64 4) (.int .i64 0) (.string ⟨#[]⟩) (.slice none 0 0) (.slice none 0 0)) (hp : PLies W N A cp [(1, ⟨#[]⟩)]) :
    Calls Tryd.prog 41 #[.pointer (some ⟨g, 0, none⟩), .slice A 1 cp, .agg #[.int .i64 k1, .int .i64 i1, .string t1, .slice none 0 0, .slice none 0 0]] W fun e w' => e = .returned (.int .i64 3) ∧ Below W.heap.size W w' := by
  obtain ⟨b, o, rfl, hb, e0, e1, hks⟩ := hp.at_ (k := 0) rfl
  have HB1 := Lib.hid (below_al (Below.refl _ W) (.cells #[.int .i64 k1, .int .i64 i1, .string t1, .slice none 0 0, .slice none 0 0] 25))
  have HF1 := Lib.hid (h.below HB1.out)
  simp only [Nat.zero_mul, Nat.add_zero] at e0 e1
  have hbW : b < W.heap.size := by omega
  have HE := Lib.hid (And.intro ((bcell HB1.out b o hbW).trans e0) ((bcell HB1.out b (o + 1) hbW).trans e1))
  clear hks h hp
  go_enter Tryd.func41, Tryd.ntmps41
  go_wp2_with fail
  refine (holder_index 1 (by decide) ⟨#[]⟩ _).mono ?_
  rintro e w2 ⟨rfl, h2⟩
  have HB2 := Lib.hid (below_on HB1.out h2)
  have g0 := (bcell h2 b o (by simp; omega)).trans HE.out.1
  obtain ⟨c0, c1, c2, c3, c4, f0, f1, f2, f3, f4, gl⟩ := HF1.out.below h2
  clear h2 e0 e1
  go_wp2_with fail
  go_quiet (fail)
  go_wp2_with fail
  go_ret
  exact ⟨rfl, below_drewN HB2.out _⟩

/-- What Put leaves where it lays a value. -/
def PutPost (y : V) (w : World) (e : Ending) (w' : World) : Prop := ∃ A c K d, e = .returned (.tuple #[aggOf y A c K d, .int .i64 0]) ∧ Lies w' w'.heap.size y A c K d ∧ Below w.heap.size w w'
theorem PutPost.mk {y : V} {w W W1 : World} {c0 c1 : Array Value} {A K : Option Addr} {c d : Nat} {u0 u1 u2 u3 u4 : Value} (h : PB w c0 c1 W) (hl : LiesIn (Fresh W1 W) W y A c K d) (hs : w.heap.size + 2 < W1.heap.size) :
    PutPost y w (.returned (.tuple #[aggOf y A c K d, .int .i64 0])) (put5 W (w.heap.size + 2) 0 u0 u1 u2 u3 u4) := ⟨A, c, K, d, rfl, liesPutNew hl hs, h.ends⟩

set_option maxRecDepth 100000 in
set_option maxHeartbeats 16000000 in
/-- Put at a path of keys, into null. -/
theorem put_ok (k1 i1 : Int) (t1 : ByteArray) (ks : List ByteArray) (y : V) (hy : y = nestV ks (leaf k1 i1 t1)) (w : World) (Ap : Option Addr) (cp : Nat) (ht1 : t1.size ≤ maxLen)
    (hx : (leaf k1 i1 t1).valid = true) (hpb : pathB (keysP ks) = true) (hyv : y.valid = true) (hp : PLies w w.heap.size Ap cp (keysP ks)) :
    Calls Tryd.prog 14 #[.agg #[.int .i64 0, .int .i64 0, .string ⟨#[]⟩, .slice none 0 0, .slice none 0 0], .slice Ap ks.length cp, .agg #[.int .i64 k1, .int .i64 i1, .string t1, .slice none 0 0, .slice none 0 0]] w (PutPost y w) := by
  have HB0 := Lib.hid (PB.start w #[.int .i64 0, .int .i64 0, .string ⟨#[]⟩, .slice none 0 0, .slice none 0 0] #[.int .i64 k1, .int .i64 i1, .string t1, .slice none 0 0, .slice none 0 0])
  obtain ⟨n, hn⟩ : ∃ n, n = ks.length := ⟨_, rfl⟩
  have hn' : n = (keysP ks).length := by rw [hn]; simp [keysP]
  have HPV := Lib.hid fun W (hW : Below w.heap.size w W) => show Calls Tryd.prog 31 #[.slice Ap n cp] W fun e w' => e = .returned (.bool true) ∧ Below W.heap.size W w' from by
    have := pathValid_any (keysP ks) W Ap cp (hp.on hW)
    rw [hpb, ← hn'] at this
    exact this
  have HV := Lib.hid fun W => valid_yes (leaf 0 0 ⟨#[]⟩) W none none 0 0 (leaf_lies W _ 0 0 (by decide)) (show (leaf 0 0 ⟨#[]⟩).valid = true by decide +kernel)
  have HX := Lib.hid fun W => valid_yes (leaf k1 i1 t1) W none none 0 0 (leaf_lies W _ k1 i1 ht1) hx
  have HPUT := Lib.hid fun W g (hF : Five W g (.int .i64 0) (.int .i64 0) (.string ⟨#[]⟩) (.slice none 0 0) (.slice none 0 0)) (hW : Below w.heap.size w W) (hg : w.heap.size ≤ g) => put_nest k1 i1 t1 ht1 w.heap.size ks W g Ap cp hg hF (hp.low_on hW)
  rw [← hn, ← hy] at HPUT
  rw [← hn]
  have HY := Lib.hid fun W A c K d (hl : Lies W W.heap.size y A c K d) => valid_yes y W A K c d hl hyv
  clear hn hn' hp hx hpb hyv hy
  go_enter Tryd.func14, Tryd.ntmps14
  go_wp2_with fail
  refine (HV.out _).mono ?_
  rintro e w1 ⟨rfl, h1⟩
  have HB1 := Lib.hid (HB0.out.below h1)
  clear h1
  obtain ⟨b0, b1, b2, b3, b4⟩ := five_of HB1.out.bv
  obtain ⟨x0, x1, x2, x3, x4⟩ := five_of HB1.out.bx
  go_wp2_with fail
  refine (HPV.out _ HB1.out.old).mono ?_
  rintro e w2 ⟨rfl, h2⟩
  have HB2 := Lib.hid (HB1.out.below h2)
  clear h2 b0 b1 b2 b3 b4 x0 x1 x2 x3 x4
  obtain ⟨b0, b1, b2, b3, b4⟩ := five_of HB2.out.bv
  obtain ⟨x0, x1, x2, x3, x4⟩ := five_of HB2.out.bx
  go_wp2_with fail
  refine (HX.out _).mono ?_
  rintro e w3 ⟨rfl, h3⟩
  have HB3 := Lib.hid (HB2.out.below h3)
  clear h3 b0 b1 b2 b3 b4 x0 x1 x2 x3 x4
  obtain ⟨b0, b1, b2, b3, b4⟩ := five_of HB3.out.bv
  go_wp2_with fail
  refine (copied_leaf 0 0 ⟨#[]⟩ _).mono ?_
  rintro e w4 ⟨rfl, h4⟩
  have HB4 := Lib.hid (HB3.out.below h4)
  clear h4 b0 b1 b2 b3 b4
  have HM := Lib.hid (BlockIs.new w4 25 #[.int .i64 0, .int .i64 0, .string ⟨#[]⟩, .slice none 0 0, .slice none 0 0])
  have HB5 := Lib.hid (HB4.out.al (.cells #[.int .i64 0, .int .i64 0, .string ⟨#[]⟩, .slice none 0 0, .slice none 0 0] 25))
  obtain ⟨x0, x1, x2, x3, x4⟩ := five_of HB4.out.bx
  have xl := HB4.out.bx.lt
  go_wp2_with fail
  refine (copied_leaf k1 i1 t1 _).mono ?_
  rintro e w6 ⟨rfl, h6⟩
  have HB6 := Lib.hid (HB5.out.below h6)
  have HF6 := Lib.hid (Five.of (HM.out.below h6 HM.out.lt) rfl)
  have HG6 := Lib.hid (show w.heap.size + 3 ≤ w4.heap.size from HB4.out.fresh)
  clear h6 x0 x1 x2 x3 x4 xl
  go_wp2_with fail
  refine (HPUT.out _ _ HF6.out HB6.out.old (by have := HG6.out; omega)).mono ?_
  rintro e w7 ⟨rfl, h7, A7, c7, K7, d7, hf7, hl7⟩
  have HB7 := Lib.hid (HB6.out.grown h7 HG6.out)
  have HL7 := Lib.hid hl7
  have HF7 := Lib.hid hf7
  have HZ7 := Lib.hid (show w.heap.size + 2 < w6.heap.size from HB6.out.fresh)
  obtain ⟨m0, m1, m2, m3, m4, -, -, -, -, -, ml⟩ := hf7
  clear h7 hl7
  go_wp2_with fail
  refine (HY.out _ A7 c7 K7 d7 (LiesIn.lies (fun b h => h.2) y HL7.out)).mono ?_
  rintro e w8 ⟨rfl, h8⟩
  have HB8 := Lib.hid (HB7.out.below h8)
  have HL8 := Lib.hid (show LiesIn (Fresh w6 w8) w8 y A7 c7 K7 d7 from LiesIn.keep (fun b o hb => bcell h8 b o hb.2) (fun b hb => ⟨hb.1, by have := h8.size; have := hb.2; omega⟩) y HL7.out)
  have hf8 := HF7.out.below h8
  clear h8 m0 m1 m2 m3 m4 ml
  obtain ⟨m0, m1, m2, m3, m4, -, -, -, -, -, ml⟩ := hf8
  obtain ⟨z0, z1, z2, z3, z4⟩ := five_of (show BlockIs w8 (w.heap.size + 2) 25 #[.int .i64 0, .int .i64 0, .string ⟨#[]⟩, .slice none 0 0, .slice none 0 0] from HB8.out.br)
  have y0 := HB8.out.br.frozen 0
  have y1 := HB8.out.br.frozen 1
  have y2 := HB8.out.br.frozen 2
  have y3 := HB8.out.br.frozen 3
  have y4 := HB8.out.br.frozen 4
  have zl := HB8.out.br.lt
  go_wp2_with fail
  refine bodyPost_ret (v := .tuple #[aggOf y A7 c7 K7 d7, .int .i64 0]) (by simp [results, Tryd.results14, go_sem, aggOf, z0, z1, z2, z3, z4]) rfl ?_
  exact PutPost.mk HB8.out HL8.out HZ7.out
end Go.Proofs.YtdlmphbaolejcaaDoor
