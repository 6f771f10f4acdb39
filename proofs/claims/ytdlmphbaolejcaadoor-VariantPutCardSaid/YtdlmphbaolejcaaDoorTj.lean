/- The law on Put at a path, walked. -/
import Derived.Test.YtdlmphbaolejcaaDoorTi
import Derived.Test.YtdlmphbaolejcaaDoorVo
namespace Go.Proofs.YtdlmphbaolejcaaDoor
open Go.RowKit

/-- The boxes of the law: the value, what is laid. -/
structure PL (w : World) (cv cx : Array Value) (W : World) : Prop where
  old : Below w.heap.size w W
  bv : BlockIs W w.heap.size 25 cv
  bx : BlockIs W (w.heap.size + 1) 25 cx
section
variable {w W W' : World} {cv cx : Array Value} {g : Nat} {y a : V} {A K A' K' : Option Addr} {c d c' d' : Nat}
theorem PL.start (w : World) (cv cx : Array Value) : PL w cv cx ((w.alloc (.cells cv 25)).alloc (.cells cx 25)) := ⟨below_al (below_al (Below.refl _ w) _) _, (BlockIs.new w _ _).alloc _, BlockIs.newAt _ _ _ (by simp)⟩
theorem PL.on (h : PL w cv cx W) (hb : Below W.heap.size W W') : PL w cv cx W' := ⟨below_on h.old hb, h.bv.below hb h.bv.lt, h.bx.below hb h.bx.lt⟩
/-- And a value of which there is a box. -/
structure PX (g : Nat) (y : V) (A : Option Addr) (c : Nat) (K : Option Addr) (d : Nat) (W : World) : Prop where
  box : Boxed W g y A c K d
  lies : Lies W W.heap.size y A c K d
theorem PX.start (h : Lies W W.heap.size y A c K d) : PX W.heap.size y A c K d (W.alloc (.cells #[.int .i64 y.kind, .int .i64 y.int, .string y.text, .slice A y.items.length c, .slice K y.keys.length d] 25)) := ⟨BlockIs.new W _ _, lies_alloc h _⟩
theorem PX.on (h : PX g y A c K d W) (hb : Below W.heap.size W W') : PX g y A c K d W' := ⟨h.box.on hb, lies_on h.lies hb⟩
end

set_option maxRecDepth 100000 in
set_option maxHeartbeats 1000000 in
theorem law_put_err (y : V) (r : Int) (hr : ¬ r = 0) (x : V) (p : List Stp) (z : V) (q : List Stp) (w : World) (A0 K0 : Option Addr) (c0 m0 : Nat) (A1 : Option Addr) (c1 : Nat) (A2 K2 : Option Addr) (c2 m2 : Nat) (A3 : Option Addr) (c3 : Nat) (hx : Lies w w.heap.size x A0 c0 K0 m0) (hp : PLies w w.heap.size A1 c1 p) (hz : Lies w w.heap.size z A2 c2 K2 m2) (hpw : Pow w) (hout : putOut x p z = (y, r))
    (haw : ∀ W, Pow W → Calls Tryd.prog 13 #[] W fun e w' => e = .returned (.bool true) ∧ Below W.heap.size W w') :
    Calls Tryd.prog 6 #[aggOf x A0 c0 K0 m0, .slice A1 p.length c1, aggOf z A2 c2 K2 m2, .slice A3 q.length c3] w fun e w' => e = .returned (.bool true) ∧ Below w.heap.size w w' := by
  have HA := Lib.hid fun W (hW : Below w.heap.size w W) => haw W (hpw.on hW)
  have HB0 := Lib.hid (PL.start w #[.int .i64 x.kind, .int .i64 x.int, .string x.text, .slice A0 x.items.length c0, .slice K0 x.keys.length m0] #[.int .i64 z.kind, .int .i64 z.int, .string z.text, .slice A2 z.items.length c2, .slice K2 z.keys.length m2])
  have HP := Lib.hid fun W (hW : Below w.heap.size w W) => progPut_any x p z W A0 K0 c0 m0 A1 c1 A2 K2 c2 m2 (lies_on hx hW) (hp.on hW) (lies_on hz hW)
  rw [hout] at HP
  clear hx hp hz hpw hout
  unfold aggOf
  go_enter Tryd.func6, Tryd.ntmps6
  go_wp2_with fail
  refine (HP.out _ HB0.out.old).mono ?_
  rintro e w1 ⟨A, c, K, d, rfl, hl1, h1⟩
  have HB1 := Lib.hid ((HB0.out.on h1).on (below_al (Below.refl _ w1) (.cells #[.int .i64 y.kind, .int .i64 y.int, .string y.text, .slice A y.items.length c, .slice K y.keys.length d] 25)))
  have HW1 := Lib.hid (PX.start hl1)
  clear h1 hl1 HP HB0
  unfold aggOf
  go_wp2_with fail
  refine (HA.out _ HB1.out.old).mono ?_
  rintro e w2 ⟨rfl, h2⟩
  have HB2 := Lib.hid (HB1.out.on h2)
  clear h2
  go_wp2_with fail
  go_ret
  exact ⟨rfl, HB2.out.old⟩

set_option maxRecDepth 100000 in
set_option maxHeartbeats 1000000 in
theorem law_put_ok (y : V) (x : V) (p : List Stp) (z : V) (q : List Stp) (w : World) (A0 K0 : Option Addr) (c0 m0 : Nat) (A1 : Option Addr) (c1 : Nat) (A2 K2 : Option Addr) (c2 m2 : Nat) (A3 : Option Addr) (c3 : Nat) (hx : Lies w w.heap.size x A0 c0 K0 m0) (hp : PLies w w.heap.size A1 c1 p) (hz : Lies w w.heap.size z A2 c2 K2 m2) (hq : PLies w w.heap.size A3 c3 q) (hpw : Pow w) (hout : putOut x p z = (y, 0))
    (haw : ∀ W, Pow W → Calls Tryd.prog 13 #[] W fun e w' => e = .returned (.bool true) ∧ Below W.heap.size W w') :
    Calls Tryd.prog 6 #[aggOf x A0 c0 K0 m0, .slice A1 p.length c1, aggOf z A2 c2 K2 m2, .slice A3 q.length c3] w fun e w' => e = .returned (.bool true) ∧ Below w.heap.size w w' := by
  have HA := Lib.hid fun W (hW : Below w.heap.size w W) => haw W (hpw.on hW)
  have HB0 := Lib.hid (PL.start w #[.int .i64 x.kind, .int .i64 x.int, .string x.text, .slice A0 x.items.length c0, .slice K0 x.keys.length m0] #[.int .i64 z.kind, .int .i64 z.int, .string z.text, .slice A2 z.items.length c2, .slice K2 z.keys.length m2])
  have HP := Lib.hid fun W (hW : Below w.heap.size w W) => progPut_any x p z W A0 K0 c0 m0 A1 c1 A2 K2 c2 m2 (lies_on hx hW) (hp.on hW) (lies_on hz hW)
  rw [hout] at HP
  have HLAW := Lib.hid (put_law (x := x) (y := y) (z := z) (p := p) hout)
  have HG1 := Lib.hid fun W A K c d (hW : Below w.heap.size w W) (hl : Lies W W.heap.size y A c K d) => (get_any y p W A K c d A1 c1 hl (hp.on hW)).mono fun _ _ h' => GetPost.form2 HLAW.out.2.2.1 h'
  have HS := Lib.hid fun (u : V) W A K c d A' K' c' d' (h : Lies W W.heap.size u A c K d) (h' : Lies W W.heap.size u A' c' K' d') => same_is u u W A K c d A' K' c' d' h h' (r := true) (by simp)
  have HVY := Lib.hid fun W A K c d (hl : Lies W W.heap.size y A c K d) => (refValid_any y W A K c d hl).mono (R' := fun e w' => e = .returned (.bool true) ∧ Below W.heap.size W w') fun e w' h' => by rw [HLAW.out.2.1] at h'; exact h'
  obtain ⟨bq, hbq⟩ : ∃ b, pathB q = b := ⟨_, rfl⟩
  have HQ := Lib.hid fun W (hW : Below w.heap.size w W) => refPathValid_ok q W A3 c3 (hq.on hW) hbq
  have HE1 := Lib.hid fun W (hW : Below w.heap.size w W) => begins_any p q W A1 A3 c1 c3 (hp.on hW) (hq.on hW)
  have HE2 := Lib.hid fun W (hW : Below w.heap.size w W) => begins_any q p W A3 A1 c3 c1 (hq.on hW) (hp.on hW)
  obtain ⟨a, is, ha⟩ : ∃ a is, bq = true → getV x q = (a, is, 0) := by
    by_cases h : bq = true
    · obtain ⟨a, is, e⟩ := getV_ok (q := q) (HLAW.out).1 (hbq.trans h)
      exact ⟨a, is, fun _ => e⟩
    · exact ⟨nullV, true, fun h2 => absurd h2 h⟩
  have HG2 := Lib.hid fun (h2 : bq = true) W (hW : Below w.heap.size w W) => (get_any x q W A0 K0 c0 m0 A3 c3 (lies_on hx hW) (hq.on hW)).mono fun _ _ h' => GetPost.form2 (ha h2) h'
  have HG3 := Lib.hid fun (h2 : bq = true) (n1 : ¬ p <+: q) (n2 : ¬ q <+: p) W A K c d (hW : Below w.heap.size w W) (hl : Lies W W.heap.size y A c K d) => (get_any y q W A K c d A3 c3 hl (hq.on hW)).mono fun _ _ h' => GetPost.form2 ((HLAW.out.2.2.2 q (hbq.trans h2) n1 n2).trans (ha h2)) h'
  have HZL := Lib.hid fun W (hW : Below w.heap.size w W) => lies_on hz hW
  clear hx hp hz hq hpw hout hbq ha HLAW
  unfold aggOf
  go_enter Tryd.func6, Tryd.ntmps6
  go_wp2_with fail
  refine (HP.out _ HB0.out.old).mono ?_
  rintro e w1 ⟨A, c, K, d, rfl, hl1, h1⟩
  have HB1 := Lib.hid ((HB0.out.on h1).on (below_al (Below.refl _ w1) (.cells #[.int .i64 y.kind, .int .i64 y.int, .string y.text, .slice A y.items.length c, .slice K y.keys.length d] 25)))
  have HW1 := Lib.hid (PX.start hl1)
  clear h1 hl1 HP HB0
  obtain ⟨s0, s1, s2, s3, s4⟩ := HW1.out.box.cells
  have sl := HW1.out.box.lt
  unfold aggOf
  go_wp2_with fail
  refine (HG1.out _ A K c d HB1.out.old HW1.out.lies).mono ?_
  rintro e w2 ⟨A', c', K', d', rfl, hl2, h2⟩
  have HB2 := Lib.hid ((HB1.out.on h2).on (below_al (Below.refl _ _) (.cells #[.int .i64 z.kind, .int .i64 z.int, .string z.text, .slice A' z.items.length c', .slice K' z.keys.length d'] 25)))
  have HW2 := Lib.hid ((HW1.out.on h2).on (below_al (Below.refl _ _) (.cells #[.int .i64 z.kind, .int .i64 z.int, .string z.text, .slice A' z.items.length c', .slice K' z.keys.length d'] 25)))
  have HY2 := Lib.hid (PX.start hl2)
  clear h2 hl2 s0 s1 s2 s3 s4 sl HB1 HW1 HG1
  obtain ⟨s0, s1, s2, s3, s4⟩ := HW2.out.box.cells
  have sl := HW2.out.box.lt
  obtain ⟨t0, t1, t2, t3, t4⟩ := five_of HB2.out.bx
  have tl := HB2.out.bx.lt
  obtain ⟨u0, u1, u2, u3, u4⟩ := HY2.out.box.cells
  have ul := HY2.out.box.lt
  go_wp2_with fail
  refine (HS.out z _ A2 K2 c2 m2 A' K' c' d' (HZL.out _ HB2.out.old) HY2.out.lies).mono ?_
  rintro e w3 ⟨rfl, h3⟩
  have HB3 := Lib.hid (HB2.out.on h3)
  have HW3 := Lib.hid (HW2.out.on h3)
  clear h3 s0 s1 s2 s3 s4 sl t0 t1 t2 t3 t4 tl u0 u1 u2 u3 u4 ul HB2 HW2 HY2 HZL
  obtain ⟨s0, s1, s2, s3, s4⟩ := HW3.out.box.cells
  have sl := HW3.out.box.lt
  go_wp2_with fail
  refine (HVY.out _ A K c d HW3.out.lies).mono ?_
  rintro e w4 ⟨rfl, h4⟩
  have HB4 := Lib.hid (HB3.out.on h4)
  have HW4 := Lib.hid (HW3.out.on h4)
  clear h4 s0 s1 s2 s3 s4 sl HB3 HW3 HVY
  go_wp2_with fail
  refine (HQ.out _ HB4.out.old).mono ?_
  rintro e w5 ⟨rfl, h5⟩
  have HB5 := Lib.hid (HB4.out.on h5)
  have HW5 := Lib.hid (HW4.out.on h5)
  clear h5 HB4 HW4 HQ
  cases bq
  case false =>
    go_wp2_with fail
    refine (HA.out _ HB5.out.old).mono ?_
    rintro e w9 ⟨rfl, h9⟩
    have HB9 := Lib.hid (below_on HB5.out.old h9)
    clear h9
    go_wp2_with fail
    go_ret
    exact ⟨rfl, HB9.out⟩
  go_wp2_with fail
  refine (HE1.out _ HB5.out.old).mono ?_
  rintro e w6 ⟨b1, rfl, hb1, h6⟩
  have HB6 := Lib.hid (HB5.out.on h6)
  have HW6 := Lib.hid (HW5.out.on h6)
  have HN1 := Lib.hid hb1
  clear h6 hb1 HB5 HW5 HE1
  cases b1
  case true =>
    go_wp2_with fail
    refine (HA.out _ HB6.out.old).mono ?_
    rintro e w9 ⟨rfl, h9⟩
    have HB9 := Lib.hid (below_on HB6.out.old h9)
    clear h9
    go_wp2_with fail
    go_ret
    exact ⟨rfl, HB9.out⟩
  go_wp2_with fail
  refine (HE2.out _ HB6.out.old).mono ?_
  rintro e w7 ⟨b2, rfl, hb2, h7⟩
  have HB7 := Lib.hid (HB6.out.on h7)
  have HW7 := Lib.hid (HW6.out.on h7)
  have HN2 := Lib.hid hb2
  clear h7 hb2 HB6 HW6 HE2
  cases b2
  case true =>
    go_wp2_with fail
    refine (HA.out _ HB7.out.old).mono ?_
    rintro e w9 ⟨rfl, h9⟩
    have HB9 := Lib.hid (below_on HB7.out.old h9)
    clear h9
    go_wp2_with fail
    go_ret
    exact ⟨rfl, HB9.out⟩
  obtain ⟨t0, t1, t2, t3, t4⟩ := five_of HB7.out.bv
  have tl := HB7.out.bv.lt
  obtain ⟨s0, s1, s2, s3, s4⟩ := HW7.out.box.cells
  have sl := HW7.out.box.lt
  go_wp2_with fail
  refine (HG2.out (by trivial) _ HB7.out.old).mono ?_
  rintro e w8 ⟨A8, c8, K8, d8, rfl, hl8, h8⟩
  have HB8 := Lib.hid ((HB7.out.on h8).on (below_al (Below.refl _ _) (.cells #[.int .i64 a.kind, .int .i64 a.int, .string a.text, .slice A8 a.items.length c8, .slice K8 a.keys.length d8] 25)))
  have HW8 := Lib.hid ((HW7.out.on h8).on (below_al (Below.refl _ _) (.cells #[.int .i64 a.kind, .int .i64 a.int, .string a.text, .slice A8 a.items.length c8, .slice K8 a.keys.length d8] 25)))
  have HY8 := Lib.hid (PX.start hl8)
  clear h8 hl8 s0 s1 s2 s3 s4 sl t0 t1 t2 t3 t4 tl HB7 HW7 HG2
  obtain ⟨s0, s1, s2, s3, s4⟩ := HW8.out.box.cells
  have sl := HW8.out.box.lt
  go_wp2_with fail
  refine (HG3.out (by trivial) (fun h => by have := HN2.out h; simp at this) (fun h => by have := HN1.out h; simp at this) _ A K c d HB8.out.old HW8.out.lies).mono ?_
  rintro e w9 ⟨A9, c9, K9, d9, rfl, hl9, h9⟩
  have HB9 := Lib.hid ((HB8.out.on h9).on (below_al (Below.refl _ _) (.cells #[.int .i64 a.kind, .int .i64 a.int, .string a.text, .slice A9 a.items.length c9, .slice K9 a.keys.length d9] 25)))
  have HX9 := Lib.hid ((HY8.out.on h9).on (below_al (Below.refl _ _) (.cells #[.int .i64 a.kind, .int .i64 a.int, .string a.text, .slice A9 a.items.length c9, .slice K9 a.keys.length d9] 25)))
  have HY9 := Lib.hid (PX.start hl9)
  clear h9 hl9 s0 s1 s2 s3 s4 sl HB8 HW8 HG3
  obtain ⟨s0, s1, s2, s3, s4⟩ := HX9.out.box.cells
  have sl := HX9.out.box.lt
  obtain ⟨t0, t1, t2, t3, t4⟩ := HY9.out.box.cells
  have tl := HY9.out.box.lt
  go_wp2_with fail
  refine (HS.out a _ A8 K8 c8 d8 A9 K9 c9 d9 HX9.out.lies HY9.out.lies).mono ?_
  rintro e w10 ⟨rfl, h10⟩
  have HB10 := Lib.hid (HB9.out.on h10)
  clear h10 s0 s1 s2 s3 s4 sl t0 t1 t2 t3 t4 tl HB9 HX9 HY9
  go_wp2_with fail
  refine (HA.out _ HB10.out.old).mono ?_
  rintro e w11 ⟨rfl, h11⟩
  have HB11 := Lib.hid (below_on HB10.out.old h11)
  clear h11
  go_wp2_with fail
  go_ret
  exact ⟨rfl, HB11.out⟩

theorem law_put (x : V) (p : List Stp) (z : V) (q : List Stp) (w : World) (A0 K0 : Option Addr) (c0 m0 : Nat) (A1 : Option Addr) (c1 : Nat) (A2 K2 : Option Addr) (c2 m2 : Nat) (A3 : Option Addr) (c3 : Nat) (hx : Lies w w.heap.size x A0 c0 K0 m0) (hp : PLies w w.heap.size A1 c1 p) (hz : Lies w w.heap.size z A2 c2 K2 m2) (hq : PLies w w.heap.size A3 c3 q) (hpw : Pow w) :
    Calls Tryd.prog 6 #[aggOf x A0 c0 K0 m0, .slice A1 p.length c1, aggOf z A2 c2 K2 m2, .slice A3 q.length c3] w fun e w' => e = .returned (.bool true) ∧ Below w.heap.size w w' := by
  obtain ⟨⟨y, r⟩, hout⟩ : ∃ o, putOut x p z = o := ⟨_, rfl⟩
  by_cases hr : r = 0
  · subst hr
    exact law_put_ok y x p z q w A0 K0 c0 m0 A1 c1 A2 K2 c2 m2 A3 c3 hx hp hz hq hpw hout awake2_any
  · exact law_put_err y r hr x p z q w A0 K0 c0 m0 A1 c1 A2 K2 c2 m2 A3 c3 hx hp hz hpw hout awake2_any
end Go.Proofs.YtdlmphbaolejcaaDoor
