/- PROVED: for every two values the law VariantMerges (Merge and Patch answer as the definition's do) returns true and leaves its arguments as they read before; the card ties the three listed tables. -/
import Derived.Test.YtebmjefimbcefaaGreatDoorJl
import Derived.Test.YtebmjefimbcefaaGreatDoorJm
import Derived.Test.YtebmjefimbcefaaGreatDoorZc
import Derived.Test.YtebmjefimbcefaaGreatDoorZr
namespace Go.Proofs.YtebmjefimbcefaaGreatDoor
open Go.RowKit
structure VM (w : World) (ca cb : Array Value) (W : World) : Prop where
  old : Below w.heap.size w W
  ba : BlockIs W w.heap.size 27 ca
  bb : BlockIs W (w.heap.size + 1) 27 cb
section
variable {w W W' : World} {ca cb : Array Value}
theorem VM.start (w : World) (ca cb : Array Value) : VM w ca cb ((w.alloc (.cells ca 27)).alloc (.cells cb 27)) := ⟨below_al (below_al (Below.refl _ w) _) _, (BlockIs.new w _ _).alloc _, BlockIs.newAt _ _ _ (by simp)⟩
theorem VM.on (h : VM w ca cb W) (hb : Below W.heap.size W W') : VM w ca cb W' := ⟨below_on h.old hb, h.ba.below hb h.ba.lt, h.bb.below hb h.bb.lt⟩
end
set_option maxRecDepth 100000 in
set_option maxHeartbeats 4000000 in
theorem law_merges (a b : V) (w : World) (A K : Option Addr) (c d : Nat) (A' K' : Option Addr) (c' d' : Nat) (ha : Lies w w.heap.size a A c K d) (hb : Lies w w.heap.size b A' c' K' d') (hpw : Pow w) :
    Calls Tryz.prog 4 #[aggOf a A c K d, aggOf b A' c' K' d'] w fun e w' => e = .returned (.bool true) ∧ Below w.heap.size w w' := by
  have HA := Lib.hid fun W (hW : Below w.heap.size w W) => awake2_any W (hpw.on hW)
  have HB0 := Lib.hid (VM.start w #[.int .i64 a.kind, .int .i64 a.int, .string a.text, .slice A a.items.length c, .slice K a.keys.length d] #[.int .i64 b.kind, .int .i64 b.int, .string b.text, .slice A' b.items.length c', .slice K' b.keys.length d'])
  obtain ⟨x, r, hx⟩ : ∃ x r, mergeOut a b = (x, r) := ⟨_, _, rfl⟩
  obtain ⟨p, s, hp⟩ : ∃ p s, patchOut a b = (p, s) := ⟨_, _, rfl⟩
  have HM1 := Lib.hid fun W (hW : Below w.heap.size w W) => show Calls Tryz.prog 9 #[.agg #[.int .i64 a.kind, .int .i64 a.int, .string a.text, .slice A a.items.length c, .slice K a.keys.length d], .agg #[.int .i64 b.kind, .int .i64 b.int, .string b.text, .slice A' b.items.length c', .slice K' b.keys.length d']] W (MAns (x, r) W) from by
    rw [← hx]; exact progMerge_any a b W A K c d A' K' c' d' (lies_on ha hW) (lies_on hb hW)
  have HM2 := Lib.hid fun W (hW : Below w.heap.size w W) => show Calls Tryz.prog 10 #[.agg #[.int .i64 a.kind, .int .i64 a.int, .string a.text, .slice A a.items.length c, .slice K a.keys.length d], .agg #[.int .i64 b.kind, .int .i64 b.int, .string b.text, .slice A' b.items.length c', .slice K' b.keys.length d']] W (MAns (x, r) W) from by
    rw [← hx]; exact refMergeW_any a b W A K c d A' K' c' d' (lies_on ha hW) (lies_on hb hW)
  have HM3 := Lib.hid fun W (hW : Below w.heap.size w W) => show Calls Tryz.prog 11 #[.agg #[.int .i64 a.kind, .int .i64 a.int, .string a.text, .slice A a.items.length c, .slice K a.keys.length d], .agg #[.int .i64 b.kind, .int .i64 b.int, .string b.text, .slice A' b.items.length c', .slice K' b.keys.length d']] W (MAns (p, s) W) from by
    rw [← hp]; exact progPatch_any a b W A K c d A' K' c' d' (lies_on ha hW) (lies_on hb hW)
  have HM4 := Lib.hid fun W (hW : Below w.heap.size w W) => show Calls Tryz.prog 12 #[.agg #[.int .i64 a.kind, .int .i64 a.int, .string a.text, .slice A a.items.length c, .slice K a.keys.length d], .agg #[.int .i64 b.kind, .int .i64 b.int, .string b.text, .slice A' b.items.length c', .slice K' b.keys.length d']] W (MAns (p, s) W) from by
    rw [← hp]; exact refPatchW_any a b W A K c d A' K' c' d' (lies_on ha hW) (lies_on hb hW)
  have HS := Lib.hid fun (u : V) W A K c d A' K' c' d' (h : Lies W W.heap.size u A c K d) (h' : Lies W W.heap.size u A' c' K' d') => same_is u u W A K c d A' K' c' d' h h' (r := true) (by simp)
  clear ha hb hpw hx hp
  unfold aggOf
  go_enter Tryz.func4, Tryz.ntmps4
  go_wp2_with fail
  refine (HM1.out _ HB0.out.old).mono ?_
  rintro e w1 ⟨A1, c1, K1, d1, rfl, hl1, h1⟩
  have hal1 := below_al (Below.refl _ w1) (.cells #[.int .i64 x.kind, .int .i64 x.int, .string x.text, .slice A1 x.items.length c1, .slice K1 x.keys.length d1] 27)
  have HB1 := Lib.hid ((HB0.out.on h1).on hal1)
  have HX1 := Lib.hid (RX.start hl1)
  unfold aggOf
  go_upto_region 2 with (fail)
  obtain ⟨W1, hW1⟩ : ∃ W, W = w1.alloc (.cells #[.int .i64 x.kind, .int .i64 x.int, .string x.text, .slice A1 x.items.length c1, .slice K1 x.keys.length d1] 27) := ⟨_, rfl⟩
  rw [← hW1] at HB1 HX1 ⊢
  clear h1 hl1 hal1 hW1 HB0 HM1
  obtain ⟨v0, v1, v2, v3, v4⟩ := five_of HB1.out.ba
  have vl := HB1.out.ba.lt
  obtain ⟨x0, x1, x2, x3, x4⟩ := five_of HB1.out.bb
  have xl := HB1.out.bb.lt
  go_wp2_with fail
  refine (HM2.out _ HB1.out.old).mono ?_
  rintro e w2 ⟨A2, c2, K2, d2, rfl, hl2, h2⟩
  have hal2 := below_al (Below.refl _ w2) (.cells #[.int .i64 x.kind, .int .i64 x.int, .string x.text, .slice A2 x.items.length c2, .slice K2 x.keys.length d2] 27)
  have HB2 := Lib.hid ((HB1.out.on h2).on hal2)
  have HX2 := Lib.hid (RX.start hl2)
  replace HX1 := Lib.hid ((HX1.out.on h2).on hal2)
  unfold aggOf
  go_upto_region 3 with (fail)
  obtain ⟨W2, hW2⟩ : ∃ W, W = w2.alloc (.cells #[.int .i64 x.kind, .int .i64 x.int, .string x.text, .slice A2 x.items.length c2, .slice K2 x.keys.length d2] 27) := ⟨_, rfl⟩
  rw [← hW2] at HB2 HX1 HX2 ⊢
  clear h2 hl2 hal2 hW2 HB1 HM2 v0 v1 v2 v3 v4 vl x0 x1 x2 x3 x4 xl
  obtain ⟨v0, v1, v2, v3, v4⟩ := five_of HB2.out.ba
  have vl := HB2.out.ba.lt
  obtain ⟨x0, x1, x2, x3, x4⟩ := five_of HB2.out.bb
  have xl := HB2.out.bb.lt
  go_wp2_with fail
  refine (HM3.out _ HB2.out.old).mono ?_
  rintro e w3 ⟨A3, c3, K3, d3, rfl, hl3, h3⟩
  have hal3 := below_al (Below.refl _ w3) (.cells #[.int .i64 p.kind, .int .i64 p.int, .string p.text, .slice A3 p.items.length c3, .slice K3 p.keys.length d3] 27)
  have HB3 := Lib.hid ((HB2.out.on h3).on hal3)
  have HX3 := Lib.hid (RX.start hl3)
  replace HX1 := Lib.hid ((HX1.out.on h3).on hal3)
  replace HX2 := Lib.hid ((HX2.out.on h3).on hal3)
  unfold aggOf
  go_upto_region 4 with (fail)
  obtain ⟨W3, hW3⟩ : ∃ W, W = w3.alloc (.cells #[.int .i64 p.kind, .int .i64 p.int, .string p.text, .slice A3 p.items.length c3, .slice K3 p.keys.length d3] 27) := ⟨_, rfl⟩
  rw [← hW3] at HB3 HX1 HX2 HX3 ⊢
  clear h3 hl3 hal3 hW3 HB2 HM3 v0 v1 v2 v3 v4 vl x0 x1 x2 x3 x4 xl
  obtain ⟨v0, v1, v2, v3, v4⟩ := five_of HB3.out.ba
  have vl := HB3.out.ba.lt
  obtain ⟨x0, x1, x2, x3, x4⟩ := five_of HB3.out.bb
  have xl := HB3.out.bb.lt
  go_wp2_with fail
  refine (HM4.out _ HB3.out.old).mono ?_
  rintro e w4 ⟨A4, c4, K4, d4, rfl, hl4, h4⟩
  have hal4 := below_al (Below.refl _ w4) (.cells #[.int .i64 p.kind, .int .i64 p.int, .string p.text, .slice A4 p.items.length c4, .slice K4 p.keys.length d4] 27)
  have HB4 := Lib.hid ((HB3.out.on h4).on hal4)
  have HX4 := Lib.hid (RX.start hl4)
  replace HX1 := Lib.hid ((HX1.out.on h4).on hal4)
  replace HX2 := Lib.hid ((HX2.out.on h4).on hal4)
  replace HX3 := Lib.hid ((HX3.out.on h4).on hal4)
  unfold aggOf
  go_upto_region 5 with (fail)
  obtain ⟨W4, hW4⟩ : ∃ W, W = w4.alloc (.cells #[.int .i64 p.kind, .int .i64 p.int, .string p.text, .slice A4 p.items.length c4, .slice K4 p.keys.length d4] 27) := ⟨_, rfl⟩
  rw [← hW4] at HB4 HX1 HX2 HX3 HX4 ⊢
  clear h4 hl4 hal4 hW4 HB3 HM4 v0 v1 v2 v3 v4 vl x0 x1 x2 x3 x4 xl
  obtain ⟨v0, v1, v2, v3, v4⟩ := HX1.out.box.cells
  have vl := HX1.out.box.lt
  obtain ⟨x0, x1, x2, x3, x4⟩ := HX2.out.box.cells
  have xl := HX2.out.box.lt
  go_wp2_with fail
  refine (HS.out x _ A1 K1 c1 d1 A2 K2 c2 d2 HX1.out.lies HX2.out.lies).mono ?_
  rintro e w5 ⟨rfl, h5⟩
  have HB5 := Lib.hid (HB4.out.on h5)
  have HX3' := Lib.hid (HX3.out.on h5)
  have HX4' := Lib.hid (HX4.out.on h5)
  clear v0 v1 v2 v3 v4 vl x0 x1 x2 x3 x4 xl h5 HB4 HX1 HX2 HX3 HX4
  obtain ⟨v0, v1, v2, v3, v4⟩ := HX3'.out.box.cells
  have vl := HX3'.out.box.lt
  obtain ⟨x0, x1, x2, x3, x4⟩ := HX4'.out.box.cells
  have xl := HX4'.out.box.lt
  go_wp2_with fail
  refine (HS.out p _ A3 K3 c3 d3 A4 K4 c4 d4 HX3'.out.lies HX4'.out.lies).mono ?_
  rintro e w6 ⟨rfl, h6⟩
  have HB6 := Lib.hid (HB5.out.on h6)
  clear v0 v1 v2 v3 v4 vl x0 x1 x2 x3 x4 xl h6 HB5 HX3' HX4'
  go_wp2_with fail
  refine (HA.out _ HB6.out.old).mono ?_
  rintro e w9 ⟨rfl, h9⟩
  have HB9 := Lib.hid (below_on HB6.out.old h9)
  clear h9
  go_wp2_with fail
  go_ret
  exact ⟨rfl, HB9.out⟩
end Go.Proofs.YtebmjefimbcefaaGreatDoor
namespace Go.Proofs.YtebmjefimbcefaaGreatDoor.variantMerges
open Go.ChangeShapes Go.WideShapes Go.ChangeAt Go.RowKit
set_option maxRecDepth 100000 in
set_option maxHeartbeats 1000000 in
theorem contract (H : Type) (enc : TypeId × Value → H) (W : World) (base : Nat) (args : Array Value) (ds gs : List (DataW H)) (before : List MemPlace)
    (hval : ∀ (j : Nat) t v, Tryz.f4.params[j]? = some t → args[j]? = some v → Value.okWide Tryz.prog W .any base t v)
    (hW : DataW.Whole enc Tryz.prog Tryz.f4.params.toList Rows.variantMergesSpec.vars false W args.toList ds gs before) (hL : laidMetH Tryz.prog laidL W) :
    Calls Tryz.prog 4 args W fun e W' => ∃ v, e = .returned v ∧ Rows.variantMergesSpec.post enc Tryz.prog Tryz.f4 false true false false W args v W' := by
  have hW' := hW
  have hlt := hW.lt
  obtain ⟨p, q, hA0, hV, rfl, _, _⟩ := hW
  have hA : DataW.TrodAll enc Tryz.prog W 0 (fun _ => true) true Tryz.f4.params.toList args.toList ds p := hA0
  rw [Tryz.params4] at hA hval
  obtain ⟨v0, vs0, d0, ds0, p0, q0, hargs, rfl, rfl, h0, r0⟩ := trodAll_cons hA
  obtain ⟨v1, vs1, d1, ds1, p1, q1, rfl, rfl, rfl, h1, r1⟩ := trodAll_cons r0
  obtain ⟨rfl, rfl, rfl⟩ := trodAll_nil r1
  obtain rfl : args = #[v0, v1] := by cases args; simp_all
  obtain ⟨rfl, rfl⟩ := trodVars_none hV
  obtain ⟨x0, A0, c0, K0, m0, rfl, hx0⟩ := open_arg (hval 0 27 v0 rfl rfl) h0
  obtain ⟨x1, A1, c1, K1, m1, rfl, hx1⟩ := open_arg (hval 1 27 v1 rfl rfl) h1
  clear hA0
  simp only [List.append_nil] at hW' hlt
  refine (law_merges x0 x1 W A0 K0 c0 m0 A1 K1 c1 m1 hx0 hx1 (pow_of hL)).mono fun e W' ⟨he, hb⟩ => ?_
  subst he
  exact ⟨_, rfl, post_below (pa := p0 ++ p1) (pv := []) hW' (fun _ _ _ => trodAll_cons_mk (shut_bool Tryz.underlying4 _) trodAll_mk0)
    (fun sp hsp => by
      rw [Tryz.params4]
      have t1 := trodAll_cons_mk (arg_stays (sp := sp) h1 hb (fun z hz => hlt z (by simp [hz])) (fun z hz => hsp z (by simp [hz]))) trodAll_mk0
      rw [List.append_nil] at t1
      have t0 := trodAll_cons_mk (arg_stays (sp := sp) h0 hb (fun z hz => hlt z (by simp [hz])) (fun z hz => hsp z (by simp [hz]))) t1
      exact t0)
    (fun _ _ => rfl) (by simp) hb (ok_one (by kernel_rfl) rfl (okWide_bool_mk Tryz.underlying4 _))⟩
theorem laid_met (os : Os) : laidMet Tryz.prog Rows.variantMergesRow.laid ((laidWorld os).forCall (fun _ _ => 0) ⟨#[], #[zeroA, zeroA], []⟩).memory :=
  laidMet_of_run' 8 (by kernel_rfl) (by kernel_rfl)
theorem reads (os : Os) {H : Type} (enc : TypeId × Value → H) : ∃ places, DataW.whole enc Tryz.prog ((laidWorld os).forCall (fun _ _ => 0) ⟨#[], #[zeroA, zeroA], []⟩).memory Tryz.f4.params.toList Rows.variantMergesSpec.vars false #[zeroA, zeroA].toList 8 = some ([zeroD, zeroD], [], places) :=
  ⟨[], by kernel_rfl⟩
set_option maxRecDepth 100000 in
theorem lifted (os : Os) (started : os.Started) (H : Type) (enc : TypeId × Value → H) (F : Stop.Interp) :
    ReturnsInHanded {} Tryz.checked os 4 .any ((OpenSpec.ofChange Rows.variantMergesSpec).preRow enc Tryz.prog Tryz.f4 Rows.variantMergesRow.domain false Rows.variantMergesRow.laid) (((OpenSpec.ofChange Rows.variantMergesSpec).at F).post enc Tryz.prog Tryz.f4 false true false false) := by
  obtain ⟨places, hx⟩ := reads os enc
  refine returnsInHanded_of_row (C := Tryz.checked) (s := OpenSpec.ofChange Rows.variantMergesSpec) own started (by kernel_rfl) Tryz.func4
    (witness_row_at (enc := enc) (C := Tryz.checked) false (laidWorld os) #[zeroA, zeroA] rfl (by kernel_rfl) (by kernel_rfl) (by kernel_rfl)
      (OpenSpec.preRow_of_cond 8 hx (by kernel_rfl) (fun k hk => by cases hk) (by kernel_rfl) (laid_met os))) ?_
  intro W base args ds gs before hval hW _ _ _ hL _ _
  exact contract H enc W base args ds gs before hval hW hL
theorem said : Rows.VariantMergesSaid :=
  OpenClaim.holds_of_cond 4 Tryz.f4 rfl rfl rfl rfl rfl rfl rfl ⟨rfl, rfl, rfl, rfl, rfl⟩ rfl rfl rfl rfl rfl (by kernel_rfl) Tryz.func4 (by kernel_rfl)
    (of_decide_eq_true (by kernel_rfl)) (by unfold Func.isWrapper; first | (rw [if_pos (by decide +kernel)]; kernel_rfl) | (rw [if_neg (by decide +kernel)]; exact ⟨rfl, rfl⟩))
    (fun os started H enc _ F => by rw [OpenClaim.pre_eq_preRow]; exact lifted os started H enc F)
theorem plain (f : FuncId) (fn : Func) (hf : Tryz.pinned.checked.prog.funcNamed "cirrus/cirruslaw02.VariantMerges" = some f) (hfn : Tryz.pinned.checked.prog.funcs[f]? = some fn) :
    false = Tryz.pinned.checked.prog.looks [] ∧ ∀ (j : Nat) t, fn.params[j]? = some t → Tryz.pinned.checked.prog.wantsStandIn t = false := by
  obtain rfl : f = 4 := Option.some.inj ((show Tryz.prog.funcNamed "cirrus/cirruslaw02.VariantMerges" = some 4 by kernel_rfl).symm.trans hf) |>.symm
  obtain rfl : fn = Tryz.f4 := (Option.some.inj (Tryz.func4.symm.trans hfn)).symm
  refine ⟨by kernel_rfl, fun j t ht => ?_⟩
  rw [Tryz.params4] at ht
  match j, ht with
  | 0, ht =>
    obtain rfl : t = 27 := (Option.some.inj ht).symm
    exact (show Tryz.prog.wantsStandIn 27 = false by kernel_rfl)
  | 1, ht =>
    obtain rfl : t = 27 := (Option.some.inj ht).symm
    exact (show Tryz.prog.wantsStandIn 27 = false by kernel_rfl)
  | j + 2, ht => simp at ht
theorem card : Rows.VariantMergesCardSaid :=
  Claim7.holds_tied_plain_at .later [] _ _ _ _ said (fun _ h => by cases h) (by kernel_rfl) (fun _ h => by cases h) variantMerges_row_tie rfl ⟨rfl, rfl⟩ (by kernel_rfl) rfl plain (by kernel_rfl)
end Go.Proofs.YtebmjefimbcefaaGreatDoor.variantMerges
