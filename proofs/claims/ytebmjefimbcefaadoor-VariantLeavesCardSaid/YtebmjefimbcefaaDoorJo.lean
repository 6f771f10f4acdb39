/- PROVED: for every value the law VariantLeaves (Leaves and Flatten answer as the definition's do) returns true and leaves its argument as it reads before; the card ties the three listed tables. -/
import Derived.Test.YtebmjefimbcefaaDoorJm
import Derived.Test.YtebmjefimbcefaaDoorJh
import Derived.Test.YtebmjefimbcefaaDoorJn
import Derived.Test.YtebmjefimbcefaaDoorZc
import Derived.Test.YtebmjefimbcefaaDoorZr
namespace Go.Proofs.YtebmjefimbcefaaDoor
open Go.RowKit
set_option maxRecDepth 100000 in
set_option maxHeartbeats 4000000 in
theorem law_leaves (a : V) (w : World) (A K : Option Addr) (c d : Nat) (ha : Lies w w.heap.size a A c K d) (hpw : Pow w) :
    Calls Tryd.prog 3 #[aggOf a A c K d] w fun e w' => e = .returned (.bool true) ∧ Below w.heap.size w w' := by
  have HA := Lib.hid fun W (hW : Below w.heap.size w W) => awake2_any W (hpw.on hW)
  obtain ⟨W0, hW0⟩ : ∃ W0, W0 = w.alloc (.cells #[.int .i64 a.kind, .int .i64 a.int, .string a.text, .slice A a.items.length c, .slice K a.keys.length d] 25) := ⟨_, rfl⟩
  have hb0 : Below w.heap.size w W0 := by rw [hW0]; exact below_al (Below.refl _ w) _
  have hx0 : BlockIs W0 w.heap.size 25 #[.int .i64 a.kind, .int .i64 a.int, .string a.text, .slice A a.items.length c, .slice K a.keys.length d] := by rw [hW0]; exact BlockIs.new w _ _
  obtain ⟨x, r, hx⟩ : ∃ x r, leavesOut a = (x, r) := ⟨_, _, rfl⟩
  obtain ⟨p, s, hp⟩ : ∃ p s, flatOut a = (p, s) := ⟨_, _, rfl⟩
  have HM1 := Lib.hid fun W (hW : Below w.heap.size w W) => show Calls Tryd.prog 5 #[.agg #[.int .i64 a.kind, .int .i64 a.int, .string a.text, .slice A a.items.length c, .slice K a.keys.length d]] W (LAns (x, r) W) from by
    rw [← hx]; exact progLeaves_any a W A K c d (lies_on ha hW)
  have HM2 := Lib.hid fun W (hW : Below w.heap.size w W) => show Calls Tryd.prog 6 #[.agg #[.int .i64 a.kind, .int .i64 a.int, .string a.text, .slice A a.items.length c, .slice K a.keys.length d]] W (LAns (x, r) W) from by
    rw [← hx]; exact refLeavesW_any a W A K c d (lies_on ha hW)
  have HM3 := Lib.hid fun W (hW : Below w.heap.size w W) => show Calls Tryd.prog 7 #[.agg #[.int .i64 a.kind, .int .i64 a.int, .string a.text, .slice A a.items.length c, .slice K a.keys.length d]] W (LAns (p, s) W) from by
    rw [← hp]; exact progFlatten_any a W A K c d (lies_on ha hW)
  have HM4 := Lib.hid fun W (hW : Below w.heap.size w W) => show Calls Tryd.prog 8 #[.agg #[.int .i64 a.kind, .int .i64 a.int, .string a.text, .slice A a.items.length c, .slice K a.keys.length d]] W (LAns (p, s) W) from by
    rw [← hp]; exact refFlattenW_any a W A K c d (lies_on ha hW)
  have HS := Lib.hid refSameLeaves_same
  have HW := Lib.hid hW0
  have HB := Lib.hid hb0
  have HX := Lib.hid hx0
  clear ha hpw hx hp hW0 hb0 hx0
  unfold aggOf
  obtain ⟨v0, v1, v2, v3, v4⟩ := five_of HX.out
  have vl := HX.out.lt
  go_enter Tryd.func3, Tryd.ntmps3
  go_upto_region 1 with (fail)
  rw [← HW.out]
  go_wp2_with fail
  refine (HM1.out _ HB.out).mono ?_
  rintro e w1 ⟨A1, c1, rfl, hl1, h1⟩
  have H1 := Lib.hid (And.intro (below_on HB.out h1) (And.intro (HX.out.below h1 HX.out.lt) hl1))
  clear h1 hl1 v0 v1 v2 v3 v4 vl HX HB HM1
  obtain ⟨v0, v1, v2, v3, v4⟩ := five_of H1.out.2.1
  have vl := H1.out.2.1.lt
  go_wp2_with fail
  refine (HM2.out _ H1.out.1).mono ?_
  rintro e w2 ⟨A2, c2, rfl, hl2, h2⟩
  have H2 := Lib.hid (And.intro (below_on H1.out.1 h2) (And.intro (H1.out.2.1.below h2 H1.out.2.1.lt) (And.intro (H1.out.2.2.on h2) hl2)))
  clear h2 hl2 v0 v1 v2 v3 v4 vl H1 HM2
  obtain ⟨v0, v1, v2, v3, v4⟩ := five_of H2.out.2.1
  have vl := H2.out.2.1.lt
  go_wp2_with fail
  refine (HM3.out _ H2.out.1).mono ?_
  rintro e w3 ⟨A3, c3, rfl, hl3, h3⟩
  have H3 := Lib.hid (And.intro (below_on H2.out.1 h3) (And.intro (H2.out.2.1.below h3 H2.out.2.1.lt) (And.intro (H2.out.2.2.1.on h3) (And.intro (H2.out.2.2.2.on h3) hl3))))
  clear h3 hl3 v0 v1 v2 v3 v4 vl H2 HM3
  obtain ⟨v0, v1, v2, v3, v4⟩ := five_of H3.out.2.1
  have vl := H3.out.2.1.lt
  go_wp2_with fail
  refine (HM4.out _ H3.out.1).mono ?_
  rintro e w4 ⟨A4, c4, rfl, hl4, h4⟩
  have H4 := Lib.hid (And.intro (below_on H3.out.1 h4) (And.intro (H3.out.2.2.1.on h4) (And.intro (H3.out.2.2.2.1.on h4) (And.intro (H3.out.2.2.2.2.on h4) hl4))))
  clear h4 hl4 v0 v1 v2 v3 v4 vl H3 HM4
  go_wp2_with fail
  refine (HS.out x _ A1 A2 c1 c2 H4.out.2.1 H4.out.2.2.1).mono ?_
  rintro e w5 ⟨rfl, h5⟩
  have H5 := Lib.hid (And.intro (below_on H4.out.1 h5) (And.intro (H4.out.2.2.2.1.on h5) (H4.out.2.2.2.2.on h5)))
  clear h5 H4
  go_wp2_with fail
  refine (HS.out p _ A3 A4 c3 c4 H5.out.2.1 H5.out.2.2).mono ?_
  rintro e w6 ⟨rfl, h6⟩
  have H6 := Lib.hid (below_on H5.out.1 h6)
  clear h6 H5
  go_wp2_with fail
  refine (HA.out _ H6.out).mono ?_
  rintro e w9 ⟨rfl, h9⟩
  have H9 := Lib.hid (below_on H6.out h9)
  clear h9
  go_wp2_with fail
  go_ret
  exact ⟨rfl, H9.out⟩
end Go.Proofs.YtebmjefimbcefaaDoor
namespace Go.Proofs.YtebmjefimbcefaaDoor.variantLeaves
open Go.ChangeShapes Go.WideShapes Go.ChangeAt Go.RowKit
set_option maxRecDepth 100000 in
set_option maxHeartbeats 1000000 in
theorem contract (H : Type) (enc : TypeId × Value → H) (W : World) (base : Nat) (args : Array Value) (ds gs : List (DataW H)) (before : List MemPlace)
    (hval : ∀ (j : Nat) t v, Tryd.f3.params[j]? = some t → args[j]? = some v → Value.okWide Tryd.prog W .any base t v)
    (hW : DataW.Whole enc Tryd.prog Tryd.f3.params.toList Rows.variantLeavesSpec.vars false W args.toList ds gs before) (hL : laidMetH Tryd.prog laidL W) :
    Calls Tryd.prog 3 args W fun e W' => ∃ v, e = .returned v ∧ Rows.variantLeavesSpec.post enc Tryd.prog Tryd.f3 false true false false W args v W' := by
  have hW' := hW
  have hlt := hW.lt
  obtain ⟨p, q, hA0, hV, rfl, _, _⟩ := hW
  have hA : DataW.TrodAll enc Tryd.prog W 0 (fun _ => true) true Tryd.f3.params.toList args.toList ds p := hA0
  rw [Tryd.params3] at hA hval
  obtain ⟨v0, vs0, d0, ds0, p0, q0, hargs, rfl, rfl, h0, r0⟩ := trodAll_cons hA
  obtain ⟨rfl, rfl, rfl⟩ := trodAll_nil r0
  obtain rfl : args = #[v0] := by cases args; simp_all
  obtain ⟨rfl, rfl⟩ := trodVars_none hV
  obtain ⟨x0, A0, c0, K0, m0, rfl, hx0⟩ := open_arg (hval 0 25 v0 rfl rfl) h0
  clear hA0
  simp only [List.append_nil] at hW' hlt
  refine (law_leaves x0 W A0 K0 c0 m0 hx0 (pow_of hL)).mono fun e W' ⟨he, hb⟩ => ?_
  subst he
  exact ⟨_, rfl, post_below (pa := p0) (pv := []) hW' (fun _ _ _ => trodAll_cons_mk (shut_bool Tryd.underlying4 _) trodAll_mk0)
    (fun sp hsp => by
      rw [Tryd.params3]
      have t0 := trodAll_cons_mk (arg_stays (sp := sp) h0 hb (fun z hz => hlt z (by simp [hz])) (fun z hz => hsp z (by simp [hz]))) trodAll_mk0
      rw [List.append_nil] at t0
      exact t0)
    (fun _ _ => rfl) (by simp) hb (ok_one (by kernel_rfl) rfl (okWide_bool_mk Tryd.underlying4 _))⟩
theorem laid_met (os : Os) : laidMet Tryd.prog Rows.variantLeavesRow.laid ((laidWorld os).forCall (fun _ _ => 0) ⟨#[], #[zeroA], []⟩).memory :=
  laidMet_of_run' 8 (by kernel_rfl) (by kernel_rfl)
theorem reads (os : Os) {H : Type} (enc : TypeId × Value → H) : ∃ places, DataW.whole enc Tryd.prog ((laidWorld os).forCall (fun _ _ => 0) ⟨#[], #[zeroA], []⟩).memory Tryd.f3.params.toList Rows.variantLeavesSpec.vars false #[zeroA].toList 8 = some ([zeroD], [], places) :=
  ⟨[], by kernel_rfl⟩
set_option maxRecDepth 100000 in
theorem lifted (os : Os) (started : os.Started) (H : Type) (enc : TypeId × Value → H) (F : Stop.Interp) :
    ReturnsInHanded {} Tryd.checked os 3 .any ((OpenSpec.ofChange Rows.variantLeavesSpec).preRow enc Tryd.prog Tryd.f3 Rows.variantLeavesRow.domain false Rows.variantLeavesRow.laid) (((OpenSpec.ofChange Rows.variantLeavesSpec).at F).post enc Tryd.prog Tryd.f3 false true false false) := by
  obtain ⟨places, hx⟩ := reads os enc
  refine returnsInHanded_of_row (C := Tryd.checked) (s := OpenSpec.ofChange Rows.variantLeavesSpec) own started (by kernel_rfl) Tryd.func3
    (witness_row_at (enc := enc) (C := Tryd.checked) false (laidWorld os) #[zeroA] rfl (by kernel_rfl) (by kernel_rfl) (by kernel_rfl)
      (OpenSpec.preRow_of_cond 8 hx (by kernel_rfl) (fun k hk => by cases hk) (by kernel_rfl) (laid_met os))) ?_
  intro W base args ds gs before hval hW _ _ _ hL _ _
  exact contract H enc W base args ds gs before hval hW hL
theorem said : Rows.VariantLeavesSaid :=
  OpenClaim.holds_of_cond 3 Tryd.f3 rfl rfl rfl rfl rfl rfl rfl ⟨rfl, rfl, rfl, rfl, rfl⟩ rfl rfl rfl rfl rfl (by kernel_rfl) Tryd.func3 (by kernel_rfl)
    (of_decide_eq_true (by kernel_rfl)) (by unfold Func.isWrapper; first | (rw [if_pos (by decide +kernel)]; kernel_rfl) | (rw [if_neg (by decide +kernel)]; exact ⟨rfl, rfl⟩))
    (fun os started H enc _ F => by rw [OpenClaim.pre_eq_preRow]; exact lifted os started H enc F)
theorem plain (f : FuncId) (fn : Func) (hf : Tryd.pinned.checked.prog.funcNamed "cirrus/cirruslaw02.VariantLeaves" = some f) (hfn : Tryd.pinned.checked.prog.funcs[f]? = some fn) :
    false = Tryd.pinned.checked.prog.looks [] ∧ ∀ (j : Nat) t, fn.params[j]? = some t → Tryd.pinned.checked.prog.wantsStandIn t = false := by
  obtain rfl : f = 3 := Option.some.inj ((show Tryd.prog.funcNamed "cirrus/cirruslaw02.VariantLeaves" = some 3 by kernel_rfl).symm.trans hf) |>.symm
  obtain rfl : fn = Tryd.f3 := (Option.some.inj (Tryd.func3.symm.trans hfn)).symm
  refine ⟨by kernel_rfl, fun j t ht => ?_⟩
  rw [Tryd.params3] at ht
  match j, ht with
  | 0, ht =>
    obtain rfl : t = 25 := (Option.some.inj ht).symm
    exact (show Tryd.prog.wantsStandIn 25 = false by kernel_rfl)
  | j + 1, ht => simp at ht
theorem card : Rows.VariantLeavesCardSaid :=
  Claim7.holds_tied_plain_at .later [] _ _ _ _ said (fun _ h => by cases h) (by kernel_rfl) (fun _ h => by cases h) variantLeaves_row_tie rfl ⟨rfl, rfl⟩ (by kernel_rfl) rfl plain (by kernel_rfl)
end Go.Proofs.YtebmjefimbcefaaDoor.variantLeaves
