/- The program's Leaves, walked: any value. -/
import Derived.Test.YtebmjefimbcefaaDoorJl
import Derived.Test.YtebmjefimbcefaaDoorJg
import Derived.RangeFuncBound
import Derived.RangeFuncCalls
import Derived.Shelf.RegionOpen
import Derived.WalkKit
import Derived.LoopNIn
import Derived.Test.YtebmjefimbcefaaDoorYe
import Derived.Deep.RegionHeld3
namespace Go.Proofs.YtebmjefimbcefaaDoor
open Go.RowKit Go.Shelf
/-- An append whose run is known, inside a fence. -/
theorem wpListIn_append_run {F : Fence} {n : Nat} {P : Program} {w : World} {ops : Array Oper} {rest : List Oper} {o : Oper} {a : Act} {Q : Exit → Act → World → Prop} (hg : o.guard = none) (s x : Operand) (t : TypeId)
    (hop : o.op = .call { callee := .builtin .append, args := #[s, x], argTypes := #[t, t] }) (vs vx : Value) (hs : a.eval s = vs) (hx : a.eval x = vx) (v' : Value) (w' : World)
    (hr : (Builtin.append_ #[t, t] o.type #[vs, vx]).run P w = .ok v' w') (hK : wpListIn F n P ops Q rest (a.put o.dst v') w') : wpListIn F n P ops Q (o :: rest) a w := by
  refine wpListIn_plain hg fun K hK' => ?_
  unfold Oper.wpIn
  refine ⟨?_, ?_⟩
  · simp [Oper.about, hop, resolve, Target.leads, Sem.run_pure]
  · rw [Oper.semAt_plain F _ _ (by rw [hop]; intro c hc'; cases hc')]
    simp [execOp, hop, resolve, invoke, builtin, hs, hx, hr, Result.andThen]
    exact hK' _ _ hK
/-- A leaf appended to an owned row. -/
theorem append_leaf (ty : TypeId) (W : World) (B : Nat) (v : Value) (k : Nat) (xs : List Value) (hown : W.ownsRow B 40 6 v k xs) (a : Addr) (news : List Value) (hl : news.length = 6) (hA : ∀ j u, news[j]? = some u → W.cell? (a.add j) = some u) (h1 : ∀ u ∈ news, u.oneCell' = true) (hk : k + 1 ≤ 100000) (hB : B ≤ W.heap.size) :
    ∃ g cap W', (Builtin.append_ #[26, 26] ty #[v, .slice (some a) 1 1]).run Tryd.prog W = .ok (.slice (some ⟨g, 0, none⟩) (k + 1) cap) W' ∧ W'.ownsRow B 40 6 (.slice (some ⟨g, 0, none⟩) (k + 1) cap) (k + 1) (xs ++ news) ∧ W.grownBy W' v.ownBlock ∧ (v.ownBlock = some g ∨ g = W.heap.size) ∧ g < W'.heap.size := by
  obtain ⟨i0, hi, hz0, hz1, hz2⟩ := info_parts (P := Tryd.prog) (e := 40) (z := .agg #[.slice none 0 0, .int .i64 0, .int .i64 0, .string ⟨#[]⟩, .slice none 0 0, .slice none 0 0]) (size := 6) (bytes := 104) (by kernel_rfl)
  exact run_append_lies W 26 ty B 40 i0 _ 6 104 Tryd.underlying26 hi hz0 hz1 hz2 rfl (by omega) v k xs hown a 1 1 news (by omega) hA h1 (by omega) (by unfold maxLen; omega) (by omega) hB _ rfl
/-- The collected leaves: their box, their row, their blocks. -/
def LB (L : Nat) (U : Nat → Prop) (acc : List Lf) (W : World) : Prop :=
  ∃ (rO : Value) (css : List (List Value)) (D : Nat → Prop), BlockIs W L 26 #[rO] ∧ W.ownsRow (L + 1) 40 6 rO acc.length css.flatten ∧ LeafsIn D W acc css ∧ (∀ b, D b → b < W.heap.size ∧ b ≠ L ∧ some b ≠ rO.ownBlock) ∧ ∀ b, U b ↔ b = L ∨ some b = rO.ownBlock ∨ D b
theorem LB.start (W : World) : LB W.heap.size (fun b => b = W.heap.size) [] (W.alloc (.cells #[.slice none 0 0] 26)) :=
  ⟨.slice none 0 0, [], fun _ => False, BlockIs.new W _ _, World.ownsRow_nil _ _ _ _, trivial, fun _ h => h.elim, fun b => by simp [Value.ownBlock]⟩
theorem LB.coll (L : Nat) : Collects (LB L) := by
  refine ⟨fun U acc W ⟨rO, css, D, hb, ho, hr, hD, hU⟩ b hx => ?_, fun U acc W W' X ⟨rO, css, D, hb, ho, hr, hD, hU⟩ hB hX => ⟨rO, css, D, ?_, ?_, ?_, fun b hx => ⟨Nat.lt_of_lt_of_le (hD b hx).1 hB.size, (hD b hx).2⟩, hU⟩⟩
  · rcases (hU b).1 hx with h | h | h
    · rw [h]; exact hb.lt
    · exact (World.ownsRow.lt ho b h.symm).2
    · exact (hD b h).1
  · exact hb.to (hB.block L hb.lt (hX L ((hU L).2 (.inl rfl))))
  · exact own_stays ho fun b hx => hB.block b (World.ownsRow.lt ho b hx).2 (hX b ((hU b).2 (.inr (.inl hx.symm))))
  · exact hr.keep (fun b o hx => World.cell?_of_block (hB.block b (hD b hx).1 (hX b ((hU b).2 (.inr (.inr hx)))))) (fun _ h => h)
theorem LB.more {L g n cap rc : Nat} {RA : Option Addr} {U D D' : Nat → Prop} {acc : List Lf} {x : Lf} {cs : List Value} {css : List (List Value)} {W X w5 : World} (hb : BlockIs W L 26 #[.slice RA n rc]) (ho : W.ownsRow (L + 1) 40 6 (.slice RA n rc) n css.flatten) (hn : n = acc.length) (hr : LeafsIn D W acc css) (hD : ∀ b, D b → b < W.heap.size ∧ b ≠ L ∧ some b ≠ (Value.slice RA n rc).ownBlock) (hU : ∀ b, U b ↔ b = L ∨ some b = (Value.slice RA n rc).ownBlock ∨ D b)
    (hleaf : LeafIn D' W x cs) (hD' : ∀ b, D' b → b < W.heap.size ∧ ¬ U b) (hX : Below W.heap.size W X) (hown : w5.ownsRow (L + 1) 40 6 (.slice (some ⟨g, 0, none⟩) (n + 1) cap) (n + 1) (css.flatten ++ cs)) (hgrow : X.grownBy w5 (Value.slice RA n rc).ownBlock) (hg : (Value.slice RA n rc).ownBlock = some g ∨ g = X.heap.size) :
    ∃ U', LB L U' (acc ++ [x]) (w5.setCell ⟨L, 0, none⟩ (.slice (some ⟨g, 0, none⟩) (n + 1) cap)) ∧ (∀ b, U' b → U b ∨ D' b ∨ W.heap.size ≤ b) ∧ But U W (w5.setCell ⟨L, 0, none⟩ (.slice (some ⟨g, 0, none⟩) (n + 1) cap)) := by
  have hgL := (World.ownsRow.lt hown g rfl).1
  have hoL : ∀ b, (Value.slice RA n rc).ownBlock = some b → L + 1 ≤ b := fun b hx => (World.ownsRow.lt ho b hx).1
  have hkeep : ∀ b, b < W.heap.size → b ≠ L → some b ≠ (Value.slice RA n rc).ownBlock → (w5.setCell ⟨L, 0, none⟩ (.slice (some ⟨g, 0, none⟩) (n + 1) cap)).heap[b]? = W.heap[b]? := fun b h1 h2 h3 =>
    ((Below.heap_setCell w5 ⟨L, 0, none⟩ _ b h2).trans (hgrow.block b (by have := hX.size; omega) h3)).trans (hX.block b h1)
  have hb5 : BlockIs w5 L 26 #[.slice RA n rc] := (hb.below hX hb.lt).grown hgrow fun e => by have := hoL L e.symm; omega
  have hD2 : ∀ b, D' b → b < W.heap.size ∧ b ≠ L ∧ some b ≠ (Value.slice RA n rc).ownBlock := fun b hx => ⟨(hD' b hx).1, fun e => (hD' b hx).2 ((hU b).2 (.inl e)), fun e => (hD' b hx).2 ((hU b).2 (.inr (.inl e)))⟩
  have hX1 := hX.size
  have h51 := hgrow.size
  have hs5 : (w5.setCell ⟨L, 0, none⟩ (.slice (some ⟨g, 0, none⟩) (n + 1) cap)).heap.size = w5.heap.size := by simp
  have hgo : ∀ b, (b < W.heap.size ∧ b ≠ L ∧ some b ≠ (Value.slice RA n rc).ownBlock) → some b ≠ (Value.slice (some ⟨g, 0, none⟩) (n + 1) cap).ownBlock := fun b hx e => by
    have e1 : b = g := Option.some.inj e
    rcases hg with h | h
    · exact hx.2.2 (by rw [h, e1])
    · omega
  refine ⟨fun b => b = L ∨ some b = (Value.slice (some ⟨g, 0, none⟩) (n + 1) cap).ownBlock ∨ (D b ∨ D' b), ⟨_, css ++ [cs], fun b => D b ∨ D' b, by simpa using hb5.set_ 0 (.slice (some ⟨g, 0, none⟩) (n + 1) cap), ?_, ?_, ?_, fun _ => Iff.rfl⟩, ?_, ?_⟩
  · rw [List.length_append, List.length_singleton, ← hn, List.flatten_append, show [cs].flatten = cs by simp]
    exact own_stays hown fun b hx => Below.heap_setCell w5 ⟨L, 0, none⟩ _ b (by have : g = b := Option.some.inj hx; show b ≠ L; omega)
  · exact LeafsIn.append (show LeafsIn (fun b => D b ∨ D' b) (w5.setCell ⟨L, 0, none⟩ (.slice (some ⟨g, 0, none⟩) (n + 1) cap)) [x] [cs] from ⟨hleaf.keep (fun b o hx => World.cell?_of_block (hkeep b (hD2 b hx).1 (hD2 b hx).2.1 (hD2 b hx).2.2)) (fun _ h => .inr h), trivial⟩) (hr.keep (fun b o hx => World.cell?_of_block (hkeep b (hD b hx).1 (hD b hx).2.1 (hD b hx).2.2)) (fun _ h => .inl h))
  · intro b hx
    have h := hx.elim (hD b) (hD2 b)
    exact ⟨by omega, h.2.1, hgo b h⟩
  · intro b hx
    rcases hx with h | h | h | h
    · exact .inl ((hU b).2 (.inl h))
    · have e1 : b = g := Option.some.inj h
      rcases hg with h' | h'
      · exact .inl ((hU b).2 (.inr (.inl (by rw [h', e1]))))
      · exact .inr (.inr (by omega))
    · exact .inl ((hU b).2 (.inr (.inr h)))
    · exact .inr (.inl h)
  · have hs := (But.below (X := fun _ => False) hX).trans (But.grown hgrow)
    have hsc := But.grown (grownBy_setCell' w5 L (.slice (some ⟨g, 0, none⟩) (n + 1) cap))
    refine (hs.trans hsc).wider fun b _ hx => ?_
    rcases hx with (h | h) | h
    · exact h.elim
    · exact (hU b).2 (.inr (.inl h))
    · exact (hU b).2 (.inl (Option.some.inj h))
theorem LB.done {L : Nat} {U : Nat → Prop} {acc : List Lf} {W : World} (h : LB L U acc W) : ∃ A c, BlockIs W L 26 #[.slice A acc.length c] ∧ LeafRow (fun b => b < W.heap.size) W A c acc := by
  obtain ⟨rO, css, D, hb, ho, hr, hD, hU⟩ := h
  obtain ⟨a, cap, rfl⟩ := own_form ho
  refine ⟨a, cap, hb, ?_⟩
  have hrows : LeafsIn (fun b => b < W.heap.size) W acc css := hr.keep (fun _ _ _ => rfl) fun b hx => (hD b hx).1
  have ho5 := ho
  obtain ⟨hl, ⟨he, h0⟩ | ⟨g, cap', cur, he, hbg, hg, hnc, hcm, hcs, ht⟩⟩ := ho5
  · simp only [Value.slice.injEq] at he
    have : acc = [] := List.length_eq_zero_iff.1 h0
    subst this
    exact ⟨by simp, by have := he.2.2; omega, css, hrows, .inl rfl⟩
  · simp only [Value.slice.injEq] at he
    obtain ⟨rfl, -, rfl⟩ := he
    refine ⟨hnc, hcm, css, hrows, .inr ⟨g, 0, rfl, (World.ownsRow.lt ho g rfl).2, fun j u hu => ?_⟩⟩
    have := World.ownsRow.cells ho (g := g) rfl j u hu
    rw [Addr.add_lit] at this
    exact this
theorem But.to_below {X : Nat → Prop} {W W' : World} {B : Nat} (h : But X W W') (hX : ∀ b, X b → B ≤ b) (hB : B ≤ W.heap.size) : Below B W W' := ⟨h.os, h.tape, h.output, h.size, fun b hb => h.block b (by omega) fun e => by have := hX b e; omega⟩
set_option maxRecDepth 100000 in
set_option maxHeartbeats 1000000 in
/-- The iterator, made. -/
theorem leavesF_any (w : World) (v0 v1 v2 v3 v4 : Value) :
    Calls Tryd.prog 16 #[.agg #[v0, v1, v2, v3, v4]] w fun e w' => e = .returned (.func (.func 36) #[] #[.pointer (some ⟨w.heap.size, 0, none⟩)]) ∧ w' = w.alloc (.cells #[v0, v1, v2, v3, v4] 25) := by
  go_enter Tryd.func16, Tryd.ntmps16
  go_wp2_with fail
  go_ret
  exact ⟨rfl, rfl⟩
open Go.RowKit Go.Shelf
attribute [local go_sem] Oper.semAt_some
set_option maxRecDepth 100000 in
set_option maxHeartbeats 2000000 in
theorem progLeaves_in (n0 : Nat) (x : V) (w : World) (A K : Option Addr) (c d : Nat) (h : Lies w w.heap.size x A c K d) :
    CallsIn Fence.wide n0 Tryd.prog 5 #[.agg #[.int .i64 x.kind, .int .i64 x.int, .string x.text, .slice A x.items.length c, .slice K x.keys.length d]] w (LAns (leavesOut x) w) := by
  have hb0 := below_al (Below.refl _ w) (.cells #[.int .i64 x.kind, .int .i64 x.int, .string x.text, .slice A x.items.length c, .slice K x.keys.length d] 25)
  have hbx := BlockIs.new w 25 #[.int .i64 x.kind, .int .i64 x.int, .string x.text, .slice A x.items.length c, .slice K x.keys.length d]
  obtain ⟨W1, hW1⟩ : ∃ W1, W1 = w.alloc (.cells #[.int .i64 x.kind, .int .i64 x.int, .string x.text, .slice A x.items.length c, .slice K x.keys.length d] 25) := ⟨_, rfl⟩
  rw [← hW1] at hb0 hbx
  obtain ⟨bv, hbv⟩ : ∃ q, x.valid = q := ⟨_, rfl⟩
  have HV := Lib.hid (valid_yes x W1 A K c d (lies_on h hb0) hbv)
  obtain ⟨l, r, hl⟩ : ∃ l r, leavesOut x = (l, r) := ⟨_, _, rfl⟩
  have HY := Lib.hid (show bv = true → (l, r) = (leavesV [] x, 0) from fun e => by rw [← hl, leavesOut, if_pos (hbv.trans e)])
  have HN := Lib.hid (show bv = false → (l, r) = ([], 1) from fun e => by rw [← hl, leavesOut, if_neg (by rw [hbv, e]; simp)])
  have HOK := Lib.hid (show bv = true → x.ok = true ∧ x.nodes ≤ 60 ∧ x.depth ≤ 6 from fun e => valid_deep (hbv.trans e))
  have HLX := Lib.hid (lies_inn (P := fun b => b < w.heap.size) (fun _ h => h) x h)
  have HB := Lib.hid hb0
  have HX := Lib.hid hbx
  have HW := Lib.hid hW1
  rw [hl]
  clear hb0 hbx hW1 h hbv hl
  obtain ⟨v0, v1, v2, v3, v4⟩ := five_of HX.out
  have vl := HX.out.lt
  have hdd : ∀ k : Nat, (Fence.wide.depth.isSome = true → 1 ≤ k) := fun k h => by cases h
  refine callsIn_of_wp_marks Tryd.func5 rfl trivial ?_
  simp only [Tryd.ntmps5, List.size_toArray, List.length_cons, List.length_nil, Nat.reduceAdd, Nat.reduceSub, Array.replicate_succ, Array.replicate_zero, List.push_toArray, List.append_toArray, List.nil_append, List.cons_append]
  gi_upto_region 1 with (fail)
  rw [← HW.out]
  cases bv
  · have hlr := HN.out rfl
    cases hlr
    gi_wp2_with (refine ⟨trivial, hdd _, (callsIn_wide.2 HV.out).mono ?_⟩; rintro e w1 ⟨rfl, h1⟩)
    exact ⟨_, results_tmp2 rfl _ _ _, none, 0, rfl, LeafRow.none _ _, below_on HB.out h1⟩
  · have hlr := HY.out rfl
    cases hlr
    obtain ⟨hok, hn, hd⟩ := HOK.out rfl
    gi_wp2_with (first | (refine ⟨trivial, hdd _, ?_⟩; gi_at_call 15; refine (callsIn_wide.2 HV.out).mono ?_; rintro e w1 ⟨rfl, h1⟩; have hx1 := HX.out.below h1 HX.out.lt; obtain ⟨u0, u1, u2, u3, u4⟩ := five_of hx1; have ul := hx1.lt) | (refine ⟨trivial, hdd _, ?_⟩; gi_at_call 16; refine (callsIn_wide.2 (leavesF_any _ _ _ _ _ _)).mono ?_; rintro e w2 ⟨rfl, hw2⟩))
    have hlw : w.heap.size + 1 ≤ w1.heap.size := by have := h1.size; have := HX.out.lt; omega
    obtain ⟨L, hL⟩ : ∃ L, L = w1.heap.size := ⟨_, rfl⟩
    obtain ⟨W0, hW0⟩ : ∃ W0, W0 = (w1.alloc (.cells #[.slice none 0 0] 26)).alloc (.cells #[.int .i64 x.kind, .int .i64 x.int, .string x.text, .slice A x.items.length c, .slice K x.keys.length d] 25) := ⟨_, rfl⟩
    have h01 : Below w1.heap.size w1 W0 := by rw [hW0]; exact below_al (below_al (Below.refl _ w1) _) _
    have hs0 : W0.heap.size = L + 2 := by rw [hW0, hL]; simp
    have hbv0 : BlockIs W0 (L + 1) 25 #[.int .i64 x.kind, .int .i64 x.int, .string x.text, .slice A x.items.length c, .slice K x.keys.length d] := by rw [hW0, hL]; exact BlockIs.newAt _ _ _ (by simp)
    have hI0 : LB L (fun b => b = L) [] W0 := by
      have := (LB.coll L).on (fun b => b = L) [] _ W0 (fun _ => False) (by rw [hL]; exact LB.start w1) (by rw [hW0]; exact But.laid _ _) (fun _ _ h => h)
      exact this
    have hwb : Below w.heap.size w W0 := below_on (below_on HB.out h1) h01
    have hx0 : LiesIn (fun b => b < w.heap.size) W0 x A c K d := LiesIn.keep (fun b o hb => bcell hwb b o hb) (fun _ h => h) x HLX.out
    rw [← hW0, ← hL]
    rw [← hL] at hlw
    have HC := Lib.hid (And.intro hbv0 (And.intro hx0 (And.intro hok (And.intro hn hd))))
    have HI0 := Lib.hid hI0
    have HWB := Lib.hid hwb
    have hnl : (leavesV [] x).length ≤ 60 := Nat.le_trans (leavesV_length [] x) hn
    have HNL := Lib.hid hnl
    clear hW0 hL hw2 h01 hbv0 hI0 hwb hx0 hok hn hd u0 u1 u2 u3 u4 ul hx1 h1 v0 v1 v2 v3 v4 vl HX HW HB HV HY HN HOK HLX hnl
    refine range_leaves (gf := 36) (lb := #[.pointer (some ⟨L + 1, 0, none⟩)]) rfl (enters_of Tryd.func36 (by kernel_rfl) rfl) (leavesV [] x) (fun b => b = L) ?seq (LB L) (fun _ _ => False) (LB.coll L) HI0.out (fun _ _ _ _ h _ => h.elim)
      (fun cs B => #[.agg #[.int .i64 x.kind, .int .i64 x.int, .string x.text, .slice A x.items.length c, .slice K x.keys.length d], .pointer (some ⟨w.heap.size, 0, none⟩), .slice none 0 0, .int .i64 0, .pointer (some ⟨L, 0, none⟩), .pointer (some ⟨B, 0, none⟩), .agg #[.int .i64 x.kind, .int .i64 x.int, .string x.text, .slice A x.items.length c, .slice K x.keys.length d], .bool true, .bool false, .agg #[.int .i64 x.kind, .int .i64 x.int, .string x.text, .slice A x.items.length c, .slice K x.keys.length d], .func (.func 36) #[] #[.pointer (some ⟨L + 1, 0, none⟩)], .agg cs.toArray, undef, undef, undef, undef, undef]) 40 ?assign ?body ?done ?stop
    case seq =>
      intro l J Jx U W hJ hY hju hbw hU
      obtain ⟨hbv0, hx0, hok, hn, hd⟩ := HC.out
      have hsz := hbw.size
      have := leaves1_any (n0 - 1) l x J Jx U (fun b => b < w.heap.size) W A K c d (L + 1) hJ hY hju (fun b hb => ⟨by omega, fun hu => by rcases hU b hu with h | h <;> omega⟩) (LiesIn.keep (fun b o hb => bcell hbw b o (by omega)) (fun _ h => h) x hx0) hok (by omega) (by omega) (hbv0.below hbw hbv0.lt)
      simpa using this
    case assign =>
      intro m l D x1 cs W K hleaf hK
      obtain ⟨Ap, cp, A2, c2, K2, d2, rfl, -, -⟩ := hleaf
      gi_wp2
      exact hK
    case body =>
      intro m l U D pre x1 cs B W hI hlen hleaf hD hbx hnB
      obtain ⟨rO, css, Dl, hb, ho, hr, hDl, hU⟩ := hI
      obtain ⟨RA, rc, rfl⟩ := own_form ho
      have hleaf' := hleaf
      obtain ⟨Ap, cp, A2, c2, K2, d2, rfl, -, -⟩ := hleaf'
      obtain ⟨n, hnn⟩ : ∃ n, n = pre.length := ⟨_, rfl⟩
      have hn6 : n ≤ 60 := by have := HNL.out; omega
      rw [← hnn] at hb ho hDl hU
      have HNN := Lib.hid hnn
      clear hnn
      have hl0 : W.cell? ⟨L, 0, none⟩ = some (.slice RA n rc) := hb.cell 0
      have hll := hb.lt
      obtain ⟨b0, b1, b2, b3, b4, b5⟩ : W.cell? ⟨B, 0, none⟩ = some (.slice Ap x1.1.length cp) ∧ W.cell? ⟨B, 1, none⟩ = some (.int .i64 x1.2.kind) ∧ W.cell? ⟨B, 2, none⟩ = some (.int .i64 x1.2.int) ∧ W.cell? ⟨B, 3, none⟩ = some (.string x1.2.text) ∧ W.cell? ⟨B, 4, none⟩ = some (.slice A2 x1.2.items.length c2) ∧ W.cell? ⟨B, 5, none⟩ = some (.slice K2 x1.2.keys.length d2) := ⟨hbx.cell 0, hbx.cell 1, hbx.cell 2, hbx.cell 3, hbx.cell 4, hbx.cell 5⟩
      have hbl := hbx.lt
      have hal := below_al (Below.refl _ W) (.cells #[.slice Ap x1.1.length cp, .int .i64 x1.2.kind, .int .i64 x1.2.int, .string x1.2.text, .slice A2 x1.2.items.length c2, .slice K2 x1.2.keys.length d2] 40)
      obtain ⟨g, cap, w5, hr5, ho5, hg5, hgg, hlt5⟩ := append_leaf 26 (W.alloc (.cells #[.slice Ap x1.1.length cp, .int .i64 x1.2.kind, .int .i64 x1.2.int, .string x1.2.text, .slice A2 x1.2.items.length c2, .slice K2 x1.2.keys.length d2] 40)) (L + 1) (.slice RA n rc) n css.flatten (World.ownsRow.alloc ho _) ⟨W.heap.size, 0, none⟩ [.slice Ap x1.1.length cp, .int .i64 x1.2.kind, .int .i64 x1.2.int, .string x1.2.text, .slice A2 x1.2.items.length c2, .slice K2 x1.2.keys.length d2] rfl (fun k u hu => by rw [Addr.add_lit, Nat.zero_add]; refine ((BlockIs.new W _ _).cell k).trans ?_; rw [List.getElem?_toArray]; exact hu) (by intro u hu; simp at hu; rcases hu with rfl | rfl | rfl | rfl | rfl | rfl <;> rfl) (by omega) (by simp; omega)
      obtain ⟨U', hI', hU', hB'⟩ := LB.more hb ho HNN.out hr hDl hU hleaf (fun b hb => ⟨(hD b hb).1, (hD b hb).2.1⟩) hal ho5 hg5 hgg
      have HR := Lib.hid (And.intro hI' (And.intro hU' hB'))
      have hb5 : BlockIs w5 L 26 #[.slice RA n rc] := (hb.below hal hb.lt).grown hg5 fun e => by have := (World.ownsRow.lt ho L e.symm).1; omega
      have c5 : w5.cell? ⟨L, 0, none⟩ = some (.slice RA n rc) := hb5.cell 0
      have f5 := hb5.frozen 0
      have l5 := hb5.lt
      clear hI' hU' hB' hb ho hr hDl hU hleaf hD hal ho5 hg5 hgg hlt5 hb5
      gi_wp2_with (gi_at_builtin; refine wpListIn_append_run rfl _ _ _ rfl _ _ rfl rfl _ _ hr5 ?_)
      obtain ⟨hI', hU', hB'⟩ := HR.out
      exact ⟨U', hI', fun b hb => (hU' b hb).imp id fun h => h.imp id .inr, hB'⟩
    case done =>
      intro D U W hD hnU hI hB hK
      obtain ⟨A1, c1, hb1, hrow⟩ := LB.done hI
      have hc1 : W.cell? ⟨L, 0, none⟩ = some (.slice A1 (leavesV [] x).length c1) := hb1.cell 0
      have hl1 := hb1.lt
      have hbw : Below w.heap.size w W := HWB.out.trans (hB.to_below (fun b hb => by omega) (by omega))
      have HR := Lib.hid (And.intro hrow (And.intro hbw (And.intro hD hK)))
      clear hI hB hK hrow hbw hb1 hnU hD
      gi_wp2_with fail
      obtain ⟨hrow, hbw, hD, hK⟩ := HR.out
      refine ⟨by simp, .inl ⟨_, _, rfl, run_takeDeferred hK, ?_⟩⟩
      refine ⟨_, results_tmp2 rfl _ _ _, A1, c1, rfl, hrow.keep (fun b o hb => ?_) (fun b hb => ?_), ?_⟩
      · by_cases e : b = D
        · subst e
          simp [World.cell?, hK, World.putObj_heap_same (Array.getElem?_eq_some_iff.1 hK).1]
        · exact World.cell?_of_block (World.putObj_heap_other e)
      · rw [World.putObj_size]; exact hb
      · exact hbw.trans ((But.put W D _).to_below (fun b hb => by have := HWB.out.size; omega) hbw.size)
    case stop =>
      intro D q W _ _ h
      exact h.elim
/-- What the program's Leaves answers. -/
theorem progLeaves_any (x : V) (w : World) (A K : Option Addr) (c d : Nat) (h : Lies w w.heap.size x A c K d) :
    Calls Tryd.prog 5 #[.agg #[.int .i64 x.kind, .int .i64 x.int, .string x.text, .slice A x.items.length c, .slice K x.keys.length d]] w (LAns (leavesOut x) w) := (callsIn_wide (n := 0)).1 (progLeaves_in 0 x w A K c d h)
open Go.RowKit
set_option maxRecDepth 100000 in
set_option maxHeartbeats 4000000 in
theorem refPath_same (p : List Stp) (w : World) (A A' : Option Addr) (c c' : Nat) (hp : PLies w w.heap.size A c p) (hq : PLies w w.heap.size A' c' p) :
    Calls Tryd.prog 21 #[.slice A p.length c, .slice A' p.length c'] w fun e w' => e = .returned (.int .i64 0) ∧ Below w.heap.size w w' := by
  obtain ⟨n, hn⟩ : ∃ n, n = p.length := ⟨_, rfl⟩
  have HN := Lib.hid hn
  have HP := Lib.hid fun W (hW : Below w.heap.size w W) => hp.on hW
  have HQ := Lib.hid fun W (hW : Below w.heap.size w W) => hq.on hW
  have hnl : n ≤ maxLen := by have := hp.1; have := hp.2.1; omega
  unfold maxLen at hnl
  rw [← hn]
  clear hp hq hn
  go_enter Tryd.func21, Tryd.ntmps21
  go_wp2_with fail
  go_loopw [5] (fun iv wr => ∃ j : Nat, iv = .int .i64 j ∧ j ≤ n ∧ Hid (Below w.heap.size w wr)) (fun iv _ => n - (intOf iv).toNat)
  case atStart => exact ⟨0, rfl, Nat.zero_le _, Lib.hid (Below.refl _ w)⟩
  case round =>
    obtain ⟨j, rfl, hj1, hI⟩ := hrel
    by_cases hlt : j < n
    · obtain ⟨a, ha⟩ : ∃ a, p[j]? = some a := ⟨_, List.getElem?_eq_getElem (by rw [← HN.out]; exact hlt)⟩
      obtain ⟨ba, oa, rfl, hbA, a0, a1, -⟩ := (HP.out _ hI.out).at_ ha
      obtain ⟨bb, ob, rfl, hbB, b0, b1, -⟩ := (HQ.out _ hI.out).at_ ha
      have hji : (j : Int) < n := by omega
      have hj0 : 0 ≤ (j : Int) := by omega
      obtain ⟨i, t⟩ := a
      clear ha
      simp only at a0 a1 b0 b1
      have n1 := World.new_ne wr _ a0
      have n2 := World.new_ne wr _ b0
      go_wp2_with fail
      go_region_held3 (fun w' => w'.cell? ⟨ba, oa + j * 2, none⟩ = some (.int .i64 i) ∧ w'.cell? ⟨ba, oa + j * 2 + 1, none⟩ = some (.string t) ∧ w'.cell? ⟨bb, ob + j * 2, none⟩ = some (.int .i64 i) ∧ w'.cell? ⟨bb, ob + j * 2 + 1, none⟩ = some (.string t))
        (go_keep)
        (fail)
      all_goals
        clear n1 n2 a0 a1 b0 b1
        go_wp2_with fail
        go_roundw
        case rel => exact ⟨j + 1, by go_num, by omega, Lib.hid (by repeat (first | with_reducible exact hI.out.drew | with_reducible exact hI.out | with_reducible refine below_al ?_ _ | with_reducible refine Below.drew ?_))⟩
        case measure => simp [intOf]; omega
    · have hji : ¬ (j : Int) < n := by omega
      go_wp2_with fail
      go_ret
      exact ⟨rfl, hI.out⟩
/-- The cells of two leaves. -/
theorem leaf_cells {wr W : World} {b1 q1 b2 q2 : Nat} {x0 x1 x2 x3 x4 x5 y0 y1 y2 y3 y4 y5 : Value} (hb : Below wr.heap.size wr W) (h1 : b1 < wr.heap.size) (h2 : b2 < wr.heap.size)
    (hx : wr.cell? ⟨b1, q1, none⟩ = some x0 ∧ wr.cell? ⟨b1, q1 + 1, none⟩ = some x1 ∧ wr.cell? ⟨b1, q1 + 2, none⟩ = some x2 ∧ wr.cell? ⟨b1, q1 + 3, none⟩ = some x3 ∧ wr.cell? ⟨b1, q1 + 4, none⟩ = some x4 ∧ wr.cell? ⟨b1, q1 + 5, none⟩ = some x5)
    (hy : wr.cell? ⟨b2, q2, none⟩ = some y0 ∧ wr.cell? ⟨b2, q2 + 1, none⟩ = some y1 ∧ wr.cell? ⟨b2, q2 + 2, none⟩ = some y2 ∧ wr.cell? ⟨b2, q2 + 3, none⟩ = some y3 ∧ wr.cell? ⟨b2, q2 + 4, none⟩ = some y4 ∧ wr.cell? ⟨b2, q2 + 5, none⟩ = some y5) :
    Hid (Below wr.heap.size wr W) ∧ (W.cell? ⟨b1, q1, none⟩ = some x0 ∧ W.cell? ⟨b1, q1 + 1, none⟩ = some x1 ∧ W.cell? ⟨b1, q1 + 2, none⟩ = some x2 ∧ W.cell? ⟨b1, q1 + 3, none⟩ = some x3 ∧ W.cell? ⟨b1, q1 + 4, none⟩ = some x4 ∧ W.cell? ⟨b1, q1 + 5, none⟩ = some x5) ∧ (W.cell? ⟨b2, q2, none⟩ = some y0 ∧ W.cell? ⟨b2, q2 + 1, none⟩ = some y1 ∧ W.cell? ⟨b2, q2 + 2, none⟩ = some y2 ∧ W.cell? ⟨b2, q2 + 3, none⟩ = some y3 ∧ W.cell? ⟨b2, q2 + 4, none⟩ = some y4 ∧ W.cell? ⟨b2, q2 + 5, none⟩ = some y5) := by
  obtain ⟨e0, e1, e2, e3, e4, e5⟩ := hx
  obtain ⟨f0, f1, f2, f3, f4, f5⟩ := hy
  exact ⟨Lib.hid hb, ⟨(bcell hb _ _ h1).trans e0, (bcell hb _ _ h1).trans e1, (bcell hb _ _ h1).trans e2, (bcell hb _ _ h1).trans e3, (bcell hb _ _ h1).trans e4, (bcell hb _ _ h1).trans e5⟩, (bcell hb _ _ h2).trans f0, (bcell hb _ _ h2).trans f1, (bcell hb _ _ h2).trans f2, (bcell hb _ _ h2).trans f3, (bcell hb _ _ h2).trans f4, (bcell hb _ _ h2).trans f5⟩
theorem LeafRow.on {w w' : World} {A : Option Addr} {c : Nat} {l : List Lf} (h : LeafRow (fun b => b < w.heap.size) w A c l) (hb : Below w.heap.size w w') : LeafRow (fun b => b < w'.heap.size) w' A c l :=
  h.keep (fun b o hlt => bcell hb b o hlt) (fun b hlt => by have := hb.size; omega)
set_option maxRecDepth 100000 in
set_option maxHeartbeats 4000000 in
theorem refSameLeaves_same (l : List Lf) (w : World) (A A' : Option Addr) (c c' : Nat) (h : LeafRow (fun b => b < w.heap.size) w A c l) (h' : LeafRow (fun b => b < w.heap.size) w A' c' l) :
    Calls Tryd.prog 9 #[.slice A l.length c, .slice A' l.length c'] w fun e w' => e = .returned (.bool true) ∧ Below w.heap.size w w' := by
  obtain ⟨n, hn⟩ : ∃ n, n = l.length := ⟨_, rfl⟩
  have HN := Lib.hid hn
  have HP := Lib.hid fun W (hW : Below w.heap.size w W) => h.on hW
  have HQ := Lib.hid fun W (hW : Below w.heap.size w W) => h'.on hW
  have hnl : n ≤ maxLen := by have := h.1; have := h.2.1; omega
  have hnc : n ≤ c := by have := h.1; omega
  have hnc' : n ≤ c' := by have := h'.1; omega
  have HC := Lib.hid fun (x : Lf) W A c A' c' (h : PLies W W.heap.size A c x.1) (h' : PLies W W.heap.size A' c' x.1) => refPath_same x.1 W A A' c c' h h'
  have HS := Lib.hid fun (u : V) W A K c d A' K' c' d' (h : Lies W W.heap.size u A c K d) (h' : Lies W W.heap.size u A' c' K' d') => show Calls Tryd.prog 13 #[.agg #[.int .i64 u.kind, .int .i64 u.int, .string u.text, .slice A u.items.length c, .slice K u.keys.length d], .agg #[.int .i64 u.kind, .int .i64 u.int, .string u.text, .slice A' u.items.length c', .slice K' u.keys.length d']] W fun e w' => e = .returned (.bool true) ∧ Below W.heap.size W w' from same_is u u W A K c d A' K' c' d' h h' (r := true) (by simp)
  unfold maxLen at hnl
  rw [← hn]
  clear h h' hn
  go_enter Tryd.func9, Tryd.ntmps9
  go_wp2_with fail
  go_loopw [5] (fun iv wr => ∃ j : Nat, iv = .int .i64 j ∧ j ≤ n ∧ Hid (Below w.heap.size w wr)) (fun iv _ => n - (intOf iv).toNat)
  case atStart => exact ⟨0, rfl, Nat.zero_le _, Lib.hid (Below.refl _ w)⟩
  case round =>
    obtain ⟨j, rfl, hj1, hI⟩ := hrel
    by_cases hlt : j < n
    · obtain ⟨x, hx⟩ : ∃ x, l[j]? = some x := ⟨_, List.getElem?_eq_getElem (by rw [← HN.out]; exact hlt)⟩
      obtain ⟨b1, o1, Ap, cp, A1, c1, K1, d1, rfl, hb1, hc1, hp1, hl1⟩ := (HP.out _ hI.out).at_ hx
      obtain ⟨b2, o2, Aq, cq, A2, c2, K2, d2, rfl, hb2, hc2, hp2, hl2⟩ := (HQ.out _ hI.out).at_ hx
      have HC1 := Lib.hid fun W (hW : Below wr.heap.size wr W) => HC.out x W Ap cp Aq cq ((hp1.lies (fun _ h => h)).on hW) ((hp2.lies (fun _ h => h)).on hW)
      have HS1 := Lib.hid fun W (hW : Below wr.heap.size wr W) => HS.out x.2 W A1 K1 c1 d1 A2 K2 c2 d2 (lies_on (LiesIn.lies (fun _ h => h) _ hl1) hW) (lies_on (LiesIn.lies (fun _ h => h) _ hl2) hW)
      have HK := Lib.hid (And.intro hc1 hc2)
      have hji : (j : Int) < n := by omega
      have hj0 : 0 ≤ (j : Int) := by omega
      clear hx hp1 hp2 hl1 hl2 hc1 hc2 HC HS
      go_upto_region 6 with (fail)
      go_region_held3 (fun W => Hid (Below wr.heap.size wr W) ∧ (W.cell? ⟨b1, o1 + j * 6, none⟩ = some (.slice Ap x.1.length cp) ∧ W.cell? ⟨b1, o1 + j * 6 + 1, none⟩ = some (.int .i64 x.2.kind) ∧ W.cell? ⟨b1, o1 + j * 6 + 2, none⟩ = some (.int .i64 x.2.int) ∧ W.cell? ⟨b1, o1 + j * 6 + 3, none⟩ = some (.string x.2.text) ∧ W.cell? ⟨b1, o1 + j * 6 + 4, none⟩ = some (.slice A1 x.2.items.length c1) ∧ W.cell? ⟨b1, o1 + j * 6 + 5, none⟩ = some (.slice K1 x.2.keys.length d1)) ∧ (W.cell? ⟨b2, o2 + j * 6, none⟩ = some (.slice Aq x.1.length cq) ∧ W.cell? ⟨b2, o2 + j * 6 + 1, none⟩ = some (.int .i64 x.2.kind) ∧ W.cell? ⟨b2, o2 + j * 6 + 2, none⟩ = some (.int .i64 x.2.int) ∧ W.cell? ⟨b2, o2 + j * 6 + 3, none⟩ = some (.string x.2.text) ∧ W.cell? ⟨b2, o2 + j * 6 + 4, none⟩ = some (.slice A2 x.2.items.length c2) ∧ W.cell? ⟨b2, o2 + j * 6 + 5, none⟩ = some (.slice K2 x.2.keys.length d2)))
        (first
          | (with_reducible exact leaf_cells (Below.drew (Below.refl _ _)) hb1 hb2 HK.out.1 HK.out.2)
          | (with_reducible exact leaf_cells hB1 hb1 hb2 HK.out.1 HK.out.2)
          | (with_reducible exact leaf_cells hB2 hb1 hb2 HK.out.1 HK.out.2))
        (first
          | (go_at_call 21; refine (HC1.out _ ?_).mono ?_; (go_split_ands; exact Hid.out (by assumption)); rintro e w1 ⟨rfl, h1⟩; have hB1 : Below wr.heap.size wr w1 := (by go_split_ands; exact below_on (Hid.out (by assumption)) h1))
          | (go_at_call 13; refine (HS1.out _ ?_).mono ?_; (go_split_ands; exact Hid.out (by assumption)); rintro e w2 ⟨rfl, h2⟩; have hB2 : Below wr.heap.size wr w2 := (by go_split_ands; exact below_on (Hid.out (by assumption)) h2)))
      all_goals
        have HB2 := Lib.hid (below_on hI.out hB2)
        clear HK HC1 HS1 h1 h2 hB1 hB2
        go_wp2_with fail
        go_roundw
        case rel => exact ⟨j + 1, by go_num, by omega, HB2⟩
        case measure => simp [intOf]; omega
    · have hji : ¬ (j : Int) < n := by omega
      go_wp2_with fail
      go_ret
      exact ⟨rfl, hI.out⟩
end Go.Proofs.YtebmjefimbcefaaDoor
