/- PROVED: for every value the law VariantBuilt (Build of the Leaves of a valid value is the value, and Get gives each leaf at its path) returns true and leaves its argument as it reads before; the card ties the three listed tables. -/
import Derived.Test.YtchadlbhdcpojaaDoorJq
import Derived.Test.YtchadlbhdcpojaaDoorJr
import Derived.Test.YtchadlbhdcpojaaDoorJl
import Derived.Test.YtchadlbhdcpojaaDoorJn
import Derived.Test.YtchadlbhdcpojaaDoorZc
import Derived.Test.YtchadlbhdcpojaaDoorZr
namespace Go.Proofs.YtchadlbhdcpojaaDoor
open Go.RowKit
theorem getV_leaf {a : V} (h : a.valid = true) {x : Lf} (hx : x ∈ leavesV [] a) : getV a x.1 = (x.2, true, 0) := by
  obtain ⟨h1, -, h3⟩ := leaves_okL h hx
  unfold getV
  rw [if_pos (by rw [h, h1]; rfl), h3]
theorem leaves_bare : ∀ (N : Nat) (x : V), x.nodes ≤ N → ∀ (p : List Stp) (y : Lf), y ∈ leavesV p x → y.2.items = []
  | 0, x, hN => by have := V.nodes_pos x; omega
  | N + 1, x, hN => by
    intro p y hy
    by_cases h0 : x.items = []
    · rw [leavesV_none h0, List.mem_singleton] at hy
      rw [hy]
      exact h0
    · rw [leavesV_items h0] at hy
      obtain ⟨j, c, hj, hy⟩ := leavesL_mem hy
      have hm := List.mem_of_getElem? hj
      have := V.nodes_mem hm
      have := nodes_items x
      exact leaves_bare N c (by omega) _ y hy
theorem bare_keys {y : V} (h : y.ok = true) (h0 : y.items = []) : y.keys = [] := by
  by_cases h5 : y.kind = 5
  · have := (okk h).2.2 h5
    rw [h0] at this
    exact List.length_eq_zero_iff.1 this
  · exact (okk h).2.1 h5
/-- What has no items lies anywhere. -/
theorem lies_bare {w w' : World} {B B' : Nat} : ∀ (x : V) {A : Option Addr} {c : Nat} {K : Option Addr} {d : Nat}, x.items = [] → x.keys = [] → Lies w B x A c K d → Lies w' B' x A c K d
  | .mk _ _ _ items keys, _, _, _, _, hi, hk, h => by
    obtain ⟨h1, h2, h3, h4, h5⟩ := h
    exact ⟨h1, h2, h3, ⟨h4.1, h4.2.1, .inl hk⟩, .inl hi⟩
theorem GetPost.form4 {x y : V} {p : List Stp} {b : Bool} {n : Int} (hy : getV x p = (y, b, n)) {w w' : World} {e : Ending} (h : GetPost x p w e w') :
    ∃ A c K d, e = .returned (.tuple #[.agg #[.int .i64 y.kind, .int .i64 y.int, .string y.text, .slice A y.items.length c, .slice K y.keys.length d], .bool b, .int .i64 n]) ∧ Lies w' w'.heap.size y A c K d ∧ Below w.heap.size w w' := by
  unfold GetPost at h
  rw [hy] at h
  exact h
/-- What a round looks at. -/
theorem built_cells {wr X : World} {g b q : Nat} {x0 x1 x2 x3 x4 y0 y1 y2 y3 y4 y5 : Value} (hb : Below wr.heap.size wr X) (h1 : g < wr.heap.size) (h2 : b < wr.heap.size)
    (hx : wr.cell? ⟨g, 0, none⟩ = some x0 ∧ wr.cell? ⟨g, 1, none⟩ = some x1 ∧ wr.cell? ⟨g, 2, none⟩ = some x2 ∧ wr.cell? ⟨g, 3, none⟩ = some x3 ∧ wr.cell? ⟨g, 4, none⟩ = some x4)
    (hy : wr.cell? ⟨b, q, none⟩ = some y0 ∧ wr.cell? ⟨b, q + 1, none⟩ = some y1 ∧ wr.cell? ⟨b, q + 2, none⟩ = some y2 ∧ wr.cell? ⟨b, q + 3, none⟩ = some y3 ∧ wr.cell? ⟨b, q + 4, none⟩ = some y4 ∧ wr.cell? ⟨b, q + 5, none⟩ = some y5) :
    Hid (Below wr.heap.size wr X) ∧ (X.cell? ⟨g, 0, none⟩ = some x0 ∧ X.cell? ⟨g, 1, none⟩ = some x1 ∧ X.cell? ⟨g, 2, none⟩ = some x2 ∧ X.cell? ⟨g, 3, none⟩ = some x3 ∧ X.cell? ⟨g, 4, none⟩ = some x4) ∧ (X.cell? ⟨b, q, none⟩ = some y0 ∧ X.cell? ⟨b, q + 1, none⟩ = some y1 ∧ X.cell? ⟨b, q + 2, none⟩ = some y2 ∧ X.cell? ⟨b, q + 3, none⟩ = some y3 ∧ X.cell? ⟨b, q + 4, none⟩ = some y4 ∧ X.cell? ⟨b, q + 5, none⟩ = some y5) := by
  obtain ⟨e0, e1, e2, e3, e4⟩ := hx
  obtain ⟨f0, f1, f2, f3, f4, f5⟩ := hy
  exact ⟨Lib.hid hb, ⟨(bcell hb _ _ h1).trans e0, (bcell hb _ _ h1).trans e1, (bcell hb _ _ h1).trans e2, (bcell hb _ _ h1).trans e3, (bcell hb _ _ h1).trans e4⟩, (bcell hb _ _ h2).trans f0, (bcell hb _ _ h2).trans f1, (bcell hb _ _ h2).trans f2, (bcell hb _ _ h2).trans f3, (bcell hb _ _ h2).trans f4, (bcell hb _ _ h2).trans f5⟩
set_option maxRecDepth 100000 in
set_option maxHeartbeats 4000000 in
theorem law_built (a : V) (w : World) (A K : Option Addr) (c d : Nat) (ha : Lies w w.heap.size a A c K d) (hpw : Pow w) :
    Calls Tryd.prog 3 #[aggOf a A c K d] w fun e w' => e = .returned (.bool true) ∧ Below w.heap.size w w' := by
  have HA := Lib.hid fun W (hW : Below w.heap.size w W) => awake2_any W (hpw.on hW)
  obtain ⟨W0, hW0⟩ : ∃ W0, W0 = w.alloc (.cells #[.int .i64 a.kind, .int .i64 a.int, .string a.text, .slice A a.items.length c, .slice K a.keys.length d] 25) := ⟨_, rfl⟩
  have hb0 : Below w.heap.size w W0 := by rw [hW0]; exact below_al (Below.refl _ w) _
  have hx0 : BlockIs W0 w.heap.size 25 #[.int .i64 a.kind, .int .i64 a.int, .string a.text, .slice A a.items.length c, .slice K a.keys.length d] := by rw [hW0]; exact BlockIs.new w _ _
  obtain ⟨bv, hbv⟩ : ∃ q, a.valid = q := ⟨_, rfl⟩
  have HV := Lib.hid fun W (hW : Below w.heap.size w W) => show Calls Tryd.prog 4 #[.agg #[.int .i64 a.kind, .int .i64 a.int, .string a.text, .slice A a.items.length c, .slice K a.keys.length d]] W (fun e w' => e = .returned (.bool bv) ∧ Below W.heap.size W w') from by
    rw [← hbv]; exact refValid_any a W A K c d (lies_on ha hW)
  obtain ⟨l, hl⟩ : ∃ l, l = leavesV [] a := ⟨_, rfl⟩
  have HLV := Lib.hid fun (h : bv = true) W (hW : Below w.heap.size w W) => show Calls Tryd.prog 6 #[.agg #[.int .i64 a.kind, .int .i64 a.int, .string a.text, .slice A a.items.length c, .slice K a.keys.length d]] W (LAns (l, 0) W) from by
    have := progLeaves_any a W A K c d (lies_on ha hW)
    rw [leavesOut, if_pos (hbv.trans h), ← hl] at this
    exact this
  have HBD := Lib.hid fun (h : bv = true) W A1 c1 (hr : LeafRow (fun b => b < W.heap.size) W A1 c1 l) => show Calls Tryd.prog 7 #[.slice A1 l.length c1] W (PutAns (a, 0) W) from by
    have := progBuild_any l W A1 c1 hr
    rw [hl, buildOut_leaves (hbv.trans h), ← hl] at this
    exact this
  have HS := Lib.hid fun (u : V) W A K c d A' K' c' d' (h : Lies W W.heap.size u A c K d) (h' : Lies W W.heap.size u A' c' K' d') => same_is u u W A K c d A' K' c' d' h h' (r := true) (by simp)
  have HG := Lib.hid fun (h : bv = true) (x : Lf) (hx : x ∈ l) W Ap cp (hW : Below w.heap.size w W) (hp : PLies W W.heap.size Ap cp x.1) => (get_any a x.1 W A K c d Ap cp (lies_on ha hW) hp).mono fun _ _ h' => GetPost.form4 (getV_leaf (hbv.trans h) (hl ▸ hx)) h'
  have HBARE := Lib.hid fun (h : bv = true) (x : Lf) (hx : x ∈ l) => show x.2.items = [] ∧ x.2.keys = [] from by
    have h0 := leaves_bare a.nodes a (Nat.le_refl _) [] x (hl ▸ hx)
    exact ⟨h0, bare_keys (valid_deep (leaves_okL (hbv.trans h) (hl ▸ hx)).2.1).1 h0⟩
  have HAL := Lib.hid fun W (hW : Below w.heap.size w W) => lies_on ha hW
  have hlen : bv = true → l.length ≤ 60 := fun h => by rw [hl]; exact Nat.le_trans (leavesV_length [] a) (valid_deep (hbv.trans h)).2.1
  have HW := Lib.hid hW0
  have HB := Lib.hid (And.intro hb0 hx0)
  have HLN := Lib.hid hlen
  clear ha hpw hW0 hb0 hbv hl hlen
  unfold aggOf
  obtain ⟨v0, v1, v2, v3, v4⟩ := five_of hx0
  have vl := hx0.lt
  clear hx0
  go_enter Tryd.func3, Tryd.ntmps3
  go_upto_region 1 with (fail)
  rw [← HW.out]
  go_wp2_with fail
  refine (HV.out _ HB.out.1).mono ?_
  rintro e w1 ⟨rfl, h1⟩
  have H1 := Lib.hid (And.intro (below_on HB.out.1 h1) (HB.out.2.below h1 HB.out.2.lt))
  clear h1 v0 v1 v2 v3 v4 vl HV HB HW
  cases bv
  · go_wp2_with fail
    refine (HA.out _ H1.out.1).mono ?_
    rintro e w2 ⟨rfl, h2⟩
    have H2 := Lib.hid (below_on H1.out.1 h2)
    clear h2
    go_wp2_with fail
    go_ret
    exact ⟨rfl, H2.out⟩
  · obtain ⟨v0, v1, v2, v3, v4⟩ := five_of H1.out.2
    have vl := H1.out.2.lt
    go_wp2_with fail
    refine (HLV.out (by trivial) _ H1.out.1).mono ?_
    rintro e w2 ⟨A1, c1, rfl, hr2, h2⟩
    have H2 := Lib.hid (And.intro (below_on H1.out.1 h2) (And.intro (H1.out.2.below h2 H1.out.2.lt) hr2))
    clear h2 hr2 v0 v1 v2 v3 v4 vl H1 HLV
    obtain ⟨n, hn⟩ : ∃ n, n = l.length := ⟨_, rfl⟩
    have hn6 : n ≤ 60 := by rw [hn]; exact HLN.out (by trivial)
    have hnc : n ≤ c1 := by rw [hn]; exact H2.out.2.2.1
    have hcm := H2.out.2.2.2.1
    unfold maxLen at hcm
    rw [← hn] at HBD
    have HN := Lib.hid hn
    simp only
    rw [← hn]
    clear hn HLN
    go_wp2_with fail
    refine (HBD.out (by trivial) _ A1 c1 H2.out.2.2).mono ?_
    rintro e w3 ⟨A2, c2, K2, d2, rfl, hl3, h3⟩
    obtain ⟨W4, hW4⟩ : ∃ W4, W4 = w3.alloc (.cells #[.int .i64 a.kind, .int .i64 a.int, .string a.text, .slice A2 a.items.length c2, .slice K2 a.keys.length d2] 25) := ⟨_, rfl⟩
    have h34 : Below w3.heap.size w3 W4 := by rw [hW4]; exact below_al (Below.refl _ w3) _
    have hx4 : BlockIs W4 w3.heap.size 25 #[.int .i64 a.kind, .int .i64 a.int, .string a.text, .slice A2 a.items.length c2, .slice K2 a.keys.length d2] := by rw [hW4]; exact BlockIs.new w3 _ _
    have h24 := below_on h3 h34
    have H4 := Lib.hid (And.intro (below_on H2.out.1 h24) (And.intro (H2.out.2.1.below h24 H2.out.2.1.lt) (And.intro (H2.out.2.2.keep (P' := fun b => b < W4.heap.size) (fun b o hb => bcell h24 b o hb) (fun b hb => by have := h24.size; omega)) (And.intro hx4 (lies_on hl3 h34)))))
    have HW4 := Lib.hid hW4
    clear hl3 h3 h34 hx4 h24 hW4 H2 HBD
    unfold aggOf
    go_upto_region 5 with (fail)
    rw [← HW4.out]
    obtain ⟨v0, v1, v2, v3, v4⟩ := five_of H4.out.2.1
    have vl := H4.out.2.1.lt
    obtain ⟨u0, u1, u2, u3, u4⟩ := five_of H4.out.2.2.2.1
    have ul := H4.out.2.2.2.1.lt
    go_wp2_with fail
    refine (HS.out a _ A K c d A2 K2 c2 d2 (HAL.out _ H4.out.1) H4.out.2.2.2.2).mono ?_
    rintro e w5 ⟨rfl, h5⟩
    have H5 := Lib.hid (And.intro (below_on H4.out.1 h5) (And.intro (H4.out.2.1.below h5 H4.out.2.1.lt) (H4.out.2.2.1.keep (P' := fun b => b < w5.heap.size) (fun b o hb => bcell h5 b o hb) (fun b hb => by have := h5.size; omega))))
    clear h5 v0 v1 v2 v3 v4 vl u0 u1 u2 u3 u4 ul H4 HW4
    go_wp2_with fail
    go_loopw [7] (fun iv wr => ∃ j : Nat, iv = .int .i64 j ∧ j ≤ n ∧ Hid (Below w5.heap.size w5 wr)) (fun iv _ => n - (intOf iv).toNat)
    case atStart => exact ⟨0, rfl, Nat.zero_le _, Lib.hid (Below.refl _ w5)⟩
    case round =>
      obtain ⟨j, rfl, hj1, hI⟩ := hrel
      have HWR := Lib.hid (And.intro (below_on H5.out.1 hI.out) (And.intro (H5.out.2.1.below hI.out H5.out.2.1.lt) (H5.out.2.2.keep (P' := fun b => b < wr.heap.size) (fun b o hb => bcell hI.out b o hb) (fun b hb => by have := hI.out.size; omega))))
      by_cases hlt : j < n
      · obtain ⟨x, hx⟩ : ∃ x, l[j]? = some x := ⟨_, List.getElem?_eq_getElem (by rw [← HN.out]; exact hlt)⟩
        obtain ⟨b, o, Ap, cp, Ax, cx, Kx, dx, rfl, hb, hcs, hp, hv⟩ := HWR.out.2.2.at_ hx
        obtain ⟨v0, v1, v2, v3, v4⟩ := five_of HWR.out.2.1
        have HC := Lib.hid fun X (hX : Below wr.heap.size wr X) => built_cells hX HWR.out.2.1.lt hb ⟨v0, v1, v2, v3, v4⟩ hcs
        have HGX := Lib.hid fun X (hX : Below wr.heap.size wr X) => HG.out (by trivial) x (List.mem_of_getElem? hx) X Ap cp (below_on HWR.out.1 hX) ((hp.lies (fun _ h => h)).on hX)
        have HLX := Lib.hid fun X (hX : Below wr.heap.size wr X) => lies_on (LiesIn.lies (fun _ h => h) _ hv) hX
        have hji : (j : Int) < n := by omega
        have hj0 : 0 ≤ (j : Int) := by omega
        have HCS := Lib.hid (And.intro hb hcs)
        have HBR := Lib.hid (HBARE.out (by trivial) x (List.mem_of_getElem? hx))
        clear hx hp hv hcs v0 v1 v2 v3 v4 HG
        go_upto_region 10 with (fail)
        refine wp_region_held_drew (S := (fun X : World => Hid (Below wr.heap.size wr X) ∧ (X.cell? ⟨w.heap.size, 0, none⟩ = some (.int .i64 a.kind) ∧ X.cell? ⟨w.heap.size, 1, none⟩ = some (.int .i64 a.int) ∧ X.cell? ⟨w.heap.size, 2, none⟩ = some (.string a.text) ∧ X.cell? ⟨w.heap.size, 3, none⟩ = some (.slice A a.items.length c) ∧ X.cell? ⟨w.heap.size, 4, none⟩ = some (.slice K a.keys.length d)) ∧ (X.cell? ⟨b, o + j * 6, none⟩ = some (.slice Ap x.1.length cp) ∧ X.cell? ⟨b, o + j * 6 + 1, none⟩ = some (.int .i64 x.2.kind) ∧ X.cell? ⟨b, o + j * 6 + 2, none⟩ = some (.int .i64 x.2.int) ∧ X.cell? ⟨b, o + j * 6 + 3, none⟩ = some (.string x.2.text) ∧ X.cell? ⟨b, o + j * 6 + 4, none⟩ = some (.slice Ax x.2.items.length cx) ∧ X.cell? ⟨b, o + j * 6 + 5, none⟩ = some (.slice Kx x.2.keys.length dx)))) (by kernel_rfl) (HC.out _ (Below.drew (Below.refl _ wr))) (fun hH0 => ?_)
        refine wpAnyH_take (i := 0) (oi := { dst := some 44, op := Go.Op.load 25 (Go.Operand.tmp 1), type := 25, pos := "outright.go:44", after := #[], guard := none }) (v := ?_) rfl (by kernel_rfl) (by kernel_rfl) (by kernel_rfl) (fun _ _ _ h => h) (Or.inl ⟨by rfl, ?_⟩) (by assumption) ?_
        rotate_left
        · (intro w hSw; (try dsimp only at hSw); go_simp; try with_reducible rfl)
        (try simp only [Act.put, List.setIfInBounds_toArray, List.set_cons_zero, List.set_cons_succ])
        refine wpAnyH_take (i := 1) (oi := { dst := some 45, op := Go.Op.move (Go.Operand.tmp 3), type := 28, pos := "outright.go:44", after := #[], guard := none }) (v := ?_) rfl (by kernel_rfl) (by kernel_rfl) (by kernel_rfl) (fun _ _ _ h => h) (Or.inl ⟨by rfl, ?_⟩) (by assumption) ?_
        rotate_left
        · (intro w hSw; (try dsimp only at hSw); go_simp; try with_reducible rfl)
        (try simp only [Act.put, List.setIfInBounds_toArray, List.set_cons_zero, List.set_cons_succ])
        refine wpAnyH_take (i := 2) (oi := { dst := some 46, op := Go.Op.move (Go.Operand.tmp 7), type := 3, pos := "outright.go:44", after := #[], guard := none }) (v := ?_) rfl (by kernel_rfl) (by kernel_rfl) (by kernel_rfl) (fun _ _ _ h => h) (Or.inl ⟨by rfl, ?_⟩) (by assumption) ?_
        rotate_left
        · (intro w hSw; (try dsimp only at hSw); go_simp; try with_reducible rfl)
        (try simp only [Act.put, List.setIfInBounds_toArray, List.set_cons_zero, List.set_cons_succ])
        refine wpAnyH_take (i := 3) (oi := { dst := some 47, op := Go.Op.indexAddr 28 (Go.Operand.tmp 45) (Go.Operand.tmp 46), type := 0, pos := "outright.go:44", after := #[{ on := 1, ground := Go.Ground.data }, { on := 2, ground := Go.Ground.data }], guard := none }) (v := ?_) rfl (by kernel_rfl) (by kernel_rfl) (by kernel_rfl) (fun _ _ _ h => h) (Or.inl ⟨by rfl, ?_⟩) (by assumption) ?_
        rotate_left
        · (intro w hSw; (try dsimp only at hSw); go_simp; try with_reducible rfl)
        (try simp only [Act.put, List.setIfInBounds_toArray, List.set_cons_zero, List.set_cons_succ])
        refine wpAnyH_take (i := 4) (oi := { dst := some 48, op := Go.Op.fieldAddr 39 (Go.Operand.tmp 47) 0, type := 0, pos := "outright.go:44", after := #[{ on := 3, ground := Go.Ground.data }], guard := none }) (v := ?_) rfl (by kernel_rfl) (by kernel_rfl) (by kernel_rfl) (fun _ _ _ h => h) (Or.inl ⟨by rfl, ?_⟩) (by assumption) ?_
        rotate_left
        · (intro w hSw; (try dsimp only at hSw); go_simp; try with_reducible rfl)
        (try simp only [Act.put, List.setIfInBounds_toArray, List.set_cons_zero, List.set_cons_succ])
        refine wpAnyH_take (i := 5) (oi := { dst := some 49, op := Go.Op.load 37 (Go.Operand.tmp 48), type := 37, pos := "outright.go:44", after := #[{ on := 4, ground := Go.Ground.data }], guard := none }) (v := ?_) rfl (by kernel_rfl) (by kernel_rfl) (by kernel_rfl) (fun _ _ _ h => h) (Or.inl ⟨by rfl, ?_⟩) (by assumption) ?_
        rotate_left
        · (intro w hSw; (try dsimp only at hSw); go_simp; try with_reducible rfl)
        (try simp only [Act.put, List.setIfInBounds_toArray, List.set_cons_zero, List.set_cons_succ])
        refine wpAnyH_ready (rs := [6, 11]) (by kernel_rfl) (by simp) ?_
        refine AllReadyH.cons (o := { dst := some 50, op := Go.Op.call { callee := Go.Callee.value (Go.Operand.func 9), args := #[Go.Operand.tmp 44, Go.Operand.tmp 49], argTypes := #[25, 37] }, type := 35, pos := "outright.go:44", after := #[{ on := 0, ground := Go.Ground.data }, { on := 5, ground := Go.Ground.data }], guard := none }) rfl (fun KK hK => ?_) (AllReadyH.cons (o := { dst := some 8, op := Go.Op.alloc 25, type := 0, pos := "outright.go:44", after := #[], guard := none }) rfl (fun KK hK => ?_) (AllReadyH.nil))
        · go_simp
          refine (HGX.out _ hH0.1.out).mono ?_
          rintro e w6 ⟨A', c', K', d', rfl, hl6, h6⟩
          have hb6 := below_on hH0.1.out h6
          (try go_wp2_with fail)
          refine hK.out _ _ (HC.out _ hb6) (fun hH1 => ?_)
          clear hK KK
          (try simp only [Act.put, List.setIfInBounds_toArray, List.set_cons_zero, List.set_cons_succ])
          refine wpAnyH_take (i := 7) (oi := { dst := some 43, op := Go.Op.move (Go.Operand.tmp 50), type := 35, pos := "outright.go:44", after := #[{ on := 6, ground := Go.Ground.data }], guard := none }) (v := ?_) rfl (by kernel_rfl) (by kernel_rfl) (by kernel_rfl) (fun _ _ _ h => h) (Or.inl ⟨by rfl, ?_⟩) (by assumption) ?_
          rotate_left
          · (intro w hSw; (try dsimp only at hSw); go_simp; try with_reducible rfl)
          (try simp only [Act.put, List.setIfInBounds_toArray, List.set_cons_zero, List.set_cons_succ])
          refine wpAnyH_take (i := 8) (oi := { dst := some 51, op := Go.Op.extract (Go.Operand.tmp 43) 0, type := 25, pos := "outright.go:44", after := #[{ on := 7, ground := Go.Ground.data }], guard := none }) (v := ?_) rfl (by kernel_rfl) (by kernel_rfl) (by kernel_rfl) (fun _ _ _ h => h) (Or.inl ⟨by rfl, ?_⟩) (by assumption) ?_
          rotate_left
          · (intro w hSw; (try dsimp only at hSw); go_simp; try with_reducible rfl)
          (try simp only [Act.put, List.setIfInBounds_toArray, List.set_cons_zero, List.set_cons_succ])
          refine wpAnyH_take (i := 9) (oi := { dst := some 52, op := Go.Op.extract (Go.Operand.tmp 43) 1, type := 4, pos := "outright.go:44", after := #[{ on := 7, ground := Go.Ground.data }, { on := 12, ground := Go.Ground.gcOnly Go.Departure.lateStores }], guard := none }) (v := ?_) rfl (by kernel_rfl) (by kernel_rfl) (by kernel_rfl) (fun _ _ _ h => h) (Or.inl ⟨by rfl, ?_⟩) (by assumption) ?_
          rotate_left
          · (intro w hSw; (try dsimp only at hSw); go_simp; try with_reducible rfl)
          (try simp only [Act.put, List.setIfInBounds_toArray, List.set_cons_zero, List.set_cons_succ])
          refine wpAnyH_take (i := 10) (oi := { dst := some 53, op := Go.Op.extract (Go.Operand.tmp 43) 2, type := 29, pos := "outright.go:44", after := #[{ on := 7, ground := Go.Ground.data }, { on := 13, ground := Go.Ground.gcOnly Go.Departure.lateStores }], guard := none }) (v := ?_) rfl (by kernel_rfl) (by kernel_rfl) (by kernel_rfl) (fun _ _ _ h => h) (Or.inl ⟨by rfl, ?_⟩) (by assumption) ?_
          rotate_left
          · (intro w hSw; (try dsimp only at hSw); go_simp; try with_reducible rfl)
          (try simp only [Act.put, List.setIfInBounds_toArray, List.set_cons_zero, List.set_cons_succ])
          refine wpAnyH_ready (rs := [11]) (by kernel_rfl) (by simp) ?_
          refine AllReadyH.cons (o := { dst := some 8, op := Go.Op.alloc 25, type := 0, pos := "outright.go:44", after := #[], guard := none }) rfl (fun KK hK => ?_) (AllReadyH.nil)
          · go_simp
            refine hK.out _ _ (HC.out _ (below_al hH1.1.out _)) (fun hH2 => ?_)
            clear hK KK
            (try simp only [Act.put, List.setIfInBounds_toArray, List.set_cons_zero, List.set_cons_succ])
            refine wpAnyH_ready (rs := [12]) (by kernel_rfl) (by simp) ?_
            refine AllReadyH.cons (o := { dst := none, op := Go.Op.store 25 (Go.Operand.tmp 8) (Go.Operand.tmp 51), type := 0, pos := "outright.go:44", after := #[{ on := 11, ground := Go.Ground.data }, { on := 8, ground := Go.Ground.data }, { on := 6, ground := Go.Ground.chain }, { on := 0, ground := Go.Ground.phase }, { on := 1, ground := Go.Ground.phase }, { on := 2, ground := Go.Ground.phase }, { on := 3, ground := Go.Ground.phase }, { on := 4, ground := Go.Ground.phase }, { on := 5, ground := Go.Ground.phase }, { on := 6, ground := Go.Ground.phase }, { on := 7, ground := Go.Ground.phase }, { on := 8, ground := Go.Ground.phase }, { on := 9, ground := Go.Ground.textOnly Go.Departure.lateStores }, { on := 10, ground := Go.Ground.textOnly Go.Departure.lateStores }, { on := 11, ground := Go.Ground.phase }], guard := none }) rfl (fun KK hK => ?_) (AllReadyH.nil)
            · go_simp
              refine hK.out _ _ (HC.out _ (by first | exact below_al hb6 _ | exact ((((hb6.setCell (Nat.le_refl _) _).setCell (Nat.le_refl _) _).setCell (Nat.le_refl _) _).setCell (Nat.le_refl _) _).setCell (Nat.le_refl _) _)) (fun hH3 => ?_)
              clear hK KK
              (try simp only [Act.put, List.setIfInBounds_toArray, List.set_cons_zero, List.set_cons_succ])
              refine wpAnyH_take (i := 13) (oi := { dst := some 9, op := Go.Op.assign (Go.Operand.tmp 52), type := 4, pos := "outright.go:44", after := #[{ on := 9, ground := Go.Ground.data }, { on := 12, ground := Go.Ground.chain }, { on := 0, ground := Go.Ground.phase }, { on := 1, ground := Go.Ground.phase }, { on := 2, ground := Go.Ground.phase }, { on := 3, ground := Go.Ground.phase }, { on := 4, ground := Go.Ground.phase }, { on := 5, ground := Go.Ground.phase }, { on := 6, ground := Go.Ground.phase }, { on := 7, ground := Go.Ground.phase }, { on := 8, ground := Go.Ground.phase }, { on := 9, ground := Go.Ground.phase }, { on := 10, ground := Go.Ground.textOnly Go.Departure.lateStores }, { on := 11, ground := Go.Ground.phase }, { on := 12, ground := Go.Ground.phase }], guard := none }) (v := ?_) rfl (by kernel_rfl) (by kernel_rfl) (by kernel_rfl) (fun _ _ _ h => h) (Or.inl ⟨by rfl, ?_⟩) (by assumption) ?_
              rotate_left
              · (intro w hSw; (try dsimp only at hSw); go_simp; try with_reducible rfl)
              (try simp only [Act.put, List.setIfInBounds_toArray, List.set_cons_zero, List.set_cons_succ])
              refine wpAnyH_take (i := 14) (oi := { dst := some 10, op := Go.Op.assign (Go.Operand.tmp 53), type := 29, pos := "outright.go:44", after := #[{ on := 10, ground := Go.Ground.data }, { on := 13, ground := Go.Ground.chain }, { on := 0, ground := Go.Ground.phase }, { on := 1, ground := Go.Ground.phase }, { on := 2, ground := Go.Ground.phase }, { on := 3, ground := Go.Ground.phase }, { on := 4, ground := Go.Ground.phase }, { on := 5, ground := Go.Ground.phase }, { on := 6, ground := Go.Ground.phase }, { on := 7, ground := Go.Ground.phase }, { on := 8, ground := Go.Ground.phase }, { on := 9, ground := Go.Ground.phase }, { on := 10, ground := Go.Ground.phase }, { on := 11, ground := Go.Ground.phase }, { on := 12, ground := Go.Ground.phase }, { on := 13, ground := Go.Ground.phase }], guard := none }) (v := ?_) rfl (by kernel_rfl) (by kernel_rfl) (by kernel_rfl) (fun _ _ _ h => h) (Or.inl ⟨by rfl, ?_⟩) (by assumption) ?_
              rotate_left
              · (intro w hSw; (try dsimp only at hSw); go_simp; try with_reducible rfl)
              (try simp only [Act.put, List.setIfInBounds_toArray, List.set_cons_zero, List.set_cons_succ])
              refine wpAnyH_done (by kernel_rfl) ?_ _
              obtain ⟨W7, hW7⟩ : ∃ W7, W7 = w6.alloc (.cells #[.int .i64 x.2.kind, .int .i64 x.2.int, .string x.2.text, .slice A' x.2.items.length c', .slice K' x.2.keys.length d'] 25) := ⟨_, rfl⟩
              have hbx7 : BlockIs W7 w6.heap.size 25 #[.int .i64 x.2.kind, .int .i64 x.2.int, .string x.2.text, .slice A' x.2.items.length c', .slice K' x.2.keys.length d'] := by rw [hW7]; exact BlockIs.new w6 _ _
              have hb7 : Below wr.heap.size wr W7 := by rw [hW7]; exact below_al hb6 _
              rw [← hW7]
              obtain ⟨g, hg⟩ : ∃ g, g = w6.heap.size := ⟨_, rfl⟩
              rw [← hg] at hbx7 ⊢
              have H7 := Lib.hid (And.intro hb7 (show Lies W7 W7.heap.size x.2 A' c' K' d' from lies_bare x.2 HBR.out.1 HBR.out.2 hl6))
              have HC7 := Lib.hid fun X (hX : Below W7.heap.size W7 X) => built_cells hX hbx7.lt (by have := hb7.size; have := HCS.out.1; omega) (five_of hbx7) (HC.out _ hb7).2.2
              have HL7 := Lib.hid fun X (hX : Below W7.heap.size W7 X) => And.intro (lies_on H7.out.2 hX) (HLX.out X (below_on hb7 hX))
              clear hH0 hH1 hH2 hH3 hb6 hl6 h6 hbx7 hb7 hg hW7
              go_upto_region 11 with (fail)
              refine wp_region_held_drew (S := (fun X : World => Hid (Below W7.heap.size W7 X) ∧ (X.cell? ⟨g, 0, none⟩ = some (.int .i64 x.2.kind) ∧ X.cell? ⟨g, 1, none⟩ = some (.int .i64 x.2.int) ∧ X.cell? ⟨g, 2, none⟩ = some (.string x.2.text) ∧ X.cell? ⟨g, 3, none⟩ = some (.slice A' x.2.items.length c') ∧ X.cell? ⟨g, 4, none⟩ = some (.slice K' x.2.keys.length d')) ∧ (X.cell? ⟨b, o + j * 6, none⟩ = some (.slice Ap x.1.length cp) ∧ X.cell? ⟨b, o + j * 6 + 1, none⟩ = some (.int .i64 x.2.kind) ∧ X.cell? ⟨b, o + j * 6 + 2, none⟩ = some (.int .i64 x.2.int) ∧ X.cell? ⟨b, o + j * 6 + 3, none⟩ = some (.string x.2.text) ∧ X.cell? ⟨b, o + j * 6 + 4, none⟩ = some (.slice Ax x.2.items.length cx) ∧ X.cell? ⟨b, o + j * 6 + 5, none⟩ = some (.slice Kx x.2.keys.length dx)))) (by kernel_rfl) (HC7.out _ (Below.drew (Below.refl _ W7))) (fun hH0 => ?_)
              refine wpAnyH_take (i := 0) (oi := { dst := some 54, op := Go.Op.move (Go.Operand.tmp 9), type := 4, pos := "outright.go:45", after := #[], guard := none }) (v := ?_) rfl (by kernel_rfl) (by kernel_rfl) (by kernel_rfl) (fun _ _ _ h => h) (Or.inl ⟨by rfl, ?_⟩) (by assumption) ?_
              rotate_left
              · (intro w hSw; (try dsimp only at hSw); go_simp; try with_reducible rfl)
              (try simp only [Act.put, List.setIfInBounds_toArray, List.set_cons_zero, List.set_cons_succ])
              refine wpAnyH_take (i := 1) (oi := { dst := some 55, op := Go.Op.unOp Go.UnOp.not 4 (Go.Operand.tmp 54), type := 4, pos := "outright.go:45", after := #[{ on := 0, ground := Go.Ground.data }], guard := none }) (v := ?_) rfl (by kernel_rfl) (by kernel_rfl) (by kernel_rfl) (fun _ _ _ h => h) (Or.inl ⟨by rfl, ?_⟩) (by assumption) ?_
              rotate_left
              · (intro w hSw; (try dsimp only at hSw); go_simp; try with_reducible rfl)
              (try simp only [Act.put, List.setIfInBounds_toArray, List.set_cons_zero, List.set_cons_succ])
              refine wpAnyH_take (i := 2) (oi := { dst := some 56, op := Go.Op.move (Go.Operand.tmp 55), type := 4, pos := "outright.go:45", after := #[{ on := 1, ground := Go.Ground.data }], guard := none }) (v := ?_) rfl (by kernel_rfl) (by kernel_rfl) (by kernel_rfl) (fun _ _ _ h => h) (Or.inl ⟨by rfl, ?_⟩) (by assumption) ?_
              rotate_left
              · (intro w hSw; (try dsimp only at hSw); go_simp; try with_reducible rfl)
              (try simp only [Act.put, List.setIfInBounds_toArray, List.set_cons_zero, List.set_cons_succ])
              refine wpAnyH_take (i := 3) (oi := { dst := some 57, op := Go.Op.move (Go.Operand.tmp 10), type := 29, pos := "outright.go:45", after := #[{ on := 2, ground := Go.Ground.guard }], guard := some (2, false) }) (v := ?_) rfl (by kernel_rfl) (by kernel_rfl) (by kernel_rfl) (fun _ _ _ h => h) (Or.inl ⟨by rfl, ?_⟩) (by assumption) ?_
              rotate_left
              · (intro w hSw; (try dsimp only at hSw); go_simp; try with_reducible rfl)
              (try simp only [Act.put, List.setIfInBounds_toArray, List.set_cons_zero, List.set_cons_succ])
              refine wpAnyH_take (i := 4) (oi := { dst := some 58, op := Go.Op.binOp Go.BinOp.neq 29 (Go.Operand.tmp 57) (Go.Operand.const (Go.Value.int Go.IntKind.i64 0)) 29, type := 4, pos := "outright.go:45", after := #[{ on := 3, ground := Go.Ground.data }, { on := 2, ground := Go.Ground.guard }], guard := some (2, false) }) (v := ?_) rfl (by kernel_rfl) (by kernel_rfl) (by kernel_rfl) (fun _ _ _ h => h) (Or.inl ⟨by rfl, ?_⟩) (by assumption) ?_
              rotate_left
              · (intro w hSw; (try dsimp only at hSw); go_simp; try with_reducible rfl)
              (try simp only [Act.put, List.setIfInBounds_toArray, List.set_cons_zero, List.set_cons_succ])
              refine wpAnyH_take (i := 5) (oi := { dst := some 59, op := Go.Op.pick (Go.Operand.tmp 56) (Go.Operand.const (Go.Value.bool true)) (Go.Operand.tmp 58), type := 4, pos := "outright.go:45", after := #[{ on := 2, ground := Go.Ground.data }, { on := 4, ground := Go.Ground.data }], guard := none }) (v := ?_) rfl (by kernel_rfl) (by kernel_rfl) (by kernel_rfl) (fun _ _ _ h => h) (Or.inl ⟨by rfl, ?_⟩) (by assumption) ?_
              rotate_left
              · (intro w hSw; (try dsimp only at hSw); go_simp; try with_reducible rfl)
              (try simp only [Act.put, List.setIfInBounds_toArray, List.set_cons_zero, List.set_cons_succ])
              refine wpAnyH_take (i := 6) (oi := { dst := some 60, op := Go.Op.move (Go.Operand.tmp 59), type := 4, pos := "outright.go:45", after := #[{ on := 5, ground := Go.Ground.data }, { on := 2, ground := Go.Ground.chain }], guard := none }) (v := ?_) rfl (by kernel_rfl) (by kernel_rfl) (by kernel_rfl) (fun _ _ _ h => h) (Or.inl ⟨by rfl, ?_⟩) (by assumption) ?_
              rotate_left
              · (intro w hSw; (try dsimp only at hSw); go_simp; try with_reducible rfl)
              (try simp only [Act.put, List.setIfInBounds_toArray, List.set_cons_zero, List.set_cons_succ])
              refine wpAnyH_take (i := 7) (oi := { dst := some 61, op := Go.Op.load 25 (Go.Operand.tmp 8), type := 25, pos := "outright.go:45", after := #[{ on := 6, ground := Go.Ground.guard }], guard := some (6, false) }) (v := ?_) rfl (by kernel_rfl) (by kernel_rfl) (by kernel_rfl) (fun _ _ _ h => h) (Or.inl ⟨by rfl, ?_⟩) (by assumption) ?_
              rotate_left
              · (intro w hSw; (try dsimp only at hSw); go_simp; try with_reducible rfl)
              (try simp only [Act.put, List.setIfInBounds_toArray, List.set_cons_zero, List.set_cons_succ])
              refine wpAnyH_take (i := 8) (oi := { dst := some 62, op := Go.Op.move (Go.Operand.tmp 3), type := 28, pos := "outright.go:45", after := #[{ on := 6, ground := Go.Ground.guard }], guard := some (6, false) }) (v := ?_) rfl (by kernel_rfl) (by kernel_rfl) (by kernel_rfl) (fun _ _ _ h => h) (Or.inl ⟨by rfl, ?_⟩) (by assumption) ?_
              rotate_left
              · (intro w hSw; (try dsimp only at hSw); go_simp; try with_reducible rfl)
              (try simp only [Act.put, List.setIfInBounds_toArray, List.set_cons_zero, List.set_cons_succ])
              refine wpAnyH_take (i := 9) (oi := { dst := some 63, op := Go.Op.move (Go.Operand.tmp 7), type := 3, pos := "outright.go:45", after := #[{ on := 6, ground := Go.Ground.guard }], guard := some (6, false) }) (v := ?_) rfl (by kernel_rfl) (by kernel_rfl) (by kernel_rfl) (fun _ _ _ h => h) (Or.inl ⟨by rfl, ?_⟩) (by assumption) ?_
              rotate_left
              · (intro w hSw; (try dsimp only at hSw); go_simp; try with_reducible rfl)
              (try simp only [Act.put, List.setIfInBounds_toArray, List.set_cons_zero, List.set_cons_succ])
              refine wpAnyH_take (i := 10) (oi := { dst := some 64, op := Go.Op.indexAddr 28 (Go.Operand.tmp 62) (Go.Operand.tmp 63), type := 0, pos := "outright.go:45", after := #[{ on := 8, ground := Go.Ground.data }, { on := 9, ground := Go.Ground.data }, { on := 6, ground := Go.Ground.guard }], guard := some (6, false) }) (v := ?_) rfl (by kernel_rfl) (by kernel_rfl) (by kernel_rfl) (fun _ _ _ h => h) (Or.inl ⟨by rfl, ?_⟩) (by assumption) ?_
              rotate_left
              · (intro w hSw; (try dsimp only at hSw); go_simp; try with_reducible rfl)
              (try simp only [Act.put, List.setIfInBounds_toArray, List.set_cons_zero, List.set_cons_succ])
              refine wpAnyH_take (i := 11) (oi := { dst := some 65, op := Go.Op.fieldAddr 39 (Go.Operand.tmp 64) 1, type := 0, pos := "outright.go:45", after := #[{ on := 10, ground := Go.Ground.data }, { on := 6, ground := Go.Ground.guard }], guard := some (6, false) }) (v := ?_) rfl (by kernel_rfl) (by kernel_rfl) (by kernel_rfl) (fun _ _ _ h => h) (Or.inl ⟨by rfl, ?_⟩) (by assumption) ?_
              rotate_left
              · (intro w hSw; (try dsimp only at hSw); go_simp; try with_reducible rfl)
              (try simp only [Act.put, List.setIfInBounds_toArray, List.set_cons_zero, List.set_cons_succ])
              refine wpAnyH_take (i := 12) (oi := { dst := some 66, op := Go.Op.load 25 (Go.Operand.tmp 65), type := 25, pos := "outright.go:45", after := #[{ on := 11, ground := Go.Ground.data }, { on := 6, ground := Go.Ground.guard }], guard := some (6, false) }) (v := ?_) rfl (by kernel_rfl) (by kernel_rfl) (by kernel_rfl) (fun _ _ _ h => h) (Or.inl ⟨by rfl, ?_⟩) (by assumption) ?_
              rotate_left
              · (intro w hSw; (try dsimp only at hSw); go_simp; try with_reducible rfl)
              (try simp only [Act.put, List.setIfInBounds_toArray, List.set_cons_zero, List.set_cons_succ])
              refine wpAnyH_ready (rs := [13]) (by kernel_rfl) (by simp) ?_
              refine AllReadyH.cons (o := { dst := some 67, op := Go.Op.call { callee := Go.Callee.value (Go.Operand.func 8), args := #[Go.Operand.tmp 61, Go.Operand.tmp 66], argTypes := #[25, 25] }, type := 4, pos := "outright.go:45", after := #[{ on := 7, ground := Go.Ground.data }, { on := 12, ground := Go.Ground.data }, { on := 6, ground := Go.Ground.chain }, { on := 6, ground := Go.Ground.guard }], guard := some (6, false) }) rfl (fun KK hK => ?_) (AllReadyH.nil)
              · go_simp
                refine (HS.out x.2 _ A' K' c' d' Ax Kx cx dx (HL7.out _ hH0.1.out).1 (HL7.out _ hH0.1.out).2).mono ?_
                rintro e w8 ⟨rfl, h8⟩
                have hb8 := below_on hH0.1.out h8
                (try go_wp2_with fail)
                refine hK.out _ _ (HC7.out _ hb8) (fun hH1 => ?_)
                clear hK KK
                (try simp only [Act.put, List.setIfInBounds_toArray, List.set_cons_zero, List.set_cons_succ])
                refine wpAnyH_take (i := 14) (oi := { dst := some 68, op := Go.Op.unOp Go.UnOp.not 4 (Go.Operand.tmp 67), type := 4, pos := "outright.go:45", after := #[{ on := 13, ground := Go.Ground.data }, { on := 6, ground := Go.Ground.guard }], guard := some (6, false) }) (v := ?_) rfl (by kernel_rfl) (by kernel_rfl) (by kernel_rfl) (fun _ _ _ h => h) (Or.inl ⟨by rfl, ?_⟩) (by assumption) ?_
                rotate_left
                · (intro w hSw; (try dsimp only at hSw); go_simp; try with_reducible rfl)
                (try simp only [Act.put, List.setIfInBounds_toArray, List.set_cons_zero, List.set_cons_succ])
                refine wpAnyH_take (i := 15) (oi := { dst := some 69, op := Go.Op.pick (Go.Operand.tmp 60) (Go.Operand.const (Go.Value.bool true)) (Go.Operand.tmp 68), type := 4, pos := "outright.go:45", after := #[{ on := 6, ground := Go.Ground.data }, { on := 14, ground := Go.Ground.data }], guard := none }) (v := ?_) rfl (by kernel_rfl) (by kernel_rfl) (by kernel_rfl) (fun _ _ _ h => h) (Or.inl ⟨by rfl, ?_⟩) (by assumption) ?_
                rotate_left
                · (intro w hSw; (try dsimp only at hSw); go_simp; try with_reducible rfl)
                (try simp only [Act.put, List.setIfInBounds_toArray, List.set_cons_zero, List.set_cons_succ])
                refine wpAnyH_done (by kernel_rfl) ?_ _
                have HB8 := Lib.hid (below_on hI.out (below_on H7.out.1 hb8))
                clear hH0 hH1 h8 hb8 HC7 HL7 H7
                go_wp2_with fail
                go_roundw
                case rel => exact ⟨j + 1, by go_num, by omega, HB8⟩
                case measure => simp [intOf]; omega
        · go_simp
          refine hK.out _ _ (HC.out _ (below_al hH0.1.out _)) (fun hH1 => ?_)
          clear hK KK
          (try simp only [Act.put, List.setIfInBounds_toArray, List.set_cons_zero, List.set_cons_succ])
          refine wpAnyH_ready (rs := [6]) (by kernel_rfl) (by simp) ?_
          refine AllReadyH.cons (o := { dst := some 50, op := Go.Op.call { callee := Go.Callee.value (Go.Operand.func 9), args := #[Go.Operand.tmp 44, Go.Operand.tmp 49], argTypes := #[25, 37] }, type := 35, pos := "outright.go:44", after := #[{ on := 0, ground := Go.Ground.data }, { on := 5, ground := Go.Ground.data }], guard := none }) rfl (fun KK hK => ?_) (AllReadyH.nil)
          · go_simp
            refine (HGX.out _ hH1.1.out).mono ?_
            rintro e w6 ⟨A', c', K', d', rfl, hl6, h6⟩
            have hb6 := below_on hH1.1.out h6
            have hbg : BlockIs w6 wr.heap.size 25 #[.int .i64 0, .int .i64 0, .string ⟨#[]⟩, .slice none 0 0, .slice none 0 0] := (BlockIs.new wr.drew 25 #[.int .i64 0, .int .i64 0, .string ⟨#[]⟩, .slice none 0 0, .slice none 0 0]).below h6 (by simp)
            obtain ⟨g0, g1, g2, g3, g4⟩ := five_of hbg
            have gl := hbg.lt
            have gf0 := hbg.frozen 0
            have gf1 := hbg.frozen 1
            have gf2 := hbg.frozen 2
            have gf3 := hbg.frozen 3
            have gf4 := hbg.frozen 4
            (try go_wp2_with fail)
            refine hK.out _ _ (HC.out _ hb6) (fun hH2 => ?_)
            clear hK KK
            (try simp only [Act.put, List.setIfInBounds_toArray, List.set_cons_zero, List.set_cons_succ])
            refine wpAnyH_take (i := 7) (oi := { dst := some 43, op := Go.Op.move (Go.Operand.tmp 50), type := 35, pos := "outright.go:44", after := #[{ on := 6, ground := Go.Ground.data }], guard := none }) (v := ?_) rfl (by kernel_rfl) (by kernel_rfl) (by kernel_rfl) (fun _ _ _ h => h) (Or.inl ⟨by rfl, ?_⟩) (by assumption) ?_
            rotate_left
            · (intro w hSw; (try dsimp only at hSw); go_simp; try with_reducible rfl)
            (try simp only [Act.put, List.setIfInBounds_toArray, List.set_cons_zero, List.set_cons_succ])
            refine wpAnyH_take (i := 8) (oi := { dst := some 51, op := Go.Op.extract (Go.Operand.tmp 43) 0, type := 25, pos := "outright.go:44", after := #[{ on := 7, ground := Go.Ground.data }], guard := none }) (v := ?_) rfl (by kernel_rfl) (by kernel_rfl) (by kernel_rfl) (fun _ _ _ h => h) (Or.inl ⟨by rfl, ?_⟩) (by assumption) ?_
            rotate_left
            · (intro w hSw; (try dsimp only at hSw); go_simp; try with_reducible rfl)
            (try simp only [Act.put, List.setIfInBounds_toArray, List.set_cons_zero, List.set_cons_succ])
            refine wpAnyH_take (i := 9) (oi := { dst := some 52, op := Go.Op.extract (Go.Operand.tmp 43) 1, type := 4, pos := "outright.go:44", after := #[{ on := 7, ground := Go.Ground.data }, { on := 12, ground := Go.Ground.gcOnly Go.Departure.lateStores }], guard := none }) (v := ?_) rfl (by kernel_rfl) (by kernel_rfl) (by kernel_rfl) (fun _ _ _ h => h) (Or.inl ⟨by rfl, ?_⟩) (by assumption) ?_
            rotate_left
            · (intro w hSw; (try dsimp only at hSw); go_simp; try with_reducible rfl)
            (try simp only [Act.put, List.setIfInBounds_toArray, List.set_cons_zero, List.set_cons_succ])
            refine wpAnyH_take (i := 10) (oi := { dst := some 53, op := Go.Op.extract (Go.Operand.tmp 43) 2, type := 29, pos := "outright.go:44", after := #[{ on := 7, ground := Go.Ground.data }, { on := 13, ground := Go.Ground.gcOnly Go.Departure.lateStores }], guard := none }) (v := ?_) rfl (by kernel_rfl) (by kernel_rfl) (by kernel_rfl) (fun _ _ _ h => h) (Or.inl ⟨by rfl, ?_⟩) (by assumption) ?_
            rotate_left
            · (intro w hSw; (try dsimp only at hSw); go_simp; try with_reducible rfl)
            (try simp only [Act.put, List.setIfInBounds_toArray, List.set_cons_zero, List.set_cons_succ])
            refine wpAnyH_ready (rs := [12]) (by kernel_rfl) (by simp) ?_
            refine AllReadyH.cons (o := { dst := none, op := Go.Op.store 25 (Go.Operand.tmp 8) (Go.Operand.tmp 51), type := 0, pos := "outright.go:44", after := #[{ on := 11, ground := Go.Ground.data }, { on := 8, ground := Go.Ground.data }, { on := 6, ground := Go.Ground.chain }, { on := 0, ground := Go.Ground.phase }, { on := 1, ground := Go.Ground.phase }, { on := 2, ground := Go.Ground.phase }, { on := 3, ground := Go.Ground.phase }, { on := 4, ground := Go.Ground.phase }, { on := 5, ground := Go.Ground.phase }, { on := 6, ground := Go.Ground.phase }, { on := 7, ground := Go.Ground.phase }, { on := 8, ground := Go.Ground.phase }, { on := 9, ground := Go.Ground.textOnly Go.Departure.lateStores }, { on := 10, ground := Go.Ground.textOnly Go.Departure.lateStores }, { on := 11, ground := Go.Ground.phase }], guard := none }) rfl (fun KK hK => ?_) (AllReadyH.nil)
            · go_simp
              refine hK.out _ _ (HC.out _ (by first | exact below_al hb6 _ | exact ((((hb6.setCell (Nat.le_refl _) _).setCell (Nat.le_refl _) _).setCell (Nat.le_refl _) _).setCell (Nat.le_refl _) _).setCell (Nat.le_refl _) _)) (fun hH3 => ?_)
              clear hK KK
              (try simp only [Act.put, List.setIfInBounds_toArray, List.set_cons_zero, List.set_cons_succ])
              refine wpAnyH_take (i := 13) (oi := { dst := some 9, op := Go.Op.assign (Go.Operand.tmp 52), type := 4, pos := "outright.go:44", after := #[{ on := 9, ground := Go.Ground.data }, { on := 12, ground := Go.Ground.chain }, { on := 0, ground := Go.Ground.phase }, { on := 1, ground := Go.Ground.phase }, { on := 2, ground := Go.Ground.phase }, { on := 3, ground := Go.Ground.phase }, { on := 4, ground := Go.Ground.phase }, { on := 5, ground := Go.Ground.phase }, { on := 6, ground := Go.Ground.phase }, { on := 7, ground := Go.Ground.phase }, { on := 8, ground := Go.Ground.phase }, { on := 9, ground := Go.Ground.phase }, { on := 10, ground := Go.Ground.textOnly Go.Departure.lateStores }, { on := 11, ground := Go.Ground.phase }, { on := 12, ground := Go.Ground.phase }], guard := none }) (v := ?_) rfl (by kernel_rfl) (by kernel_rfl) (by kernel_rfl) (fun _ _ _ h => h) (Or.inl ⟨by rfl, ?_⟩) (by assumption) ?_
              rotate_left
              · (intro w hSw; (try dsimp only at hSw); go_simp; try with_reducible rfl)
              (try simp only [Act.put, List.setIfInBounds_toArray, List.set_cons_zero, List.set_cons_succ])
              refine wpAnyH_take (i := 14) (oi := { dst := some 10, op := Go.Op.assign (Go.Operand.tmp 53), type := 29, pos := "outright.go:44", after := #[{ on := 10, ground := Go.Ground.data }, { on := 13, ground := Go.Ground.chain }, { on := 0, ground := Go.Ground.phase }, { on := 1, ground := Go.Ground.phase }, { on := 2, ground := Go.Ground.phase }, { on := 3, ground := Go.Ground.phase }, { on := 4, ground := Go.Ground.phase }, { on := 5, ground := Go.Ground.phase }, { on := 6, ground := Go.Ground.phase }, { on := 7, ground := Go.Ground.phase }, { on := 8, ground := Go.Ground.phase }, { on := 9, ground := Go.Ground.phase }, { on := 10, ground := Go.Ground.phase }, { on := 11, ground := Go.Ground.phase }, { on := 12, ground := Go.Ground.phase }, { on := 13, ground := Go.Ground.phase }], guard := none }) (v := ?_) rfl (by kernel_rfl) (by kernel_rfl) (by kernel_rfl) (fun _ _ _ h => h) (Or.inl ⟨by rfl, ?_⟩) (by assumption) ?_
              rotate_left
              · (intro w hSw; (try dsimp only at hSw); go_simp; try with_reducible rfl)
              (try simp only [Act.put, List.setIfInBounds_toArray, List.set_cons_zero, List.set_cons_succ])
              refine wpAnyH_done (by kernel_rfl) ?_ _
              obtain ⟨W7, hW7⟩ : ∃ W7, W7 = ((((w6.setCell ⟨wr.heap.size, 0, none⟩ (.int .i64 x.2.kind)).setCell ⟨wr.heap.size, 1, none⟩ (.int .i64 x.2.int)).setCell ⟨wr.heap.size, 2, none⟩ (.string x.2.text)).setCell ⟨wr.heap.size, 3, none⟩ (.slice A' x.2.items.length c')).setCell ⟨wr.heap.size, 4, none⟩ (.slice K' x.2.keys.length d') := ⟨_, rfl⟩
              have hbx7 : BlockIs W7 wr.heap.size 25 #[.int .i64 x.2.kind, .int .i64 x.2.int, .string x.2.text, .slice A' x.2.items.length c', .slice K' x.2.keys.length d'] := by rw [hW7]; simpa using ((((hbg.set_ 0 (.int .i64 x.2.kind)).set_ 1 (.int .i64 x.2.int)).set_ 2 (.string x.2.text)).set_ 3 (.slice A' x.2.items.length c')).set_ 4 (.slice K' x.2.keys.length d')
              have hb7 : Below wr.heap.size wr W7 := by rw [hW7]; exact ((((hb6.setCell (Nat.le_refl _) _).setCell (Nat.le_refl _) _).setCell (Nat.le_refl _) _).setCell (Nat.le_refl _) _).setCell (Nat.le_refl _) _
              rw [← hW7]
              obtain ⟨g, hg⟩ : ∃ g, g = wr.heap.size := ⟨_, rfl⟩
              rw [← hg] at hbx7 ⊢
              have H7 := Lib.hid (And.intro hb7 (show Lies W7 W7.heap.size x.2 A' c' K' d' from lies_bare x.2 HBR.out.1 HBR.out.2 hl6))
              have HC7 := Lib.hid fun X (hX : Below W7.heap.size W7 X) => built_cells hX hbx7.lt (by have := hb7.size; have := HCS.out.1; omega) (five_of hbx7) (HC.out _ hb7).2.2
              have HL7 := Lib.hid fun X (hX : Below W7.heap.size W7 X) => And.intro (lies_on H7.out.2 hX) (HLX.out X (below_on hb7 hX))
              clear hH0 hH1 hH2 hH3 hb6 hl6 h6 hbx7 hb7 hg hW7
              clear hbg g0 g1 g2 g3 g4 gl gf0 gf1 gf2 gf3 gf4
              go_upto_region 11 with (fail)
              refine wp_region_held_drew (S := (fun X : World => Hid (Below W7.heap.size W7 X) ∧ (X.cell? ⟨g, 0, none⟩ = some (.int .i64 x.2.kind) ∧ X.cell? ⟨g, 1, none⟩ = some (.int .i64 x.2.int) ∧ X.cell? ⟨g, 2, none⟩ = some (.string x.2.text) ∧ X.cell? ⟨g, 3, none⟩ = some (.slice A' x.2.items.length c') ∧ X.cell? ⟨g, 4, none⟩ = some (.slice K' x.2.keys.length d')) ∧ (X.cell? ⟨b, o + j * 6, none⟩ = some (.slice Ap x.1.length cp) ∧ X.cell? ⟨b, o + j * 6 + 1, none⟩ = some (.int .i64 x.2.kind) ∧ X.cell? ⟨b, o + j * 6 + 2, none⟩ = some (.int .i64 x.2.int) ∧ X.cell? ⟨b, o + j * 6 + 3, none⟩ = some (.string x.2.text) ∧ X.cell? ⟨b, o + j * 6 + 4, none⟩ = some (.slice Ax x.2.items.length cx) ∧ X.cell? ⟨b, o + j * 6 + 5, none⟩ = some (.slice Kx x.2.keys.length dx)))) (by kernel_rfl) (HC7.out _ (Below.drew (Below.refl _ W7))) (fun hH0 => ?_)
              refine wpAnyH_take (i := 0) (oi := { dst := some 54, op := Go.Op.move (Go.Operand.tmp 9), type := 4, pos := "outright.go:45", after := #[], guard := none }) (v := ?_) rfl (by kernel_rfl) (by kernel_rfl) (by kernel_rfl) (fun _ _ _ h => h) (Or.inl ⟨by rfl, ?_⟩) (by assumption) ?_
              rotate_left
              · (intro w hSw; (try dsimp only at hSw); go_simp; try with_reducible rfl)
              (try simp only [Act.put, List.setIfInBounds_toArray, List.set_cons_zero, List.set_cons_succ])
              refine wpAnyH_take (i := 1) (oi := { dst := some 55, op := Go.Op.unOp Go.UnOp.not 4 (Go.Operand.tmp 54), type := 4, pos := "outright.go:45", after := #[{ on := 0, ground := Go.Ground.data }], guard := none }) (v := ?_) rfl (by kernel_rfl) (by kernel_rfl) (by kernel_rfl) (fun _ _ _ h => h) (Or.inl ⟨by rfl, ?_⟩) (by assumption) ?_
              rotate_left
              · (intro w hSw; (try dsimp only at hSw); go_simp; try with_reducible rfl)
              (try simp only [Act.put, List.setIfInBounds_toArray, List.set_cons_zero, List.set_cons_succ])
              refine wpAnyH_take (i := 2) (oi := { dst := some 56, op := Go.Op.move (Go.Operand.tmp 55), type := 4, pos := "outright.go:45", after := #[{ on := 1, ground := Go.Ground.data }], guard := none }) (v := ?_) rfl (by kernel_rfl) (by kernel_rfl) (by kernel_rfl) (fun _ _ _ h => h) (Or.inl ⟨by rfl, ?_⟩) (by assumption) ?_
              rotate_left
              · (intro w hSw; (try dsimp only at hSw); go_simp; try with_reducible rfl)
              (try simp only [Act.put, List.setIfInBounds_toArray, List.set_cons_zero, List.set_cons_succ])
              refine wpAnyH_take (i := 3) (oi := { dst := some 57, op := Go.Op.move (Go.Operand.tmp 10), type := 29, pos := "outright.go:45", after := #[{ on := 2, ground := Go.Ground.guard }], guard := some (2, false) }) (v := ?_) rfl (by kernel_rfl) (by kernel_rfl) (by kernel_rfl) (fun _ _ _ h => h) (Or.inl ⟨by rfl, ?_⟩) (by assumption) ?_
              rotate_left
              · (intro w hSw; (try dsimp only at hSw); go_simp; try with_reducible rfl)
              (try simp only [Act.put, List.setIfInBounds_toArray, List.set_cons_zero, List.set_cons_succ])
              refine wpAnyH_take (i := 4) (oi := { dst := some 58, op := Go.Op.binOp Go.BinOp.neq 29 (Go.Operand.tmp 57) (Go.Operand.const (Go.Value.int Go.IntKind.i64 0)) 29, type := 4, pos := "outright.go:45", after := #[{ on := 3, ground := Go.Ground.data }, { on := 2, ground := Go.Ground.guard }], guard := some (2, false) }) (v := ?_) rfl (by kernel_rfl) (by kernel_rfl) (by kernel_rfl) (fun _ _ _ h => h) (Or.inl ⟨by rfl, ?_⟩) (by assumption) ?_
              rotate_left
              · (intro w hSw; (try dsimp only at hSw); go_simp; try with_reducible rfl)
              (try simp only [Act.put, List.setIfInBounds_toArray, List.set_cons_zero, List.set_cons_succ])
              refine wpAnyH_take (i := 5) (oi := { dst := some 59, op := Go.Op.pick (Go.Operand.tmp 56) (Go.Operand.const (Go.Value.bool true)) (Go.Operand.tmp 58), type := 4, pos := "outright.go:45", after := #[{ on := 2, ground := Go.Ground.data }, { on := 4, ground := Go.Ground.data }], guard := none }) (v := ?_) rfl (by kernel_rfl) (by kernel_rfl) (by kernel_rfl) (fun _ _ _ h => h) (Or.inl ⟨by rfl, ?_⟩) (by assumption) ?_
              rotate_left
              · (intro w hSw; (try dsimp only at hSw); go_simp; try with_reducible rfl)
              (try simp only [Act.put, List.setIfInBounds_toArray, List.set_cons_zero, List.set_cons_succ])
              refine wpAnyH_take (i := 6) (oi := { dst := some 60, op := Go.Op.move (Go.Operand.tmp 59), type := 4, pos := "outright.go:45", after := #[{ on := 5, ground := Go.Ground.data }, { on := 2, ground := Go.Ground.chain }], guard := none }) (v := ?_) rfl (by kernel_rfl) (by kernel_rfl) (by kernel_rfl) (fun _ _ _ h => h) (Or.inl ⟨by rfl, ?_⟩) (by assumption) ?_
              rotate_left
              · (intro w hSw; (try dsimp only at hSw); go_simp; try with_reducible rfl)
              (try simp only [Act.put, List.setIfInBounds_toArray, List.set_cons_zero, List.set_cons_succ])
              refine wpAnyH_take (i := 7) (oi := { dst := some 61, op := Go.Op.load 25 (Go.Operand.tmp 8), type := 25, pos := "outright.go:45", after := #[{ on := 6, ground := Go.Ground.guard }], guard := some (6, false) }) (v := ?_) rfl (by kernel_rfl) (by kernel_rfl) (by kernel_rfl) (fun _ _ _ h => h) (Or.inl ⟨by rfl, ?_⟩) (by assumption) ?_
              rotate_left
              · (intro w hSw; (try dsimp only at hSw); go_simp; try with_reducible rfl)
              (try simp only [Act.put, List.setIfInBounds_toArray, List.set_cons_zero, List.set_cons_succ])
              refine wpAnyH_take (i := 8) (oi := { dst := some 62, op := Go.Op.move (Go.Operand.tmp 3), type := 28, pos := "outright.go:45", after := #[{ on := 6, ground := Go.Ground.guard }], guard := some (6, false) }) (v := ?_) rfl (by kernel_rfl) (by kernel_rfl) (by kernel_rfl) (fun _ _ _ h => h) (Or.inl ⟨by rfl, ?_⟩) (by assumption) ?_
              rotate_left
              · (intro w hSw; (try dsimp only at hSw); go_simp; try with_reducible rfl)
              (try simp only [Act.put, List.setIfInBounds_toArray, List.set_cons_zero, List.set_cons_succ])
              refine wpAnyH_take (i := 9) (oi := { dst := some 63, op := Go.Op.move (Go.Operand.tmp 7), type := 3, pos := "outright.go:45", after := #[{ on := 6, ground := Go.Ground.guard }], guard := some (6, false) }) (v := ?_) rfl (by kernel_rfl) (by kernel_rfl) (by kernel_rfl) (fun _ _ _ h => h) (Or.inl ⟨by rfl, ?_⟩) (by assumption) ?_
              rotate_left
              · (intro w hSw; (try dsimp only at hSw); go_simp; try with_reducible rfl)
              (try simp only [Act.put, List.setIfInBounds_toArray, List.set_cons_zero, List.set_cons_succ])
              refine wpAnyH_take (i := 10) (oi := { dst := some 64, op := Go.Op.indexAddr 28 (Go.Operand.tmp 62) (Go.Operand.tmp 63), type := 0, pos := "outright.go:45", after := #[{ on := 8, ground := Go.Ground.data }, { on := 9, ground := Go.Ground.data }, { on := 6, ground := Go.Ground.guard }], guard := some (6, false) }) (v := ?_) rfl (by kernel_rfl) (by kernel_rfl) (by kernel_rfl) (fun _ _ _ h => h) (Or.inl ⟨by rfl, ?_⟩) (by assumption) ?_
              rotate_left
              · (intro w hSw; (try dsimp only at hSw); go_simp; try with_reducible rfl)
              (try simp only [Act.put, List.setIfInBounds_toArray, List.set_cons_zero, List.set_cons_succ])
              refine wpAnyH_take (i := 11) (oi := { dst := some 65, op := Go.Op.fieldAddr 39 (Go.Operand.tmp 64) 1, type := 0, pos := "outright.go:45", after := #[{ on := 10, ground := Go.Ground.data }, { on := 6, ground := Go.Ground.guard }], guard := some (6, false) }) (v := ?_) rfl (by kernel_rfl) (by kernel_rfl) (by kernel_rfl) (fun _ _ _ h => h) (Or.inl ⟨by rfl, ?_⟩) (by assumption) ?_
              rotate_left
              · (intro w hSw; (try dsimp only at hSw); go_simp; try with_reducible rfl)
              (try simp only [Act.put, List.setIfInBounds_toArray, List.set_cons_zero, List.set_cons_succ])
              refine wpAnyH_take (i := 12) (oi := { dst := some 66, op := Go.Op.load 25 (Go.Operand.tmp 65), type := 25, pos := "outright.go:45", after := #[{ on := 11, ground := Go.Ground.data }, { on := 6, ground := Go.Ground.guard }], guard := some (6, false) }) (v := ?_) rfl (by kernel_rfl) (by kernel_rfl) (by kernel_rfl) (fun _ _ _ h => h) (Or.inl ⟨by rfl, ?_⟩) (by assumption) ?_
              rotate_left
              · (intro w hSw; (try dsimp only at hSw); go_simp; try with_reducible rfl)
              (try simp only [Act.put, List.setIfInBounds_toArray, List.set_cons_zero, List.set_cons_succ])
              refine wpAnyH_ready (rs := [13]) (by kernel_rfl) (by simp) ?_
              refine AllReadyH.cons (o := { dst := some 67, op := Go.Op.call { callee := Go.Callee.value (Go.Operand.func 8), args := #[Go.Operand.tmp 61, Go.Operand.tmp 66], argTypes := #[25, 25] }, type := 4, pos := "outright.go:45", after := #[{ on := 7, ground := Go.Ground.data }, { on := 12, ground := Go.Ground.data }, { on := 6, ground := Go.Ground.chain }, { on := 6, ground := Go.Ground.guard }], guard := some (6, false) }) rfl (fun KK hK => ?_) (AllReadyH.nil)
              · go_simp
                refine (HS.out x.2 _ A' K' c' d' Ax Kx cx dx (HL7.out _ hH0.1.out).1 (HL7.out _ hH0.1.out).2).mono ?_
                rintro e w8 ⟨rfl, h8⟩
                have hb8 := below_on hH0.1.out h8
                (try go_wp2_with fail)
                refine hK.out _ _ (HC7.out _ hb8) (fun hH1 => ?_)
                clear hK KK
                (try simp only [Act.put, List.setIfInBounds_toArray, List.set_cons_zero, List.set_cons_succ])
                refine wpAnyH_take (i := 14) (oi := { dst := some 68, op := Go.Op.unOp Go.UnOp.not 4 (Go.Operand.tmp 67), type := 4, pos := "outright.go:45", after := #[{ on := 13, ground := Go.Ground.data }, { on := 6, ground := Go.Ground.guard }], guard := some (6, false) }) (v := ?_) rfl (by kernel_rfl) (by kernel_rfl) (by kernel_rfl) (fun _ _ _ h => h) (Or.inl ⟨by rfl, ?_⟩) (by assumption) ?_
                rotate_left
                · (intro w hSw; (try dsimp only at hSw); go_simp; try with_reducible rfl)
                (try simp only [Act.put, List.setIfInBounds_toArray, List.set_cons_zero, List.set_cons_succ])
                refine wpAnyH_take (i := 15) (oi := { dst := some 69, op := Go.Op.pick (Go.Operand.tmp 60) (Go.Operand.const (Go.Value.bool true)) (Go.Operand.tmp 68), type := 4, pos := "outright.go:45", after := #[{ on := 6, ground := Go.Ground.data }, { on := 14, ground := Go.Ground.data }], guard := none }) (v := ?_) rfl (by kernel_rfl) (by kernel_rfl) (by kernel_rfl) (fun _ _ _ h => h) (Or.inl ⟨by rfl, ?_⟩) (by assumption) ?_
                rotate_left
                · (intro w hSw; (try dsimp only at hSw); go_simp; try with_reducible rfl)
                (try simp only [Act.put, List.setIfInBounds_toArray, List.set_cons_zero, List.set_cons_succ])
                refine wpAnyH_done (by kernel_rfl) ?_ _
                have HB8 := Lib.hid (below_on hI.out (below_on H7.out.1 hb8))
                clear hH0 hH1 h8 hb8 HC7 HL7 H7
                go_wp2_with fail
                go_roundw
                case rel => exact ⟨j + 1, by go_num, by omega, HB8⟩
                case measure => simp [intOf]; omega
      · have hjn : ¬ (j : Int) < n := by omega
        go_wp2_with fail
        refine (HA.out _ HWR.out.1).mono ?_
        rintro e w9 ⟨rfl, h9⟩
        have H9 := Lib.hid (below_on HWR.out.1 h9)
        clear h9
        go_wp2_with fail
        go_ret
        exact ⟨rfl, H9.out⟩
end Go.Proofs.YtchadlbhdcpojaaDoor
namespace Go.Proofs.YtchadlbhdcpojaaDoor.variantBuilt
open Go.ChangeShapes Go.WideShapes Go.ChangeAt Go.RowKit
set_option maxRecDepth 100000 in
set_option maxHeartbeats 1000000 in
theorem contract (H : Type) (enc : TypeId × Value → H) (W : World) (base : Nat) (args : Array Value) (ds gs : List (DataW H)) (before : List MemPlace)
    (hval : ∀ (j : Nat) t v, Tryd.f3.params[j]? = some t → args[j]? = some v → Value.okWide Tryd.prog W .any base t v)
    (hW : DataW.Whole enc Tryd.prog Tryd.f3.params.toList Rows.variantBuiltSpec.vars false W args.toList ds gs before) (hL : laidMetH Tryd.prog laidL W) :
    Calls Tryd.prog 3 args W fun e W' => ∃ v, e = .returned v ∧ Rows.variantBuiltSpec.post enc Tryd.prog Tryd.f3 false true false false W args v W' := by
  have hW' := hW
  have hlt := hW.lt
  obtain ⟨p, q, hA0, hV, rfl, _, _⟩ := hW
  have hA : DataW.TrodAll enc Tryd.prog W 0 (fun _ => true) true Tryd.f3.params.toList args.toList ds p := hA0
  rw [Tryd.params3] at hA hval
  obtain ⟨v0, vs0, d0, ds0, p0, q0, hargs, rfl, rfl, h0, r0⟩ := trodAll_cons hA
  obtain ⟨rfl, rfl, rfl⟩ := trodAll_nil r0
  obtain rfl : args = #[v0] := by cases args; simp_all
  obtain ⟨rfl, rfl⟩ := trodVars_none hV
  obtain ⟨x0, A0, c0, K0, m0, rfl, hx0⟩ := open_arg (hval 0 25 v0 rfl rfl) h0
  clear hA0
  simp only [List.append_nil] at hW' hlt
  refine (law_built x0 W A0 K0 c0 m0 hx0 (pow_of hL)).mono fun e W' ⟨he, hb⟩ => ?_
  subst he
  exact ⟨_, rfl, post_below (pa := p0) (pv := []) hW' (fun _ _ _ => trodAll_cons_mk (shut_bool Tryd.underlying4 _) trodAll_mk0)
    (fun sp hsp => by
      rw [Tryd.params3]
      have t0 := trodAll_cons_mk (arg_stays (sp := sp) h0 hb (fun z hz => hlt z (by simp [hz])) (fun z hz => hsp z (by simp [hz]))) trodAll_mk0
      rw [List.append_nil] at t0
      exact t0)
    (fun _ _ => rfl) (by simp) hb (ok_one (by kernel_rfl) rfl (okWide_bool_mk Tryd.underlying4 _))⟩
theorem laid_met (os : Os) : laidMet Tryd.prog Rows.variantBuiltRow.laid ((laidWorld os).forCall (fun _ _ => 0) ⟨#[], #[zeroA], []⟩).memory :=
  laidMet_of_run' 8 (by kernel_rfl) (by kernel_rfl)
theorem reads (os : Os) {H : Type} (enc : TypeId × Value → H) : ∃ places, DataW.whole enc Tryd.prog ((laidWorld os).forCall (fun _ _ => 0) ⟨#[], #[zeroA], []⟩).memory Tryd.f3.params.toList Rows.variantBuiltSpec.vars false #[zeroA].toList 8 = some ([zeroD], [], places) :=
  ⟨[], by kernel_rfl⟩
set_option maxRecDepth 100000 in
theorem lifted (os : Os) (started : os.Started) (H : Type) (enc : TypeId × Value → H) (F : Stop.Interp) :
    ReturnsInHanded {} Tryd.checked os 3 .any ((OpenSpec.ofChange Rows.variantBuiltSpec).preRow enc Tryd.prog Tryd.f3 Rows.variantBuiltRow.domain false Rows.variantBuiltRow.laid) (((OpenSpec.ofChange Rows.variantBuiltSpec).at F).post enc Tryd.prog Tryd.f3 false true false false) := by
  obtain ⟨places, hx⟩ := reads os enc
  refine returnsInHanded_of_row (C := Tryd.checked) (s := OpenSpec.ofChange Rows.variantBuiltSpec) own started (by kernel_rfl) Tryd.func3
    (witness_row_at (enc := enc) (C := Tryd.checked) false (laidWorld os) #[zeroA] rfl (by kernel_rfl) (by kernel_rfl) (by kernel_rfl)
      (OpenSpec.preRow_of_cond 8 hx (by kernel_rfl) (fun k hk => by cases hk) (by kernel_rfl) (laid_met os))) ?_
  intro W base args ds gs before hval hW _ _ _ hL _ _
  exact contract H enc W base args ds gs before hval hW hL
theorem said : Rows.VariantBuiltSaid :=
  OpenClaim.holds_of_cond 3 Tryd.f3 rfl rfl rfl rfl rfl rfl rfl ⟨rfl, rfl, rfl, rfl, rfl⟩ rfl rfl rfl rfl rfl (by kernel_rfl) Tryd.func3 (by kernel_rfl)
    (of_decide_eq_true (by kernel_rfl)) (by unfold Func.isWrapper; first | (rw [if_pos (by decide +kernel)]; kernel_rfl) | (rw [if_neg (by decide +kernel)]; exact ⟨rfl, rfl⟩))
    (fun os started H enc _ F => by rw [OpenClaim.pre_eq_preRow]; exact lifted os started H enc F)
theorem plain (f : FuncId) (fn : Func) (hf : Tryd.pinned.checked.prog.funcNamed "cirrus/cirruslaw02.VariantBuilt" = some f) (hfn : Tryd.pinned.checked.prog.funcs[f]? = some fn) :
    false = Tryd.pinned.checked.prog.looks [] ∧ ∀ (j : Nat) t, fn.params[j]? = some t → Tryd.pinned.checked.prog.wantsStandIn t = false := by
  obtain rfl : f = 3 := Option.some.inj ((show Tryd.prog.funcNamed "cirrus/cirruslaw02.VariantBuilt" = some 3 by kernel_rfl).symm.trans hf) |>.symm
  obtain rfl : fn = Tryd.f3 := (Option.some.inj (Tryd.func3.symm.trans hfn)).symm
  refine ⟨by kernel_rfl, fun j t ht => ?_⟩
  rw [Tryd.params3] at ht
  match j, ht with
  | 0, ht =>
    obtain rfl : t = 25 := (Option.some.inj ht).symm
    exact (show Tryd.prog.wantsStandIn 25 = false by kernel_rfl)
  | j + 1, ht => simp at ht
theorem card : Rows.VariantBuiltCardSaid :=
  Claim7.holds_tied_plain_at .later [] _ _ _ _ said (fun _ h => by cases h) (by kernel_rfl) (fun _ h => by cases h) variantBuilt_row_tie rfl ⟨rfl, rfl⟩ (by kernel_rfl) rfl plain (by kernel_rfl)
end Go.Proofs.YtchadlbhdcpojaaDoor.variantBuilt
