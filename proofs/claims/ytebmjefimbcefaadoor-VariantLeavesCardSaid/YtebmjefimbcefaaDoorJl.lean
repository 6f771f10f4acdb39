/- An iterator over a value's leaves, walked: a value with items. -/
import Derived.Test.YtebmjefimbcefaaDoorJk
import Derived.LoopIn
import Derived.Shelf.Abstract
import Derived.RangeFuncNested
namespace Go.Proofs.YtebmjefimbcefaaDoor
open Go.RowKit
theorem leavesL_append (p : List Stp) (k : Int) (ks : List ByteArray) (m : List V) : ∀ (l : List V) (n : Nat), leavesL p k ks n (l ++ m) = leavesL p k ks n l ++ leavesL p k ks (n + l.length) m
  | [], n => by simp [leavesL]
  | y :: l, n => by
    rw [List.cons_append, leavesL, leavesL_append p k ks m l (n + 1), leavesL, List.append_assoc, List.length_cons, show n + 1 + l.length = n + (l.length + 1) by omega]
theorem leavesL_part (p : List Stp) (x : V) (j : Nat) : leavesL p x.kind x.keys 0 (x.items.take j) <+: leavesL p x.kind x.keys 0 x.items := by
  have := leavesL_append p x.kind x.keys (x.items.drop j) (x.items.take j) 0
  rw [List.take_append_drop] at this
  rw [this]
  exact List.prefix_append _ _
/-- Where a visit stands between two items. -/
structure VS (J : (Nat → Prop) → List Lf → World → Prop) (B : Nat) (U0 : Nat → Prop) (pv : Value) (k : Nat) (xs : List Value) (vc : Array Value) (W : World) (m : List Lf) (U : Nat → Prop) (wr : World) : Prop where
  but : But (fun b => U0 b ∨ some b = pv.ownBlock) W wr
  box : BlockIs wr W.heap.size 25 vc
  col : J U m wr
  sub : ∀ b, U b → U0 b ∨ W.heap.size + 1 ≤ b
  row : wr.ownsRow B 46 2 pv k xs
set_option maxRecDepth 100000 in
set_option maxHeartbeats 4000000 in
theorem visit_step (l N : Nat) (J : (Nat → Prop) → List Lf → World → Prop) (Jx : List Lf → World → Prop) (hJ : Collects J) (B : Nat) (n0 : Nat)
    (x : V) (p : List Stp) (U0 Pv : Nat → Prop) (pre : List Lf) (W : World) (A K : Option Addr) (c d : Nat) (pv : Value)
    (hju : J U0 pre W) (hPv : ∀ b, Pv b → b < W.heap.size ∧ ¬ U0 b ∧ some b ≠ pv.ownBlock) (hx : LiesIn Pv W x A c K d) (hok : x.ok = true) (hn : x.nodes ≤ 5000) (h0 : ¬ x.items = []) (hrow : W.ownsRow B 46 2 pv p.length (stepCells p)) (hps : ∀ s ∈ p, s.2.size ≤ maxLen) (hd : p.length + x.depth ≤ 7) (hB : B ≤ W.heap.size) (hpu : ∀ b, pv.ownBlock = some b → ¬ U0 b) (hlen : pre.length + (leavesV p x).length ≤ N)
    (ih : ∀ y ∈ x.items, ∀ (n : Nat) (q : List Stp) (U Pv : Nat → Prop) (pre : List Lf) (W : World) (A K : Option Addr) (c d : Nat) (pv : Value), J U pre W → (∀ b, Pv b → b < W.heap.size ∧ ¬ U b ∧ some b ≠ pv.ownBlock) → LiesIn Pv W y A c K d → W.ownsRow B 46 2 pv q.length (stepCells q) → (∀ s ∈ q, s.2.size ≤ maxLen) → q.length + y.depth ≤ 7 → B ≤ W.heap.size → (∀ b, pv.ownBlock = some b → ¬ U b) → pre.length + (leavesV q y).length ≤ N →
      CallsIn Fence.wide n Tryd.prog 37 #[.agg #[.int .i64 y.kind, .int .i64 y.int, .string y.text, .slice A y.items.length c, .slice K y.keys.length d], pv, .func (.yield l) #[] #[]] W (Visited J Jx B U pre (leavesV q y) pv q.length (stepCells q) W)) :
    CallsIn Fence.wide n0 Tryd.prog 37 #[.agg #[.int .i64 x.kind, .int .i64 x.int, .string x.text, .slice A x.items.length c, .slice K x.keys.length d], pv, .func (.yield l) #[] #[]] W (Visited J Jx B U0 pre (leavesV p x) pv p.length (stepCells p) W) := by
  have hR := leavesV_items (p := p) h0
  obtain ⟨PA, pc, rfl⟩ := own_form hrow
  have hlen0 : 0 < x.items.length := List.length_pos_iff.2 h0
  obtain ⟨b2, o2, rfl, hb2, hfrom⟩ := inn_at hx hlen0
  have hxc := (inn_items hx).1
  have hxm := (inn_items hx).2.1
  unfold maxLen at hxm
  have hgo : ∀ b, (Value.slice PA p.length pc).ownBlock = some b → b < W.heap.size := fun b hb => (World.ownsRow.lt hrow b hb).2
  have HC := Lib.hid (And.intro hJ (And.intro hPv (And.intro hps (And.intro hpu hgo))))
  have HU0 := Lib.hid (hJ.lt U0 pre W hju)
  have HX := Lib.hid hx
  have HIH := Lib.hid ih
  have HOK := Lib.hid (And.intro hok hn)
  have HR := Lib.hid hR
  have HLEN := Lib.hid hlen
  have HB := Lib.hid hB
  have HDP := Lib.hid (show ∀ y ∈ x.items, (p.length + 1) + y.depth ≤ 7 from fun y hy => by
    have := V.depth_mem hy
    obtain ⟨k, i, t, l, ks⟩ := x
    simp only [V.items, V.depth] at this hd
    omega)
  have hp7 : p.length ≤ 7 := by omega
  obtain ⟨n, hnn⟩ : ∃ n, n = x.items.length := ⟨_, rfl⟩
  have HN := Lib.hid hnn
  have hnb : n ≤ 5000 := by have := nodes_items x; have := length_le_nodesL x.items; omega
  obtain ⟨W1, hW1⟩ : ∃ W1, W1 = W.alloc (.cells #[.int .i64 x.kind, .int .i64 x.int, .string x.text, .slice (some ⟨b2, o2, none⟩) n c, .slice K x.keys.length d] 25) := ⟨_, rfl⟩
  have hb1 : Below W.heap.size W W1 := by rw [hW1]; exact below_al (Below.refl _ W) _
  have HV1 := Lib.hid (show VS J B U0 (.slice PA p.length pc) p.length (stepCells p) #[.int .i64 x.kind, .int .i64 x.int, .string x.text, .slice (some ⟨b2, o2, none⟩) n c, .slice K x.keys.length d] W pre U0 W1 from ⟨But.below hb1, by rw [hW1]; exact BlockIs.new W _ _, hJ.on U0 pre W W1 (fun _ => False) hju (But.below hb1) (fun _ _ h => h), fun _ h => .inl h, by rw [hW1]; exact World.ownsRow.alloc hrow _⟩)
  have hn0 : ((n : Int) == 0) = false := by simp; omega
  rw [← hnn]
  have hxc' : n ≤ c := by omega
  clear hju hPv hx hok hn h0 hrow hps hd hB hpu hlen ih hR hJ hlen0 hb2 hfrom hxc hgo hnn hb1
  refine callsIn_of_wp Tryd.func37 rfl trivial ?_
  simp only [Tryd.ntmps37, List.size_toArray, List.length_cons, List.length_nil, Nat.reduceAdd, Nat.reduceSub, Array.replicate_succ, Array.replicate_zero, List.push_toArray, List.append_toArray, List.nil_append, List.cons_append]
  gi_upto_region 3 with (fail)
  rw [← hW1]
  clear hW1
  obtain ⟨v0, v1, v2, v3, v4⟩ := five_of HV1.out.box
  have vl := HV1.out.box.lt
  gi_wp2
  gi_loopw [23] (fun iv wr => ∃ (j : Nat) (U : Nat → Prop), iv = .int .i64 j ∧ j ≤ n ∧ Hid (VS J B U0 (.slice PA p.length pc) p.length (stepCells p) #[.int .i64 x.kind, .int .i64 x.int, .string x.text, .slice (some ⟨b2, o2, none⟩) n c, .slice K x.keys.length d] W (pre ++ leavesL p x.kind x.keys 0 (x.items.take j)) U wr)) (fun iv _ => n - (intOf iv).toNat)
  case atStart => exact ⟨0, U0, rfl, Nat.zero_le _, by simpa [leavesL] using HV1⟩
  case round =>
    clear v0 v1 v2 v3 v4 vl HV1
    obtain ⟨j, U, rfl, hj, HV⟩ := hrel
    by_cases hlt : j < n
    · have hjn : (j : Int) < n := by omega
      have hj0 : (0 : Int) ≤ j := by omega
      have hji : j < x.items.length := by have := HN.out; omega
      obtain ⟨y, hy⟩ : ∃ y, x.items[j]? = some y := ⟨_, List.getElem?_eq_getElem hji⟩
      have hlx : LiesIn Pv wr x (some ⟨b2, o2, none⟩) c K d := LiesIn.keep (fun b o hb => World.cell?_of_block (HV.out.but.block b (HC.out.2.1 b hb).1 (fun e => e.elim (HC.out.2.1 b hb).2.1 (HC.out.2.1 b hb).2.2))) (fun _ h => h) x HX.out
      obtain ⟨b2', o2', hbo, hb2, hfrom⟩ := inn_at hlx hji
      simp only [Option.some.injEq, Addr.mk.injEq, and_true] at hbo
      obtain ⟨rfl, rfl⟩ := hbo
      obtain ⟨Ay, cy, Ky, dy, ⟨y0, y1, y2, y3, y4⟩, hly⟩ := hfrom.at_ hy
      have hws := HV.out.but.size
      obtain ⟨s, hs⟩ : ∃ s, s = stepI x.kind x.keys j := ⟨_, rfl⟩
      have hlies : Lies wr wr.heap.size x (some ⟨b2, o2, none⟩) c K d := LiesIn.lies (fun b hb => by have := (HC.out.2.1 b hb).1; omega) x hlx
      have hss := stepI_size hlies HOK.out.1 hji
      rw [← hs] at hss
      have HLY := Lib.hid hly
      have HYM := Lib.hid (List.mem_of_getElem? hy)
      have HSN := Lib.hid (show leavesL p x.kind x.keys 0 (x.items.take (j + 1)) = leavesL p x.kind x.keys 0 (x.items.take j) ++ leavesV (p ++ [s]) y by rw [hs]; exact leavesL_snocI p x hy)
      gi_upto_region 6 with (fail)
      obtain ⟨W6, hW6⟩ : ∃ W6, W6 = wr.alloc (.cells #[.int .i64 y.kind, .int .i64 y.int, .string y.text, .slice Ay y.items.length cy, .slice Ky y.keys.length dy] 25) := ⟨_, rfl⟩
      have hal : Below wr.heap.size wr W6 := by rw [hW6]; exact below_al (Below.refl _ wr) _
      have hbi : BlockIs W6 wr.heap.size 25 #[.int .i64 y.kind, .int .i64 y.int, .string y.text, .slice Ay y.items.length cy, .slice Ky y.keys.length dy] := by rw [hW6]; exact BlockIs.new wr _ _
      have hbx : BlockIs W6 W.heap.size 25 #[.int .i64 x.kind, .int .i64 x.int, .string x.text, .slice (some ⟨b2, o2, none⟩) n c, .slice K x.keys.length d] := HV.out.box.below hal HV.out.box.lt
      have hrow6 : W6.ownsRow B 46 2 (.slice PA p.length pc) p.length (stepCells p) := by rw [hW6]; exact World.ownsRow.alloc HV.out.row _
      have hgl : ∀ b, ((.slice PA p.length pc) : Value).ownBlock = some b → b < W.heap.size := HC.out.2.2.2.2
      have hwl := HV.out.box.lt
      rw [← hW6]
      have HST := Lib.hid (show Calls Tryd.prog 18 #[.agg #[.int .i64 x.kind, .int .i64 x.int, .string x.text, .slice (some ⟨b2, o2, none⟩) n c, .slice K x.keys.length d], .int .i64 j] W6.drew fun e w' => e = .returned (.agg #[.int .i64 s.1, .string s.2]) ∧ Below W6.drew.heap.size W6.drew w' from by
        have := stepTo_any x W6.drew (some ⟨b2, o2, none⟩) K c d j (lies_on (lies_on hlies hal) (Below.refl _ W6).drew) HOK.out.1 hji
        rw [← hs, ← HN.out] at this
        exact this)
      clear hW6 hy hji hlx hb2 hfrom y0 y1 y2 y3 y4 hly hs hlies
      have hdd : ∀ k : Nat, (Fence.wide.depth.isSome = true → 1 ≤ k) := fun k h => by cases h
      refine region_yield (fun X => (X.cell? ⟨wr.heap.size, 0, none⟩ = some (.int .i64 y.kind) ∧ X.cell? ⟨wr.heap.size, 1, none⟩ = some (.int .i64 y.int) ∧ X.cell? ⟨wr.heap.size, 2, none⟩ = some (.string y.text) ∧ X.cell? ⟨wr.heap.size, 3, none⟩ = some (.slice Ay y.items.length cy) ∧ X.cell? ⟨wr.heap.size, 4, none⟩ = some (.slice Ky y.keys.length dy)) ∧ (X.cell? ⟨W.heap.size, 0, none⟩ = some (.int .i64 x.kind) ∧ X.cell? ⟨W.heap.size, 1, none⟩ = some (.int .i64 x.int) ∧ X.cell? ⟨W.heap.size, 2, none⟩ = some (.string x.text) ∧ X.cell? ⟨W.heap.size, 3, none⟩ = some (.slice (some ⟨b2, o2, none⟩) n c) ∧ X.cell? ⟨W.heap.size, 4, none⟩ = some (.slice K x.keys.length d))) #[{ dst := some 28, op := Go.Op.load 25 (Go.Operand.tmp 8), type := 25, pos := "leaves.go:71", after := #[], guard := none }, { dst := some 29, op := Go.Op.move (Go.Operand.tmp 1), type := 38, pos := "leaves.go:71", after := #[], guard := none }, { dst := some 30, op := Go.Op.load 25 (Go.Operand.tmp 3), type := 25, pos := "leaves.go:71", after := #[], guard := none }, { dst := some 31, op := Go.Op.move (Go.Operand.tmp 7), type := 3, pos := "leaves.go:71", after := #[], guard := none }, { dst := some 32, op := Go.Op.call { callee := Go.Callee.value (Go.Operand.func 18), args := #[Go.Operand.tmp 30, Go.Operand.tmp 31], argTypes := #[25, 3] }, type := 46, pos := "leaves.go:71", after := #[{ on := 2, ground := Go.Ground.data }, { on := 3, ground := Go.Ground.data }], guard := none }, { dst := some 33, op := Go.Op.buildSlice 38 1 #[(0, Go.Operand.tmp 32)], type := 38, pos := "leaves.go:71", after := #[{ on := 4, ground := Go.Ground.data }], guard := none }, { dst := some 34, op := Go.Op.call { callee := Go.Callee.builtin Go.Builtin.append, args := #[Go.Operand.tmp 29, Go.Operand.tmp 33], argTypes := #[38, 38] }, type := 38, pos := "leaves.go:71", after := #[{ on := 1, ground := Go.Ground.data }, { on := 5, ground := Go.Ground.data }, { on := 4, ground := Go.Ground.chain }], guard := none }, { dst := some 35, op := Go.Op.move (Go.Operand.tmp 2), type := 69, pos := "leaves.go:71", after := #[], guard := none }] ({ dst := some 36, op := Go.Op.call { callee := Go.Callee.value (Go.Operand.func 37), args := #[Go.Operand.tmp 28, Go.Operand.tmp 34, Go.Operand.tmp 35], argTypes := #[25, 38, 69] }, type := 4, pos := "leaves.go:71", after := #[{ on := 0, ground := Go.Ground.data }, { on := 6, ground := Go.Ground.data }, { on := 7, ground := Go.Ground.data }, { on := 6, ground := Go.Ground.chain }], guard := none }) ({ dst := some 37, op := Go.Op.unOp Go.UnOp.not 4 (Go.Operand.tmp 36), type := 4, pos := "leaves.go:71", after := #[{ on := 8, ground := Go.Ground.data }], guard := none }) rfl (by kernel_rfl) (by kernel_rfl) (by kernel_rfl) ⟨five_of (show BlockIs W6.drew _ _ _ from hbi), five_of (show BlockIs W6.drew _ _ _ from hbx)⟩ (fun hH0 => ?_)
      refine wpAnyH_take (i := 0) (oi := { dst := some 28, op := Go.Op.load 25 (Go.Operand.tmp 8), type := 25, pos := "leaves.go:71", after := #[], guard := none }) (v := ?_) rfl (by kernel_rfl) (by kernel_rfl) (by kernel_rfl) (fun _ _ _ h => h) (Or.inl ⟨by rfl, ?_⟩) (by assumption) ?_
      rotate_left
      · (intro w hSw; (try dsimp only at hSw); go_simp; try with_reducible rfl)
      (try simp only [Act.put, List.setIfInBounds_toArray, List.set_cons_zero, List.set_cons_succ])
      refine wpAnyH_take (i := 1) (oi := { dst := some 29, op := Go.Op.move (Go.Operand.tmp 1), type := 38, pos := "leaves.go:71", after := #[], guard := none }) (v := ?_) rfl (by kernel_rfl) (by kernel_rfl) (by kernel_rfl) (fun _ _ _ h => h) (Or.inl ⟨by rfl, ?_⟩) (by assumption) ?_
      rotate_left
      · (intro w hSw; (try dsimp only at hSw); go_simp; try with_reducible rfl)
      (try simp only [Act.put, List.setIfInBounds_toArray, List.set_cons_zero, List.set_cons_succ])
      refine wpAnyH_take (i := 2) (oi := { dst := some 30, op := Go.Op.load 25 (Go.Operand.tmp 3), type := 25, pos := "leaves.go:71", after := #[], guard := none }) (v := ?_) rfl (by kernel_rfl) (by kernel_rfl) (by kernel_rfl) (fun _ _ _ h => h) (Or.inl ⟨by rfl, ?_⟩) (by assumption) ?_
      rotate_left
      · (intro w hSw; (try dsimp only at hSw); go_simp; try with_reducible rfl)
      (try simp only [Act.put, List.setIfInBounds_toArray, List.set_cons_zero, List.set_cons_succ])
      refine wpAnyH_take (i := 3) (oi := { dst := some 31, op := Go.Op.move (Go.Operand.tmp 7), type := 3, pos := "leaves.go:71", after := #[], guard := none }) (v := ?_) rfl (by kernel_rfl) (by kernel_rfl) (by kernel_rfl) (fun _ _ _ h => h) (Or.inl ⟨by rfl, ?_⟩) (by assumption) ?_
      rotate_left
      · (intro w hSw; (try dsimp only at hSw); go_simp; try with_reducible rfl)
      (try simp only [Act.put, List.setIfInBounds_toArray, List.set_cons_zero, List.set_cons_succ])
      refine wpAnyH_take (i := 7) (oi := { dst := some 35, op := Go.Op.move (Go.Operand.tmp 2), type := 69, pos := "leaves.go:71", after := #[], guard := none }) (v := ?_) rfl (by kernel_rfl) (by kernel_rfl) (by kernel_rfl) (fun _ _ _ h => h) (Or.inl ⟨by rfl, ?_⟩) (by assumption) ?_
      rotate_left
      · (intro w hSw; (try dsimp only at hSw); go_simp; try with_reducible rfl)
      (try simp only [Act.put, List.setIfInBounds_toArray, List.set_cons_zero, List.set_cons_succ])
      refine wpAnyH_ready (rs := [4]) (by kernel_rfl) (by simp) ?_
      refine AllReadyH.cons (o := { dst := some 32, op := Go.Op.call { callee := Go.Callee.value (Go.Operand.func 18), args := #[Go.Operand.tmp 30, Go.Operand.tmp 31], argTypes := #[25, 3] }, type := 46, pos := "leaves.go:71", after := #[{ on := 2, ground := Go.Ground.data }, { on := 3, ground := Go.Ground.data }], guard := none }) rfl (fun KK hK => ?_) (AllReadyH.nil)
      · go_simp
        refine (HST.out).mono ?_
        rintro e w1 ⟨rfl, h1⟩
        have hd1 : Below W6.heap.size W6 w1 := below_on (Below.drew (Below.refl _ _)) h1
        have hbi1 := hbi.below hd1 hbi.lt
        have hbx1 := hbx.below hd1 hbx.lt
        have hrow1 : w1.ownsRow B 46 2 (.slice PA p.length pc) p.length (stepCells p) := own_stays hrow6 (fun b hb => hd1.block b (World.ownsRow.lt hrow6 b hb).2)
        (try go_wp2_with fail)
        refine hK.out _ _ ⟨five_of hbi1, five_of hbx1⟩ (fun hH1 => ?_)
        clear hK KK
        (try simp only [Act.put, List.setIfInBounds_toArray, List.set_cons_zero, List.set_cons_succ])
        refine wpAnyH_ready (rs := [5]) (by kernel_rfl) (by simp) ?_
        refine AllReadyH.cons (o := { dst := some 33, op := Go.Op.buildSlice 38 1 #[(0, Go.Operand.tmp 32)], type := 38, pos := "leaves.go:71", after := #[{ on := 4, ground := Go.Ground.data }], guard := none }) rfl (fun KK hK => ?_) (AllReadyH.nil)
        · go_simp
          refine hK.out _ _ ⟨five_of (hbi1.alloc _), five_of (hbx1.alloc _)⟩ (fun hH2 => ?_)
          clear hK KK
          (try simp only [Act.put, List.setIfInBounds_toArray, List.set_cons_zero, List.set_cons_succ])
          refine wpAnyH_ready (rs := [6]) (by kernel_rfl) (by simp) ?_
          refine AllReadyH.cons (o := { dst := some 34, op := Go.Op.call { callee := Go.Callee.builtin Go.Builtin.append, args := #[Go.Operand.tmp 29, Go.Operand.tmp 33], argTypes := #[38, 38] }, type := 38, pos := "leaves.go:71", after := #[{ on := 1, ground := Go.Ground.data }, { on := 5, ground := Go.Ground.data }, { on := 4, ground := Go.Ground.chain }], guard := none }) rfl (fun KK hK => ?_) (AllReadyH.nil)
          · obtain ⟨X, hX⟩ : ∃ X, X = w1.alloc (.cells #[.int .i64 s.1, .string s.2] 46) := ⟨_, rfl⟩
            have hrowX : X.ownsRow B 46 2 (.slice PA p.length pc) p.length (stepCells p) := (by rw [hX]; exact World.ownsRow.alloc hrow1 _)
            have hsX : BlockIs X w1.heap.size 46 #[.int .i64 s.1, .string s.2] := (by rw [hX]; exact BlockIs.new w1 _ _)
            have hbiX : BlockIs X wr.heap.size 25 #[.int .i64 y.kind, .int .i64 y.int, .string y.text, .slice Ay y.items.length cy, .slice Ky y.keys.length dy] := (by rw [hX]; exact hbi1.alloc _)
            have hbxX : BlockIs X W.heap.size 25 #[.int .i64 x.kind, .int .i64 x.int, .string x.text, .slice (some ⟨b2, o2, none⟩) n c, .slice K x.keys.length d] := (by rw [hX]; exact hbx1.alloc _)
            have hb6X : Below wr.heap.size wr X := (by rw [hX]; exact below_al (below_on hal hd1) _)
            have hBX : B ≤ X.heap.size := (by have := HB.out; have := hb6X.size; omega)
            obtain ⟨v5, w5, hr5, ho5, hg5, hcase⟩ := append_path 38 X B (.slice PA p.length pc) p.length (stepCells p) hrowX ⟨w1.heap.size, 0, none⟩ [.int .i64 s.1, .string s.2] rfl (fun k u hu => by rw [Addr.add_lit, Nat.zero_add]; refine (hsX.cell k).trans ?_; rw [List.getElem?_toArray]; exact hu) (by intro u hu; simp at hu; rcases hu with rfl | rfl <;> rfl) (by omega) hBX
            obtain ⟨PB, pb, rfl⟩ := own_form ho5
            have hbi5 : BlockIs w5 wr.heap.size 25 #[.int .i64 y.kind, .int .i64 y.int, .string y.text, .slice Ay y.items.length cy, .slice Ky y.keys.length dy] := hbiX.to (hg5.block _ hbiX.lt (fun e => by have := hgl _ e.symm; omega))
            have hbx5 : BlockIs w5 W.heap.size 25 #[.int .i64 x.kind, .int .i64 x.int, .string x.text, .slice (some ⟨b2, o2, none⟩) n c, .slice K x.keys.length d] := hbxX.to (hg5.block _ hbxX.lt (fun e => by have := hgl _ e.symm; omega))
            rw [← hX]
            refine step_append_run (by rfl) _ _ _ _ (by rfl) _ _ (by rfl) (by rfl) _ _ hr5 ?_
            refine hK.out _ _ ⟨five_of hbi5, five_of hbx5⟩ (fun hH3 => ?_)
            clear hK KK
            (try simp only [Act.put, List.setIfInBounds_toArray, List.set_cons_zero, List.set_cons_succ])
            refine wpAnyH_done (by kernel_rfl) ?_ _
            have hbutw : But (fun b => some b = ((.slice PA p.length pc) : Value).ownBlock) wr w5 := ((But.below (X := fun _ => False) hb6X).trans (But.grown hg5)).wider fun b _ h => h.elim False.elim id
            have hnU : ∀ b, b < W.heap.size + 1 → ¬ U0 b → ¬ U b := fun b hb h0 hu => (HV.out.sub b hu).elim h0 (fun h => by omega)
            have hW0 : ¬ U0 W.heap.size := fun h => by have := HU0.out _ h; omega
            have hpvU : ∀ b, ((.slice PA p.length pc) : Value).ownBlock = some b → ¬ U b := fun b hb => hnU b (by have := hgl b hb; omega) (HC.out.2.2.2.1 b hb)
            have hltU := HC.out.1.lt U (pre ++ leavesL p x.kind x.keys 0 (x.items.take j)) wr HV.out.col
            have hj5 : J U (pre ++ leavesL p x.kind x.keys 0 (x.items.take j)) w5 := HC.out.1.on U (pre ++ leavesL p x.kind x.keys 0 (x.items.take j)) wr w5 _ HV.out.col hbutw (fun b hb e => hpvU b e.symm hb)
            have hwX := hb6X.size
            have hX5 := hg5.size
            have hrow5 : w5.ownsRow B 46 2 (.slice PB (p.length + 1) pb) (p ++ [s]).length (stepCells (p ++ [s])) := by rw [stepCells_append, List.length_append]; exact ho5
            have hown5 : ∀ b, ((.slice PB (p.length + 1) pb) : Value).ownBlock = some b → ((.slice PA p.length pc) : Value).ownBlock = some b ∨ b = X.heap.size := fun b hb => by
              rcases hcase with ⟨e, -⟩ | ⟨e, -⟩
              · exact .inl (e.symm.trans hb)
              · exact .inr (Option.some.inj (hb.symm.trans e))
            have hbound : (pre ++ leavesL p x.kind x.keys 0 (x.items.take j)).length + (leavesV (p ++ [s]) y).length ≤ N := by
              have h1 := (leavesL_part p x (j + 1)).length_le
              have h2 := HLEN.out
              rw [HR.out] at h2
              rw [HSN.out, List.length_append] at h1
              rw [List.length_append]
              omega
            have HIC := HIH.out y HYM.out (n0 - 1) (p ++ [s]) U Pv (pre ++ leavesL p x.kind x.keys 0 (x.items.take j)) w5 Ay Ky cy dy (.slice PB (p.length + 1) pb) hj5 (fun b hb => ⟨by have := (HC.out.2.1 b hb).1; omega, hnU b (by have := (HC.out.2.1 b hb).1; omega) (HC.out.2.1 b hb).2.1, fun e => by
              rcases hown5 b e.symm with h | h
              · exact (HC.out.2.1 b hb).2.2 h.symm
              · have := (HC.out.2.1 b hb).1; omega⟩) (LiesIn.keep (fun b o hb => World.cell?_of_block (hbutw.block b (by have := (HC.out.2.1 b hb).1; omega) (HC.out.2.1 b hb).2.2)) (fun _ h => h) y HLY.out) hrow5 (fun q hq => by
              rcases List.mem_append.1 hq with hq | hq
              · exact HC.out.2.2.1 q hq
              · rw [List.mem_singleton.1 hq]; exact hss) (by rw [List.length_append]; exact HDP.out y HYM.out) (by omega) (fun b hb hu => by
              rcases hown5 b hb with h | h
              · exact hpvU b h hu
              · have := hltU b hu; omega) hbound
            refine uptoIn_step (o := { dst := some 36, op := Go.Op.call { callee := Go.Callee.value (Go.Operand.func 37), args := #[Go.Operand.tmp 28, Go.Operand.tmp 34, Go.Operand.tmp 35], argTypes := #[25, 38, 69] }, type := 4, pos := "leaves.go:71", after := #[{ on := 0, ground := Go.Ground.data }, { on := 6, ground := Go.Ground.data }, { on := 7, ground := Go.Ground.data }, { on := 6, ground := Go.Ground.chain }], guard := none }) rfl rfl (fun K' hK => ?_)
            gi_wp2_with ((try refine ⟨hdd _, ?_⟩); refine ⟨trivial, hdd _, HIC.mono ?_⟩; rintro e W' (⟨rfl, U', hJ', hU', hB', hrow'⟩ | ⟨rfl, q, hq, hJx'⟩))
            · have hrow'' : W'.ownsRow B 46 2 (.slice PB (p.length + 1) pb) (p.length + 1) (stepCells p ++ [.int .i64 s.1, .string s.2]) := by
                rw [stepCells_append, List.length_append] at hrow'
                exact hrow'
              have HV' := Lib.hid (show VS J B U0 (.slice PA p.length pc) p.length (stepCells p) #[.int .i64 x.kind, .int .i64 x.int, .string x.text, .slice (some ⟨b2, o2, none⟩) n c, .slice K x.keys.length d] W (pre ++ leavesL p x.kind x.keys 0 (x.items.take (j + 1))) U' W' from by
                refine ⟨((HV.out.but.trans hbutw).trans hB').wider (fun b hb h => ?_), hbx5.to (hB'.block _ hbx5.lt (fun e => ?_)), by rw [HSN.out, ← List.append_assoc]; exact hJ', fun b hb => ?_, ?_⟩
                · rcases h with (h | h) | (h | h)
                  · exact h
                  · exact .inr h
                  · exact (HV.out.sub b h).imp id (fun h => by omega)
                  · rcases hown5 b h.symm with h | h
                    · exact .inr h.symm
                    · omega
                · rcases e with h | h
                  · exact hnU _ (by omega) hW0 h
                  · rcases hown5 _ h.symm with h | h
                    · have := hgl _ h; omega
                    · omega
                · rcases hU' b hb with h | h
                  · exact HV.out.sub b h
                  · exact .inr (by omega)
                · rcases hcase with ⟨-, h⟩ | ⟨e, h⟩
                  · exact h W' hrow''
                  · refine own_stays h fun b hb => hB'.block b (by have := hgl b hb; omega) (fun hh => ?_)
                    rcases hh with hh | hh
                    · exact hpvU b hb hh
                    · rw [e] at hh
                      have := Option.some.inj hh
                      have := hgl b hb
                      omega)
              refine uptoIn_step (o := { dst := some 37, op := Go.Op.unOp Go.UnOp.not 4 (Go.Operand.tmp 36), type := 4, pos := "leaves.go:71", after := #[{ on := 8, ground := Go.Ground.data }], guard := none }) rfl rfl (fun K2 hK2 => ?_)
              gi_wp2
              go_roundw
              case rel => exact ⟨j + 1, U', by go_num, by omega, HV'⟩
              case measure => simp [intOf]; omega
            · refine uptoIn_step (o := { dst := some 37, op := Go.Op.unOp Go.UnOp.not 4 (Go.Operand.tmp 36), type := 4, pos := "leaves.go:71", after := #[{ on := 8, ground := Go.Ground.data }], guard := none }) rfl rfl (fun K2 hK2 => ?_)
              gi_wp2
              go_ret
              refine .inr ⟨rfl, leavesL p x.kind x.keys 0 (x.items.take j) ++ q, ?_, by rw [← List.append_assoc]; exact hJx'⟩
              rw [HR.out]
              refine List.IsPrefix.trans ?_ (leavesL_part p x (j + 1))
              rw [HSN.out]
              exact (List.prefix_append_right_inj _).2 hq
    · have hjn : ¬ ((j : Int) < n) := by omega
      have hall : x.items.take j = x.items := List.take_of_length_le (by have := HN.out; omega)
      gi_wp2
      go_ret
      refine .inl ⟨rfl, U, ?_, fun b hb => (HV.out.sub b hb).imp id (fun h => by omega), HV.out.but, HV.out.row⟩
      have := HV.out.col
      rw [hall, ← HR.out] at this
      exact this
open Go.RowKit Go.Shelf
/-- A visit, at whatever value. -/
theorem visit_any (l N : Nat) (J : (Nat → Prop) → List Lf → World → Prop) (Jx : List Lf → World → Prop) (hJ : Collects J) (hY : Takes Tryd.prog l N J Jx) (B : Nat) : ∀ (g : Nat) (x : V), x.nodes ≤ g → x.ok = true → x.nodes ≤ 5000 →
    ∀ (n : Nat) (q : List Stp) (U Pv : Nat → Prop) (pre : List Lf) (W : World) (A K : Option Addr) (c d : Nat) (pv : Value), J U pre W → (∀ b, Pv b → b < W.heap.size ∧ ¬ U b ∧ some b ≠ pv.ownBlock) → LiesIn Pv W x A c K d → W.ownsRow B 46 2 pv q.length (stepCells q) → (∀ s ∈ q, s.2.size ≤ maxLen) → q.length + x.depth ≤ 7 → B ≤ W.heap.size → (∀ b, pv.ownBlock = some b → ¬ U b) → pre.length + (leavesV q x).length ≤ N →
      CallsIn Fence.wide n Tryd.prog 37 #[.agg #[.int .i64 x.kind, .int .i64 x.int, .string x.text, .slice A x.items.length c, .slice K x.keys.length d], pv, .func (.yield l) #[] #[]] W (Visited J Jx B U pre (leavesV q x) pv q.length (stepCells q) W) := by
  intro g
  induction g with
  | zero => intro x hg; have := nodes_items x; omega
  | succ g ih =>
    intro x hg hok hn n q U Pv pre W A K c d pv hju hPv hx hrow hps hd hB hpu hlen
    by_cases h0 : x.items = []
    · exact visit_leaf l N J Jx hJ hY n x q B U Pv pre W A K c d pv hju (fun b hb => ⟨(hPv b hb).1, (hPv b hb).2.1⟩) hx hok hn h0 hrow hps (by omega) hB hpu (by rw [leavesV_none h0, List.length_singleton] at hlen; omega)
    · refine visit_step l N J Jx hJ B n x q U Pv pre W A K c d pv hju hPv hx hok hn h0 hrow hps hd hB hpu hlen (fun y hy => ?_)
      have h1 := nodes_items x
      have h2 := V.nodes_mem hy
      exact ih y (by omega) (okItems hok y hy) (by omega)
/-- What an iterator leaves behind. -/
def Iterated (J : (Nat → Prop) → List Lf → World → Prop) (Jx : List Lf → World → Prop) (U : Nat → Prop) (xs : List Lf) (W : World) (e : Ending) (W' : World) : Prop :=
  (∃ v, e = .returned v) ∧ ((∃ U', J U' xs W' ∧ (∀ b, U' b → U b ∨ W.heap.size ≤ b) ∧ But U W W') ∨ ∃ q, q <+: xs ∧ Jx q W')
set_option maxRecDepth 100000 in
set_option maxHeartbeats 1000000 in
/-- The function that is ranged over. -/
theorem leaves1_any (n l : Nat) (x : V) (J : (Nat → Prop) → List Lf → World → Prop) (Jx : List Lf → World → Prop) (U Pv : Nat → Prop) (W : World) (A K : Option Addr) (c d b : Nat) (hJ : Collects J) (hY : Takes Tryd.prog l (leavesV [] x).length J Jx)
    (hju : J U [] W) (hPv : ∀ b, Pv b → b < W.heap.size ∧ ¬ U b) (hx : LiesIn Pv W x A c K d) (hok : x.ok = true) (hn : x.nodes ≤ 5000) (hd : x.depth ≤ 7) (hbx : BlockIs W b 25 #[.int .i64 x.kind, .int .i64 x.int, .string x.text, .slice A x.items.length c, .slice K x.keys.length d]) :
    CallsIn Fence.wide n Tryd.prog 36 #[.func (.yield l) #[] #[], .pointer (some ⟨b, 0, none⟩)] W (Iterated J Jx U (leavesV [] x) W) := by
  have HV := visit_any l (leavesV [] x).length J Jx hJ hY W.heap.size x.nodes x (Nat.le_refl _) hok hn (n - 1) [] U Pv [] W A K c d (.slice none 0 0) hju (fun b hb => ⟨(hPv b hb).1, (hPv b hb).2, by simp [Value.ownBlock]⟩) hx (World.ownsRow_nil _ _ _ _) (fun s hs => by cases hs) (by simpa using hd) (Nat.le_refl _) (fun b hb => by simp [Value.ownBlock] at hb) (by simp)
  obtain ⟨v0, v1, v2, v3, v4⟩ := five_of hbx
  have vl := hbx.lt
  have hdd : ∀ k : Nat, (Fence.wide.depth.isSome = true → 1 ≤ k) := fun k h => by cases h
  clear hJ hY hju hPv hx hok hn hd
  refine callsIn_of_wp Tryd.func36 rfl trivial ?_
  simp only [Tryd.ntmps36, List.size_toArray, List.length_cons, List.length_nil, Nat.reduceAdd, Nat.reduceSub, Array.replicate_succ, Array.replicate_zero, List.push_toArray, List.append_toArray, List.nil_append, List.cons_append]
  gi_wp2_with (refine ⟨trivial, hdd _, HV.mono ?_⟩; rintro e W' (⟨rfl, U', hJ', hU', hB', -⟩ | ⟨rfl, q, hq, hJx'⟩))
  · gi_wp2
    go_end0
    exact ⟨⟨_, rfl⟩, .inl ⟨U', hJ', hU', hB'.wider fun b _ h => h.elim id fun e => by simp [Value.ownBlock] at e⟩⟩
  · gi_wp2
    go_end0
    exact ⟨⟨_, rfl⟩, .inr ⟨q, hq, hJx'⟩⟩
theorem But.put (W : World) (l : Nat) (o : Obj) : But (fun b => b = l) W (W.putObj l o) := ⟨rfl, rfl, rfl, Nat.le_of_eq World.putObj_size.symm, fun _ _ h => World.putObj_heap_other h⟩
theorem But.laid (W : World) (o : Obj) : But (fun _ => False) W (W.alloc o) := But.below (below_al (Below.refl _ W) o)
set_option maxHeartbeats 1000000 in
/-- A RANGE OVER AN ITERATOR OF LEAVES, the loop's variable in a box of its own: one round is owed. -/
theorem range_leaves {P : Program} {n : Nat} {g : Operand} {pt : Tmp} {assign body : Code} {Q : Exit → Act → World → Prop} {a : Act} {w : World} {gf : FuncId} {lb : Array Value} (hg : a.eval g = .func (.func gf) #[] lb) (eg : ∀ args w, (callFunc gf args).run P w = .ok (.enter gf args) w)
    (xs : List Lf) (U0 : Nat → Prop)
    (hseq : ∀ (l : Nat) (J : (Nat → Prop) → List Lf → World → Prop) (Jx : List Lf → World → Prop) (U : Nat → Prop) (W : World), Collects J → Takes P l xs.length J Jx → J U [] W → Below w.heap.size w W → (∀ b, U b → U0 b ∨ w.heap.size ≤ b) → CallsIn Fence.wide (n - 1) P gf (#[.func (.yield l) #[] #[]] ++ lb) W (Iterated J Jx U xs W))
    (I : (Nat → Prop) → List Lf → World → Prop) (Ix : List Lf → World → Prop) (hI : Collects I) (h0 : I U0 [] w)
    (hIx : ∀ (pre : List Lf) (W : World) (l : Nat) (o : Obj), Ix pre W → w.heap.size ≤ l → Ix pre (W.putObj l o))
    (T : List Value → Nat → Array Value) (tl : TypeId)
    (hassign : ∀ (m l : Nat) (D : Nat → Prop) (x : Lf) (cs : List Value) (W : World) (K : Act → World → Prop), LeafIn D W x cs → K { tmps := T cs W.heap.size, defers := [] } (W.alloc (.cells cs.toArray tl)) → assign.wpIn (Fence.wide.inRound l) m P (Exit.then K (fun _ _ _ => False)) { tmps := a.tmps.setIfInBounds pt (.agg cs.toArray), defers := [] } W)
    (hbody : ∀ (m l : Nat) (U D : Nat → Prop) (pre : List Lf) (x : Lf) (cs : List Value) (B : Nat) (W : World), I U pre W → pre.length < xs.length → LeafIn D W x cs → (∀ b, D b → b < W.heap.size ∧ ¬ U b ∧ b ≠ B) → BlockIs W B tl cs.toArray → ¬ U B → body.wpIn (Fence.wide.inRound l) m P (fun e _ W' => match e with
      | .normal => ∃ U', I U' (pre ++ [x]) W' ∧ (∀ b, U' b → U b ∨ D b ∨ b = B ∨ W.heap.size ≤ b) ∧ But U W W'
      | .ret => Ix (pre ++ [x]) W' ∧ But U W W'
      | _ => False) { tmps := T cs B, defers := [] } W)
    (hdone : ∀ (D : Nat) (U : Nat → Prop) (W : World), w.heap.size ≤ D → ¬ U D → I U xs W → But U0 w W → W.heap[D]? = some (.deferred (some [])) → Q .normal { a with defers := { target := .collected D, args := #[] } :: a.defers } W)
    (hstop : ∀ (D : Nat) (q : List Lf) (W : World), w.heap.size ≤ D → q <+: xs → Ix q W → W.heap[D]? = some (.deferred (some [])) → Code.ret.wpIn Fence.wide n P Q { a with defers := { target := .collected D, args := #[] } :: a.defers } W) :
    (Code.rangeFunc g #[pt] assign body).wpIn Fence.wide n P Q a w := by
  refine wpIn_rangeFunc ?_
  intro fn hfn
  obtain ⟨rec, hrec⟩ : ∃ rec : LoopState → Option Code → Loop, rec = fun st pe => { state := st, pending := pe, fn, tmps := a.tmps, params := #[pt], assign, body, defers := w.heap.size } := ⟨_, rfl⟩
  obtain ⟨W1, hW1⟩ : ∃ W1, (w.alloc (.deferred (some []))).alloc (.loop (rec .ready none)) = W1 := ⟨_, rfl⟩
  have hL1 : W1.heap[w.heap.size + 1]? = some (.loop (rec .ready none)) := by
    rw [← hW1]; have := World.alloc_heap_new (w.alloc (.deferred (some []))) (.loop (rec .ready none)); rwa [World.size_alloc] at this
  have hK1 : W1.heap[w.heap.size]? = some (.deferred (some [])) := by
    rw [← hW1]; exact (Below.heap_alloc _ _ _ (by simp)).trans (World.alloc_heap_new w _)
  have hb1 : Below w.heap.size w W1 := by rw [← hW1]; exact ((Below.refl _ w).alloc (Nat.le_refl _) _).alloc (by simp) _
  have hlt0 : ∀ b, U0 b → b < w.heap.size := hI.lt U0 [] w h0
  have hI1 : I U0 [] W1 := hI.on U0 [] w W1 (fun _ => False) h0 (But.below hb1) (fun _ _ h => h)
  obtain ⟨J, hJd⟩ : ∃ J : (Nat → Prop) → List Lf → World → Prop, J = fun U pre W => ∃ Ui, (∀ b, U b ↔ Ui b ∨ b = w.heap.size ∨ b = w.heap.size + 1) ∧ ¬ Ui w.heap.size ∧ ¬ Ui (w.heap.size + 1) ∧ I Ui pre W ∧ W.heap[w.heap.size + 1]? = some (.loop (rec .ready none)) ∧ W.heap[w.heap.size]? = some (.deferred (some [])) := ⟨_, rfl⟩
  obtain ⟨Jx, hJxd⟩ : ∃ Jx : List Lf → World → Prop, Jx = fun pre W => Ix pre W ∧ W.heap[w.heap.size + 1]? = some (.loop (rec .done (some .ret))) ∧ W.heap[w.heap.size]? = some (.deferred (some [])) := ⟨_, rfl⟩
  have hJ : Collects J := by
    rw [hJd]
    refine ⟨fun U pre W ⟨Ui, hU, _, _, hi, hl, hk⟩ b hb => ?_, fun U pre W W' X ⟨Ui, hU, n1, n2, hi, hl, hk⟩ hB hX => ⟨Ui, hU, n1, n2, hI.on Ui pre W W' X hi hB (fun b hb => hX b ((hU b).2 (.inl hb))), ?_, ?_⟩⟩
    · rcases (hU b).1 hb with h | h | h
      · exact hI.lt Ui pre W hi b h
      · rw [h]; exact (Array.getElem?_eq_some_iff.1 hk).1
      · rw [h]; exact (Array.getElem?_eq_some_iff.1 hl).1
    · exact (hB.block _ (Array.getElem?_eq_some_iff.1 hl).1 (hX _ ((hU _).2 (.inr (.inr rfl))))).trans hl
    · exact (hB.block _ (Array.getElem?_eq_some_iff.1 hk).1 (hX _ ((hU _).2 (.inr (.inl rfl))))).trans hk
  have hT : Takes P (w.heap.size + 1) xs.length J Jx := by
    rw [hJd, hJxd]
    rintro m U Dl pre x cs W ⟨Ui, hU, n1, n2, hi, hl, hk⟩ hlen hleaf hD
    have hlt : w.heap.size + 1 < W.heap.size := (Array.getElem?_eq_some_iff.1 hl).1
    have hy : (Instr.yield (w.heap.size + 1) #[.agg cs.toArray]).run P W = .ok (.round (w.heap.size + 1) fn (a.tmps.setIfInBounds pt (.agg cs.toArray)) assign body) W := by
      have := run_yield (P := P) (args := #[.agg cs.toArray]) hl (by rw [hrec]; rfl)
      rw [hrec] at this
      simpa using this
    refine ⟨fn, _, assign, body, hy, roundIn_of_wpIn hfn (hassign m _ Dl x cs W _ hleaf ?_)⟩
    have hla : (W.alloc (.cells cs.toArray tl)).heap[w.heap.size + 1]? = some (.loop (rec .ready none)) := (Below.heap_alloc _ _ _ hlt).trans hl
    have hka : (W.alloc (.cells cs.toArray tl)).heap[w.heap.size]? = some (.deferred (some [])) := (Below.heap_alloc _ _ _ (by omega)).trans hk
    refine ⟨_, run_beginRound hla (by rw [hrec]), ?_⟩
    obtain ⟨W2, hW2⟩ : ∃ W2, (W.alloc (.cells cs.toArray tl)).putObj (w.heap.size + 1) (.loop { rec .ready none with state := .busy }) = W2 := ⟨_, rfl⟩
    have hl2 : W2.heap[w.heap.size + 1]? = some (.loop { rec .ready none with state := .busy }) := by rw [← hW2]; exact World.putObj_heap_same (by simp; omega)
    have hk2 : W2.heap[w.heap.size]? = some (.deferred (some [])) := by rw [← hW2]; exact (World.putObj_heap_other (by omega)).trans hka
    have hB2 : But (fun b => b = w.heap.size + 1) W W2 := by
      rw [← hW2]; exact ((But.laid W _).trans (But.put _ _ _)).wider fun _ _ h => h.elim False.elim id
    have hs2 : W2.heap.size = W.heap.size + 1 := by rw [← hW2]; simp
    have hbx2 : BlockIs W2 W.heap.size tl cs.toArray := by
      refine (BlockIs.new W tl cs.toArray).to ?_
      rw [← hW2]; exact World.putObj_heap_other (by omega)
    have hDl : ∀ b, Dl b → b < W.heap.size ∧ ¬ Ui b ∧ b ≠ w.heap.size ∧ b ≠ w.heap.size + 1 := fun b hb => ⟨(hD b hb).1, fun h => (hD b hb).2 ((hU b).2 (.inl h)), fun h => (hD b hb).2 ((hU b).2 (.inr (.inl h))), fun h => (hD b hb).2 ((hU b).2 (.inr (.inr h)))⟩
    have hUi : ∀ b, Ui b → b < W.heap.size := hI.lt Ui pre W hi
    rw [hW2]
    refine wpIn_mono (hbody m _ Ui Dl pre x cs W.heap.size W2 (hI.on Ui pre W W2 _ hi hB2 (fun b hb e => n2 (e ▸ hb))) hlen (hleaf.keep (fun b o hb => World.cell?_of_block (hB2.block b (hDl b hb).1 (hDl b hb).2.2.2)) (fun _ h => h)) (fun b hb => ⟨by have := (hDl b hb).1; omega, (hDl b hb).2.1, fun e => by have := (hDl b hb).1; omega⟩) hbx2 (fun h => by have := hUi _ h; omega)) ?_
    have fin : ∀ (jump : Option Code) (W3 : World), But Ui W2 W3 →
        (Instr.endRound (w.heap.size + 1) jump).run P W3 = .ok (.bool jump.isNone) (W3.putObj (w.heap.size + 1) (.loop (rec (if jump.isNone then .ready else .done) jump))) ∧
        (W3.putObj (w.heap.size + 1) (.loop (rec (if jump.isNone then .ready else .done) jump))).heap[w.heap.size + 1]? = some (.loop (rec (if jump.isNone then .ready else .done) jump)) ∧
        (W3.putObj (w.heap.size + 1) (.loop (rec (if jump.isNone then .ready else .done) jump))).heap[w.heap.size]? = some (.deferred (some [])) := fun jump W3 hB3 => by
      have hl3 := (hB3.block _ (by omega) n2).trans hl2
      have hk3 := (hB3.block _ (by omega) n1).trans hk2
      have := run_endRound (P := P) jump hl3
      rw [hrec] at this ⊢
      exact ⟨this, World.putObj_heap_same (Array.getElem?_eq_some_iff.1 hl3).1, (World.putObj_heap_other (by omega)).trans hk3⟩
    rintro e a3 W3 hp
    cases e with
    | normal =>
      obtain ⟨U', hi', hU', hB3⟩ := hp
      obtain ⟨hr, hl4, hk4⟩ := fin none W3 hB3
      have hn : ∀ b, b = w.heap.size ∨ b = w.heap.size + 1 → ¬ U' b := fun b hb h => by
        rcases hU' b h with h | h | h | h
        · rcases hb with rfl | rfl
          · exact n1 h
          · exact n2 h
        · have := hDl b h; omega
        · omega
        · omega
      refine ⟨_, _, hr, .inl ⟨rfl, fun b => U' b ∨ b = w.heap.size ∨ b = w.heap.size + 1, ⟨U', fun _ => Iff.rfl, hn _ (.inl rfl), hn _ (.inr rfl), hI.on U' _ W3 _ _ hi' (But.put _ _ _) (fun b hb e => hn b (.inr e) hb), hl4, hk4⟩, fun b hb => ?_, ?_⟩⟩
      · rcases hb with h | h | h
        · rcases hU' b h with h | h | h | h
          · exact .inl ((hU b).2 (.inl h))
          · exact .inr (.inl h)
          · exact .inr (.inr (by omega))
          · exact .inr (.inr (by omega))
        · exact .inl ((hU b).2 (.inr (.inl h)))
        · exact .inl ((hU b).2 (.inr (.inr h)))
      · refine ((hB2.trans hB3).trans (But.put _ _ _)).wider fun b _ h => (hU b).2 ?_
        rcases h with (h | h) | h
        · exact .inr (.inr h)
        · exact .inl h
        · exact .inr (.inr h)
    | ret =>
      obtain ⟨hx', hB3⟩ := hp
      obtain ⟨hr, hl4, hk4⟩ := fin (some .ret) W3 hB3
      exact ⟨_, _, hr, .inr ⟨rfl, hIx _ _ _ _ hx' (by omega), hl4, hk4⟩⟩
    | exit id => exact hp.elim
    | goto t => exact hp.elim
    | panic ch => exact hp.elim
    | outgrown => exact hp.elim
  refine ⟨w.heap.size + 1, [{ target := .collected w.heap.size, args := #[] }], W1, { target := .fn (.func gf) lb, args := #[.func (.yield (w.heap.size + 1)) #[] #[]] }, W1, gf,
    #[.func (.yield (w.heap.size + 1)) #[] #[]] ++ lb, W1, ?_, ?_, ?_, ?_, (fun h => by cases h), ?_⟩
  · rw [← hW1, hrec]; exact run_enterLoop_outer _ _ _ _ _
  · simp only [resolve, hg]
    simp [go_sem]
  · intro f' _; trivial
  · simp [invoke, go_sem, eg]
  · refine (hseq (w.heap.size + 1) J Jx (fun b => U0 b ∨ b = w.heap.size ∨ b = w.heap.size + 1) W1 hJ hT (by rw [hJd]; exact ⟨U0, fun _ => Iff.rfl, fun h => by have := hlt0 _ h; omega, fun h => by have := hlt0 _ h; omega, hI1, hL1, hK1⟩) hb1 (fun b hb => hb.imp id fun h => by omega)).mono ?_
    rintro e W2 ⟨⟨v, rfl⟩, (⟨U', hj, -, hB'⟩ | ⟨q, hq, hj⟩)⟩
    · rw [hJd] at hj
      obtain ⟨Ui, hU, n1, n2, hi, hl, hk⟩ := hj
      refine ⟨none, _, by have := run_endLoop (P := P) hl (by rw [hrec]; simp); rw [hrec] at this; exact this, hdone _ Ui _ (Nat.le_refl _) n1 (hI.on Ui _ W2 _ (fun b => b = w.heap.size + 1) hi (But.put _ _ _) (fun b hb e => n2 (e ▸ hb))) ?_ ((World.putObj_heap_other (by omega)).trans hk)⟩
      refine (((But.below (X := fun _ => False) hb1).trans hB').trans (But.put _ _ _)).wider fun b hb h => ?_
      rcases h with (h | h | h | h) | h
      · exact h.elim
      · exact h
      · omega
      · omega
      · omega
    · rw [hJxd] at hj
      obtain ⟨hx', hl, hk⟩ := hj
      exact ⟨some .ret, _, by have := run_endLoop (P := P) hl (by rw [hrec]; simp); rw [hrec] at this; exact this, hstop _ q _ (Nat.le_refl _) hq (hIx _ _ _ _ hx' (by omega)) ((World.putObj_heap_other (by omega)).trans hk)⟩
end Go.Proofs.YtebmjefimbcefaaDoor
