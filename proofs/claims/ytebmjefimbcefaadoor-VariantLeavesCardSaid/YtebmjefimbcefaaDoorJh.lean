/- The definition's Items and Flatten, walked. -/
import Derived.Test.YtebmjefimbcefaaDoorJg
import Derived.Test.YtebmjefimbcefaaDoorJf
import Derived.Test.YtebmjefimbcefaaDoorTg
import Derived.Test.YtebmjefimbcefaaDoorJb
namespace Go.Proofs.YtebmjefimbcefaaDoor
open Go.RowKit
/-- The cells of a box and of an elder item. -/
theorem box_item2 {w W : World} {g b2 q : Nat} {t : TypeId} {x0 x1 x2 x3 x4 y0 y1 y2 y3 y4 : Value} (hb : Below w.heap.size w W) (hg : BlockIs W g t #[x0, x1, x2, x3, x4]) (hb2 : b2 < w.heap.size)
    (hy : w.cell? ⟨b2, q, none⟩ = some y0 ∧ w.cell? ⟨b2, q + 1, none⟩ = some y1 ∧ w.cell? ⟨b2, q + 2, none⟩ = some y2 ∧ w.cell? ⟨b2, q + 3, none⟩ = some y3 ∧ w.cell? ⟨b2, q + 4, none⟩ = some y4) :
    Hid (Below w.heap.size w W) ∧ (W.cell? ⟨g, 0, none⟩ = some x0 ∧ W.cell? ⟨g, 1, none⟩ = some x1 ∧ W.cell? ⟨g, 2, none⟩ = some x2 ∧ W.cell? ⟨g, 3, none⟩ = some x3 ∧ W.cell? ⟨g, 4, none⟩ = some x4) ∧ (W.cell? ⟨b2, q, none⟩ = some y0 ∧ W.cell? ⟨b2, q + 1, none⟩ = some y1 ∧ W.cell? ⟨b2, q + 2, none⟩ = some y2 ∧ W.cell? ⟨b2, q + 3, none⟩ = some y3 ∧ W.cell? ⟨b2, q + 4, none⟩ = some y4) := by
  obtain ⟨e0, e1, e2, e3, e4⟩ := hy
  exact ⟨Lib.hid hb, five_of hg, (bcell hb _ _ hb2).trans e0, (bcell hb _ _ hb2).trans e1, (bcell hb _ _ hb2).trans e2, (bcell hb _ _ hb2).trans e3, (bcell hb _ _ hb2).trans e4⟩
section
variable {w W : World} {P : Nat → Prop} {vc : Array Value} {acc : List Lf} {rO : Value} {css : List (List Value)} {y : V} {s : Stp} {Ay Ky : Option Addr} {cy dy : Nat}
/-- A leaf of one step, made behind the collected ones. -/
theorem LQ.fresh (hP : ∀ b, P b → b < w.heap.size) (h : LQ w P vc acc rO css W) (hy : LiesIn (PL w P rO W) W y Ay cy Ky dy) (hs : s.2.size ≤ maxLen) {X : World} (hX : X = (W.alloc (.cells #[.int .i64 s.1, .string s.2] 46)).alloc (.cells #[.slice (some ⟨W.heap.size, 0, none⟩) 1 1, .int .i64 y.kind, .int .i64 y.int, .string y.text, .slice Ay y.items.length cy, .slice Ky y.keys.length dy] 40)) :
    LQ w P vc acc rO css X ∧ LeafsIn (PL w P rO X) X [([s], y)] [[.slice (some ⟨W.heap.size, 0, none⟩) 1 1, .int .i64 y.kind, .int .i64 y.int, .string y.text, .slice Ay y.items.length cy, .slice Ky y.keys.length dy]] ∧ BlockIs X (W.heap.size + 1) 40 #[.slice (some ⟨W.heap.size, 0, none⟩) 1 1, .int .i64 y.kind, .int .i64 y.int, .string y.text, .slice Ay y.items.length cy, .slice Ky y.keys.length dy] := by
  have hb : Below W.heap.size W X := by rw [hX]; exact below_al (below_al (Below.refl _ W) _) _
  have hsz : X.heap.size = W.heap.size + 2 := by rw [hX]; simp
  have hps : BlockIs X W.heap.size 46 #[.int .i64 s.1, .string s.2] := by rw [hX]; exact (BlockIs.new W _ _).alloc _
  have hlf : BlockIs X (W.heap.size + 1) 40 #[.slice (some ⟨W.heap.size, 0, none⟩) 1 1, .int .i64 y.kind, .int .i64 y.int, .string y.text, .slice Ay y.items.length cy, .slice Ky y.keys.length dy] := by rw [hX]; exact BlockIs.newAt _ _ _ (by simp)
  have hlt := h.lt
  refine ⟨h.on hP hb, ⟨⟨_, _, Ay, cy, Ky, dy, rfl, ⟨Nat.le_refl _, by simp [maxLen], .inr ⟨W.heap.size, 0, rfl, .inr ⟨by omega, by omega, fun e => ?_⟩, hps.cell 0, hps.cell 1, hs, trivial⟩⟩, ?_⟩, trivial⟩, hlf⟩
  · have := (World.ownsRow.lt h.own _ e.symm).2
    omega
  · exact LiesIn.keep (fun b o hx => bcell hb b o (PL.lt hP h hx)) (fun b hx => hx.imp id fun hx => ⟨hx.1, by omega, hx.2.2⟩) y hy
end
set_option maxRecDepth 100000 in
set_option maxHeartbeats 4000000 in
theorem refItems_any (P : Nat → Prop) (x : V) (w : World) (A K : Option Addr) (c d : Nat) (hP : ∀ b, P b → b < w.heap.size) (hx : LiesIn P w x A c K d) (hok : x.ok = true) (hn : x.nodes ≤ 5000) :
    Calls Tryd.prog 20 #[.agg #[.int .i64 x.kind, .int .i64 x.int, .string x.text, .slice A x.items.length c, .slice K x.keys.length d]] w (LeafQ P (itemsL x.kind x.keys 0 x.items) w) := by
  obtain ⟨iv0, hiv, hzv0, hzv1, hzv2⟩ := info_parts (P := Tryd.prog) (e := 40) (z := .agg #[.slice none 0 0, .int .i64 0, .int .i64 0, .string ⟨#[]⟩, .slice none 0 0, .slice none 0 0]) (size := 6) (bytes := 104) (by kernel_rfl)
  obtain ⟨R, hR⟩ : ∃ R, R = itemsL x.kind x.keys 0 x.items := ⟨_, rfl⟩
  have HR := Lib.hid hR
  have HLX := Lib.hid fun W (hW : Below w.heap.size w W) => show LiesIn P W x A c K d from LiesIn.keep (fun b o hb => bcell hW b o (hP b hb)) (fun _ h => h) x hx
  have HOK := Lib.hid (And.intro hok hn)
  have HP := Lib.hid hP
  have HX := Lib.hid hx
  have HL0 := Lib.hid (LQ.start w P #[.int .i64 x.kind, .int .i64 x.int, .string x.text, .slice A x.items.length c, .slice K x.keys.length d])
  have hxc := (inn_items hx).1
  have hxm := (inn_items hx).2.1
  unfold maxLen at hxm
  obtain ⟨n, hnn⟩ : ∃ n, n = x.items.length := ⟨_, rfl⟩
  have HN := Lib.hid hnn
  have hnb : n ≤ 5000 := by have := nodes_items x; have := length_le_nodesL x.items; omega
  rw [← hR, ← hnn]
  rw [← hnn] at HL0
  clear hx hok hn hP hR hxc hxm hnn
  go_enter Tryd.func20, Tryd.ntmps20
  go_upto_region 1 with (fail)
  obtain ⟨W1, hW1⟩ : ∃ W1, W1 = w.alloc (.cells #[.int .i64 x.kind, .int .i64 x.int, .string x.text, .slice A n c, .slice K x.keys.length d] 25) := ⟨_, rfl⟩
  have HL1 := Lib.hid (show LQ w P #[.int .i64 x.kind, .int .i64 x.int, .string x.text, .slice A n c, .slice K x.keys.length d] [] (.slice none 0 0) [] W1 by rw [hW1]; exact HL0.out)
  rw [← hW1]
  clear HL0 hW1
  obtain ⟨v0, v1, v2, v3, v4⟩ := five_of HL1.out.bv
  have vl := HL1.out.bv.lt
  go_wp2_with fail
  go_loopw [3, 4] (fun ov iv wr => ∃ (j : Nat) (css : List (List Value)), iv = .int .i64 j ∧ j ≤ n ∧ Hid (LQ w P #[.int .i64 x.kind, .int .i64 x.int, .string x.text, .slice A n c, .slice K x.keys.length d] (itemsL x.kind x.keys 0 (x.items.take j)) ov css wr)) (fun _ iv _ => n - (intOf iv).toNat)
  case atStart => exact ⟨0, [], rfl, Nat.zero_le _, by simpa [itemsL] using HL1⟩
  case round =>
    clear v0 v1 v2 v3 v4 vl HL1
    obtain ⟨j, css, rfl, hj, HI⟩ := hrel
    obtain ⟨RA, rc, hov⟩ := own_form HI.out.own
    subst hov
    have HBX := Lib.hid HI.out.bv
    by_cases hlt : j < n
    · have hjn : (j : Int) < n := by omega
      have hj0 : (0 : Int) ≤ j := by omega
      have hji : j < x.items.length := by have := HN.out; omega
      obtain ⟨y, hy⟩ : ∃ y, x.items[j]? = some y := ⟨_, List.getElem?_eq_getElem hji⟩
      have hlx := HLX.out wr HI.out.old
      obtain ⟨b2, o2, rfl, hb2, hfrom⟩ := inn_at HX.out hji
      obtain ⟨Ay, cy, Ky, dy, hyc, hly⟩ := hfrom.at_ hy
      have hb2w : b2 < w.heap.size := HP.out b2 hb2
      have HYC := Lib.hid hyc
      obtain ⟨s, hs⟩ : ∃ s, s = stepI x.kind x.keys j := ⟨_, rfl⟩
      have hlies := LiesIn.lies (B := wr.heap.size) (fun b hb => by have := HP.out b hb; have := HI.out.old.size; omega) x hlx
      have hss := stepI_size hlies HOK.out.1 hji
      rw [← hs] at hss
      have HST := Lib.hid (show Calls Tryd.prog 39 #[.agg #[.int .i64 x.kind, .int .i64 x.int, .string x.text, .slice (some ⟨b2, o2, none⟩) n c, .slice K x.keys.length d], .int .i64 j] wr.drew fun e w' => e = .returned (.agg #[.int .i64 s.1, .string s.2]) ∧ Below wr.drew.heap.size wr.drew w' from by
        have := refStep_any x wr.drew (some ⟨b2, o2, none⟩) K c d j (lies_on hlies (Below.refl _ wr).drew) HOK.out.1 hji
        rw [← hs, ← HN.out] at this
        exact this)
      have HLY := Lib.hid fun W (hW : Below w.heap.size w W) => show LiesIn (PL w P (.slice RA (itemsL x.kind x.keys 0 (x.items.take j)).length rc) W) W y Ay cy Ky dy from LiesIn.keep (fun b o hb => bcell hW b o (HP.out b hb)) (fun _ h => .inl h) y hly
      have HSN := Lib.hid (show itemsL x.kind x.keys 0 (x.items.take (j + 1)) = (itemsL x.kind x.keys 0 (x.items.take j)) ++ [([s], y)] by
        rw [List.take_add_one, hy, Option.toList_some, itemsL_snoc, List.length_take, Nat.min_eq_left (by omega), Nat.zero_add, hs])
      have hbound : (itemsL x.kind x.keys 0 (x.items.take j)).length = j := by rw [itemsL_length, List.length_take]; omega
      obtain ⟨ql, hql⟩ : ∃ ql, ql = (itemsL x.kind x.keys 0 (x.items.take j)).length := ⟨_, rfl⟩
      have HQL := Lib.hid hql
      have hqj : ql ≤ 5000 := by omega
      have hwl := HI.out.lt
      obtain ⟨v0, v1, v2, v3, v4⟩ := five_of HBX.out
      clear hy hji hlx hfrom hly hyc hb2 hs hlies hbound
      rw [← hql]
      clear hql
      go_upto_region 5 with (fail)
      clear v0 v1 v2 v3 v4
      refine wp_region_held_drew (S := (fun W => Hid (Below w.heap.size w W) ∧ (W.cell? ⟨w.heap.size, 0, none⟩ = some (.int .i64 x.kind) ∧ W.cell? ⟨w.heap.size, 1, none⟩ = some (.int .i64 x.int) ∧ W.cell? ⟨w.heap.size, 2, none⟩ = some (.string x.text) ∧ W.cell? ⟨w.heap.size, 3, none⟩ = some (.slice (some ⟨b2, o2, none⟩) n c) ∧ W.cell? ⟨w.heap.size, 4, none⟩ = some (.slice K x.keys.length d)) ∧ (W.cell? ⟨b2, o2 + j * 5, none⟩ = some (.int .i64 y.kind) ∧ W.cell? ⟨b2, o2 + j * 5 + 1, none⟩ = some (.int .i64 y.int) ∧ W.cell? ⟨b2, o2 + j * 5 + 2, none⟩ = some (.string y.text) ∧ W.cell? ⟨b2, o2 + j * 5 + 3, none⟩ = some (.slice Ay y.items.length cy) ∧ W.cell? ⟨b2, o2 + j * 5 + 4, none⟩ = some (.slice Ky y.keys.length dy)))) (by kernel_rfl) (box_item2 (Below.drew HI.out.old) (show BlockIs wr.drew _ _ _ from HBX.out) hb2w HYC.out) (fun hH0 => ?_)
      refine wpAnyH_take (i := 0) (oi := { dst := some 12, op := Go.Op.move (Go.Operand.tmp 3), type := 26, pos := "ref.go:254", after := #[], guard := none }) (v := ?_) rfl (by kernel_rfl) (by kernel_rfl) (by kernel_rfl) (fun _ _ _ h => h) (Or.inl ⟨by rfl, ?_⟩) (by assumption) ?_
      rotate_left
      · (intro w hSw; (try dsimp only at hSw); go_simp; try with_reducible rfl)
      (try simp only [Act.put, List.setIfInBounds_toArray, List.set_cons_zero, List.set_cons_succ])
      refine wpAnyH_take (i := 1) (oi := { dst := some 13, op := Go.Op.load 25 (Go.Operand.tmp 1), type := 25, pos := "ref.go:254", after := #[], guard := none }) (v := ?_) rfl (by kernel_rfl) (by kernel_rfl) (by kernel_rfl) (fun _ _ _ h => h) (Or.inl ⟨by rfl, ?_⟩) (by assumption) ?_
      rotate_left
      · (intro w hSw; (try dsimp only at hSw); go_simp; try with_reducible rfl)
      (try simp only [Act.put, List.setIfInBounds_toArray, List.set_cons_zero, List.set_cons_succ])
      refine wpAnyH_take (i := 2) (oi := { dst := some 14, op := Go.Op.move (Go.Operand.tmp 4), type := 3, pos := "ref.go:254", after := #[], guard := none }) (v := ?_) rfl (by kernel_rfl) (by kernel_rfl) (by kernel_rfl) (fun _ _ _ h => h) (Or.inl ⟨by rfl, ?_⟩) (by assumption) ?_
      rotate_left
      · (intro w hSw; (try dsimp only at hSw); go_simp; try with_reducible rfl)
      (try simp only [Act.put, List.setIfInBounds_toArray, List.set_cons_zero, List.set_cons_succ])
      refine wpAnyH_take (i := 5) (oi := { dst := some 17, op := Go.Op.fieldAddr 25 (Go.Operand.tmp 1) 3, type := 0, pos := "ref.go:254", after := #[], guard := none }) (v := ?_) rfl (by kernel_rfl) (by kernel_rfl) (by kernel_rfl) (fun _ _ _ h => h) (Or.inl ⟨by rfl, ?_⟩) (by assumption) ?_
      rotate_left
      · (intro w hSw; (try dsimp only at hSw); go_simp; try with_reducible rfl)
      (try simp only [Act.put, List.setIfInBounds_toArray, List.set_cons_zero, List.set_cons_succ])
      refine wpAnyH_take (i := 6) (oi := { dst := some 18, op := Go.Op.load 22 (Go.Operand.tmp 17), type := 22, pos := "ref.go:254", after := #[{ on := 5, ground := Go.Ground.data }], guard := none }) (v := ?_) rfl (by kernel_rfl) (by kernel_rfl) (by kernel_rfl) (fun _ _ _ h => h) (Or.inl ⟨by rfl, ?_⟩) (by assumption) ?_
      rotate_left
      · (intro w hSw; (try dsimp only at hSw); go_simp; try with_reducible rfl)
      (try simp only [Act.put, List.setIfInBounds_toArray, List.set_cons_zero, List.set_cons_succ])
      refine wpAnyH_take (i := 7) (oi := { dst := some 19, op := Go.Op.move (Go.Operand.tmp 4), type := 3, pos := "ref.go:254", after := #[], guard := none }) (v := ?_) rfl (by kernel_rfl) (by kernel_rfl) (by kernel_rfl) (fun _ _ _ h => h) (Or.inl ⟨by rfl, ?_⟩) (by assumption) ?_
      rotate_left
      · (intro w hSw; (try dsimp only at hSw); go_simp; try with_reducible rfl)
      (try simp only [Act.put, List.setIfInBounds_toArray, List.set_cons_zero, List.set_cons_succ])
      refine wpAnyH_take (i := 8) (oi := { dst := some 20, op := Go.Op.indexAddr 22 (Go.Operand.tmp 18) (Go.Operand.tmp 19), type := 0, pos := "ref.go:254", after := #[{ on := 6, ground := Go.Ground.data }, { on := 7, ground := Go.Ground.data }], guard := none }) (v := ?_) rfl (by kernel_rfl) (by kernel_rfl) (by kernel_rfl) (fun _ _ _ h => h) (Or.inl ⟨by rfl, ?_⟩) (by assumption) ?_
      rotate_left
      · (intro w hSw; (try dsimp only at hSw); go_simp; try with_reducible rfl)
      (try simp only [Act.put, List.setIfInBounds_toArray, List.set_cons_zero, List.set_cons_succ])
      refine wpAnyH_take (i := 9) (oi := { dst := some 21, op := Go.Op.load 25 (Go.Operand.tmp 20), type := 25, pos := "ref.go:254", after := #[{ on := 8, ground := Go.Ground.data }], guard := none }) (v := ?_) rfl (by kernel_rfl) (by kernel_rfl) (by kernel_rfl) (fun _ _ _ h => h) (Or.inl ⟨by rfl, ?_⟩) (by assumption) ?_
      rotate_left
      · (intro w hSw; (try dsimp only at hSw); go_simp; try with_reducible rfl)
      (try simp only [Act.put, List.setIfInBounds_toArray, List.set_cons_zero, List.set_cons_succ])
      refine wpAnyH_ready (rs := [3]) (by kernel_rfl) (by simp) ?_
      refine AllReadyH.cons (o := { dst := some 15, op := Go.Op.call { callee := Go.Callee.value (Go.Operand.func 39), args := #[Go.Operand.tmp 13, Go.Operand.tmp 14], argTypes := #[25, 3] }, type := 46, pos := "ref.go:254", after := #[{ on := 1, ground := Go.Ground.data }, { on := 2, ground := Go.Ground.data }], guard := none }) rfl (fun KK hK => ?_) (AllReadyH.nil)
      · go_simp
        refine (HST.out).mono ?_
        rintro e w1 ⟨rfl, h1⟩
        have hB1 : Below wr.heap.size wr w1 := below_on (Below.drew (Below.refl _ _)) h1
        have HI1 := Lib.hid (HI.out.on HP.out hB1)
        (try go_wp2_with fail)
        refine hK.out _ _ (box_item2 HI1.out.old HI1.out.bv hb2w HYC.out) (fun hH1 => ?_)
        clear hK KK
        (try simp only [Act.put, List.setIfInBounds_toArray, List.set_cons_zero, List.set_cons_succ])
        refine wpAnyH_ready (rs := [4]) (by kernel_rfl) (by simp) ?_
        refine AllReadyH.cons (o := { dst := some 16, op := Go.Op.buildSlice 38 1 #[(0, Go.Operand.tmp 15)], type := 38, pos := "ref.go:254", after := #[{ on := 3, ground := Go.Ground.data }], guard := none }) rfl (fun KK hK => ?_) (AllReadyH.nil)
        · go_simp
          refine hK.out _ _ (box_item2 (below_al hH1.1.out _) (HI1.out.bv.alloc _) hb2w HYC.out) (fun hH2 => ?_)
          clear hK KK
          (try simp only [Act.put, List.setIfInBounds_toArray, List.set_cons_zero, List.set_cons_succ])
          refine wpAnyH_take (i := 10) (oi := { dst := some 22, op := Go.Op.build 40 #[(0, Go.Operand.tmp 16), (1, Go.Operand.tmp 21)], type := 40, pos := "ref.go:254", after := #[{ on := 4, ground := Go.Ground.data }, { on := 9, ground := Go.Ground.data }], guard := none }) (v := ?_) rfl (by kernel_rfl) (by kernel_rfl) (by kernel_rfl) (fun _ _ _ h => h) (Or.inl ⟨by rfl, ?_⟩) (by assumption) ?_
          rotate_left
          · (intro w hSw; (try dsimp only at hSw); go_simp; try with_reducible rfl)
          (try simp only [Act.put, List.setIfInBounds_toArray, List.set_cons_zero, List.set_cons_succ])
          refine wpAnyH_ready (rs := [11]) (by kernel_rfl) (by simp) ?_
          refine AllReadyH.cons (o := { dst := some 23, op := Go.Op.buildSlice 26 1 #[(0, Go.Operand.tmp 22)], type := 26, pos := "ref.go:254", after := #[{ on := 10, ground := Go.Ground.data }], guard := none }) rfl (fun KK hK => ?_) (AllReadyH.nil)
          · go_simp
            refine hK.out _ _ (box_item2 (below_al hH2.1.out _) ((HI1.out.bv.alloc _).alloc _) hb2w HYC.out) (fun hH3 => ?_)
            clear hK KK
            (try simp only [Act.put, List.setIfInBounds_toArray, List.set_cons_zero, List.set_cons_succ])
            refine wpAnyH_ready (rs := [12]) (by kernel_rfl) (by simp) ?_
            refine AllReadyH.cons (o := { dst := some 24, op := Go.Op.call { callee := Go.Callee.builtin Go.Builtin.append, args := #[Go.Operand.tmp 12, Go.Operand.tmp 23], argTypes := #[26, 26] }, type := 26, pos := "ref.go:254", after := #[{ on := 0, ground := Go.Ground.data }, { on := 11, ground := Go.Ground.data }, { on := 3, ground := Go.Ground.chain }], guard := none }) rfl (fun KK hK => ?_) (AllReadyH.nil)
            · obtain ⟨X, hX⟩ : ∃ X, X = (w1.alloc (.cells #[.int .i64 s.1, .string s.2] 46)).alloc (.cells #[.slice (some ⟨w1.heap.size, 0, none⟩) 1 1, .int .i64 y.kind, .int .i64 y.int, .string y.text, .slice Ay y.items.length cy, .slice Ky y.keys.length dy] 40) := ⟨_, rfl⟩
              obtain ⟨HI3, HM, HNW⟩ := HI1.out.fresh HP.out (HLY.out w1 HI1.out.old) hss hX
              rw [← hX]
              have hXs : w.heap.size + 1 ≤ X.heap.size := HI3.lt
              have HOW : X.ownsRow (w.heap.size + 1) 40 6 (.slice RA ql rc) ql css.flatten := (by rw [HQL.out]; exact HI3.own)
              refine step_append_lies _ (by rfl) _ _ 26 (by rfl) (w.heap.size + 1) 40 iv0 (.agg #[.slice none 0 0, .int .i64 0, .int .i64 0, .string ⟨#[]⟩, .slice none 0 0, .slice none 0 0]) 6 104 Tryd.underlying26 hiv hzv0 hzv1 hzv2 rfl (by decide) (.slice RA ql rc) ql css.flatten rfl HOW ⟨w1.heap.size + 1, 0, none⟩ 1 1 [.slice (some ⟨w1.heap.size, 0, none⟩) 1 1, .int .i64 y.kind, .int .i64 y.int, .string y.text, .slice Ay y.items.length cy, .slice Ky y.keys.length dy] rfl rfl (fun k u hu => by rw [Addr.add_lit, Nat.zero_add]; refine (HNW.cell k).trans ?_; rw [List.getElem?_toArray]; exact hu) (LeafsIn.one HM) (by omega) (by unfold maxLen; omega) (by omega) hXs _ rfl ?_
              intro g' cap w5 hown hgrow hat hlt'
              have HL5 := Lib.hid (show LQ w P #[.int .i64 x.kind, .int .i64 x.int, .string x.text, .slice (some ⟨b2, o2, none⟩) n c, .slice K x.keys.length d] (itemsL x.kind x.keys 0 (x.items.take (j + 1))) (.slice (some ⟨g', 0, none⟩) (ql + 1) cap) (css ++ [[.slice (some ⟨w1.heap.size, 0, none⟩) 1 1, .int .i64 y.kind, .int .i64 y.int, .string y.text, .slice Ay y.items.length cy, .slice Ky y.keys.length dy]]) w5 from (by rw [HSN.out]; exact HI3.more HP.out HM (by rw [← HQL.out]; exact hgrow) (by rw [List.length_append, ← HQL.out]; exact hown) (by rcases hat with hat | hat; (left; rw [← HQL.out, hat]; rfl); (right; rw [← hat]; rfl))))
              refine hK.out _ _ (box_item2 HL5.out.old HL5.out.bv hb2w HYC.out) (fun hH4 => ?_)
              clear hK KK
              (try simp only [Act.put, List.setIfInBounds_toArray, List.set_cons_zero, List.set_cons_succ])
              refine wpAnyH_take (i := 13) (oi := { dst := some 3, op := Go.Op.assign (Go.Operand.tmp 24), type := 26, pos := "ref.go:254", after := #[{ on := 12, ground := Go.Ground.data }, { on := 12, ground := Go.Ground.chain }, { on := 0, ground := Go.Ground.phase }, { on := 1, ground := Go.Ground.phase }, { on := 2, ground := Go.Ground.phase }, { on := 3, ground := Go.Ground.phase }, { on := 4, ground := Go.Ground.phase }, { on := 5, ground := Go.Ground.phase }, { on := 6, ground := Go.Ground.phase }, { on := 7, ground := Go.Ground.phase }, { on := 8, ground := Go.Ground.phase }, { on := 9, ground := Go.Ground.phase }, { on := 10, ground := Go.Ground.phase }, { on := 11, ground := Go.Ground.phase }, { on := 12, ground := Go.Ground.phase }], guard := none }) (v := ?_) rfl (by kernel_rfl) (by kernel_rfl) (by kernel_rfl) (fun _ _ _ h => h) (Or.inl ⟨by rfl, ?_⟩) (by assumption) ?_
              rotate_left
              · (intro w hSw; (try dsimp only at hSw); go_simp; try with_reducible rfl)
              (try simp only [Act.put, List.setIfInBounds_toArray, List.set_cons_zero, List.set_cons_succ])
              refine wpAnyH_done (by kernel_rfl) ?_ _
              go_wp2_with fail
              go_roundw
              case rel => exact ⟨j + 1, _, by go_num, by omega, HL5⟩
              case measure => simp [intOf]; omega
    · have hjn : ¬ ((j : Int) < n) := by omega
      have hall : x.items.take j = x.items := List.take_of_length_le (by have := HN.out; omega)
      obtain ⟨A9, c9, he9, hl9⟩ := HI.out.done
      have HE9 := Lib.hid (And.intro he9 hl9)
      rw [hall, ← HR.out] at HE9
      obtain ⟨v0, v1, v2, v3, v4⟩ := five_of HBX.out
      clear he9 hl9
      go_wp2_with fail
      go_ret
      refine ⟨A9, c9, ?_, HE9.out.2, HI.out.old⟩
      show Ending.returned (.slice RA (itemsL x.kind x.keys 0 x.items).length rc) = _
      rw [← HR.out, ← HE9.out.1]
set_option maxRecDepth 100000 in
set_option maxHeartbeats 1000000 in
theorem refFlattenW_any (x : V) (w : World) (A K : Option Addr) (c d : Nat) (h : Lies w w.heap.size x A c K d) :
    Calls Tryd.prog 8 #[.agg #[.int .i64 x.kind, .int .i64 x.int, .string x.text, .slice A x.items.length c, .slice K x.keys.length d]] w (LAns (flatOut x) w) := by
  have hb0 := below_al (Below.refl _ w) (.cells #[.int .i64 x.kind, .int .i64 x.int, .string x.text, .slice A x.items.length c, .slice K x.keys.length d] 25)
  have hbx := BlockIs.new w 25 #[.int .i64 x.kind, .int .i64 x.int, .string x.text, .slice A x.items.length c, .slice K x.keys.length d]
  obtain ⟨W1, hW1⟩ : ∃ W1, W1 = w.alloc (.cells #[.int .i64 x.kind, .int .i64 x.int, .string x.text, .slice A x.items.length c, .slice K x.keys.length d] 25) := ⟨_, rfl⟩
  rw [← hW1] at hb0 hbx
  obtain ⟨bv, hbv⟩ : ∃ q, x.valid = q := ⟨_, rfl⟩
  have HV := Lib.hid (valid_is x W1 A K c d (lies_on h hb0) hbv)
  obtain ⟨l, r, hl⟩ : ∃ l r, flatOut x = (l, r) := ⟨_, _, rfl⟩
  have HY := Lib.hid (show bv = true → (l, r) = (itemsL x.kind x.keys 0 x.items, 0) from fun e => by rw [← hl, flatOut, if_pos (hbv.trans e)])
  have HN := Lib.hid (show bv = false → (l, r) = ([], 1) from fun e => by rw [← hl, flatOut, if_neg (by rw [hbv, e]; simp)])
  have HC := Lib.hid fun (e : bv = true) W (hW : Below W1.heap.size W1 W) => (refItems_any (fun b => b < W.heap.size) x W A K c d (fun _ h => h) (lies_inn (fun _ h => h) x (lies_on (lies_on h hb0) hW)) (valid_deep (hbv.trans e)).1 (by have := (valid_deep (hbv.trans e)).2.1; omega)).mono fun e' w' h' => LeafQ.ans (below_on hb0 hW) h'
  have HB := Lib.hid hb0
  have HX := Lib.hid hbx
  have HW := Lib.hid hW1
  rw [hl]
  clear hb0 hbx hW1 h hbv hl
  obtain ⟨v0, v1, v2, v3, v4⟩ := five_of HX.out
  have vl := HX.out.lt
  go_enter Tryd.func8, Tryd.ntmps8
  go_upto_region 1 with (fail)
  rw [← HW.out]
  go_wp2_with fail
  refine HV.out.mono ?_
  rintro e w1 ⟨rfl, h1⟩
  cases bv
  · have hlr := HN.out rfl
    cases hlr
    go_wp2_with fail
    go_ret2
    exact ⟨none, 0, rfl, LeafRow.none _ _, below_on HB.out h1⟩
  · have hlr := HY.out rfl
    obtain ⟨u0, u1, u2, u3, u4⟩ := five_of (HX.out.below h1 HX.out.lt)
    have ul := (HX.out.below h1 HX.out.lt).lt
    have HIC := Lib.hid (HC.out rfl w1 h1)
    cases hlr
    clear v0 v1 v2 v3 v4 vl HC h1
    go_wp2_with fail
    refine HIC.out.mono ?_
    rintro e w2 ⟨A2, c2, rfl, hl2, h2⟩
    have H2 := Lib.hid (And.intro hl2 h2)
    clear hl2 h2
    go_wp2_with fail
    go_ret2
    exact ⟨A2, c2, rfl, H2.out.1, H2.out.2⟩
open Go.RowKit
mutual
theorem Tree.inn {P : Nat → Prop} {w : World} {N : Nat} : ∀ (x : V) {vI vK : Value} {D : Nat → Prop}, Tree w N x vI vK D → (∀ b, D b → P b) → ∃ A c K d, vI = .slice A x.items.length c ∧ vK = .slice K x.keys.length d ∧ LiesIn P w x A c K d
  | .mk _ _ _ items keys, vI, vK, D, h, hD => by
    obtain ⟨h1, h2, h3, h4, h5, css, h6, h7⟩ := h
    have hcI := fun g hg => World.ownsRow.cells h6 (g := g) hg
    have hcK := fun g hg => World.ownsRow.cells h3 (g := g) hg
    obtain ⟨K, d, rfl, k1, k2, k3⟩ : ∃ K d, vK = Value.slice K keys.length d ∧ keys.length ≤ d ∧ d ≤ maxLen ∧ (keys = [] ∨ ∃ b o, K = some ⟨b, o, none⟩ ∧ P b ∧ StrsFrom w keys b o) := by
      obtain ⟨hl, ⟨rfl, h0⟩ | ⟨g, cap, cur, rfl, hB, hb, hn, hm, hs, ht⟩⟩ := h3
      · exact ⟨none, 0, (by rw [h0]), by omega, by simp [maxLen], .inl (List.length_eq_zero_iff.1 h0)⟩
      · refine ⟨_, _, rfl, hn, hm, .inr ⟨g, 0, rfl, hD g (h5 g rfl).1, keys_from h2 fun j v hj => ?_⟩⟩
        have := hcK g rfl j v hj
        rw [Addr.add_lit] at this
        exact this
    obtain ⟨A, c, rfl, i1, i2, i3⟩ : ∃ A c, vI = Value.slice A items.length c ∧ items.length ≤ c ∧ c ≤ maxLen ∧ (items = [] ∨ ∃ b o, A = some ⟨b, o, none⟩ ∧ P b ∧ LiesFromIn P w items b o) := by
      obtain ⟨hl, ⟨rfl, h0⟩ | ⟨g, cap, cur, rfl, hB, hb, hn, hm, hs, ht⟩⟩ := h6
      · exact ⟨none, 0, by rw [h0], by omega, by simp [maxLen], .inl (List.length_eq_zero_iff.1 h0)⟩
      · refine ⟨_, _, rfl, hn, hm, .inr ⟨g, 0, rfl, hD g (h4 g rfl), Trees.inn items h7 (fun b hb => hD b hb.1) fun j v hj => ?_⟩⟩
        have := hcI g rfl j v hj
        rw [Addr.add_lit] at this
        exact this
    exact ⟨A, c, K, d, rfl, rfl, h1, i1, i2, ⟨k1, k2, k3⟩, i3⟩
theorem Trees.inn {P : Nat → Prop} {w : World} {N b : Nat} : ∀ (l : List V) {css : List (List Value)} {D : Nat → Prop} {o : Nat}, Trees w N l css D → (∀ b, D b → P b) → (∀ (j : Nat) (v : Value), css.flatten[j]? = some v → w.cell? ⟨b, o + j, none⟩ = some v) → LiesFromIn P w l b o
  | [], [], _, _, _, _, _ => trivial
  | x :: r, cs :: t, _, o, h, hD, hc => by
    obtain ⟨D1, D2, h1, h2, ⟨vI, vK, rfl, hx⟩, hr⟩ := h
    obtain ⟨A, c, K, d, rfl, rfl, hl⟩ := Tree.inn x hx (fun b hb => hD b (h1 b hb))
    refine ⟨⟨A, c, K, d, hc 0 _ rfl, hc 1 _ rfl, hc 2 _ rfl, hc 3 _ rfl, hc 4 _ rfl, hl⟩, Trees.inn r hr (fun b hb => hD b (h2 b hb).1) fun j v hj => ?_⟩
    have := hc (j + 5) v (by rw [List.flatten_cons, List.getElem?_append_right (by simp)]; simpa using hj)
    rw [show o + 5 + j = o + (j + 5) by omega]
    exact this
  | [], _ :: _, _, _, h, _, _ => h.elim
  | _ :: _, [], _, _, h, _, _ => h.elim
end
set_option maxRecDepth 100000 in
set_option maxHeartbeats 1000000 in
theorem stepTo_list (x : V) (w : World) (A K : Option Addr) (c d j : Nat) (h5 : ¬ x.kind = 5) :
    Calls Tryd.prog 18 #[.agg #[.int .i64 x.kind, .int .i64 x.int, .string x.text, .slice A x.items.length c, .slice K x.keys.length d], .int .i64 j] w fun e w' => e = .returned (.agg #[.int .i64 j, .string ⟨#[]⟩]) ∧ Below w.heap.size w w' := by
  obtain ⟨W1, hW1⟩ : ∃ W1, W1 = (w.alloc (.cells #[.int .i64 x.kind, .int .i64 x.int, .string x.text, .slice A x.items.length c, .slice K x.keys.length d] 25)).alloc (.cells #[.int .i64 0, .string ⟨#[]⟩] 46) := ⟨_, rfl⟩
  have hb1 : Below w.heap.size w W1 := by rw [hW1]; exact below_al (below_al (Below.refl _ w) _) _
  have v0 : W1.cell? ⟨w.heap.size, 0, none⟩ = some (.int .i64 x.kind) := by rw [hW1]; exact ((BlockIs.new w _ _).alloc _).cell 0
  have hs := (BlockIs.newAt (w.alloc (.cells #[.int .i64 x.kind, .int .i64 x.int, .string x.text, .slice A x.items.length c, .slice K x.keys.length d] 25)) 46 #[.int .i64 0, .string ⟨#[]⟩] (n := w.heap.size + 1) (by simp))
  rw [← hW1] at hs
  have hkb : (x.kind == 5) = false := by simp [h5]
  have HB := Lib.hid hb1
  have HW := Lib.hid hW1
  have HS := Lib.hid hs
  clear hb1 hW1 hs h5
  obtain ⟨s0, s1⟩ : W1.cell? ⟨w.heap.size + 1, 0, none⟩ = some (.int .i64 0) ∧ W1.cell? ⟨w.heap.size + 1, 1, none⟩ = some (.string ⟨#[]⟩) := ⟨HS.out.cell 0, HS.out.cell 1⟩
  have f0 := HS.out.frozen 0
  have f1 := HS.out.frozen 1
  have sl := HS.out.lt
  go_enter Tryd.func18, Tryd.ntmps18
  go_upto_region 1 with (fail)
  rw [← HW.out]
  go_wp2_with fail
  refine bodyPost_ret (v := .agg #[.int .i64 j, .string ⟨#[]⟩]) (by simp [results, Tryd.results18, go_sem, s0, s1]) rfl ?_
  exact ⟨rfl, (HB.out.setCell (by simp) _).setCell (by simp) _⟩
/-- The step to an item, as the program says it. -/
theorem stepTo_any (x : V) (w : World) (A K : Option Addr) (c d j : Nat) (h : Lies w w.heap.size x A c K d) (hok : x.ok = true) (hj : j < x.items.length) :
    Calls Tryd.prog 18 #[.agg #[.int .i64 x.kind, .int .i64 x.int, .string x.text, .slice A x.items.length c, .slice K x.keys.length d], .int .i64 j] w fun e w' => e = .returned (.agg #[.int .i64 (stepI x.kind x.keys j).1, .string (stepI x.kind x.keys j).2]) ∧ Below w.heap.size w w' := by
  by_cases h5 : x.kind = 5
  · obtain ⟨-, -, hl⟩ := okk hok
    have hjk : j < x.keys.length := by rw [hl h5]; exact hj
    have := stepTo_key x w A K c d j (x.keys.getD j ⟨#[]⟩) h h5 (by rw [List.getD_eq_getElem?_getD, List.getElem?_eq_getElem hjk]; rfl)
    unfold stepI
    rw [if_pos h5]
    exact this
  · have := stepTo_list x w A K c d j h5
    unfold stepI
    rw [if_neg h5]
    exact this
/-- The cells of two boxes, behind a world. -/
theorem box_box {w W : World} {g h : Nat} {t t' : TypeId} {x0 x1 x2 x3 x4 y0 y1 y2 y3 y4 : Value} (hb : Below w.heap.size w W) (hg : BlockIs W g t #[x0, x1, x2, x3, x4]) (hh : BlockIs W h t' #[y0, y1, y2, y3, y4]) :
    Hid (Below w.heap.size w W) ∧ (W.cell? ⟨g, 0, none⟩ = some x0 ∧ W.cell? ⟨g, 1, none⟩ = some x1 ∧ W.cell? ⟨g, 2, none⟩ = some x2 ∧ W.cell? ⟨g, 3, none⟩ = some x3 ∧ W.cell? ⟨g, 4, none⟩ = some x4) ∧ (W.cell? ⟨h, 0, none⟩ = some y0 ∧ W.cell? ⟨h, 1, none⟩ = some y1 ∧ W.cell? ⟨h, 2, none⟩ = some y2 ∧ W.cell? ⟨h, 3, none⟩ = some y3 ∧ W.cell? ⟨h, 4, none⟩ = some y4) := ⟨Lib.hid hb, five_of hg, five_of hh⟩
section
variable {w W W' w5 : World} {P : Nat → Prop} {vc : Array Value} {acc : List Lf} {rO : Value} {css : List (List Value)} {y : V} {s : Stp} {Az Kz : Option Addr} {cz dz p g ql : Nat}
theorem PL.on (hP : ∀ b, P b → b < w.heap.size) (h : LQ w P vc acc rO css W) (hb : Below W.heap.size W W') (hl : LiesIn (PL w P rO W) W y Az cz Kz dz) : LiesIn (PL w P rO W') W' y Az cz Kz dz :=
  LiesIn.keep (fun b o hx => bcell hb b o (PL.lt hP h hx)) (fun b hx => hx.imp id fun hx => ⟨hx.1, by have := hb.size; omega, hx.2.2⟩) y hl
/-- What a call made behind the collected row is apart from it. -/
theorem PL.new (h : LQ w P vc acc rO css W) {X : World} (hW : W.heap.size ≤ X.heap.size) : ∀ b, Fresh X W' b → PL w P rO W' b := fun b hb => .inr ⟨by have := h.lt; have := hb.1; omega, hb.2, fun e => by
  have := (World.ownsRow.lt h.own b e.symm).2
  have := hb.1
  omega⟩
theorem LQ.leaf (hP : ∀ b, P b → b < w.heap.size) (h : LQ w P vc acc rO css W) (hps : BlockIs W p 46 #[.int .i64 s.1, .string s.2]) (hp : PL w P rO W p) (hy : LiesIn (PL w P rO W) W y Az cz Kz dz) (hs : s.2.size ≤ maxLen) {X : World} (hX : X = W.alloc (.cells #[.slice (some ⟨p, 0, none⟩) 1 1, .int .i64 y.kind, .int .i64 y.int, .string y.text, .slice Az y.items.length cz, .slice Kz y.keys.length dz] 40)) :
    LQ w P vc acc rO css X ∧ LeafsIn (PL w P rO X) X [([s], y)] [[.slice (some ⟨p, 0, none⟩) 1 1, .int .i64 y.kind, .int .i64 y.int, .string y.text, .slice Az y.items.length cz, .slice Kz y.keys.length dz]] ∧ BlockIs X W.heap.size 40 #[.slice (some ⟨p, 0, none⟩) 1 1, .int .i64 y.kind, .int .i64 y.int, .string y.text, .slice Az y.items.length cz, .slice Kz y.keys.length dz] := by
  have hb : Below W.heap.size W X := by rw [hX]; exact below_al (Below.refl _ W) _
  have hsz : X.heap.size = W.heap.size + 1 := by rw [hX]; simp
  have hps2 := hps.below hb hps.lt
  refine ⟨h.on hP hb, ⟨⟨_, _, Az, cz, Kz, dz, rfl, ⟨Nat.le_refl _, by simp [maxLen], .inr ⟨p, 0, rfl, hp.imp id fun hx => ⟨hx.1, by omega, hx.2.2⟩, hps2.cell 0, hps2.cell 1, hs, trivial⟩⟩, PL.on hP h hb hy⟩, trivial⟩, by rw [hX]; exact BlockIs.new W _ _⟩
end
set_option maxRecDepth 100000 in
set_option maxHeartbeats 4000000 in
theorem progFlatten_any (x : V) (w : World) (A K : Option Addr) (c d : Nat) (h : Lies w w.heap.size x A c K d) :
    Calls Tryd.prog 7 #[.agg #[.int .i64 x.kind, .int .i64 x.int, .string x.text, .slice A x.items.length c, .slice K x.keys.length d]] w (LAns (flatOut x) w) := by
  obtain ⟨iv0, hiv, hzv0, hzv1, hzv2⟩ := info_parts (P := Tryd.prog) (e := 40) (z := .agg #[.slice none 0 0, .int .i64 0, .int .i64 0, .string ⟨#[]⟩, .slice none 0 0, .slice none 0 0]) (size := 6) (bytes := 104) (by kernel_rfl)
  have hb0 := below_al (Below.refl _ w) (.cells #[.int .i64 x.kind, .int .i64 x.int, .string x.text, .slice A x.items.length c, .slice K x.keys.length d] 25)
  have hbx := BlockIs.new w 25 #[.int .i64 x.kind, .int .i64 x.int, .string x.text, .slice A x.items.length c, .slice K x.keys.length d]
  obtain ⟨P, hPP⟩ : ∃ P : Nat → Prop, P = fun b => b < w.heap.size := ⟨_, rfl⟩
  have HP := Lib.hid (show ∀ b, P b → b < w.heap.size from fun b hb => by rw [hPP] at hb; exact hb)
  have hxP : LiesIn P w x A c K d := lies_inn (fun b hb => by rw [hPP]; exact hb) x h
  have HX := Lib.hid hxP
  have HL0 := Lib.hid (LQ.start w P #[.int .i64 x.kind, .int .i64 x.int, .string x.text, .slice A x.items.length c, .slice K x.keys.length d])
  obtain ⟨W1, hW1⟩ : ∃ W1, W1 = w.alloc (.cells #[.int .i64 x.kind, .int .i64 x.int, .string x.text, .slice A x.items.length c, .slice K x.keys.length d] 25) := ⟨_, rfl⟩
  rw [← hW1] at hb0 hbx HL0
  obtain ⟨bv, hbv⟩ : ∃ q, x.valid = q := ⟨_, rfl⟩
  have HV := Lib.hid (valid_yes x W1 A K c d (lies_on h hb0) hbv)
  obtain ⟨l, r, hl⟩ : ∃ l r, flatOut x = (l, r) := ⟨_, _, rfl⟩
  have HY := Lib.hid (show bv = true → (l, r) = (itemsL x.kind x.keys 0 x.items, 0) from fun e => by rw [← hl, flatOut, if_pos (hbv.trans e)])
  have HNO := Lib.hid (show bv = false → (l, r) = ([], 1) from fun e => by rw [← hl, flatOut, if_neg (by rw [hbv, e]; simp)])
  have HOK := Lib.hid (show bv = true → x.ok = true ∧ x.nodes ≤ 60 from fun e => ⟨(valid_deep (hbv.trans e)).1, (valid_deep (hbv.trans e)).2.1⟩)
  have HLX := Lib.hid fun W (hW : Below w.heap.size w W) => show Lies W W.heap.size x A c K d from lies_on h hW
  have HB := Lib.hid hb0
  have HBX := Lib.hid hbx
  have HW := Lib.hid hW1
  have hxc := (inn_items hxP).1
  have hxm := (inn_items hxP).2.1
  unfold maxLen at hxm
  rw [hl]
  clear hb0 hbx hW1 h hbv hl hxP hPP
  obtain ⟨v0, v1, v2, v3, v4⟩ := five_of HBX.out
  have vl := HBX.out.lt
  go_enter Tryd.func7, Tryd.ntmps7
  go_upto_region 1 with (fail)
  rw [← HW.out]
  go_wp2_with fail
  refine HV.out.mono ?_
  rintro e w0 ⟨rfl, h0⟩
  cases bv
  case false =>
    have hlr := HNO.out rfl
    cases hlr
    go_wp2_with fail
    go_ret2
    exact ⟨none, 0, rfl, LeafRow.none _ _, below_on HB.out h0⟩
  have hlr := HY.out rfl
  obtain ⟨hok, hnod⟩ := HOK.out rfl
  have HOK2 := Lib.hid hok
  have HN60 := Lib.hid hnod
  cases hlr
  obtain ⟨n, hnn⟩ : ∃ n, n = x.items.length := ⟨_, rfl⟩
  have HN := Lib.hid hnn
  have hnb : n ≤ 60 := by have := nodes_items x; have := length_le_nodesL x.items; omega
  have HL1 := Lib.hid (HL0.out.on HP.out h0)
  rw [← hnn] at HL1 hxc ⊢
  clear v0 v1 v2 v3 v4 vl HL0 HV HY HNO HOK hok hnod hnn h0
  obtain ⟨v0, v1, v2, v3, v4⟩ := five_of HL1.out.bv
  have vl := HL1.out.bv.lt
  go_wp2_with fail
  go_loopw [4, 13] (fun ov iv wr => ∃ (j : Nat) (css : List (List Value)), iv = .int .i64 j ∧ j ≤ n ∧ Hid (LQ w P #[.int .i64 x.kind, .int .i64 x.int, .string x.text, .slice A n c, .slice K x.keys.length d] (itemsL x.kind x.keys 0 (x.items.take j)) ov css wr)) (fun _ iv _ => n - (intOf iv).toNat)
  case atStart => exact ⟨0, [], rfl, Nat.zero_le _, by simpa [itemsL] using HL1⟩
  case round =>
    clear v0 v1 v2 v3 v4 vl HL1
    obtain ⟨j, css, rfl, hj, HI⟩ := hrel
    obtain ⟨RA, rc, hov⟩ := own_form HI.out.own
    subst hov
    by_cases hlt : j < n
    · have hjn : (j : Int) < n := by omega
      have hj0 : (0 : Int) ≤ j := by omega
      have hji : j < x.items.length := by have := HN.out; omega
      obtain ⟨y, hy⟩ : ∃ y, x.items[j]? = some y := ⟨_, List.getElem?_eq_getElem hji⟩
      obtain ⟨b2, o2, rfl, hb2, hfrom⟩ := inn_at HX.out hji
      obtain ⟨Ay, cy, Ky, dy, ⟨e0, e1, e2, e3, e4⟩, hly⟩ := hfrom.at_ hy
      have hb2w : b2 < w.heap.size := HP.out b2 hb2
      have y0 := (bcell HI.out.old b2 _ hb2w).trans e0
      have y1 := (bcell HI.out.old b2 _ hb2w).trans e1
      have y2 := (bcell HI.out.old b2 _ hb2w).trans e2
      have y3 := (bcell HI.out.old b2 _ hb2w).trans e3
      have y4 := (bcell HI.out.old b2 _ hb2w).trans e4
      obtain ⟨s, hs⟩ : ∃ s, s = stepI x.kind x.keys j := ⟨_, rfl⟩
      have hss := stepI_size (HLX.out wr HI.out.old) HOK2.out hji
      rw [← hs] at hss
      have HST := Lib.hid fun W (hW : Below w.heap.size w W) => show Calls Tryd.prog 18 #[.agg #[.int .i64 x.kind, .int .i64 x.int, .string x.text, .slice (some ⟨b2, o2, none⟩) n c, .slice K x.keys.length d], .int .i64 j] W fun e w' => e = .returned (.agg #[.int .i64 s.1, .string s.2]) ∧ Below W.heap.size W w' from by
        have := stepTo_any x W (some ⟨b2, o2, none⟩) K c d j (HLX.out W hW) HOK2.out hji
        rw [← hs, ← HN.out] at this
        exact this
      have hyo := okItems HOK2.out y (List.mem_of_getElem? hy)
      have hyn : y.nodes ≤ 5000 := by have := V.nodesL_take_le x.items (j + 1); have := V.nodes_mem (List.mem_of_getElem? hy); have := HN60.out; have := nodes_items x; omega
      have HCP := Lib.hid fun W (hW : Below w.heap.size w W) => show Calls Tryd.prog 19 #[.agg #[.int .i64 y.kind, .int .i64 y.int, .string y.text, .slice Ay y.items.length cy, .slice Ky y.keys.length dy]] W fun e w' => ∃ Az cz Kz dz, e = .returned (.agg #[.int .i64 y.kind, .int .i64 y.int, .string y.text, .slice Az y.items.length cz, .slice Kz y.keys.length dz]) ∧ LiesIn (Fresh W w') w' y Az cz Kz dz ∧ Below W.heap.size W w' from
        (copied_tree y.nodes y W Ay Ky cy dy (Nat.le_refl _) hyn hyo (LiesIn.lies (fun b hb => by have := HP.out b hb; have := hW.size; omega) y (LiesIn.keep (fun b o hb => bcell hW b o (HP.out b hb)) (fun _ h => h) y hly))).mono fun e w' ⟨xI, xK, he, ht, hb⟩ => by
          obtain ⟨Az, cz, Kz, dz, rfl, rfl, hl⟩ := Tree.inn y ht (fun _ h => h)
          exact ⟨Az, cz, Kz, dz, he, hl, hb⟩
      have HSN := Lib.hid (show itemsL x.kind x.keys 0 (x.items.take (j + 1)) = (itemsL x.kind x.keys 0 (x.items.take j)) ++ [([s], y)] by
        rw [List.take_add_one, hy, Option.toList_some, itemsL_snoc, List.length_take, Nat.min_eq_left (by omega), Nat.zero_add, hs])
      have hbound : (itemsL x.kind x.keys 0 (x.items.take j)).length = j := by rw [itemsL_length, List.length_take]; omega
      obtain ⟨ql, hql⟩ : ∃ ql, ql = (itemsL x.kind x.keys 0 (x.items.take j)).length := ⟨_, rfl⟩
      have HQL := Lib.hid hql
      have hqj : ql ≤ 5000 := by omega
      have hwl := HI.out.lt
      have hbi6' := BlockIs.new wr 25 #[.int .i64 y.kind, .int .i64 y.int, .string y.text, .slice Ay y.items.length cy, .slice Ky y.keys.length dy]
      have hal := below_al (Below.refl _ wr) (.cells #[.int .i64 y.kind, .int .i64 y.int, .string y.text, .slice Ay y.items.length cy, .slice Ky y.keys.length dy] 25)
      have HI6' := Lib.hid (HI.out.on HP.out hal)
      clear hy hji hfrom hly e0 e1 e2 e3 e4 hb2 hs hyo hyn hbound
      rw [← hql]
      clear hql
      go_upto_region 7 with (fail)
      obtain ⟨W6, hW6⟩ : ∃ W6, W6 = wr.alloc (.cells #[.int .i64 y.kind, .int .i64 y.int, .string y.text, .slice Ay y.items.length cy, .slice Ky y.keys.length dy] 25) := ⟨_, rfl⟩
      have HI6 := Lib.hid (show LQ w P #[.int .i64 x.kind, .int .i64 x.int, .string x.text, .slice (some ⟨b2, o2, none⟩) n c, .slice K x.keys.length d] (itemsL x.kind x.keys 0 (x.items.take j)) (.slice RA (itemsL x.kind x.keys 0 (x.items.take j)).length rc) css W6 by rw [hW6]; exact HI6'.out)
      have hbi6 : BlockIs W6 wr.heap.size 25 #[.int .i64 y.kind, .int .i64 y.int, .string y.text, .slice Ay y.items.length cy, .slice Ky y.keys.length dy] := by rw [hW6]; exact hbi6'
      have hz6 : wr.heap.size ≤ W6.heap.size := by rw [hW6]; simp
      rw [← hW6]
      clear hW6 HI6' hbi6' hal y0 y1 y2 y3 y4
      refine wp_region_held_drew (S := (fun W => Hid (Below w.heap.size w W) ∧ (W.cell? ⟨w.heap.size, 0, none⟩ = some (.int .i64 x.kind) ∧ W.cell? ⟨w.heap.size, 1, none⟩ = some (.int .i64 x.int) ∧ W.cell? ⟨w.heap.size, 2, none⟩ = some (.string x.text) ∧ W.cell? ⟨w.heap.size, 3, none⟩ = some (.slice (some ⟨b2, o2, none⟩) n c) ∧ W.cell? ⟨w.heap.size, 4, none⟩ = some (.slice K x.keys.length d)) ∧ (W.cell? ⟨wr.heap.size, 0, none⟩ = some (.int .i64 y.kind) ∧ W.cell? ⟨wr.heap.size, 1, none⟩ = some (.int .i64 y.int) ∧ W.cell? ⟨wr.heap.size, 2, none⟩ = some (.string y.text) ∧ W.cell? ⟨wr.heap.size, 3, none⟩ = some (.slice Ay y.items.length cy) ∧ W.cell? ⟨wr.heap.size, 4, none⟩ = some (.slice Ky y.keys.length dy)))) (by kernel_rfl) (box_box (Below.drew HI6.out.old) (show BlockIs W6.drew _ _ _ from HI6.out.bv) (show BlockIs W6.drew _ _ _ from hbi6)) (fun hH0 => ?_)
      refine wpAnyH_take (i := 0) (oi := { dst := some 18, op := Go.Op.move (Go.Operand.tmp 4), type := 26, pos := "leaves.go:53", after := #[], guard := none }) (v := ?_) rfl (by kernel_rfl) (by kernel_rfl) (by kernel_rfl) (fun _ _ _ h => h) (Or.inl ⟨by rfl, ?_⟩) (by assumption) ?_
      rotate_left
      · (intro w hSw; (try dsimp only at hSw); go_simp; try with_reducible rfl)
      (try simp only [Act.put, List.setIfInBounds_toArray, List.set_cons_zero, List.set_cons_succ])
      refine wpAnyH_take (i := 1) (oi := { dst := some 19, op := Go.Op.load 25 (Go.Operand.tmp 1), type := 25, pos := "leaves.go:53", after := #[], guard := none }) (v := ?_) rfl (by kernel_rfl) (by kernel_rfl) (by kernel_rfl) (fun _ _ _ h => h) (Or.inl ⟨by rfl, ?_⟩) (by assumption) ?_
      rotate_left
      · (intro w hSw; (try dsimp only at hSw); go_simp; try with_reducible rfl)
      (try simp only [Act.put, List.setIfInBounds_toArray, List.set_cons_zero, List.set_cons_succ])
      refine wpAnyH_take (i := 2) (oi := { dst := some 20, op := Go.Op.move (Go.Operand.tmp 5), type := 3, pos := "leaves.go:53", after := #[], guard := none }) (v := ?_) rfl (by kernel_rfl) (by kernel_rfl) (by kernel_rfl) (fun _ _ _ h => h) (Or.inl ⟨by rfl, ?_⟩) (by assumption) ?_
      rotate_left
      · (intro w hSw; (try dsimp only at hSw); go_simp; try with_reducible rfl)
      (try simp only [Act.put, List.setIfInBounds_toArray, List.set_cons_zero, List.set_cons_succ])
      refine wpAnyH_take (i := 5) (oi := { dst := some 23, op := Go.Op.load 25 (Go.Operand.tmp 6), type := 25, pos := "leaves.go:53", after := #[], guard := none }) (v := ?_) rfl (by kernel_rfl) (by kernel_rfl) (by kernel_rfl) (fun _ _ _ h => h) (Or.inl ⟨by rfl, ?_⟩) (by assumption) ?_
      rotate_left
      · (intro w hSw; (try dsimp only at hSw); go_simp; try with_reducible rfl)
      (try simp only [Act.put, List.setIfInBounds_toArray, List.set_cons_zero, List.set_cons_succ])
      refine wpAnyH_ready (rs := [3]) (by kernel_rfl) (by simp) ?_
      refine AllReadyH.cons (o := { dst := some 21, op := Go.Op.call { callee := Go.Callee.value (Go.Operand.func 18), args := #[Go.Operand.tmp 19, Go.Operand.tmp 20], argTypes := #[25, 3] }, type := 46, pos := "leaves.go:53", after := #[{ on := 1, ground := Go.Ground.data }, { on := 2, ground := Go.Ground.data }], guard := none }) rfl (fun KK hK => ?_) (AllReadyH.nil)
      · go_simp
        refine (HST.out _ hH0.1.out).mono ?_
        rintro e w1 ⟨rfl, h1⟩
        have hd1 : Below W6.heap.size W6 w1 := below_on (Below.drew (Below.refl _ _)) h1
        have HI1 := Lib.hid (HI6.out.on HP.out hd1)
        have hbi1 := hbi6.below hd1 hbi6.lt
        have hz1 : wr.heap.size ≤ w1.heap.size := Nat.le_trans hz6 hd1.size
        (try go_wp2_with fail)
        refine hK.out _ _ (box_box HI1.out.old HI1.out.bv hbi1) (fun hH1 => ?_)
        clear hK KK
        (try simp only [Act.put, List.setIfInBounds_toArray, List.set_cons_zero, List.set_cons_succ])
        refine wpAnyH_ready (rs := [4, 6]) (by kernel_rfl) (by simp) ?_
        refine AllReadyH.cons (o := { dst := some 22, op := Go.Op.buildSlice 38 1 #[(0, Go.Operand.tmp 21)], type := 38, pos := "leaves.go:53", after := #[{ on := 3, ground := Go.Ground.data }], guard := none }) rfl (fun KK hK => ?_) (AllReadyH.cons (o := { dst := some 24, op := Go.Op.call { callee := Go.Callee.value (Go.Operand.func 19), args := #[Go.Operand.tmp 23], argTypes := #[25] }, type := 25, pos := "leaves.go:53", after := #[{ on := 5, ground := Go.Ground.data }, { on := 3, ground := Go.Ground.chain }], guard := none }) rfl (fun KK hK => ?_) (AllReadyH.nil))
        · go_simp
          have HIp := Lib.hid (HI1.out.on HP.out (below_al (Below.refl _ w1) (.cells #[.int .i64 s.1, .string s.2] 46)))
          have hbip := hbi1.below (below_al (Below.refl _ w1) (.cells #[.int .i64 s.1, .string s.2] 46)) hbi1.lt
          refine hK.out _ _ (box_box HIp.out.old HIp.out.bv hbip) (fun hH2 => ?_)
          clear hK KK
          (try simp only [Act.put, List.setIfInBounds_toArray, List.set_cons_zero, List.set_cons_succ])
          refine wpAnyH_ready (rs := [6]) (by kernel_rfl) (by simp) ?_
          refine AllReadyH.cons (o := { dst := some 24, op := Go.Op.call { callee := Go.Callee.value (Go.Operand.func 19), args := #[Go.Operand.tmp 23], argTypes := #[25] }, type := 25, pos := "leaves.go:53", after := #[{ on := 5, ground := Go.Ground.data }, { on := 3, ground := Go.Ground.chain }], guard := none }) rfl (fun KK hK => ?_) (AllReadyH.nil)
          · go_simp
            refine (HCP.out _ hH2.1.out).mono ?_
            rintro e w2 ⟨Az, cz, Kz, dz, rfl, hl2, h2⟩
            have HI2 := Lib.hid (HIp.out.on HP.out h2)
            have hbi2 := hbip.below h2 hbip.lt
            have hzp : wr.heap.size ≤ (w1.alloc (.cells #[.int .i64 s.1, .string s.2] 46)).heap.size := (by simp; omega)
            have hz2 : wr.heap.size ≤ w2.heap.size := Nat.le_trans hzp h2.size
            have hly2 := Lib.hid (show LiesIn (PL w P (.slice RA (itemsL x.kind x.keys 0 (x.items.take j)).length rc) w2) w2 y Az cz Kz dz from LiesIn.keep (fun _ _ _ => rfl) (fun b hb => PL.new HI.out (X := w1.alloc (.cells #[.int .i64 s.1, .string s.2] 46)) hzp b hb) y hl2)
            have hps := (BlockIs.new w1 46 #[.int .i64 s.1, .string s.2]).below h2 (by simp)
            (try go_wp2_with fail)
            refine hK.out _ _ (box_box HI2.out.old HI2.out.bv hbi2) (fun hH3 => ?_)
            clear hK KK
            (try simp only [Act.put, List.setIfInBounds_toArray, List.set_cons_zero, List.set_cons_succ])
            refine wpAnyH_take (i := 7) (oi := { dst := some 25, op := Go.Op.build 40 #[(0, Go.Operand.tmp 22), (1, Go.Operand.tmp 24)], type := 40, pos := "leaves.go:53", after := #[{ on := 4, ground := Go.Ground.data }, { on := 6, ground := Go.Ground.data }], guard := none }) (v := ?_) rfl (by kernel_rfl) (by kernel_rfl) (by kernel_rfl) (fun _ _ _ h => h) (Or.inl ⟨by rfl, ?_⟩) (by assumption) ?_
            rotate_left
            · (intro w hSw; (try dsimp only at hSw); go_simp; try with_reducible rfl)
            (try simp only [Act.put, List.setIfInBounds_toArray, List.set_cons_zero, List.set_cons_succ])
            refine wpAnyH_ready (rs := [8]) (by kernel_rfl) (by simp) ?_
            refine AllReadyH.cons (o := { dst := some 26, op := Go.Op.buildSlice 26 1 #[(0, Go.Operand.tmp 25)], type := 26, pos := "leaves.go:53", after := #[{ on := 7, ground := Go.Ground.data }], guard := none }) rfl (fun KK hK => ?_) (AllReadyH.nil)
            · go_simp
              have HIY := HI2.out
              have hbiY := hbi2
              have hlyY := hly2
              have hpl : PL w P (.slice RA (itemsL x.kind x.keys 0 (x.items.take j)).length rc) w2 w1.heap.size := PL.new HI.out (X := w1) hz1 _ ⟨Nat.le_refl _, hps.lt⟩
              refine hK.out _ _ (box_box (below_al hH3.1.out _) (HIY.bv.alloc _) (hbiY.alloc _)) (fun hH4 => ?_)
              clear hK KK
              (try simp only [Act.put, List.setIfInBounds_toArray, List.set_cons_zero, List.set_cons_succ])
              refine wpAnyH_ready (rs := [9]) (by kernel_rfl) (by simp) ?_
              refine AllReadyH.cons (o := { dst := some 27, op := Go.Op.call { callee := Go.Callee.builtin Go.Builtin.append, args := #[Go.Operand.tmp 18, Go.Operand.tmp 26], argTypes := #[26, 26] }, type := 26, pos := "leaves.go:53", after := #[{ on := 0, ground := Go.Ground.data }, { on := 8, ground := Go.Ground.data }, { on := 6, ground := Go.Ground.chain }], guard := none }) rfl (fun KK hK => ?_) (AllReadyH.nil)
              · obtain ⟨X, hX⟩ : ∃ X, X = (w2).alloc (.cells #[.slice (some ⟨w1.heap.size, 0, none⟩) 1 1, .int .i64 y.kind, .int .i64 y.int, .string y.text, .slice Az y.items.length cz, .slice Kz y.keys.length dz] 40) := ⟨_, rfl⟩
                obtain ⟨HI3, HM, HNW⟩ := HIY.leaf HP.out hps hpl hlyY.out hss hX
                replace HNW : BlockIs X (w2.heap.size) 40 #[.slice (some ⟨w1.heap.size, 0, none⟩) 1 1, .int .i64 y.kind, .int .i64 y.int, .string y.text, .slice Az y.items.length cz, .slice Kz y.keys.length dz] := (by first | exact HNW | (rw [World.size_alloc] at HNW; exact HNW))
                rw [← hX]
                have hXs : w.heap.size + 1 ≤ X.heap.size := HI3.lt
                have HOW : X.ownsRow (w.heap.size + 1) 40 6 (.slice RA ql rc) ql css.flatten := (by rw [HQL.out]; exact HI3.own)
                refine step_append_lies _ (by rfl) _ _ 26 (by rfl) (w.heap.size + 1) 40 iv0 (.agg #[.slice none 0 0, .int .i64 0, .int .i64 0, .string ⟨#[]⟩, .slice none 0 0, .slice none 0 0]) 6 104 Tryd.underlying26 hiv hzv0 hzv1 hzv2 rfl (by decide) (.slice RA ql rc) ql css.flatten rfl HOW ⟨w2.heap.size, 0, none⟩ 1 1 [.slice (some ⟨w1.heap.size, 0, none⟩) 1 1, .int .i64 y.kind, .int .i64 y.int, .string y.text, .slice Az y.items.length cz, .slice Kz y.keys.length dz] rfl rfl (fun k u hu => by rw [Addr.add_lit, Nat.zero_add]; refine (HNW.cell k).trans ?_; rw [List.getElem?_toArray]; exact hu) (LeafsIn.one HM) (by omega) (by unfold maxLen; omega) (by omega) hXs _ rfl ?_
                intro g' cap w5 hown hgrow hat hlt'
                have HL5 := Lib.hid (show LQ w P #[.int .i64 x.kind, .int .i64 x.int, .string x.text, .slice (some ⟨b2, o2, none⟩) n c, .slice K x.keys.length d] (itemsL x.kind x.keys 0 (x.items.take (j + 1))) (.slice (some ⟨g', 0, none⟩) (ql + 1) cap) (css ++ [[.slice (some ⟨w1.heap.size, 0, none⟩) 1 1, .int .i64 y.kind, .int .i64 y.int, .string y.text, .slice Az y.items.length cz, .slice Kz y.keys.length dz]]) w5 from (by rw [HSN.out]; exact HI3.more HP.out HM (by rw [← HQL.out]; exact hgrow) (by rw [List.length_append, ← HQL.out]; exact hown) (by rcases hat with hat | hat; (left; rw [← HQL.out, hat]; rfl); (right; rw [← hat]; rfl))))
                have hbiX : BlockIs X wr.heap.size 25 #[.int .i64 y.kind, .int .i64 y.int, .string y.text, .slice Ay y.items.length cy, .slice Ky y.keys.length dy] := (by rw [hX]; exact hbiY.alloc _)
                have hbi5 := hbiX.to (hgrow.block _ hbiX.lt (fun e => by rw [HQL.out] at e; have := (World.ownsRow.lt HI.out.own _ e.symm).2; omega))
                refine hK.out _ _ (box_box HL5.out.old HL5.out.bv hbi5) (fun hH5 => ?_)
                clear hK KK
                (try simp only [Act.put, List.setIfInBounds_toArray, List.set_cons_zero, List.set_cons_succ])
                refine wpAnyH_take (i := 10) (oi := { dst := some 4, op := Go.Op.assign (Go.Operand.tmp 27), type := 26, pos := "leaves.go:53", after := #[{ on := 9, ground := Go.Ground.data }, { on := 9, ground := Go.Ground.chain }, { on := 0, ground := Go.Ground.phase }, { on := 1, ground := Go.Ground.phase }, { on := 2, ground := Go.Ground.phase }, { on := 3, ground := Go.Ground.phase }, { on := 4, ground := Go.Ground.phase }, { on := 5, ground := Go.Ground.phase }, { on := 6, ground := Go.Ground.phase }, { on := 7, ground := Go.Ground.phase }, { on := 8, ground := Go.Ground.phase }, { on := 9, ground := Go.Ground.phase }], guard := none }) (v := ?_) rfl (by kernel_rfl) (by kernel_rfl) (by kernel_rfl) (fun _ _ _ h => h) (Or.inl ⟨by rfl, ?_⟩) (by assumption) ?_
                rotate_left
                · (intro w hSw; (try dsimp only at hSw); go_simp; try with_reducible rfl)
                (try simp only [Act.put, List.setIfInBounds_toArray, List.set_cons_zero, List.set_cons_succ])
                refine wpAnyH_done (by kernel_rfl) ?_ _
                go_wp2_with fail
                go_roundw
                case rel => exact ⟨j + 1, _, by go_num, by omega, HL5⟩
                case measure => simp [intOf]; omega
        · go_simp
          refine (HCP.out _ hH1.1.out).mono ?_
          rintro e w2 ⟨Az, cz, Kz, dz, rfl, hl2, h2⟩
          have HI2 := Lib.hid (HI1.out.on HP.out h2)
          have hbi2 := hbi1.below h2 hbi1.lt
          have hz2 : wr.heap.size ≤ w2.heap.size := Nat.le_trans hz1 h2.size
          have hly2 := Lib.hid (show LiesIn (PL w P (.slice RA (itemsL x.kind x.keys 0 (x.items.take j)).length rc) w2) w2 y Az cz Kz dz from LiesIn.keep (fun _ _ _ => rfl) (fun b hb => PL.new HI.out (X := w1) hz1 b hb) y hl2)
          (try go_wp2_with fail)
          refine hK.out _ _ (box_box HI2.out.old HI2.out.bv hbi2) (fun hH2 => ?_)
          clear hK KK
          (try simp only [Act.put, List.setIfInBounds_toArray, List.set_cons_zero, List.set_cons_succ])
          refine wpAnyH_ready (rs := [4]) (by kernel_rfl) (by simp) ?_
          refine AllReadyH.cons (o := { dst := some 22, op := Go.Op.buildSlice 38 1 #[(0, Go.Operand.tmp 21)], type := 38, pos := "leaves.go:53", after := #[{ on := 3, ground := Go.Ground.data }], guard := none }) rfl (fun KK hK => ?_) (AllReadyH.nil)
          · go_simp
            have HIp := Lib.hid (HI2.out.on HP.out (below_al (Below.refl _ w2) (.cells #[.int .i64 s.1, .string s.2] 46)))
            have hbip := hbi2.below (below_al (Below.refl _ w2) (.cells #[.int .i64 s.1, .string s.2] 46)) hbi2.lt
            refine hK.out _ _ (box_box HIp.out.old HIp.out.bv hbip) (fun hH3 => ?_)
            clear hK KK
            (try simp only [Act.put, List.setIfInBounds_toArray, List.set_cons_zero, List.set_cons_succ])
            refine wpAnyH_take (i := 7) (oi := { dst := some 25, op := Go.Op.build 40 #[(0, Go.Operand.tmp 22), (1, Go.Operand.tmp 24)], type := 40, pos := "leaves.go:53", after := #[{ on := 4, ground := Go.Ground.data }, { on := 6, ground := Go.Ground.data }], guard := none }) (v := ?_) rfl (by kernel_rfl) (by kernel_rfl) (by kernel_rfl) (fun _ _ _ h => h) (Or.inl ⟨by rfl, ?_⟩) (by assumption) ?_
            rotate_left
            · (intro w hSw; (try dsimp only at hSw); go_simp; try with_reducible rfl)
            (try simp only [Act.put, List.setIfInBounds_toArray, List.set_cons_zero, List.set_cons_succ])
            refine wpAnyH_ready (rs := [8]) (by kernel_rfl) (by simp) ?_
            refine AllReadyH.cons (o := { dst := some 26, op := Go.Op.buildSlice 26 1 #[(0, Go.Operand.tmp 25)], type := 26, pos := "leaves.go:53", after := #[{ on := 7, ground := Go.Ground.data }], guard := none }) rfl (fun KK hK => ?_) (AllReadyH.nil)
            · go_simp
              have HIY := HIp.out
              have hbiY := hbip
              have hps := BlockIs.new w2 46 #[.int .i64 s.1, .string s.2]
              have hlyY := Lib.hid (PL.on HP.out HI2.out (below_al (Below.refl _ w2) (.cells #[.int .i64 s.1, .string s.2] 46)) hly2.out)
              have hpl : PL w P (.slice RA (itemsL x.kind x.keys 0 (x.items.take j)).length rc) (w2.alloc (.cells #[.int .i64 s.1, .string s.2] 46)) w2.heap.size := PL.new HI.out (X := w2) hz2 _ ⟨Nat.le_refl _, hps.lt⟩
              refine hK.out _ _ (box_box (below_al hH3.1.out _) (HIY.bv.alloc _) (hbiY.alloc _)) (fun hH4 => ?_)
              clear hK KK
              (try simp only [Act.put, List.setIfInBounds_toArray, List.set_cons_zero, List.set_cons_succ])
              refine wpAnyH_ready (rs := [9]) (by kernel_rfl) (by simp) ?_
              refine AllReadyH.cons (o := { dst := some 27, op := Go.Op.call { callee := Go.Callee.builtin Go.Builtin.append, args := #[Go.Operand.tmp 18, Go.Operand.tmp 26], argTypes := #[26, 26] }, type := 26, pos := "leaves.go:53", after := #[{ on := 0, ground := Go.Ground.data }, { on := 8, ground := Go.Ground.data }, { on := 6, ground := Go.Ground.chain }], guard := none }) rfl (fun KK hK => ?_) (AllReadyH.nil)
              · obtain ⟨X, hX⟩ : ∃ X, X = (w2.alloc (.cells #[.int .i64 s.1, .string s.2] 46)).alloc (.cells #[.slice (some ⟨w2.heap.size, 0, none⟩) 1 1, .int .i64 y.kind, .int .i64 y.int, .string y.text, .slice Az y.items.length cz, .slice Kz y.keys.length dz] 40) := ⟨_, rfl⟩
                obtain ⟨HI3, HM, HNW⟩ := HIY.leaf HP.out hps hpl hlyY.out hss hX
                replace HNW : BlockIs X (w2.heap.size + 1) 40 #[.slice (some ⟨w2.heap.size, 0, none⟩) 1 1, .int .i64 y.kind, .int .i64 y.int, .string y.text, .slice Az y.items.length cz, .slice Kz y.keys.length dz] := (by first | exact HNW | (rw [World.size_alloc] at HNW; exact HNW))
                rw [← hX]
                have hXs : w.heap.size + 1 ≤ X.heap.size := HI3.lt
                have HOW : X.ownsRow (w.heap.size + 1) 40 6 (.slice RA ql rc) ql css.flatten := (by rw [HQL.out]; exact HI3.own)
                refine step_append_lies _ (by rfl) _ _ 26 (by rfl) (w.heap.size + 1) 40 iv0 (.agg #[.slice none 0 0, .int .i64 0, .int .i64 0, .string ⟨#[]⟩, .slice none 0 0, .slice none 0 0]) 6 104 Tryd.underlying26 hiv hzv0 hzv1 hzv2 rfl (by decide) (.slice RA ql rc) ql css.flatten rfl HOW ⟨w2.heap.size + 1, 0, none⟩ 1 1 [.slice (some ⟨w2.heap.size, 0, none⟩) 1 1, .int .i64 y.kind, .int .i64 y.int, .string y.text, .slice Az y.items.length cz, .slice Kz y.keys.length dz] rfl rfl (fun k u hu => by rw [Addr.add_lit, Nat.zero_add]; refine (HNW.cell k).trans ?_; rw [List.getElem?_toArray]; exact hu) (LeafsIn.one HM) (by omega) (by unfold maxLen; omega) (by omega) hXs _ rfl ?_
                intro g' cap w5 hown hgrow hat hlt'
                have HL5 := Lib.hid (show LQ w P #[.int .i64 x.kind, .int .i64 x.int, .string x.text, .slice (some ⟨b2, o2, none⟩) n c, .slice K x.keys.length d] (itemsL x.kind x.keys 0 (x.items.take (j + 1))) (.slice (some ⟨g', 0, none⟩) (ql + 1) cap) (css ++ [[.slice (some ⟨w2.heap.size, 0, none⟩) 1 1, .int .i64 y.kind, .int .i64 y.int, .string y.text, .slice Az y.items.length cz, .slice Kz y.keys.length dz]]) w5 from (by rw [HSN.out]; exact HI3.more HP.out HM (by rw [← HQL.out]; exact hgrow) (by rw [List.length_append, ← HQL.out]; exact hown) (by rcases hat with hat | hat; (left; rw [← HQL.out, hat]; rfl); (right; rw [← hat]; rfl))))
                have hbiX : BlockIs X wr.heap.size 25 #[.int .i64 y.kind, .int .i64 y.int, .string y.text, .slice Ay y.items.length cy, .slice Ky y.keys.length dy] := (by rw [hX]; exact hbiY.alloc _)
                have hbi5 := hbiX.to (hgrow.block _ hbiX.lt (fun e => by rw [HQL.out] at e; have := (World.ownsRow.lt HI.out.own _ e.symm).2; omega))
                refine hK.out _ _ (box_box HL5.out.old HL5.out.bv hbi5) (fun hH5 => ?_)
                clear hK KK
                (try simp only [Act.put, List.setIfInBounds_toArray, List.set_cons_zero, List.set_cons_succ])
                refine wpAnyH_take (i := 10) (oi := { dst := some 4, op := Go.Op.assign (Go.Operand.tmp 27), type := 26, pos := "leaves.go:53", after := #[{ on := 9, ground := Go.Ground.data }, { on := 9, ground := Go.Ground.chain }, { on := 0, ground := Go.Ground.phase }, { on := 1, ground := Go.Ground.phase }, { on := 2, ground := Go.Ground.phase }, { on := 3, ground := Go.Ground.phase }, { on := 4, ground := Go.Ground.phase }, { on := 5, ground := Go.Ground.phase }, { on := 6, ground := Go.Ground.phase }, { on := 7, ground := Go.Ground.phase }, { on := 8, ground := Go.Ground.phase }, { on := 9, ground := Go.Ground.phase }], guard := none }) (v := ?_) rfl (by kernel_rfl) (by kernel_rfl) (by kernel_rfl) (fun _ _ _ h => h) (Or.inl ⟨by rfl, ?_⟩) (by assumption) ?_
                rotate_left
                · (intro w hSw; (try dsimp only at hSw); go_simp; try with_reducible rfl)
                (try simp only [Act.put, List.setIfInBounds_toArray, List.set_cons_zero, List.set_cons_succ])
                refine wpAnyH_done (by kernel_rfl) ?_ _
                go_wp2_with fail
                go_roundw
                case rel => exact ⟨j + 1, _, by go_num, by omega, HL5⟩
                case measure => simp [intOf]; omega
    · have hjn : ¬ ((j : Int) < n) := by omega
      have hall : x.items.take j = x.items := List.take_of_length_le (by have := HN.out; omega)
      obtain ⟨A9, c9, he9, hl9⟩ := HI.out.done
      have HE9 := Lib.hid (And.intro he9 hl9)
      rw [hall] at HE9
      clear he9 hl9
      go_wp2_with fail
      go_ret2
      refine ⟨A9, c9, ?_, HE9.out.2.keep (P' := fun b => b < wr.heap.size) (fun _ _ _ => rfl) (fun b hb => by
        have := HI.out.old.size
        rcases hb with hb | hb
        · have := HP.out b hb; omega
        · exact hb.2), HI.out.old⟩
      show Ending.returned (.tuple #[.slice RA (itemsL x.kind x.keys 0 x.items).length rc, .int .i64 0]) = _
      rw [HE9.out.1]
end Go.Proofs.YtebmjefimbcefaaDoor
