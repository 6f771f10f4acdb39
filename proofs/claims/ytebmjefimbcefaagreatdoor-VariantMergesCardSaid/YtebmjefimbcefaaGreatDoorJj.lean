/- The definition's patch, its entries, walked. -/
import Derived.Test.YtebmjefimbcefaaGreatDoorJi
import Derived.Test.YtebmjefimbcefaaGreatDoorRk
import Derived.Deep.CutRange
namespace Go.Proofs.YtebmjefimbcefaaGreatDoor
open Go.RowKit
theorem below_s5 {w0 W : World} {n g : Nat} {u0 u1 u2 u3 u4 : Value} (h : Below n w0 W) (hg : n ≤ g) : Below n w0 (((((W.setCell ⟨g, 0, none⟩ u0).setCell ⟨g, 1, none⟩ u1).setCell ⟨g, 2, none⟩ u2).setCell ⟨g, 3, none⟩ u3).setCell ⟨g, 4, none⟩ u4) := below_set5 h hg
theorem box_set {w : World} {g : Nat} {t : TypeId} {x0 x1 x2 x3 x4 u0 u1 u2 u3 u4 : Value} (h : BlockIs w g t #[x0, x1, x2, x3, x4]) : BlockIs (put5 w g 0 u0 u1 u2 u3 u4) g t #[u0, u1, u2, u3, u4] := by
 have := ((((h.set_ 0 u0).set_ 1 u1).set_ 2 u2).set_ 3 u3).set_ 4 u4
 simpa [put5] using this
theorem box_s5 {w : World} {g : Nat} {t : TypeId} {x0 x1 x2 x3 x4 u0 u1 u2 u3 u4 : Value} (h : BlockIs w g t #[x0, x1, x2, x3, x4]) : BlockIs (((((w.setCell ⟨g, 0, none⟩ u0).setCell ⟨g, 1, none⟩ u1).setCell ⟨g, 2, none⟩ u2).setCell ⟨g, 3, none⟩ u3).setCell ⟨g, 4, none⟩ u4) g t #[u0, u1, u2, u3, u4] := box_set h
set_option maxRecDepth 100000 in
set_option maxHeartbeats 40000000 in
theorem refPatch_step (P : Nat → Prop) (a b : V) (w : World) (A K : Option Addr) (c d : Nat) (A' K' : Option Addr) (c' d' : Nat) (hP : ∀ b, P b → b < w.heap.size) (ha : LiesIn P w a A c K d) (hb : LiesIn P w b A' c' K' d') (hav : a.valid = true) (hbv : b.valid = true) (hn : (1 + a.nodes) * b.nodes ≤ 5000) (h5a : a.kind = 5) (h5 : b.kind = 5)
  (ih : ∀ x y : V, x.valid = true → y ∈ b.items → (1 + x.nodes) * y.nodes ≤ 5000 → ∀ (W : World) (A K : Option Addr) (c d : Nat) (A' K' : Option Addr) (c' d' : Nat), (∀ b, P b → b < W.heap.size) → LiesIn P W x A c K d → LiesIn P W y A' c' K' d' →
   Calls Tryz.prog 36 #[.agg #[.int .i64 x.kind, .int .i64 x.int, .string x.text, .slice A x.items.length c, .slice K x.keys.length d], .agg #[.int .i64 y.kind, .int .i64 y.int, .string y.text, .slice A' y.items.length c', .slice K' y.keys.length d']] W (OutQ P (patchV x y) W)) :
  Calls Tryz.prog 36 #[.agg #[.int .i64 a.kind, .int .i64 a.int, .string a.text, .slice A a.items.length c, .slice K a.keys.length d], .agg #[.int .i64 b.kind, .int .i64 b.int, .string b.text, .slice A' b.items.length c', .slice K' b.keys.length d']] w (OutQ P (patchV a b) w) := by
 have hao := valid_ok hav
 have hbo := valid_ok hbv
 have HB0 := Lib.hid (MB.start w #[.int .i64 a.kind, .int .i64 a.int, .string a.text, .slice A a.items.length c, .slice K a.keys.length d] #[.int .i64 b.kind, .int .i64 b.int, .string b.text, .slice A' b.items.length c', .slice K' b.keys.length d'])
 have HLA := Lib.hid fun W (hW : Below w.heap.size w W) => show LiesIn P W a A c K d from LiesIn.keep (fun x o hx => bcell hW x o (hP x hx)) (fun x hx => hx) a ha
 have HLB := Lib.hid fun W (hW : Below w.heap.size w W) => show LiesIn P W b A' c' K' d' from LiesIn.keep (fun x o hx => bcell hW x o (hP x hx)) (fun x hx => hx) b hb
 obtain ⟨hr, hkl, hok, hks, -⟩ := ob_parts (m := b) ⟨hbo, h5⟩
 obtain ⟨hra, hkla, hoka, hksa, -⟩ := ob_parts (m := a) ⟨hao, h5a⟩
 have HKS := Lib.hid (And.intro hks hok)
 have HKSA := Lib.hid hksa
 have HKL := Lib.hid hkl
 obtain ⟨R, hR⟩ : ∃ R, R = patchV a b := ⟨_, rfl⟩
 have hbn := nodes_items b
 have han := nodes_items a
 have hal := length_le_nodesL a.items
 have hbl := length_le_nodesL b.items
 have hmul : (1 + a.nodes) * b.nodes = (1 + a.nodes) * V.nodesL b.items + (1 + a.nodes) := by rw [hbn, Nat.mul_add, Nat.mul_one]
 have hbig : b.nodes ≤ (1 + a.nodes) * b.nodes := Nat.le_mul_of_pos_left _ (by omega)
 have hbiga : 1 + a.nodes ≤ (1 + a.nodes) * b.nodes := Nat.le_mul_of_pos_right _ (V.nodes_pos b)
 have HIN := Lib.hid (show InA a b R 0 emptyO from ⟨by have : emptyO.nodes = 1 := (by decide); omega, by rw [hR, patchV_obj h5a h5]; rfl⟩)
 have HAV := Lib.hid (And.intro hav h5a)
 have HBV := Lib.hid (And.intro hbv h5)
 have HIH := Lib.hid ih
 have HNN := Lib.hid (show ∀ y ∈ b.items, (1 + a.nodes) * y.nodes ≤ 5000 from fun y hy => Nat.le_trans (Nat.mul_le_mul_left _ (by have := V.nodes_mem hy; omega)) hn)
 obtain ⟨n, hnn⟩ : ∃ n, n = b.keys.length := ⟨_, rfl⟩
 obtain ⟨n2, hnn2⟩ : ∃ n2, n2 = b.items.length := ⟨_, rfl⟩
 obtain ⟨na, hna⟩ : ∃ na, na = a.keys.length := ⟨_, rfl⟩
 have HN := Lib.hid (And.intro hnn (And.intro hnn2 hna))
 have hnb : n ≤ 5000 := by omega
 have hnab : na ≤ 5000 := by omega
 have HP := Lib.hid hP
 rw [← hR, ← hnn, ← hnn2, ← hna]
 rw [← hnn, ← hnn2, ← hna] at HB0
 have h5b : (b.kind != 5) = false := by simp [h5]
 have h5ab : (a.kind != 5) = false := by simp [h5a]
 clear ha hb hao hbo hav hbv hn h5 h5a ih hr hkl hok hks hra hkla hoka hksa hR hbn han hal hbl hmul hbig hbiga hnn hnn2 hna hP
 go_enter Tryz.func36, Tryz.ntmps36
 go_upto_if 19 with (fail)
 obtain ⟨W1, hW1⟩ : ∃ W1, W1 = ((w.alloc (.cells #[.int .i64 a.kind, .int .i64 a.int, .string a.text, .slice A a.items.length c, .slice K na d] 27)).alloc (.cells #[.int .i64 b.kind, .int .i64 b.int, .string b.text, .slice A' n2 c', .slice K' n d'] 27)).alloc (.cells #[.int .i64 0, .int .i64 0, .string ⟨#[]⟩, .slice none 0 0, .slice none 0 0] 27) := ⟨_, rfl⟩
 obtain ⟨CA, hCA⟩ : ∃ CA : Array Value, CA = #[.int .i64 a.kind, .int .i64 a.int, .string a.text, .slice A a.items.length c, .slice K na d] := ⟨_, rfl⟩
 obtain ⟨CB, hCB⟩ : ∃ CB : Array Value, CB = #[.int .i64 b.kind, .int .i64 b.int, .string b.text, .slice A' n2 c', .slice K' n d'] := ⟨_, rfl⟩
 have HB1 := Lib.hid (show MB w CA CB W1 by rw [hW1, hCA, hCB]; exact HB0.out)
 have HCA := Lib.hid hCA
 have HCB := Lib.hid hCB
 rw [← hW1]
 clear HB0 hW1 hCA hCB
 go_wp2_with fail
 refine (refObject_any none none 0 0 0 0 _).mono ?_
 rintro e w2 ⟨rfl, h2⟩
 go_upto_region 4 with (fail)
 obtain ⟨W3, hW3⟩ : ∃ W3, W3 = w2.alloc (.cells #[.int .i64 5, .int .i64 0, .string ⟨#[]⟩, .slice none 0 0, .slice none 0 0] 27) := ⟨_, rfl⟩
 have hb3 : Below W1.heap.size W1 W3 := by rw [hW3]; exact below_al h2 _
 have HI3 := Lib.hid (show PE w P w2.heap.size CA CB (fun m => InA a b R 0 m ∧ Nulls m) emptyO none 0 none 0 W3 from ⟨HB1.out.on hb3, by have := HB1.out.lt; have := h2.size; omega, by rw [hW3]; exact BlockIs.new w2 _ _, lies_leaf _ _ 5 0 _ (by decide), empty_ob, HIN.out, fun z hz => by cases hz⟩)
 rw [← hW3]
 obtain ⟨g, hg⟩ : ∃ g, g = w2.heap.size := ⟨_, rfl⟩
 rw [← hg] at HI3 ⊢
 clear hg hW3 hb3 h2 HIN HB1
 obtain ⟨v0, v1, v2, v3, v4⟩ := five_of (show BlockIs W3 w.heap.size 27 #[.int .i64 a.kind, .int .i64 a.int, .string a.text, .slice A a.items.length c, .slice K na d] by have := HI3.out.box.ba; rw [HCA.out] at this; exact this)
 go_wp2_with fail
 go_loopw [6] (fun iv wr => ∃ (j : Nat) (m : V) (A : Option Addr) (c : Nat) (K : Option Addr) (d : Nat), iv = .int .i64 j ∧ j ≤ na ∧ Hid (PE w P g CA CB (fun m => InA a b R j m ∧ Nulls m) m A c K d wr)) (fun iv _ => na - (intOf iv).toNat)
 case atStart => exact ⟨0, _, _, _, _, _, rfl, Nat.zero_le _, HI3⟩
 case round =>
  clear v0 v1 v2 v3 v4 HI3
  obtain ⟨j, m, Am, cm, Km, dm, rfl, hj, HI⟩ := hrel
  have HBA := Lib.hid (show BlockIs wr w.heap.size 27 #[.int .i64 a.kind, .int .i64 a.int, .string a.text, .slice A a.items.length c, .slice K na d] by have := HI.out.box.ba; rw [HCA.out] at this; exact this)
  have HBB := Lib.hid (show BlockIs wr (w.heap.size + 1) 27 #[.int .i64 b.kind, .int .i64 b.int, .string b.text, .slice A' n2 c', .slice K' n d'] by have := HI.out.box.bb; rw [HCB.out] at this; exact this)
  by_cases hlt : j < na
  ·have hjn : (j : Int) < na := by omega
   have hj0 : (0 : Int) ≤ j := by omega
   have hjk : j < a.keys.length := by have := HN.out.2.2; omega
   obtain ⟨kk, hkk⟩ : ∃ kk, a.keys[j]? = some kk := ⟨_, List.getElem?_eq_getElem hjk⟩
   have hla := HLA.out wr HI.out.box.old
   obtain ⟨b3, o3, rfl, hb3, hf3⟩ := inn_key_at hla hjk
   have hkt : textB kk.data.toList = true := by have := HKSA.out; rw [List.all_eq_true] at this; exact this kk (List.mem_of_getElem? hkk)
   have HE := Lib.hid (And.intro hkk (And.intro hkt (hf3 j kk hkk).2))
   have hwr := HI.out.box.old.size
   have hb3w : b3 < w.heap.size := HP.out b3 hb3
   have HKC := Lib.hid (And.intro hb3w (hf3 j kk hkk).1)
   obtain ⟨fb, hfb⟩ : ∃ fb, fb = hasI b kk := ⟨_, rfl⟩
   obtain ⟨old, hold⟩ : ∃ old, old = gotK b kk := ⟨_, rfl⟩
   have HST := Lib.hid fun W (hW : Below wr.heap.size wr W) => show Calls Tryz.prog 51 #[.agg #[.int .i64 a.kind, .int .i64 a.int, .string a.text, .slice A a.items.length c, .slice (some ⟨b3, o3, none⟩) na d], .int .i64 j] W fun e w' => e = .returned (.agg #[.int .i64 (-1), .string kk]) ∧ Below W.heap.size W w' from by
    have hw := below_on HI.out.box.old hW
    have := refStep_key a W A (some ⟨b3, o3, none⟩) c d j kk (LiesIn.lies (fun x hx => by have := HP.out x hx; have := hw.size; omega) a (HLA.out W hw)) HAV.out.2 hkk
    rw [← HN.out.2.2] at this
    exact this
   have HIT := Lib.hid fun W (hW : Below wr.heap.size wr W) => show Calls Tryz.prog 47 #[.agg #[.int .i64 b.kind, .int .i64 b.int, .string b.text, .slice A' n2 c', .slice K' n d'], .agg #[.int .i64 (-1), .string kk]] W fun e w' => ∃ A c K d, e = .returned (.tuple #[.agg #[.int .i64 old.kind, .int .i64 old.int, .string old.text, .slice A old.items.length c, .slice K old.keys.length d], .bool fb]) ∧ LiesIn P w' old A c K d ∧ Below W.heap.size W w' from by
    have hw := below_on HI.out.box.old hW
    have := item_got P b kk W A' K' c' d' (fun x hx => by have := HP.out x hx; have := hw.size; omega) (HLB.out W hw) (valid_ok HBV.out.1)
    rw [← hfb, ← hold, ← HN.out.1, ← HN.out.2.1] at this
    exact this
   have HFB := Lib.hid hfb
   obtain ⟨v0, v1, v2, v3, v4⟩ := five_of HBA.out
   clear hkk hjk hla hf3 hkt hb3 hb3w hfb hold
   go_upto_region 7 with (fail)
   clear v0 v1 v2 v3 v4
   go_cut [8] from 29 to 36 (fun q wx => q = .bool fb ∧ Hid (Below wr.heap.size wr wx))
   case first =>
    refine wp_region_held_drew (S := (fun W => Hid (Below wr.heap.size wr W) ∧ (W.cell? ⟨w.heap.size + 1, 0, none⟩ = some (.int .i64 b.kind) ∧ W.cell? ⟨w.heap.size + 1, 1, none⟩ = some (.int .i64 b.int) ∧ W.cell? ⟨w.heap.size + 1, 2, none⟩ = some (.string b.text) ∧ W.cell? ⟨w.heap.size + 1, 3, none⟩ = some (.slice A' n2 c') ∧ W.cell? ⟨w.heap.size + 1, 4, none⟩ = some (.slice K' n d')) ∧ (W.cell? ⟨w.heap.size, 0, none⟩ = some (.int .i64 a.kind) ∧ W.cell? ⟨w.heap.size, 1, none⟩ = some (.int .i64 a.int) ∧ W.cell? ⟨w.heap.size, 2, none⟩ = some (.string a.text) ∧ W.cell? ⟨w.heap.size, 3, none⟩ = some (.slice A a.items.length c) ∧ W.cell? ⟨w.heap.size, 4, none⟩ = some (.slice (some ⟨b3, o3, none⟩) na d)))) (by kernel_rfl) (two_cells HBB.out HBA.out (Below.drew (Below.refl _ _))) (fun hH0 => ?_)
    refine wpAnyH_take (i := 0) (oi := { dst := some 30, op := Go.Op.load 27 (Go.Operand.tmp 3), type := 27, pos := "ref.go:307", after := #[], guard := none }) (v := ?_) rfl (by kernel_rfl) (by kernel_rfl) (by kernel_rfl) (fun _ _ _ h => h) (Or.inl ⟨by rfl, ?_⟩) (by assumption) ?_
    rotate_left
    ·(intro w hSw; (try dsimp only at hSw); go_simp; try with_reducible rfl)
    (try simp only [Act.put, List.setIfInBounds_toArray, List.set_cons_zero, List.set_cons_succ])
    refine wpAnyH_take (i := 1) (oi := { dst := some 31, op := Go.Op.load 27 (Go.Operand.tmp 2), type := 27, pos := "ref.go:307", after := #[], guard := none }) (v := ?_) rfl (by kernel_rfl) (by kernel_rfl) (by kernel_rfl) (fun _ _ _ h => h) (Or.inl ⟨by rfl, ?_⟩) (by assumption) ?_
    rotate_left
    ·(intro w hSw; (try dsimp only at hSw); go_simp; try with_reducible rfl)
    (try simp only [Act.put, List.setIfInBounds_toArray, List.set_cons_zero, List.set_cons_succ])
    refine wpAnyH_take (i := 2) (oi := { dst := some 32, op := Go.Op.move (Go.Operand.tmp 6), type := 3, pos := "ref.go:307", after := #[], guard := none }) (v := ?_) rfl (by kernel_rfl) (by kernel_rfl) (by kernel_rfl) (fun _ _ _ h => h) (Or.inl ⟨by rfl, ?_⟩) (by assumption) ?_
    rotate_left
    ·(intro w hSw; (try dsimp only at hSw); go_simp; try with_reducible rfl)
    (try simp only [Act.put, List.setIfInBounds_toArray, List.set_cons_zero, List.set_cons_succ])
    refine wpAnyH_ready (rs := [3, 8]) (by kernel_rfl) (by simp) ?_
    refine AllReadyH.cons (o := { dst := some 33, op := Go.Op.call { callee := Go.Callee.value (Go.Operand.func 51), args := #[Go.Operand.tmp 31, Go.Operand.tmp 32], argTypes := #[27, 3] }, type := 35, pos := "ref.go:307", after := #[{ on := 1, ground := Go.Ground.data }, { on := 2, ground := Go.Ground.data }], guard := none }) rfl (fun K hK => ?_) (AllReadyH.cons (o := { dst := some 7, op := Go.Op.alloc 27, type := 0, pos := "ref.go:307", after := #[], guard := none }) rfl (fun K hK => ?_) (AllReadyH.nil))
    ·go_simp
     refine (HST.out _ hH0.1.out).mono ?_
     rintro e w1 ⟨rfl, h1⟩
     have hB1 : Below wr.heap.size wr w1 := below_on hH0.1.out h1
     (try go_wp2_with fail)
     refine hK.out _ _ (two_cells HBB.out HBA.out hB1) (fun hH1 => ?_)
     clear hK K
     (try simp only [Act.put, List.setIfInBounds_toArray, List.set_cons_zero, List.set_cons_succ])
     refine wpAnyH_ready (rs := [4, 8]) (by kernel_rfl) (by simp) ?_
     refine AllReadyH.cons (o := { dst := some 34, op := Go.Op.call { callee := Go.Callee.value (Go.Operand.func 47), args := #[Go.Operand.tmp 30, Go.Operand.tmp 33], argTypes := #[27, 35] }, type := 73, pos := "ref.go:307", after := #[{ on := 0, ground := Go.Ground.data }, { on := 3, ground := Go.Ground.data }, { on := 3, ground := Go.Ground.chain }], guard := none }) rfl (fun K hK => ?_) (AllReadyH.cons (o := { dst := some 7, op := Go.Op.alloc 27, type := 0, pos := "ref.go:307", after := #[], guard := none }) rfl (fun K hK => ?_) (AllReadyH.nil))
     ·go_simp
      refine (HIT.out _ hH1.1.out).mono ?_
      rintro e w2 ⟨Ao, co, Ko, do_, rfl, hlo, h2⟩
      have hB2 : Below wr.heap.size wr w2 := below_on hH1.1.out h2
      (try go_wp2_with fail)
      refine hK.out _ _ (two_cells HBB.out HBA.out hB2) (fun hH2 => ?_)
      clear hK K
      (try simp only [Act.put, List.setIfInBounds_toArray, List.set_cons_zero, List.set_cons_succ])
      refine wpAnyH_take (i := 5) (oi := { dst := some 29, op := Go.Op.move (Go.Operand.tmp 34), type := 73, pos := "ref.go:307", after := #[{ on := 4, ground := Go.Ground.data }], guard := none }) (v := ?_) rfl (by kernel_rfl) (by kernel_rfl) (by kernel_rfl) (fun _ _ _ h => h) (Or.inl ⟨by rfl, ?_⟩) (by assumption) ?_
      rotate_left
      ·(intro w hSw; (try dsimp only at hSw); go_simp; try with_reducible rfl)
      (try simp only [Act.put, List.setIfInBounds_toArray, List.set_cons_zero, List.set_cons_succ])
      refine wpAnyH_take (i := 6) (oi := { dst := some 35, op := Go.Op.extract (Go.Operand.tmp 29) 0, type := 27, pos := "ref.go:307", after := #[{ on := 5, ground := Go.Ground.data }], guard := none }) (v := ?_) rfl (by kernel_rfl) (by kernel_rfl) (by kernel_rfl) (fun _ _ _ h => h) (Or.inl ⟨by rfl, ?_⟩) (by assumption) ?_
      rotate_left
      ·(intro w hSw; (try dsimp only at hSw); go_simp; try with_reducible rfl)
      (try simp only [Act.put, List.setIfInBounds_toArray, List.set_cons_zero, List.set_cons_succ])
      refine wpAnyH_take (i := 7) (oi := { dst := some 36, op := Go.Op.extract (Go.Operand.tmp 29) 1, type := 4, pos := "ref.go:307", after := #[{ on := 5, ground := Go.Ground.data }, { on := 9, ground := Go.Ground.gcOnly Go.Departure.lateStores }], guard := none }) (v := ?_) rfl (by kernel_rfl) (by kernel_rfl) (by kernel_rfl) (fun _ _ _ h => h) (Or.inl ⟨by rfl, ?_⟩) (by assumption) ?_
      rotate_left
      ·(intro w hSw; (try dsimp only at hSw); go_simp; try with_reducible rfl)
      (try simp only [Act.put, List.setIfInBounds_toArray, List.set_cons_zero, List.set_cons_succ])
      refine wpAnyH_ready (rs := [8]) (by kernel_rfl) (by simp) ?_
      refine AllReadyH.cons (o := { dst := some 7, op := Go.Op.alloc 27, type := 0, pos := "ref.go:307", after := #[], guard := none }) rfl (fun K hK => ?_) (AllReadyH.nil)
      ·go_simp
       refine hK.out _ _ (two_cells HBB.out HBA.out (below_al hH2.1.out _)) (fun hH3 => ?_)
       clear hK K
       (try simp only [Act.put, List.setIfInBounds_toArray, List.set_cons_zero, List.set_cons_succ])
       refine wpAnyH_ready (rs := [9]) (by kernel_rfl) (by simp) ?_
       refine AllReadyH.cons (o := { dst := none, op := Go.Op.store 27 (Go.Operand.tmp 7) (Go.Operand.tmp 35), type := 0, pos := "ref.go:307", after := #[{ on := 8, ground := Go.Ground.data }, { on := 6, ground := Go.Ground.data }, { on := 4, ground := Go.Ground.chain }, { on := 0, ground := Go.Ground.phase }, { on := 1, ground := Go.Ground.phase }, { on := 2, ground := Go.Ground.phase }, { on := 3, ground := Go.Ground.phase }, { on := 4, ground := Go.Ground.phase }, { on := 5, ground := Go.Ground.phase }, { on := 6, ground := Go.Ground.phase }, { on := 7, ground := Go.Ground.textOnly Go.Departure.lateStores }, { on := 8, ground := Go.Ground.phase }], guard := none }) rfl (fun K hK => ?_) (AllReadyH.nil)
       ·go_simp
        refine hK.out _ _ (by first | with_reducible exact two_cells HBB.out HBA.out (below_al hB2 _) | with_reducible exact two_cells HBB.out HBA.out (below_s5 hB2 hgz)) (fun hH4 => ?_)
        clear hK K
        (try simp only [Act.put, List.setIfInBounds_toArray, List.set_cons_zero, List.set_cons_succ])
        refine wpAnyH_take (i := 10) (oi := { dst := some 8, op := Go.Op.assign (Go.Operand.tmp 36), type := 4, pos := "ref.go:307", after := #[{ on := 7, ground := Go.Ground.data }, { on := 9, ground := Go.Ground.chain }, { on := 0, ground := Go.Ground.phase }, { on := 1, ground := Go.Ground.phase }, { on := 2, ground := Go.Ground.phase }, { on := 3, ground := Go.Ground.phase }, { on := 4, ground := Go.Ground.phase }, { on := 5, ground := Go.Ground.phase }, { on := 6, ground := Go.Ground.phase }, { on := 7, ground := Go.Ground.phase }, { on := 8, ground := Go.Ground.phase }, { on := 9, ground := Go.Ground.phase }], guard := none }) (v := ?_) rfl (by kernel_rfl) (by kernel_rfl) (by kernel_rfl) (fun _ _ _ h => h) (Or.inl ⟨by rfl, ?_⟩) (by assumption) ?_
        rotate_left
        ·(intro w hSw; (try dsimp only at hSw); go_simp; try with_reducible rfl)
        (try simp only [Act.put, List.setIfInBounds_toArray, List.set_cons_zero, List.set_cons_succ])
        refine wpAnyH_done (by kernel_rfl) ?_ _
        go_wp2_with fail
        go_meet
        exact ⟨rfl, hH4.1⟩
     ·go_simp
      refine hK.out _ _ (two_cells HBB.out HBA.out (below_al hH1.1.out _)) (fun hH2 => ?_)
      clear hK K
      (try simp only [Act.put, List.setIfInBounds_toArray, List.set_cons_zero, List.set_cons_succ])
      refine wpAnyH_ready (rs := [4]) (by kernel_rfl) (by simp) ?_
      refine AllReadyH.cons (o := { dst := some 34, op := Go.Op.call { callee := Go.Callee.value (Go.Operand.func 47), args := #[Go.Operand.tmp 30, Go.Operand.tmp 33], argTypes := #[27, 35] }, type := 73, pos := "ref.go:307", after := #[{ on := 0, ground := Go.Ground.data }, { on := 3, ground := Go.Ground.data }, { on := 3, ground := Go.Ground.chain }], guard := none }) rfl (fun K hK => ?_) (AllReadyH.nil)
      ·go_simp
       refine (HIT.out _ hH2.1.out).mono ?_
       rintro e w2 ⟨Ao, co, Ko, do_, rfl, hlo, h2⟩
       have hB2 : Below wr.heap.size wr w2 := below_on hH2.1.out h2
       have hx2 := BlockIs.below (BlockIs.new w1 27 #[.int .i64 0, .int .i64 0, .string ⟨#[]⟩, .slice none 0 0, .slice none 0 0]) h2 (by simp)
       have hgz : wr.heap.size ≤ w1.heap.size := Below.size hB1
       obtain ⟨t0, t1, t2, t3, t4⟩ := five_of hx2
       have q0 := BlockIs.frozen hx2 0
       have q1 := BlockIs.frozen hx2 1
       have q2 := BlockIs.frozen hx2 2
       have q3 := BlockIs.frozen hx2 3
       have q4 := BlockIs.frozen hx2 4
       have ql := BlockIs.lt hx2
       (try go_wp2_with fail)
       refine hK.out _ _ (two_cells HBB.out HBA.out hB2) (fun hH3 => ?_)
       clear hK K
       (try simp only [Act.put, List.setIfInBounds_toArray, List.set_cons_zero, List.set_cons_succ])
       refine wpAnyH_take (i := 5) (oi := { dst := some 29, op := Go.Op.move (Go.Operand.tmp 34), type := 73, pos := "ref.go:307", after := #[{ on := 4, ground := Go.Ground.data }], guard := none }) (v := ?_) rfl (by kernel_rfl) (by kernel_rfl) (by kernel_rfl) (fun _ _ _ h => h) (Or.inl ⟨by rfl, ?_⟩) (by assumption) ?_
       rotate_left
       ·(intro w hSw; (try dsimp only at hSw); go_simp; try with_reducible rfl)
       (try simp only [Act.put, List.setIfInBounds_toArray, List.set_cons_zero, List.set_cons_succ])
       refine wpAnyH_take (i := 6) (oi := { dst := some 35, op := Go.Op.extract (Go.Operand.tmp 29) 0, type := 27, pos := "ref.go:307", after := #[{ on := 5, ground := Go.Ground.data }], guard := none }) (v := ?_) rfl (by kernel_rfl) (by kernel_rfl) (by kernel_rfl) (fun _ _ _ h => h) (Or.inl ⟨by rfl, ?_⟩) (by assumption) ?_
       rotate_left
       ·(intro w hSw; (try dsimp only at hSw); go_simp; try with_reducible rfl)
       (try simp only [Act.put, List.setIfInBounds_toArray, List.set_cons_zero, List.set_cons_succ])
       refine wpAnyH_take (i := 7) (oi := { dst := some 36, op := Go.Op.extract (Go.Operand.tmp 29) 1, type := 4, pos := "ref.go:307", after := #[{ on := 5, ground := Go.Ground.data }, { on := 9, ground := Go.Ground.gcOnly Go.Departure.lateStores }], guard := none }) (v := ?_) rfl (by kernel_rfl) (by kernel_rfl) (by kernel_rfl) (fun _ _ _ h => h) (Or.inl ⟨by rfl, ?_⟩) (by assumption) ?_
       rotate_left
       ·(intro w hSw; (try dsimp only at hSw); go_simp; try with_reducible rfl)
       (try simp only [Act.put, List.setIfInBounds_toArray, List.set_cons_zero, List.set_cons_succ])
       refine wpAnyH_ready (rs := [9]) (by kernel_rfl) (by simp) ?_
       refine AllReadyH.cons (o := { dst := none, op := Go.Op.store 27 (Go.Operand.tmp 7) (Go.Operand.tmp 35), type := 0, pos := "ref.go:307", after := #[{ on := 8, ground := Go.Ground.data }, { on := 6, ground := Go.Ground.data }, { on := 4, ground := Go.Ground.chain }, { on := 0, ground := Go.Ground.phase }, { on := 1, ground := Go.Ground.phase }, { on := 2, ground := Go.Ground.phase }, { on := 3, ground := Go.Ground.phase }, { on := 4, ground := Go.Ground.phase }, { on := 5, ground := Go.Ground.phase }, { on := 6, ground := Go.Ground.phase }, { on := 7, ground := Go.Ground.textOnly Go.Departure.lateStores }, { on := 8, ground := Go.Ground.phase }], guard := none }) rfl (fun K hK => ?_) (AllReadyH.nil)
       ·go_simp
        refine hK.out _ _ (by first | with_reducible exact two_cells HBB.out HBA.out (below_al hB2 _) | with_reducible exact two_cells HBB.out HBA.out (below_s5 hB2 hgz)) (fun hH4 => ?_)
        clear hK K
        (try simp only [Act.put, List.setIfInBounds_toArray, List.set_cons_zero, List.set_cons_succ])
        refine wpAnyH_take (i := 10) (oi := { dst := some 8, op := Go.Op.assign (Go.Operand.tmp 36), type := 4, pos := "ref.go:307", after := #[{ on := 7, ground := Go.Ground.data }, { on := 9, ground := Go.Ground.chain }, { on := 0, ground := Go.Ground.phase }, { on := 1, ground := Go.Ground.phase }, { on := 2, ground := Go.Ground.phase }, { on := 3, ground := Go.Ground.phase }, { on := 4, ground := Go.Ground.phase }, { on := 5, ground := Go.Ground.phase }, { on := 6, ground := Go.Ground.phase }, { on := 7, ground := Go.Ground.phase }, { on := 8, ground := Go.Ground.phase }, { on := 9, ground := Go.Ground.phase }], guard := none }) (v := ?_) rfl (by kernel_rfl) (by kernel_rfl) (by kernel_rfl) (fun _ _ _ h => h) (Or.inl ⟨by rfl, ?_⟩) (by assumption) ?_
        rotate_left
        ·(intro w hSw; (try dsimp only at hSw); go_simp; try with_reducible rfl)
        (try simp only [Act.put, List.setIfInBounds_toArray, List.set_cons_zero, List.set_cons_succ])
        refine wpAnyH_done (by kernel_rfl) ?_ _
        go_wp2_with fail
        go_meet
        exact ⟨rfl, hH4.1⟩
    ·go_simp
     refine hK.out _ _ (two_cells HBB.out HBA.out (below_al hH0.1.out _)) (fun hH1 => ?_)
     clear hK K
     (try simp only [Act.put, List.setIfInBounds_toArray, List.set_cons_zero, List.set_cons_succ])
     refine wpAnyH_ready (rs := [3]) (by kernel_rfl) (by simp) ?_
     refine AllReadyH.cons (o := { dst := some 33, op := Go.Op.call { callee := Go.Callee.value (Go.Operand.func 51), args := #[Go.Operand.tmp 31, Go.Operand.tmp 32], argTypes := #[27, 3] }, type := 35, pos := "ref.go:307", after := #[{ on := 1, ground := Go.Ground.data }, { on := 2, ground := Go.Ground.data }], guard := none }) rfl (fun K hK => ?_) (AllReadyH.nil)
     ·go_simp
      refine (HST.out _ hH1.1.out).mono ?_
      rintro e w1 ⟨rfl, h1⟩
      have hB1 : Below wr.heap.size wr w1 := below_on hH1.1.out h1
      have hx1 : BlockIs w1 wr.heap.size 27 #[.int .i64 0, .int .i64 0, .string ⟨#[]⟩, .slice none 0 0, .slice none 0 0] := BlockIs.below (BlockIs.new wr.drew 27 #[.int .i64 0, .int .i64 0, .string ⟨#[]⟩, .slice none 0 0, .slice none 0 0]) h1 (by simp)
      (try go_wp2_with fail)
      refine hK.out _ _ (two_cells HBB.out HBA.out hB1) (fun hH2 => ?_)
      clear hK K
      (try simp only [Act.put, List.setIfInBounds_toArray, List.set_cons_zero, List.set_cons_succ])
      refine wpAnyH_ready (rs := [4]) (by kernel_rfl) (by simp) ?_
      refine AllReadyH.cons (o := { dst := some 34, op := Go.Op.call { callee := Go.Callee.value (Go.Operand.func 47), args := #[Go.Operand.tmp 30, Go.Operand.tmp 33], argTypes := #[27, 35] }, type := 73, pos := "ref.go:307", after := #[{ on := 0, ground := Go.Ground.data }, { on := 3, ground := Go.Ground.data }, { on := 3, ground := Go.Ground.chain }], guard := none }) rfl (fun K hK => ?_) (AllReadyH.nil)
      ·go_simp
       refine (HIT.out _ hH2.1.out).mono ?_
       rintro e w2 ⟨Ao, co, Ko, do_, rfl, hlo, h2⟩
       have hB2 : Below wr.heap.size wr w2 := below_on hH2.1.out h2
       have hx2 := BlockIs.below hx1 h2 (BlockIs.lt hx1)
       have hgz : wr.heap.size ≤ wr.heap.size := Nat.le_refl _
       obtain ⟨t0, t1, t2, t3, t4⟩ := five_of hx2
       have q0 := BlockIs.frozen hx2 0
       have q1 := BlockIs.frozen hx2 1
       have q2 := BlockIs.frozen hx2 2
       have q3 := BlockIs.frozen hx2 3
       have q4 := BlockIs.frozen hx2 4
       have ql := BlockIs.lt hx2
       (try go_wp2_with fail)
       refine hK.out _ _ (two_cells HBB.out HBA.out hB2) (fun hH3 => ?_)
       clear hK K
       (try simp only [Act.put, List.setIfInBounds_toArray, List.set_cons_zero, List.set_cons_succ])
       refine wpAnyH_take (i := 5) (oi := { dst := some 29, op := Go.Op.move (Go.Operand.tmp 34), type := 73, pos := "ref.go:307", after := #[{ on := 4, ground := Go.Ground.data }], guard := none }) (v := ?_) rfl (by kernel_rfl) (by kernel_rfl) (by kernel_rfl) (fun _ _ _ h => h) (Or.inl ⟨by rfl, ?_⟩) (by assumption) ?_
       rotate_left
       ·(intro w hSw; (try dsimp only at hSw); go_simp; try with_reducible rfl)
       (try simp only [Act.put, List.setIfInBounds_toArray, List.set_cons_zero, List.set_cons_succ])
       refine wpAnyH_take (i := 6) (oi := { dst := some 35, op := Go.Op.extract (Go.Operand.tmp 29) 0, type := 27, pos := "ref.go:307", after := #[{ on := 5, ground := Go.Ground.data }], guard := none }) (v := ?_) rfl (by kernel_rfl) (by kernel_rfl) (by kernel_rfl) (fun _ _ _ h => h) (Or.inl ⟨by rfl, ?_⟩) (by assumption) ?_
       rotate_left
       ·(intro w hSw; (try dsimp only at hSw); go_simp; try with_reducible rfl)
       (try simp only [Act.put, List.setIfInBounds_toArray, List.set_cons_zero, List.set_cons_succ])
       refine wpAnyH_take (i := 7) (oi := { dst := some 36, op := Go.Op.extract (Go.Operand.tmp 29) 1, type := 4, pos := "ref.go:307", after := #[{ on := 5, ground := Go.Ground.data }, { on := 9, ground := Go.Ground.gcOnly Go.Departure.lateStores }], guard := none }) (v := ?_) rfl (by kernel_rfl) (by kernel_rfl) (by kernel_rfl) (fun _ _ _ h => h) (Or.inl ⟨by rfl, ?_⟩) (by assumption) ?_
       rotate_left
       ·(intro w hSw; (try dsimp only at hSw); go_simp; try with_reducible rfl)
       (try simp only [Act.put, List.setIfInBounds_toArray, List.set_cons_zero, List.set_cons_succ])
       refine wpAnyH_ready (rs := [9]) (by kernel_rfl) (by simp) ?_
       refine AllReadyH.cons (o := { dst := none, op := Go.Op.store 27 (Go.Operand.tmp 7) (Go.Operand.tmp 35), type := 0, pos := "ref.go:307", after := #[{ on := 8, ground := Go.Ground.data }, { on := 6, ground := Go.Ground.data }, { on := 4, ground := Go.Ground.chain }, { on := 0, ground := Go.Ground.phase }, { on := 1, ground := Go.Ground.phase }, { on := 2, ground := Go.Ground.phase }, { on := 3, ground := Go.Ground.phase }, { on := 4, ground := Go.Ground.phase }, { on := 5, ground := Go.Ground.phase }, { on := 6, ground := Go.Ground.phase }, { on := 7, ground := Go.Ground.textOnly Go.Departure.lateStores }, { on := 8, ground := Go.Ground.phase }], guard := none }) rfl (fun K hK => ?_) (AllReadyH.nil)
       ·go_simp
        refine hK.out _ _ (by first | with_reducible exact two_cells HBB.out HBA.out (below_al hB2 _) | with_reducible exact two_cells HBB.out HBA.out (below_s5 hB2 hgz)) (fun hH4 => ?_)
        clear hK K
        (try simp only [Act.put, List.setIfInBounds_toArray, List.set_cons_zero, List.set_cons_succ])
        refine wpAnyH_take (i := 10) (oi := { dst := some 8, op := Go.Op.assign (Go.Operand.tmp 36), type := 4, pos := "ref.go:307", after := #[{ on := 7, ground := Go.Ground.data }, { on := 9, ground := Go.Ground.chain }, { on := 0, ground := Go.Ground.phase }, { on := 1, ground := Go.Ground.phase }, { on := 2, ground := Go.Ground.phase }, { on := 3, ground := Go.Ground.phase }, { on := 4, ground := Go.Ground.phase }, { on := 5, ground := Go.Ground.phase }, { on := 6, ground := Go.Ground.phase }, { on := 7, ground := Go.Ground.phase }, { on := 8, ground := Go.Ground.phase }, { on := 9, ground := Go.Ground.phase }], guard := none }) (v := ?_) rfl (by kernel_rfl) (by kernel_rfl) (by kernel_rfl) (fun _ _ _ h => h) (Or.inl ⟨by rfl, ?_⟩) (by assumption) ?_
        rotate_left
        ·(intro w hSw; (try dsimp only at hSw); go_simp; try with_reducible rfl)
        (try simp only [Act.put, List.setIfInBounds_toArray, List.set_cons_zero, List.set_cons_succ])
        refine wpAnyH_done (by kernel_rfl) ?_ _
        go_wp2_with fail
        go_meet
        exact ⟨rfl, hH4.1⟩
   case rest =>
    obtain ⟨w4, rfl⟩ : ∃ q, q = wc := ⟨_, rfl⟩
    obtain ⟨rfl, HBW⟩ := hcut
    have HI4 := Lib.hid (HI.out.on HP.out HBW.out)
    have HBA4 := Lib.hid (HBA.out.below HBW.out HBA.out.lt)
    have HKC4 := Lib.hid (And.intro HKC.out.1 ((bcell HBW.out b3 (o3 + j) (by have := HKC.out.1; omega)).trans HKC.out.2))
    clear HST HIT HI HBA HBB HKC
    cases fb
    ·have hrn := room_nulls HI4.out.ob HE.out.2.1 HI4.out.st.2
     have hst := HI4.out.st.1.room HI4.out.ob HE.out.1 HE.out.2.1 HFB.out.symm
     rw [hrn.1] at hst
     have hob := (room_ob HI4.out.ob HE.out.2.1).1
     rw [hrn.1] at hob
     have HST := Lib.hid (And.intro hob (And.intro hst hrn.2))
     have HWC := Lib.hid fun W (hW : Below w4.heap.size w4 W) => show Calls Tryz.prog 48 #[.agg #[.int .i64 m.kind, .int .i64 m.int, .string m.text, .slice Am m.items.length cm, .slice Km m.keys.length dm], .string kk, .agg #[.int .i64 0, .int .i64 0, .string ⟨#[]⟩, .slice none 0 0, .slice none 0 0]] W (OutQ (PP P g W) (setK m kk nullV) W) from
      with_in (PP P g W) m nullV kk W Am Km cm dm none none 0 0 (fun x hx => (HI4.out.on HP.out hW).lt HP.out hx) HI4.out.ob (by have := HI4.out.st.1.1; have := nodes_items m; have := length_le_nodesL m.items; omega) (HI4.out.on HP.out hW).lies (lies_leaf _ _ 0 0 _ (by decide)) HE.out.2.2
     obtain ⟨q, hq⟩ : ∃ q, q = setK m kk nullV := ⟨_, rfl⟩
     rw [← hq] at HST HWC
     have hw4 := HI4.out.box.old.size
     have hsl : w.heap.size < w4.heap.size := by have := HI4.out.box.lt; omega
     obtain ⟨p0, p1, p2, p3, p4⟩ := five_of HI4.out.bo
     have HK := Lib.hid (And.intro (five_of HBA4.out).2.2.2.2 HKC4.out.2)
     have hk3 : b3 < w4.heap.size := by have := HKC4.out.1; omega
     clear hrn hst hob hq
     go_upto_region 9 with (fail)
     refine region_push (fun W => (W.cell? ⟨g, 0, none⟩ = some (.int .i64 m.kind) ∧ W.cell? ⟨g, 1, none⟩ = some (.int .i64 m.int) ∧ W.cell? ⟨g, 2, none⟩ = some (.string m.text) ∧ W.cell? ⟨g, 3, none⟩ = some (.slice Am m.items.length cm) ∧ W.cell? ⟨g, 4, none⟩ = some (.slice Km m.keys.length dm)) ∧ W.cell? ⟨w.heap.size, 4, none⟩ = some (.slice (some ⟨b3, o3, none⟩) na d) ∧ W.cell? ⟨b3, o3 + j, none⟩ = some (.string kk)) #[{ dst := some 39, op := Go.Op.load 27 (Go.Operand.tmp 5), type := 27, pos := "ref.go:308", after := #[], guard := none }, { dst := some 40, op := Go.Op.fieldAddr 27 (Go.Operand.tmp 2) 4, type := 0, pos := "ref.go:308", after := #[], guard := none }, { dst := some 41, op := Go.Op.load 25 (Go.Operand.tmp 40), type := 25, pos := "ref.go:308", after := #[{ on := 1, ground := Go.Ground.data }], guard := none }, { dst := some 42, op := Go.Op.move (Go.Operand.tmp 6), type := 3, pos := "ref.go:308", after := #[], guard := none }, { dst := some 43, op := Go.Op.indexAddr 25 (Go.Operand.tmp 41) (Go.Operand.tmp 42), type := 0, pos := "ref.go:308", after := #[{ on := 2, ground := Go.Ground.data }, { on := 3, ground := Go.Ground.data }], guard := none }, { dst := some 44, op := Go.Op.load 9 (Go.Operand.tmp 43), type := 9, pos := "ref.go:308", after := #[{ on := 4, ground := Go.Ground.data }], guard := none }, { dst := some 45, op := Go.Op.call { callee := Go.Callee.value (Go.Operand.func 15), args := #[], argTypes := #[] }, type := 27, pos := "ref.go:308", after := #[], guard := none }, { dst := some 46, op := Go.Op.call { callee := Go.Callee.value (Go.Operand.func 48), args := #[Go.Operand.tmp 39, Go.Operand.tmp 44, Go.Operand.tmp 45], argTypes := #[27, 9, 27] }, type := 27, pos := "ref.go:308", after := #[{ on := 0, ground := Go.Ground.data }, { on := 5, ground := Go.Ground.data }, { on := 6, ground := Go.Ground.data }, { on := 6, ground := Go.Ground.chain }], guard := none }] ({ dst := none, op := Go.Op.store 27 (Go.Operand.tmp 5) (Go.Operand.tmp 46), type := 0, pos := "ref.go:308", after := #[{ on := 7, ground := Go.Ground.data }, { on := 7, ground := Go.Ground.chain }, { on := 0, ground := Go.Ground.phase }, { on := 1, ground := Go.Ground.phase }, { on := 2, ground := Go.Ground.phase }, { on := 3, ground := Go.Ground.phase }, { on := 4, ground := Go.Ground.phase }, { on := 5, ground := Go.Ground.phase }, { on := 6, ground := Go.Ground.phase }, { on := 7, ground := Go.Ground.phase }], guard := none }) rfl (by kernel_rfl) (by kernel_rfl) ⟨⟨p0, p1, p2, p3, p4⟩, cells_2 (wx := w4) (W := w4.drew) rfl rfl HK.out.1 HK.out.2⟩ (fun hH0 => ?_)
     refine wpAnyH_take (i := 0) (oi := { dst := some 39, op := Go.Op.load 27 (Go.Operand.tmp 5), type := 27, pos := "ref.go:308", after := #[], guard := none }) (v := ?_) rfl (by kernel_rfl) (by kernel_rfl) (by kernel_rfl) (fun _ _ _ h => h) (Or.inl ⟨by rfl, ?_⟩) (by assumption) ?_
     rotate_left
     ·(intro w hSw; (try dsimp only at hSw); go_simp; try with_reducible rfl)
     (try simp only [Act.put, List.setIfInBounds_toArray, List.set_cons_zero, List.set_cons_succ])
     refine wpAnyH_take (i := 1) (oi := { dst := some 40, op := Go.Op.fieldAddr 27 (Go.Operand.tmp 2) 4, type := 0, pos := "ref.go:308", after := #[], guard := none }) (v := ?_) rfl (by kernel_rfl) (by kernel_rfl) (by kernel_rfl) (fun _ _ _ h => h) (Or.inl ⟨by rfl, ?_⟩) (by assumption) ?_
     rotate_left
     ·(intro w hSw; (try dsimp only at hSw); go_simp; try with_reducible rfl)
     (try simp only [Act.put, List.setIfInBounds_toArray, List.set_cons_zero, List.set_cons_succ])
     refine wpAnyH_take (i := 2) (oi := { dst := some 41, op := Go.Op.load 25 (Go.Operand.tmp 40), type := 25, pos := "ref.go:308", after := #[{ on := 1, ground := Go.Ground.data }], guard := none }) (v := ?_) rfl (by kernel_rfl) (by kernel_rfl) (by kernel_rfl) (fun _ _ _ h => h) (Or.inl ⟨by rfl, ?_⟩) (by assumption) ?_
     rotate_left
     ·(intro w hSw; (try dsimp only at hSw); go_simp; try with_reducible rfl)
     (try simp only [Act.put, List.setIfInBounds_toArray, List.set_cons_zero, List.set_cons_succ])
     refine wpAnyH_take (i := 3) (oi := { dst := some 42, op := Go.Op.move (Go.Operand.tmp 6), type := 3, pos := "ref.go:308", after := #[], guard := none }) (v := ?_) rfl (by kernel_rfl) (by kernel_rfl) (by kernel_rfl) (fun _ _ _ h => h) (Or.inl ⟨by rfl, ?_⟩) (by assumption) ?_
     rotate_left
     ·(intro w hSw; (try dsimp only at hSw); go_simp; try with_reducible rfl)
     (try simp only [Act.put, List.setIfInBounds_toArray, List.set_cons_zero, List.set_cons_succ])
     refine wpAnyH_take (i := 4) (oi := { dst := some 43, op := Go.Op.indexAddr 25 (Go.Operand.tmp 41) (Go.Operand.tmp 42), type := 0, pos := "ref.go:308", after := #[{ on := 2, ground := Go.Ground.data }, { on := 3, ground := Go.Ground.data }], guard := none }) (v := ?_) rfl (by kernel_rfl) (by kernel_rfl) (by kernel_rfl) (fun _ _ _ h => h) (Or.inl ⟨by rfl, ?_⟩) (by assumption) ?_
     rotate_left
     ·(intro w hSw; (try dsimp only at hSw); go_simp; try with_reducible rfl)
     (try simp only [Act.put, List.setIfInBounds_toArray, List.set_cons_zero, List.set_cons_succ])
     refine wpAnyH_take (i := 5) (oi := { dst := some 44, op := Go.Op.load 9 (Go.Operand.tmp 43), type := 9, pos := "ref.go:308", after := #[{ on := 4, ground := Go.Ground.data }], guard := none }) (v := ?_) rfl (by kernel_rfl) (by kernel_rfl) (by kernel_rfl) (fun _ _ _ h => h) (Or.inl ⟨by rfl, ?_⟩) (by assumption) ?_
     rotate_left
     ·(intro w hSw; (try dsimp only at hSw); go_simp; try with_reducible rfl)
     (try simp only [Act.put, List.setIfInBounds_toArray, List.set_cons_zero, List.set_cons_succ])
     refine wpAnyH_ready (rs := [6]) (by kernel_rfl) (by simp) ?_
     refine AllReadyH.cons (o := { dst := some 45, op := Go.Op.call { callee := Go.Callee.value (Go.Operand.func 15), args := #[], argTypes := #[] }, type := 27, pos := "ref.go:308", after := #[], guard := none }) rfl (fun K hK => ?_) AllReadyH.nil
     go_simp
     refine (refNull_any _).mono ?_
     rintro e w6 ⟨rfl, h6⟩
     have hb6 : Below w4.heap.size w4 w6 := ⟨h6.os, h6.tape, h6.output, h6.size, h6.block⟩
     have HI6 := Lib.hid (HI4.out.on HP.out hb6)
     clear h6
     (try go_wp2_with fail)
     refine hK.out _ _ ⟨five_of HI6.out.bo, cells_2 (hb6.block _ hsl) (hb6.block _ hk3) HK.out.1 HK.out.2⟩ (fun hH1 => ?_)
     clear hK K
     (try simp only [Act.put, List.setIfInBounds_toArray, List.set_cons_zero, List.set_cons_succ])
     refine wpAnyH_ready (rs := [7]) (by kernel_rfl) (by simp) ?_
     refine AllReadyH.cons (o := { dst := some 46, op := Go.Op.call { callee := Go.Callee.value (Go.Operand.func 48), args := #[Go.Operand.tmp 39, Go.Operand.tmp 44, Go.Operand.tmp 45], argTypes := #[27, 9, 27] }, type := 27, pos := "ref.go:308", after := #[{ on := 0, ground := Go.Ground.data }, { on := 5, ground := Go.Ground.data }, { on := 6, ground := Go.Ground.data }, { on := 6, ground := Go.Ground.chain }], guard := none }) rfl (fun K hK => ?_) AllReadyH.nil
     go_simp
     refine (HWC.out _ hb6).mono ?_
     rintro e w7 ⟨A7, c7, K7, d7, he7, hl7, h7⟩
     unfold aggOf at he7
     subst he7
     have hb7 := below_on hb6 h7
     have HM7 := Lib.hid (HI6.out.put HP.out h7 hl7 HST.out.1 (F' := fun m => InA a b R (j + 1) m ∧ Nulls m) HST.out.2)
     have HG7 := HI6.out.bo.below h7 HI6.out.bo.lt
     obtain ⟨k0, k1, k2, k3, k4⟩ := five_of HG7
     have f0 := BlockIs.frozen HG7 0
     have f1 := BlockIs.frozen HG7 1
     have f2 := BlockIs.frozen HG7 2
     have f3 := BlockIs.frozen HG7 3
     have f4 := BlockIs.frozen HG7 4
     have kl := BlockIs.lt HG7
     clear hl7 h7
     (try go_wp2_with fail)
     refine hK.out _ _ ⟨⟨k0, k1, k2, k3, k4⟩, cells_2 (hb7.block _ hsl) (hb7.block _ hk3) HK.out.1 HK.out.2⟩ (fun hH2 => ?_)
     clear hK K
     (try simp only [Act.put, List.setIfInBounds_toArray, List.set_cons_zero, List.set_cons_succ])
     refine wpAnyH_done (by kernel_rfl) ?_ _
     refine upto_step (o := { dst := none, op := Go.Op.store 27 (Go.Operand.tmp 5) (Go.Operand.tmp 46), type := 0, pos := "ref.go:308", after := #[{ on := 7, ground := Go.Ground.data }, { on := 7, ground := Go.Ground.chain }, { on := 0, ground := Go.Ground.phase }, { on := 1, ground := Go.Ground.phase }, { on := 2, ground := Go.Ground.phase }, { on := 3, ground := Go.Ground.phase }, { on := 4, ground := Go.Ground.phase }, { on := 5, ground := Go.Ground.phase }, { on := 6, ground := Go.Ground.phase }, { on := 7, ground := Go.Ground.phase }], guard := none }) rfl (fun K hK => ?_)
     go_simp
     refine hK _ _ ?_
     clear hK K
     all_goals
      go_wp2_with fail
      go_roundw
      case rel => exact ⟨j + 1, _, _, _, _, _, by go_num, by omega, HM7⟩
      case measure => simp [intOf]; omega
    ·have HM7 := Lib.hid (HI4.out.turn (F' := fun m => InA a b R (j + 1) m ∧ Nulls m) ⟨HI4.out.st.1.skip HE.out.1 HFB.out.symm, HI4.out.st.2⟩)
     go_wp2_with fail
     go_roundw
     case rel => exact ⟨j + 1, _, _, _, _, _, by go_num, by omega, HM7⟩
     case measure => simp [intOf]; omega
  ·have hjn : ¬ ((j : Int) < na) := by omega
   have HI0 := Lib.hid (HI.out.turn (F' := InB a b R 0) (HI.out.st.1.over (by have := HN.out.2.2; omega)))
   obtain ⟨v0, v1, v2, v3, v4⟩ := five_of HBA.out
   obtain ⟨u0, u1, u2, u3, u4⟩ := five_of HBB.out
   clear HI HKSA
   go_wp2_with fail
   go_loopw [9] (fun iv wr => ∃ (j : Nat) (m : V) (A : Option Addr) (c : Nat) (K : Option Addr) (d : Nat), iv = .int .i64 j ∧ j ≤ n ∧ Hid (PE w P g CA CB (InB a b R j) m A c K d wr)) (fun iv _ => n - (intOf iv).toNat)
   case atStart => exact ⟨0, _, _, _, _, _, rfl, Nat.zero_le _, HI0⟩
   case round =>
    clear v0 v1 v2 v3 v4 u0 u1 u2 u3 u4 HI0 HBA HBB hj hlt hjn
    obtain ⟨j, m, Am, cm, Km, dm, rfl, hj, HI⟩ := hrel
    have HBA := Lib.hid (show BlockIs wr w.heap.size 27 #[.int .i64 a.kind, .int .i64 a.int, .string a.text, .slice A a.items.length c, .slice K na d] by have := HI.out.box.ba; rw [HCA.out] at this; exact this)
    have HBB := Lib.hid (show BlockIs wr (w.heap.size + 1) 27 #[.int .i64 b.kind, .int .i64 b.int, .string b.text, .slice A' n2 c', .slice K' n d'] by have := HI.out.box.bb; rw [HCB.out] at this; exact this)
    by_cases hlt : j < n
    ·have hjn : (j : Int) < n := by omega
     have hj0 : (0 : Int) ≤ j := by omega
     have hji : j < b.items.length := by have := HKL.out; have := HN.out.1; omega
     have hjk : j < b.keys.length := by have := HN.out.1; omega
     have hjn2 : (j : Int) < n2 := by have := HN.out.2.1; omega
     obtain ⟨y, hy⟩ : ∃ y, b.items[j]? = some y := ⟨_, List.getElem?_eq_getElem hji⟩
     obtain ⟨kk, hkk⟩ : ∃ kk, b.keys[j]? = some kk := ⟨_, List.getElem?_eq_getElem hjk⟩
     have hlb := HLB.out wr HI.out.box.old
     obtain ⟨b2, o2, rfl, hb2, hfrom⟩ := inn_at hlb hji
     obtain ⟨Ay, cy, Ky, dy, ⟨y0, y1, y2, y3, y4⟩, hly⟩ := hfrom.at_ hy
     obtain ⟨b3, o3, rfl, hb3, hf3⟩ := inn_key_at hlb hjk
     have hkt : textB kk.data.toList = true := by have := HKS.out.1; rw [List.all_eq_true] at this; exact this kk (List.mem_of_getElem? hkk)
     have hyv : y.valid = true := items_valid HBV.out.1 (List.mem_of_getElem? hy)
     have HE := Lib.hid (And.intro hy (And.intro hkk (And.intro hkt (And.intro hyv (hf3 j kk hkk).2))))
     have HBW := Lib.hid (And.intro (HP.out b2 hb2) (HP.out b3 hb3))
     have HYC := Lib.hid (And.intro (And.intro y0 (And.intro y1 (And.intro y2 (And.intro y3 y4)))) (hf3 j kk hkk).1)
     have HLY := Lib.hid fun W (hW : Below w.heap.size w W) => show LiesIn P W y Ay cy Ky dy from LiesIn.keep (fun x o hx => (bcell hW x o (HP.out x hx)).trans (bcell HI.out.box.old x o (HP.out x hx)).symm) (fun x hx => hx) y hly
     obtain ⟨fb, hfb⟩ : ∃ fb, fb = hasI a kk := ⟨_, rfl⟩
     obtain ⟨old, hold⟩ : ∃ old, old = gotK a kk := ⟨_, rfl⟩
     have HST := Lib.hid fun W (hW : Below wr.heap.size wr W) => show Calls Tryz.prog 51 #[.agg #[.int .i64 b.kind, .int .i64 b.int, .string b.text, .slice (some ⟨b2, o2, none⟩) n2 c', .slice (some ⟨b3, o3, none⟩) n d'], .int .i64 j] W fun e w' => e = .returned (.agg #[.int .i64 (-1), .string kk]) ∧ Below W.heap.size W w' from by
      have hw := below_on HI.out.box.old hW
      have := refStep_key b W (some ⟨b2, o2, none⟩) (some ⟨b3, o3, none⟩) c' d' j kk (LiesIn.lies (fun x hx => by have := HP.out x hx; have := hw.size; omega) b (HLB.out W hw)) HBV.out.2 hkk
      rw [← HN.out.1, ← HN.out.2.1] at this
      exact this
     have HIT := Lib.hid fun W (hW : Below wr.heap.size wr W) => show Calls Tryz.prog 47 #[.agg #[.int .i64 a.kind, .int .i64 a.int, .string a.text, .slice A a.items.length c, .slice K na d], .agg #[.int .i64 (-1), .string kk]] W fun e w' => ∃ A c K d, e = .returned (.tuple #[.agg #[.int .i64 old.kind, .int .i64 old.int, .string old.text, .slice A old.items.length c, .slice K old.keys.length d], .bool fb]) ∧ LiesIn P w' old A c K d ∧ Below W.heap.size W w' from by
      have hw := below_on HI.out.box.old hW
      have := item_got P a kk W A K c d (fun x hx => by have := HP.out x hx; have := hw.size; omega) (HLA.out W hw) (valid_ok HAV.out.1)
      rw [← hfb, ← hold, ← HN.out.2.2] at this
      exact this
     have hov : old.valid = true := by rw [hold]; exact gotK_valid HAV.out.1 kk
     have hoo := gotK_ok (valid_ok HAV.out.1) kk
     rw [← hold] at hoo
     have HOLD := Lib.hid (And.intro hold (And.intro hfb (And.intro hov (show (1 + old.nodes) * y.nodes ≤ 5000 from Nat.le_trans (Nat.mul_le_mul_right _ (by have := hoo.2; omega)) (HNN.out y (List.mem_of_getElem? hy))))))
     obtain ⟨u0, u1, u2, u3, u4⟩ := five_of HBB.out
     clear hy hkk hji hjk hlb hfrom hly y0 y1 y2 y3 y4 hb2 hb3 hf3 hkt hyv hov hoo hfb hold
     go_upto_region 13 with (fail)
     clear u0 u1 u2 u3 u4
     go_cut [10, 11] from 54 to 61 (fun pv q W => ∃ (gO : Nat) (Ao : Option Addr) (co : Nat) (Ko : Option Addr) (do_ : Nat), pv = .pointer (some ⟨gO, 0, none⟩) ∧ q = .bool fb ∧ Hid (wr.heap.size ≤ gO ∧ BlockIs W gO 27 #[.int .i64 old.kind, .int .i64 old.int, .string old.text, .slice Ao old.items.length co, .slice Ko old.keys.length do_] ∧ LiesIn P W old Ao co Ko do_ ∧ Below wr.heap.size wr W))
     case first =>
      refine wp_region_held_drew (S := (fun W => Hid (Below wr.heap.size wr W) ∧ (W.cell? ⟨w.heap.size + 1, 0, none⟩ = some (.int .i64 b.kind) ∧ W.cell? ⟨w.heap.size + 1, 1, none⟩ = some (.int .i64 b.int) ∧ W.cell? ⟨w.heap.size + 1, 2, none⟩ = some (.string b.text) ∧ W.cell? ⟨w.heap.size + 1, 3, none⟩ = some (.slice (some ⟨b2, o2, none⟩) n2 c') ∧ W.cell? ⟨w.heap.size + 1, 4, none⟩ = some (.slice (some ⟨b3, o3, none⟩) n d')) ∧ (W.cell? ⟨w.heap.size, 0, none⟩ = some (.int .i64 a.kind) ∧ W.cell? ⟨w.heap.size, 1, none⟩ = some (.int .i64 a.int) ∧ W.cell? ⟨w.heap.size, 2, none⟩ = some (.string a.text) ∧ W.cell? ⟨w.heap.size, 3, none⟩ = some (.slice A a.items.length c) ∧ W.cell? ⟨w.heap.size, 4, none⟩ = some (.slice K na d)))) (by kernel_rfl) (two_cells HBB.out HBA.out (Below.drew (Below.refl _ _))) (fun hH0 => ?_)
      refine wpAnyH_take (i := 0) (oi := { dst := some 55, op := Go.Op.load 27 (Go.Operand.tmp 2), type := 27, pos := "ref.go:312", after := #[], guard := none }) (v := ?_) rfl (by kernel_rfl) (by kernel_rfl) (by kernel_rfl) (fun _ _ _ h => h) (Or.inl ⟨by rfl, ?_⟩) (by assumption) ?_
      rotate_left
      ·(intro w hSw; (try dsimp only at hSw); go_simp; try with_reducible rfl)
      (try simp only [Act.put, List.setIfInBounds_toArray, List.set_cons_zero, List.set_cons_succ])
      refine wpAnyH_take (i := 1) (oi := { dst := some 56, op := Go.Op.load 27 (Go.Operand.tmp 3), type := 27, pos := "ref.go:312", after := #[], guard := none }) (v := ?_) rfl (by kernel_rfl) (by kernel_rfl) (by kernel_rfl) (fun _ _ _ h => h) (Or.inl ⟨by rfl, ?_⟩) (by assumption) ?_
      rotate_left
      ·(intro w hSw; (try dsimp only at hSw); go_simp; try with_reducible rfl)
      (try simp only [Act.put, List.setIfInBounds_toArray, List.set_cons_zero, List.set_cons_succ])
      refine wpAnyH_take (i := 2) (oi := { dst := some 57, op := Go.Op.move (Go.Operand.tmp 9), type := 3, pos := "ref.go:312", after := #[], guard := none }) (v := ?_) rfl (by kernel_rfl) (by kernel_rfl) (by kernel_rfl) (fun _ _ _ h => h) (Or.inl ⟨by rfl, ?_⟩) (by assumption) ?_
      rotate_left
      ·(intro w hSw; (try dsimp only at hSw); go_simp; try with_reducible rfl)
      (try simp only [Act.put, List.setIfInBounds_toArray, List.set_cons_zero, List.set_cons_succ])
      refine wpAnyH_ready (rs := [3, 8]) (by kernel_rfl) (by simp) ?_
      refine AllReadyH.cons (o := { dst := some 58, op := Go.Op.call { callee := Go.Callee.value (Go.Operand.func 51), args := #[Go.Operand.tmp 56, Go.Operand.tmp 57], argTypes := #[27, 3] }, type := 35, pos := "ref.go:312", after := #[{ on := 1, ground := Go.Ground.data }, { on := 2, ground := Go.Ground.data }], guard := none }) rfl (fun K hK => ?_) (AllReadyH.cons (o := { dst := some 10, op := Go.Op.alloc 27, type := 0, pos := "ref.go:312", after := #[], guard := none }) rfl (fun K hK => ?_) (AllReadyH.nil))
      ·go_simp
       refine (HST.out _ hH0.1.out).mono ?_
       rintro e w1 ⟨rfl, h1⟩
       have hB1 : Below wr.heap.size wr w1 := below_on hH0.1.out h1
       (try go_wp2_with fail)
       refine hK.out _ _ (two_cells HBB.out HBA.out hB1) (fun hH1 => ?_)
       clear hK K
       (try simp only [Act.put, List.setIfInBounds_toArray, List.set_cons_zero, List.set_cons_succ])
       refine wpAnyH_ready (rs := [4, 8]) (by kernel_rfl) (by simp) ?_
       refine AllReadyH.cons (o := { dst := some 59, op := Go.Op.call { callee := Go.Callee.value (Go.Operand.func 47), args := #[Go.Operand.tmp 55, Go.Operand.tmp 58], argTypes := #[27, 35] }, type := 73, pos := "ref.go:312", after := #[{ on := 0, ground := Go.Ground.data }, { on := 3, ground := Go.Ground.data }, { on := 3, ground := Go.Ground.chain }], guard := none }) rfl (fun K hK => ?_) (AllReadyH.cons (o := { dst := some 10, op := Go.Op.alloc 27, type := 0, pos := "ref.go:312", after := #[], guard := none }) rfl (fun K hK => ?_) (AllReadyH.nil))
       ·go_simp
        refine (HIT.out _ hH1.1.out).mono ?_
        rintro e w2 ⟨Ao, co, Ko, do_, rfl, hlo, h2⟩
        have hB2 : Below wr.heap.size wr w2 := below_on hH1.1.out h2
        (try go_wp2_with fail)
        refine hK.out _ _ (two_cells HBB.out HBA.out hB2) (fun hH2 => ?_)
        clear hK K
        (try simp only [Act.put, List.setIfInBounds_toArray, List.set_cons_zero, List.set_cons_succ])
        refine wpAnyH_take (i := 5) (oi := { dst := some 54, op := Go.Op.move (Go.Operand.tmp 59), type := 73, pos := "ref.go:312", after := #[{ on := 4, ground := Go.Ground.data }], guard := none }) (v := ?_) rfl (by kernel_rfl) (by kernel_rfl) (by kernel_rfl) (fun _ _ _ h => h) (Or.inl ⟨by rfl, ?_⟩) (by assumption) ?_
        rotate_left
        ·(intro w hSw; (try dsimp only at hSw); go_simp; try with_reducible rfl)
        (try simp only [Act.put, List.setIfInBounds_toArray, List.set_cons_zero, List.set_cons_succ])
        refine wpAnyH_take (i := 6) (oi := { dst := some 60, op := Go.Op.extract (Go.Operand.tmp 54) 0, type := 27, pos := "ref.go:312", after := #[{ on := 5, ground := Go.Ground.data }], guard := none }) (v := ?_) rfl (by kernel_rfl) (by kernel_rfl) (by kernel_rfl) (fun _ _ _ h => h) (Or.inl ⟨by rfl, ?_⟩) (by assumption) ?_
        rotate_left
        ·(intro w hSw; (try dsimp only at hSw); go_simp; try with_reducible rfl)
        (try simp only [Act.put, List.setIfInBounds_toArray, List.set_cons_zero, List.set_cons_succ])
        refine wpAnyH_take (i := 7) (oi := { dst := some 61, op := Go.Op.extract (Go.Operand.tmp 54) 1, type := 4, pos := "ref.go:312", after := #[{ on := 5, ground := Go.Ground.data }, { on := 9, ground := Go.Ground.gcOnly Go.Departure.lateStores }], guard := none }) (v := ?_) rfl (by kernel_rfl) (by kernel_rfl) (by kernel_rfl) (fun _ _ _ h => h) (Or.inl ⟨by rfl, ?_⟩) (by assumption) ?_
        rotate_left
        ·(intro w hSw; (try dsimp only at hSw); go_simp; try with_reducible rfl)
        (try simp only [Act.put, List.setIfInBounds_toArray, List.set_cons_zero, List.set_cons_succ])
        refine wpAnyH_ready (rs := [8]) (by kernel_rfl) (by simp) ?_
        refine AllReadyH.cons (o := { dst := some 10, op := Go.Op.alloc 27, type := 0, pos := "ref.go:312", after := #[], guard := none }) rfl (fun K hK => ?_) (AllReadyH.nil)
        ·go_simp
         refine hK.out _ _ (two_cells HBB.out HBA.out (below_al hH2.1.out _)) (fun hH3 => ?_)
         clear hK K
         (try simp only [Act.put, List.setIfInBounds_toArray, List.set_cons_zero, List.set_cons_succ])
         refine wpAnyH_ready (rs := [9]) (by kernel_rfl) (by simp) ?_
         refine AllReadyH.cons (o := { dst := none, op := Go.Op.store 27 (Go.Operand.tmp 10) (Go.Operand.tmp 60), type := 0, pos := "ref.go:312", after := #[{ on := 8, ground := Go.Ground.data }, { on := 6, ground := Go.Ground.data }, { on := 4, ground := Go.Ground.chain }, { on := 0, ground := Go.Ground.phase }, { on := 1, ground := Go.Ground.phase }, { on := 2, ground := Go.Ground.phase }, { on := 3, ground := Go.Ground.phase }, { on := 4, ground := Go.Ground.phase }, { on := 5, ground := Go.Ground.phase }, { on := 6, ground := Go.Ground.phase }, { on := 7, ground := Go.Ground.textOnly Go.Departure.lateStores }, { on := 8, ground := Go.Ground.phase }], guard := none }) rfl (fun K hK => ?_) (AllReadyH.nil)
         ·go_simp
          refine hK.out _ _ (by first | with_reducible exact two_cells HBB.out HBA.out (below_al hB2 _) | with_reducible exact two_cells HBB.out HBA.out (below_s5 hB2 hgz)) (fun hH4 => ?_)
          clear hK K
          (try simp only [Act.put, List.setIfInBounds_toArray, List.set_cons_zero, List.set_cons_succ])
          refine wpAnyH_take (i := 10) (oi := { dst := some 11, op := Go.Op.assign (Go.Operand.tmp 61), type := 4, pos := "ref.go:312", after := #[{ on := 7, ground := Go.Ground.data }, { on := 9, ground := Go.Ground.chain }, { on := 0, ground := Go.Ground.phase }, { on := 1, ground := Go.Ground.phase }, { on := 2, ground := Go.Ground.phase }, { on := 3, ground := Go.Ground.phase }, { on := 4, ground := Go.Ground.phase }, { on := 5, ground := Go.Ground.phase }, { on := 6, ground := Go.Ground.phase }, { on := 7, ground := Go.Ground.phase }, { on := 8, ground := Go.Ground.phase }, { on := 9, ground := Go.Ground.phase }], guard := none }) (v := ?_) rfl (by kernel_rfl) (by kernel_rfl) (by kernel_rfl) (fun _ _ _ h => h) (Or.inl ⟨by rfl, ?_⟩) (by assumption) ?_
          rotate_left
          ·(intro w hSw; (try dsimp only at hSw); go_simp; try with_reducible rfl)
          (try simp only [Act.put, List.setIfInBounds_toArray, List.set_cons_zero, List.set_cons_succ])
          refine wpAnyH_done (by kernel_rfl) ?_ _
          go_wp2_with fail
          go_meet
          have hs1 := Below.size hB1
          have hs2 := Below.size hB2
          have hbz := HI.out.box.old.size
          exact ⟨w2.heap.size, Ao, co, Ko, do_, rfl, rfl, Lib.hid ⟨by omega, BlockIs.new w2 _ _, LiesIn.keep (fun b o hx => World.cell?_alloc_lt _ _ _ (show b < w2.heap.size by have := HP.out b hx; omega)) (fun _ h => h) old hlo, below_al hB2 _⟩⟩
       ·go_simp
        refine hK.out _ _ (two_cells HBB.out HBA.out (below_al hH1.1.out _)) (fun hH2 => ?_)
        clear hK K
        (try simp only [Act.put, List.setIfInBounds_toArray, List.set_cons_zero, List.set_cons_succ])
        refine wpAnyH_ready (rs := [4]) (by kernel_rfl) (by simp) ?_
        refine AllReadyH.cons (o := { dst := some 59, op := Go.Op.call { callee := Go.Callee.value (Go.Operand.func 47), args := #[Go.Operand.tmp 55, Go.Operand.tmp 58], argTypes := #[27, 35] }, type := 73, pos := "ref.go:312", after := #[{ on := 0, ground := Go.Ground.data }, { on := 3, ground := Go.Ground.data }, { on := 3, ground := Go.Ground.chain }], guard := none }) rfl (fun K hK => ?_) (AllReadyH.nil)
        ·go_simp
         refine (HIT.out _ hH2.1.out).mono ?_
         rintro e w2 ⟨Ao, co, Ko, do_, rfl, hlo, h2⟩
         have hB2 : Below wr.heap.size wr w2 := below_on hH2.1.out h2
         have hx2 := BlockIs.below (BlockIs.new w1 27 #[.int .i64 0, .int .i64 0, .string ⟨#[]⟩, .slice none 0 0, .slice none 0 0]) h2 (by simp)
         have hgz : wr.heap.size ≤ w1.heap.size := Below.size hB1
         obtain ⟨t0, t1, t2, t3, t4⟩ := five_of hx2
         have q0 := BlockIs.frozen hx2 0
         have q1 := BlockIs.frozen hx2 1
         have q2 := BlockIs.frozen hx2 2
         have q3 := BlockIs.frozen hx2 3
         have q4 := BlockIs.frozen hx2 4
         have ql := BlockIs.lt hx2
         (try go_wp2_with fail)
         refine hK.out _ _ (two_cells HBB.out HBA.out hB2) (fun hH3 => ?_)
         clear hK K
         (try simp only [Act.put, List.setIfInBounds_toArray, List.set_cons_zero, List.set_cons_succ])
         refine wpAnyH_take (i := 5) (oi := { dst := some 54, op := Go.Op.move (Go.Operand.tmp 59), type := 73, pos := "ref.go:312", after := #[{ on := 4, ground := Go.Ground.data }], guard := none }) (v := ?_) rfl (by kernel_rfl) (by kernel_rfl) (by kernel_rfl) (fun _ _ _ h => h) (Or.inl ⟨by rfl, ?_⟩) (by assumption) ?_
         rotate_left
         ·(intro w hSw; (try dsimp only at hSw); go_simp; try with_reducible rfl)
         (try simp only [Act.put, List.setIfInBounds_toArray, List.set_cons_zero, List.set_cons_succ])
         refine wpAnyH_take (i := 6) (oi := { dst := some 60, op := Go.Op.extract (Go.Operand.tmp 54) 0, type := 27, pos := "ref.go:312", after := #[{ on := 5, ground := Go.Ground.data }], guard := none }) (v := ?_) rfl (by kernel_rfl) (by kernel_rfl) (by kernel_rfl) (fun _ _ _ h => h) (Or.inl ⟨by rfl, ?_⟩) (by assumption) ?_
         rotate_left
         ·(intro w hSw; (try dsimp only at hSw); go_simp; try with_reducible rfl)
         (try simp only [Act.put, List.setIfInBounds_toArray, List.set_cons_zero, List.set_cons_succ])
         refine wpAnyH_take (i := 7) (oi := { dst := some 61, op := Go.Op.extract (Go.Operand.tmp 54) 1, type := 4, pos := "ref.go:312", after := #[{ on := 5, ground := Go.Ground.data }, { on := 9, ground := Go.Ground.gcOnly Go.Departure.lateStores }], guard := none }) (v := ?_) rfl (by kernel_rfl) (by kernel_rfl) (by kernel_rfl) (fun _ _ _ h => h) (Or.inl ⟨by rfl, ?_⟩) (by assumption) ?_
         rotate_left
         ·(intro w hSw; (try dsimp only at hSw); go_simp; try with_reducible rfl)
         (try simp only [Act.put, List.setIfInBounds_toArray, List.set_cons_zero, List.set_cons_succ])
         refine wpAnyH_ready (rs := [9]) (by kernel_rfl) (by simp) ?_
         refine AllReadyH.cons (o := { dst := none, op := Go.Op.store 27 (Go.Operand.tmp 10) (Go.Operand.tmp 60), type := 0, pos := "ref.go:312", after := #[{ on := 8, ground := Go.Ground.data }, { on := 6, ground := Go.Ground.data }, { on := 4, ground := Go.Ground.chain }, { on := 0, ground := Go.Ground.phase }, { on := 1, ground := Go.Ground.phase }, { on := 2, ground := Go.Ground.phase }, { on := 3, ground := Go.Ground.phase }, { on := 4, ground := Go.Ground.phase }, { on := 5, ground := Go.Ground.phase }, { on := 6, ground := Go.Ground.phase }, { on := 7, ground := Go.Ground.textOnly Go.Departure.lateStores }, { on := 8, ground := Go.Ground.phase }], guard := none }) rfl (fun K hK => ?_) (AllReadyH.nil)
         ·go_simp
          refine hK.out _ _ (by first | with_reducible exact two_cells HBB.out HBA.out (below_al hB2 _) | with_reducible exact two_cells HBB.out HBA.out (below_s5 hB2 hgz)) (fun hH4 => ?_)
          clear hK K
          (try simp only [Act.put, List.setIfInBounds_toArray, List.set_cons_zero, List.set_cons_succ])
          refine wpAnyH_take (i := 10) (oi := { dst := some 11, op := Go.Op.assign (Go.Operand.tmp 61), type := 4, pos := "ref.go:312", after := #[{ on := 7, ground := Go.Ground.data }, { on := 9, ground := Go.Ground.chain }, { on := 0, ground := Go.Ground.phase }, { on := 1, ground := Go.Ground.phase }, { on := 2, ground := Go.Ground.phase }, { on := 3, ground := Go.Ground.phase }, { on := 4, ground := Go.Ground.phase }, { on := 5, ground := Go.Ground.phase }, { on := 6, ground := Go.Ground.phase }, { on := 7, ground := Go.Ground.phase }, { on := 8, ground := Go.Ground.phase }, { on := 9, ground := Go.Ground.phase }], guard := none }) (v := ?_) rfl (by kernel_rfl) (by kernel_rfl) (by kernel_rfl) (fun _ _ _ h => h) (Or.inl ⟨by rfl, ?_⟩) (by assumption) ?_
          rotate_left
          ·(intro w hSw; (try dsimp only at hSw); go_simp; try with_reducible rfl)
          (try simp only [Act.put, List.setIfInBounds_toArray, List.set_cons_zero, List.set_cons_succ])
          refine wpAnyH_done (by kernel_rfl) ?_ _
          go_wp2_with fail
          go_meet
          have hs1 := Below.size hB1
          have hs2 := Below.size hB2
          have hbz := HI.out.box.old.size
          exact ⟨w1.heap.size, Ao, co, Ko, do_, rfl, rfl, Lib.hid ⟨by omega, box_s5 hx2, LiesIn.keep (fun b o hx => World.cell?_of_block (put5_heap w2 _ 0 _ _ _ _ _ (by have := HP.out b hx; show b ≠ _; omega))) (fun _ h => h) old hlo, below_s5 hB2 hgz⟩⟩
      ·go_simp
       refine hK.out _ _ (two_cells HBB.out HBA.out (below_al hH0.1.out _)) (fun hH1 => ?_)
       clear hK K
       (try simp only [Act.put, List.setIfInBounds_toArray, List.set_cons_zero, List.set_cons_succ])
       refine wpAnyH_ready (rs := [3]) (by kernel_rfl) (by simp) ?_
       refine AllReadyH.cons (o := { dst := some 58, op := Go.Op.call { callee := Go.Callee.value (Go.Operand.func 51), args := #[Go.Operand.tmp 56, Go.Operand.tmp 57], argTypes := #[27, 3] }, type := 35, pos := "ref.go:312", after := #[{ on := 1, ground := Go.Ground.data }, { on := 2, ground := Go.Ground.data }], guard := none }) rfl (fun K hK => ?_) (AllReadyH.nil)
       ·go_simp
        refine (HST.out _ hH1.1.out).mono ?_
        rintro e w1 ⟨rfl, h1⟩
        have hB1 : Below wr.heap.size wr w1 := below_on hH1.1.out h1
        have hx1 : BlockIs w1 wr.heap.size 27 #[.int .i64 0, .int .i64 0, .string ⟨#[]⟩, .slice none 0 0, .slice none 0 0] := BlockIs.below (BlockIs.new wr.drew 27 #[.int .i64 0, .int .i64 0, .string ⟨#[]⟩, .slice none 0 0, .slice none 0 0]) h1 (by simp)
        (try go_wp2_with fail)
        refine hK.out _ _ (two_cells HBB.out HBA.out hB1) (fun hH2 => ?_)
        clear hK K
        (try simp only [Act.put, List.setIfInBounds_toArray, List.set_cons_zero, List.set_cons_succ])
        refine wpAnyH_ready (rs := [4]) (by kernel_rfl) (by simp) ?_
        refine AllReadyH.cons (o := { dst := some 59, op := Go.Op.call { callee := Go.Callee.value (Go.Operand.func 47), args := #[Go.Operand.tmp 55, Go.Operand.tmp 58], argTypes := #[27, 35] }, type := 73, pos := "ref.go:312", after := #[{ on := 0, ground := Go.Ground.data }, { on := 3, ground := Go.Ground.data }, { on := 3, ground := Go.Ground.chain }], guard := none }) rfl (fun K hK => ?_) (AllReadyH.nil)
        ·go_simp
         refine (HIT.out _ hH2.1.out).mono ?_
         rintro e w2 ⟨Ao, co, Ko, do_, rfl, hlo, h2⟩
         have hB2 : Below wr.heap.size wr w2 := below_on hH2.1.out h2
         have hx2 := BlockIs.below hx1 h2 (BlockIs.lt hx1)
         have hgz : wr.heap.size ≤ wr.heap.size := Nat.le_refl _
         obtain ⟨t0, t1, t2, t3, t4⟩ := five_of hx2
         have q0 := BlockIs.frozen hx2 0
         have q1 := BlockIs.frozen hx2 1
         have q2 := BlockIs.frozen hx2 2
         have q3 := BlockIs.frozen hx2 3
         have q4 := BlockIs.frozen hx2 4
         have ql := BlockIs.lt hx2
         (try go_wp2_with fail)
         refine hK.out _ _ (two_cells HBB.out HBA.out hB2) (fun hH3 => ?_)
         clear hK K
         (try simp only [Act.put, List.setIfInBounds_toArray, List.set_cons_zero, List.set_cons_succ])
         refine wpAnyH_take (i := 5) (oi := { dst := some 54, op := Go.Op.move (Go.Operand.tmp 59), type := 73, pos := "ref.go:312", after := #[{ on := 4, ground := Go.Ground.data }], guard := none }) (v := ?_) rfl (by kernel_rfl) (by kernel_rfl) (by kernel_rfl) (fun _ _ _ h => h) (Or.inl ⟨by rfl, ?_⟩) (by assumption) ?_
         rotate_left
         ·(intro w hSw; (try dsimp only at hSw); go_simp; try with_reducible rfl)
         (try simp only [Act.put, List.setIfInBounds_toArray, List.set_cons_zero, List.set_cons_succ])
         refine wpAnyH_take (i := 6) (oi := { dst := some 60, op := Go.Op.extract (Go.Operand.tmp 54) 0, type := 27, pos := "ref.go:312", after := #[{ on := 5, ground := Go.Ground.data }], guard := none }) (v := ?_) rfl (by kernel_rfl) (by kernel_rfl) (by kernel_rfl) (fun _ _ _ h => h) (Or.inl ⟨by rfl, ?_⟩) (by assumption) ?_
         rotate_left
         ·(intro w hSw; (try dsimp only at hSw); go_simp; try with_reducible rfl)
         (try simp only [Act.put, List.setIfInBounds_toArray, List.set_cons_zero, List.set_cons_succ])
         refine wpAnyH_take (i := 7) (oi := { dst := some 61, op := Go.Op.extract (Go.Operand.tmp 54) 1, type := 4, pos := "ref.go:312", after := #[{ on := 5, ground := Go.Ground.data }, { on := 9, ground := Go.Ground.gcOnly Go.Departure.lateStores }], guard := none }) (v := ?_) rfl (by kernel_rfl) (by kernel_rfl) (by kernel_rfl) (fun _ _ _ h => h) (Or.inl ⟨by rfl, ?_⟩) (by assumption) ?_
         rotate_left
         ·(intro w hSw; (try dsimp only at hSw); go_simp; try with_reducible rfl)
         (try simp only [Act.put, List.setIfInBounds_toArray, List.set_cons_zero, List.set_cons_succ])
         refine wpAnyH_ready (rs := [9]) (by kernel_rfl) (by simp) ?_
         refine AllReadyH.cons (o := { dst := none, op := Go.Op.store 27 (Go.Operand.tmp 10) (Go.Operand.tmp 60), type := 0, pos := "ref.go:312", after := #[{ on := 8, ground := Go.Ground.data }, { on := 6, ground := Go.Ground.data }, { on := 4, ground := Go.Ground.chain }, { on := 0, ground := Go.Ground.phase }, { on := 1, ground := Go.Ground.phase }, { on := 2, ground := Go.Ground.phase }, { on := 3, ground := Go.Ground.phase }, { on := 4, ground := Go.Ground.phase }, { on := 5, ground := Go.Ground.phase }, { on := 6, ground := Go.Ground.phase }, { on := 7, ground := Go.Ground.textOnly Go.Departure.lateStores }, { on := 8, ground := Go.Ground.phase }], guard := none }) rfl (fun K hK => ?_) (AllReadyH.nil)
         ·go_simp
          refine hK.out _ _ (by first | with_reducible exact two_cells HBB.out HBA.out (below_al hB2 _) | with_reducible exact two_cells HBB.out HBA.out (below_s5 hB2 hgz)) (fun hH4 => ?_)
          clear hK K
          (try simp only [Act.put, List.setIfInBounds_toArray, List.set_cons_zero, List.set_cons_succ])
          refine wpAnyH_take (i := 10) (oi := { dst := some 11, op := Go.Op.assign (Go.Operand.tmp 61), type := 4, pos := "ref.go:312", after := #[{ on := 7, ground := Go.Ground.data }, { on := 9, ground := Go.Ground.chain }, { on := 0, ground := Go.Ground.phase }, { on := 1, ground := Go.Ground.phase }, { on := 2, ground := Go.Ground.phase }, { on := 3, ground := Go.Ground.phase }, { on := 4, ground := Go.Ground.phase }, { on := 5, ground := Go.Ground.phase }, { on := 6, ground := Go.Ground.phase }, { on := 7, ground := Go.Ground.phase }, { on := 8, ground := Go.Ground.phase }, { on := 9, ground := Go.Ground.phase }], guard := none }) (v := ?_) rfl (by kernel_rfl) (by kernel_rfl) (by kernel_rfl) (fun _ _ _ h => h) (Or.inl ⟨by rfl, ?_⟩) (by assumption) ?_
          rotate_left
          ·(intro w hSw; (try dsimp only at hSw); go_simp; try with_reducible rfl)
          (try simp only [Act.put, List.setIfInBounds_toArray, List.set_cons_zero, List.set_cons_succ])
          refine wpAnyH_done (by kernel_rfl) ?_ _
          go_wp2_with fail
          go_meet
          have hs1 := Below.size hB1
          have hs2 := Below.size hB2
          have hbz := HI.out.box.old.size
          exact ⟨wr.heap.size, Ao, co, Ko, do_, rfl, rfl, Lib.hid ⟨by omega, box_s5 hx2, LiesIn.keep (fun b o hx => World.cell?_of_block (put5_heap w2 _ 0 _ _ _ _ _ (by have := HP.out b hx; show b ≠ _; omega))) (fun _ h => h) old hlo, below_s5 hB2 hgz⟩⟩
     case rest =>
      obtain ⟨w4, rfl⟩ : ∃ q, q = wc := ⟨_, rfl⟩
      obtain ⟨gO, Ao, co, Ko, do_, rfl, rfl, HW4⟩ := hcut
      have HI4 := Lib.hid (HI.out.on HP.out HW4.out.2.2.2)
      have HBB4 := Lib.hid (HBB.out.below HW4.out.2.2.2 HBB.out.lt)
      have hz := HI.out.box.lt
      have hfar := HI.out.far
      have hgl := HI.out.bo.lt
      have hsz := HW4.out.2.2.2.size
      have hol := HW4.out.2.1.lt
      have HSZ := Lib.hid (And.intro hfar (And.intro (show g < gO from by have := HW4.out.1; omega) (And.intro hol (show w.heap.size + 1 < w4.heap.size ∧ b2 < w4.heap.size ∧ b3 < w4.heap.size from by have := HBW.out; omega))))
      have hb2l : b2 < wr.heap.size := by have := HBW.out.1; omega
      have hb3l : b3 < wr.heap.size := by have := HBW.out.2; omega
      have HRED := Lib.hid (show Red w4 (w.heap.size + 1) b3 (o3 + j) gO b2 (o2 + j * 5) (.slice (some ⟨b2, o2, none⟩) n2 c') (.slice (some ⟨b3, o3, none⟩) n d') (.string kk) (.int .i64 old.kind) (.int .i64 old.int) (.string old.text) (.slice Ao old.items.length co) (.slice Ko old.keys.length do_) (.int .i64 y.kind) (.int .i64 y.int) (.string y.text) (.slice Ay y.items.length cy) (.slice Ky y.keys.length dy) from
       have h := five_of HBB4.out
       have q := five_of HW4.out.2.1
       have u := HYC.out.1
       have hb := HW4.out.2.2.2
       ⟨h.2.2.2.1, h.2.2.2.2, (bcell hb _ _ hb3l).trans HYC.out.2, q.1, q.2.1, q.2.2.1, q.2.2.2.1, q.2.2.2.2, (bcell hb _ _ hb2l).trans u.1, (bcell hb _ _ hb2l).trans u.2.1, (bcell hb _ _ hb2l).trans u.2.2.1, (bcell hb _ _ hb2l).trans u.2.2.2.1, (bcell hb _ _ hb2l).trans u.2.2.2.2⟩)
      have HLO := Lib.hid fun W (hW : Below w4.heap.size w4 W) => show LiesIn P W old Ao co Ko do_ from LiesIn.keep (fun x o hx => bcell hW x o (by have := HP.out x hx; omega)) (fun _ h => h) old HW4.out.2.2.1
      have HLY4 := Lib.hid fun W (hW : Below w4.heap.size w4 W) => HLY.out W (below_on HI4.out.box.old hW)
      have HPL := Lib.hid fun W (hW : Below w4.heap.size w4 W) x (hx : P x) => show x < W.heap.size from by have := HP.out x hx; have := hW.size; omega
      clear hz hfar hgl hsz hol hb2l hb3l HST HIT HW4 HBB HBA HI HYC HLY
      obtain ⟨bq, hbq⟩ : ∃ bq, bq = (fb && eqV old y) := ⟨_, rfl⟩
      have HBQ := Lib.hid (show (hasI a kk && eqV (gotK a kk) y) = bq by rw [hbq, HOLD.out.2.1, HOLD.out.1])
      go_upto_region 14 with (fail)
      go_cut [73] from 62 to 73 (fun q wx => q = .bool (!bq) ∧ Hid (Below w4.heap.size w4 wx))
      case first =>
       cases fb
       ·have HQ := Lib.hid (show bq = false by rw [hbq]; rfl)
        clear hbq
        go_quiet (fail)
        go_wp2_with fail
        go_meet
        exact ⟨by rw [HQ.out]; rfl, Lib.hid (below_drewN (Below.refl _ w4) nq)⟩
       ·have HQ := Lib.hid (show (old.cmp y == 0) = bq by rw [hbq, eqV_is HOLD.out.2.2.1 HE.out.2.2.2.1]; rfl)
        clear hbq
        have HEQ := Lib.hid fun W (hW : Below w4.heap.size w4 W) => refEq_any old y bq HQ.out W Ao Ko co do_ Ay Ky cy dy (valid_ok HOLD.out.2.2.1) (valid_ok HE.out.2.2.2.1) (LiesIn.lies (HPL.out W hW) old (HLO.out W hW)) (LiesIn.lies (HPL.out W hW) y (HLY4.out W hW))
        go_region_held3 (fun W => Hid (Below w4.heap.size w4 W) ∧ (W.cell? ⟨w.heap.size + 1, 3, none⟩ = some (.slice (some ⟨b2, o2, none⟩) n2 c') ∧ W.cell? ⟨w.heap.size + 1, 4, none⟩ = some (.slice (some ⟨b3, o3, none⟩) n d') ∧ W.cell? ⟨b3, o3 + j, none⟩ = some (.string kk)) ∧ (W.cell? ⟨gO, 0, none⟩ = some (.int .i64 old.kind) ∧ W.cell? ⟨gO, 1, none⟩ = some (.int .i64 old.int) ∧ W.cell? ⟨gO, 2, none⟩ = some (.string old.text) ∧ W.cell? ⟨gO, 3, none⟩ = some (.slice Ao old.items.length co) ∧ W.cell? ⟨gO, 4, none⟩ = some (.slice Ko old.keys.length do_)) ∧ (W.cell? ⟨b2, o2 + j * 5, none⟩ = some (.int .i64 y.kind) ∧ W.cell? ⟨b2, o2 + j * 5 + 1, none⟩ = some (.int .i64 y.int) ∧ W.cell? ⟨b2, o2 + j * 5 + 2, none⟩ = some (.string y.text) ∧ W.cell? ⟨b2, o2 + j * 5 + 3, none⟩ = some (.slice Ay y.items.length cy) ∧ W.cell? ⟨b2, o2 + j * 5 + 4, none⟩ = some (.slice Ky y.keys.length dy)))
         (first
          | (with_reducible exact ⟨Lib.hid (Below.drew (Below.refl _ _)), (Red.to (W' := w4.drew) HRED.out (fun _ _ => rfl)).all⟩)
          | (go_split_ands; have hbe : Below w4.heap.size w4 w6 := below_on (Hid.out (by assumption)) h6; with_reducible exact ⟨Lib.hid hbe, (HRED.out.to (fun b hb => hbe.block b (by have := HSZ.out; rcases hb with rfl | rfl | rfl | rfl <;> omega))).all⟩))
         (first
          | (go_at_call 58; refine (HEQ.out _ ?_).mono ?_; (go_split_ands; exact Hid.out (by assumption)); rintro e w6 ⟨rfl, h6⟩))
        all_goals
         go_wp2_with fail
         go_meet
         go_split_ands
         exact ⟨rfl, by assumption⟩
      case rest =>
       obtain ⟨w5, rfl⟩ : ∃ q, q = wc := ⟨_, rfl⟩
       obtain ⟨rfl, HB5⟩ := hcut
       clear hbq
       have HI5 := Lib.hid (HI4.out.on HP.out HB5.out)
       have HRED5 := Lib.hid (HRED.out.to (W' := w5) (fun b hb => HB5.out.block b (by have := HSZ.out; rcases hb with rfl | rfl | rfl | rfl <;> omega)))
       have HLT := Lib.hid (show ∀ b, b = w.heap.size + 1 ∨ b = b3 ∨ b = gO ∨ b = b2 → b < w5.heap.size from fun b hb => by have := HSZ.out; have := HB5.out.size; rcases hb with rfl | rfl | rfl | rfl <;> omega)
       cases bq
       ·obtain ⟨hob, hst⟩ := HI5.out.st.laid (valid_ok HAV.out.1) HI5.out.ob HE.out.2.1 HE.out.1 HE.out.2.2.1 (valid_ok HE.out.2.2.2.1) HBQ.out
        obtain ⟨z, hz⟩ : ∃ z, z = patchV old y := ⟨_, rfl⟩
        have hzz : patchV (gotK a kk) y = z := by rw [hz, HOLD.out.1]
        rw [hzz] at hob hst
        have HIC := Lib.hid (show Calls Tryz.prog 36 #[.agg #[.int .i64 old.kind, .int .i64 old.int, .string old.text, .slice Ao old.items.length co, .slice Ko old.keys.length do_], .agg #[.int .i64 y.kind, .int .i64 y.int, .string y.text, .slice Ay y.items.length cy, .slice Ky y.keys.length dy]] w5.drew (OutQ P z w5.drew) from by
         rw [hz]
         have hbd := below_on HB5.out (Below.drew (Below.refl _ w5))
         exact HIH.out old y HOLD.out.2.2.1 (List.mem_of_getElem? HE.out.1) HOLD.out.2.2.2 w5.drew Ao Ko co do_ Ay Ky cy dy (HPL.out _ hbd) (HLO.out _ hbd) (HLY4.out _ hbd))
        have HWC := Lib.hid fun W Az Kz cz dz (hW : Below w5.heap.size w5 W) (hl : LiesIn (PP P g W) W z Az cz Kz dz) => with_in (PP P g W) m z kk W Am Km cm dm Az Kz cz dz (fun x hx => (HI5.out.on HP.out hW).lt HP.out hx) HI5.out.ob (by have := HI5.out.st.1; have := nodes_items m; have := length_le_nodesL m.items; omega) (HI5.out.on HP.out hW).lies hl HE.out.2.2.2.2
        obtain ⟨q, hq⟩ : ∃ q, q = setK m kk z := ⟨_, rfl⟩
        rw [← hq] at HWC hob hst
        have HST := Lib.hid (And.intro hob hst)
        obtain ⟨p0, p1, p2, p3, p4⟩ := five_of HI5.out.bo
        clear hz hzz hq hob hst HI4 HRED HLO HLY4 HPL HB5 HBB4
        go_upto_region 15 with (fail)
        refine region_push (fun W => (W.cell? ⟨g, 0, none⟩ = some (.int .i64 m.kind) ∧ W.cell? ⟨g, 1, none⟩ = some (.int .i64 m.int) ∧ W.cell? ⟨g, 2, none⟩ = some (.string m.text) ∧ W.cell? ⟨g, 3, none⟩ = some (.slice Am m.items.length cm) ∧ W.cell? ⟨g, 4, none⟩ = some (.slice Km m.keys.length dm)) ∧ (W.cell? ⟨w.heap.size + 1, 3, none⟩ = some (.slice (some ⟨b2, o2, none⟩) n2 c') ∧ W.cell? ⟨w.heap.size + 1, 4, none⟩ = some (.slice (some ⟨b3, o3, none⟩) n d') ∧ W.cell? ⟨b3, o3 + j, none⟩ = some (.string kk)) ∧ (W.cell? ⟨gO, 0, none⟩ = some (.int .i64 old.kind) ∧ W.cell? ⟨gO, 1, none⟩ = some (.int .i64 old.int) ∧ W.cell? ⟨gO, 2, none⟩ = some (.string old.text) ∧ W.cell? ⟨gO, 3, none⟩ = some (.slice Ao old.items.length co) ∧ W.cell? ⟨gO, 4, none⟩ = some (.slice Ko old.keys.length do_)) ∧ (W.cell? ⟨b2, o2 + j * 5, none⟩ = some (.int .i64 y.kind) ∧ W.cell? ⟨b2, o2 + j * 5 + 1, none⟩ = some (.int .i64 y.int) ∧ W.cell? ⟨b2, o2 + j * 5 + 2, none⟩ = some (.string y.text) ∧ W.cell? ⟨b2, o2 + j * 5 + 3, none⟩ = some (.slice Ay y.items.length cy) ∧ W.cell? ⟨b2, o2 + j * 5 + 4, none⟩ = some (.slice Ky y.keys.length dy))) #[{ dst := some 74, op := Go.Op.load 27 (Go.Operand.tmp 5), type := 27, pos := "ref.go:314", after := #[], guard := none }, { dst := some 75, op := Go.Op.fieldAddr 27 (Go.Operand.tmp 3) 4, type := 0, pos := "ref.go:314", after := #[], guard := none }, { dst := some 76, op := Go.Op.load 25 (Go.Operand.tmp 75), type := 25, pos := "ref.go:314", after := #[{ on := 1, ground := Go.Ground.data }], guard := none }, { dst := some 77, op := Go.Op.move (Go.Operand.tmp 9), type := 3, pos := "ref.go:314", after := #[], guard := none }, { dst := some 78, op := Go.Op.indexAddr 25 (Go.Operand.tmp 76) (Go.Operand.tmp 77), type := 0, pos := "ref.go:314", after := #[{ on := 2, ground := Go.Ground.data }, { on := 3, ground := Go.Ground.data }], guard := none }, { dst := some 79, op := Go.Op.load 9 (Go.Operand.tmp 78), type := 9, pos := "ref.go:314", after := #[{ on := 4, ground := Go.Ground.data }], guard := none }, { dst := some 80, op := Go.Op.load 27 (Go.Operand.tmp 10), type := 27, pos := "ref.go:314", after := #[], guard := none }, { dst := some 81, op := Go.Op.fieldAddr 27 (Go.Operand.tmp 3) 3, type := 0, pos := "ref.go:314", after := #[], guard := none }, { dst := some 82, op := Go.Op.load 24 (Go.Operand.tmp 81), type := 24, pos := "ref.go:314", after := #[{ on := 7, ground := Go.Ground.data }], guard := none }, { dst := some 83, op := Go.Op.move (Go.Operand.tmp 9), type := 3, pos := "ref.go:314", after := #[], guard := none }, { dst := some 84, op := Go.Op.indexAddr 24 (Go.Operand.tmp 82) (Go.Operand.tmp 83), type := 0, pos := "ref.go:314", after := #[{ on := 8, ground := Go.Ground.data }, { on := 9, ground := Go.Ground.data }], guard := none }, { dst := some 85, op := Go.Op.load 27 (Go.Operand.tmp 84), type := 27, pos := "ref.go:314", after := #[{ on := 10, ground := Go.Ground.data }], guard := none }, { dst := some 86, op := Go.Op.call { callee := Go.Callee.value (Go.Operand.func 36), args := #[Go.Operand.tmp 80, Go.Operand.tmp 85], argTypes := #[27, 27] }, type := 27, pos := "ref.go:314", after := #[{ on := 6, ground := Go.Ground.data }, { on := 11, ground := Go.Ground.data }], guard := none }, { dst := some 87, op := Go.Op.call { callee := Go.Callee.value (Go.Operand.func 48), args := #[Go.Operand.tmp 74, Go.Operand.tmp 79, Go.Operand.tmp 86], argTypes := #[27, 9, 27] }, type := 27, pos := "ref.go:314", after := #[{ on := 0, ground := Go.Ground.data }, { on := 5, ground := Go.Ground.data }, { on := 12, ground := Go.Ground.data }, { on := 12, ground := Go.Ground.chain }], guard := none }] ({ dst := none, op := Go.Op.store 27 (Go.Operand.tmp 5) (Go.Operand.tmp 87), type := 0, pos := "ref.go:314", after := #[{ on := 13, ground := Go.Ground.data }, { on := 13, ground := Go.Ground.chain }, { on := 0, ground := Go.Ground.phase }, { on := 1, ground := Go.Ground.phase }, { on := 2, ground := Go.Ground.phase }, { on := 3, ground := Go.Ground.phase }, { on := 4, ground := Go.Ground.phase }, { on := 5, ground := Go.Ground.phase }, { on := 6, ground := Go.Ground.phase }, { on := 7, ground := Go.Ground.phase }, { on := 8, ground := Go.Ground.phase }, { on := 9, ground := Go.Ground.phase }, { on := 10, ground := Go.Ground.phase }, { on := 11, ground := Go.Ground.phase }, { on := 12, ground := Go.Ground.phase }, { on := 13, ground := Go.Ground.phase }], guard := none }) rfl (by kernel_rfl) (by kernel_rfl) ⟨⟨p0, p1, p2, p3, p4⟩, (Red.to (W' := w5.drew) HRED5.out (fun _ _ => rfl)).all⟩ (fun hH0 => ?_)
        refine wpAnyH_take (i := 0) (oi := { dst := some 74, op := Go.Op.load 27 (Go.Operand.tmp 5), type := 27, pos := "ref.go:314", after := #[], guard := none }) (v := ?_) rfl (by kernel_rfl) (by kernel_rfl) (by kernel_rfl) (fun _ _ _ h => h) (Or.inl ⟨by rfl, ?_⟩) (by assumption) ?_
        rotate_left
        ·(intro w hSw; (try dsimp only at hSw); go_simp; try with_reducible rfl)
        (try simp only [Act.put, List.setIfInBounds_toArray, List.set_cons_zero, List.set_cons_succ])
        refine wpAnyH_take (i := 1) (oi := { dst := some 75, op := Go.Op.fieldAddr 27 (Go.Operand.tmp 3) 4, type := 0, pos := "ref.go:314", after := #[], guard := none }) (v := ?_) rfl (by kernel_rfl) (by kernel_rfl) (by kernel_rfl) (fun _ _ _ h => h) (Or.inl ⟨by rfl, ?_⟩) (by assumption) ?_
        rotate_left
        ·(intro w hSw; (try dsimp only at hSw); go_simp; try with_reducible rfl)
        (try simp only [Act.put, List.setIfInBounds_toArray, List.set_cons_zero, List.set_cons_succ])
        refine wpAnyH_take (i := 2) (oi := { dst := some 76, op := Go.Op.load 25 (Go.Operand.tmp 75), type := 25, pos := "ref.go:314", after := #[{ on := 1, ground := Go.Ground.data }], guard := none }) (v := ?_) rfl (by kernel_rfl) (by kernel_rfl) (by kernel_rfl) (fun _ _ _ h => h) (Or.inl ⟨by rfl, ?_⟩) (by assumption) ?_
        rotate_left
        ·(intro w hSw; (try dsimp only at hSw); go_simp; try with_reducible rfl)
        (try simp only [Act.put, List.setIfInBounds_toArray, List.set_cons_zero, List.set_cons_succ])
        refine wpAnyH_take (i := 3) (oi := { dst := some 77, op := Go.Op.move (Go.Operand.tmp 9), type := 3, pos := "ref.go:314", after := #[], guard := none }) (v := ?_) rfl (by kernel_rfl) (by kernel_rfl) (by kernel_rfl) (fun _ _ _ h => h) (Or.inl ⟨by rfl, ?_⟩) (by assumption) ?_
        rotate_left
        ·(intro w hSw; (try dsimp only at hSw); go_simp; try with_reducible rfl)
        (try simp only [Act.put, List.setIfInBounds_toArray, List.set_cons_zero, List.set_cons_succ])
        refine wpAnyH_take (i := 4) (oi := { dst := some 78, op := Go.Op.indexAddr 25 (Go.Operand.tmp 76) (Go.Operand.tmp 77), type := 0, pos := "ref.go:314", after := #[{ on := 2, ground := Go.Ground.data }, { on := 3, ground := Go.Ground.data }], guard := none }) (v := ?_) rfl (by kernel_rfl) (by kernel_rfl) (by kernel_rfl) (fun _ _ _ h => h) (Or.inl ⟨by rfl, ?_⟩) (by assumption) ?_
        rotate_left
        ·(intro w hSw; (try dsimp only at hSw); go_simp; try with_reducible rfl)
        (try simp only [Act.put, List.setIfInBounds_toArray, List.set_cons_zero, List.set_cons_succ])
        refine wpAnyH_take (i := 5) (oi := { dst := some 79, op := Go.Op.load 9 (Go.Operand.tmp 78), type := 9, pos := "ref.go:314", after := #[{ on := 4, ground := Go.Ground.data }], guard := none }) (v := ?_) rfl (by kernel_rfl) (by kernel_rfl) (by kernel_rfl) (fun _ _ _ h => h) (Or.inl ⟨by rfl, ?_⟩) (by assumption) ?_
        rotate_left
        ·(intro w hSw; (try dsimp only at hSw); go_simp; try with_reducible rfl)
        (try simp only [Act.put, List.setIfInBounds_toArray, List.set_cons_zero, List.set_cons_succ])
        refine wpAnyH_take (i := 6) (oi := { dst := some 80, op := Go.Op.load 27 (Go.Operand.tmp 10), type := 27, pos := "ref.go:314", after := #[], guard := none }) (v := ?_) rfl (by kernel_rfl) (by kernel_rfl) (by kernel_rfl) (fun _ _ _ h => h) (Or.inl ⟨by rfl, ?_⟩) (by assumption) ?_
        rotate_left
        ·(intro w hSw; (try dsimp only at hSw); go_simp; try with_reducible rfl)
        (try simp only [Act.put, List.setIfInBounds_toArray, List.set_cons_zero, List.set_cons_succ])
        refine wpAnyH_take (i := 7) (oi := { dst := some 81, op := Go.Op.fieldAddr 27 (Go.Operand.tmp 3) 3, type := 0, pos := "ref.go:314", after := #[], guard := none }) (v := ?_) rfl (by kernel_rfl) (by kernel_rfl) (by kernel_rfl) (fun _ _ _ h => h) (Or.inl ⟨by rfl, ?_⟩) (by assumption) ?_
        rotate_left
        ·(intro w hSw; (try dsimp only at hSw); go_simp; try with_reducible rfl)
        (try simp only [Act.put, List.setIfInBounds_toArray, List.set_cons_zero, List.set_cons_succ])
        refine wpAnyH_take (i := 8) (oi := { dst := some 82, op := Go.Op.load 24 (Go.Operand.tmp 81), type := 24, pos := "ref.go:314", after := #[{ on := 7, ground := Go.Ground.data }], guard := none }) (v := ?_) rfl (by kernel_rfl) (by kernel_rfl) (by kernel_rfl) (fun _ _ _ h => h) (Or.inl ⟨by rfl, ?_⟩) (by assumption) ?_
        rotate_left
        ·(intro w hSw; (try dsimp only at hSw); go_simp; try with_reducible rfl)
        (try simp only [Act.put, List.setIfInBounds_toArray, List.set_cons_zero, List.set_cons_succ])
        refine wpAnyH_take (i := 9) (oi := { dst := some 83, op := Go.Op.move (Go.Operand.tmp 9), type := 3, pos := "ref.go:314", after := #[], guard := none }) (v := ?_) rfl (by kernel_rfl) (by kernel_rfl) (by kernel_rfl) (fun _ _ _ h => h) (Or.inl ⟨by rfl, ?_⟩) (by assumption) ?_
        rotate_left
        ·(intro w hSw; (try dsimp only at hSw); go_simp; try with_reducible rfl)
        (try simp only [Act.put, List.setIfInBounds_toArray, List.set_cons_zero, List.set_cons_succ])
        refine wpAnyH_take (i := 10) (oi := { dst := some 84, op := Go.Op.indexAddr 24 (Go.Operand.tmp 82) (Go.Operand.tmp 83), type := 0, pos := "ref.go:314", after := #[{ on := 8, ground := Go.Ground.data }, { on := 9, ground := Go.Ground.data }], guard := none }) (v := ?_) rfl (by kernel_rfl) (by kernel_rfl) (by kernel_rfl) (fun _ _ _ h => h) (Or.inl ⟨by rfl, ?_⟩) (by assumption) ?_
        rotate_left
        ·(intro w hSw; (try dsimp only at hSw); go_simp; try with_reducible rfl)
        (try simp only [Act.put, List.setIfInBounds_toArray, List.set_cons_zero, List.set_cons_succ])
        refine wpAnyH_take (i := 11) (oi := { dst := some 85, op := Go.Op.load 27 (Go.Operand.tmp 84), type := 27, pos := "ref.go:314", after := #[{ on := 10, ground := Go.Ground.data }], guard := none }) (v := ?_) rfl (by kernel_rfl) (by kernel_rfl) (by kernel_rfl) (fun _ _ _ h => h) (Or.inl ⟨by rfl, ?_⟩) (by assumption) ?_
        rotate_left
        ·(intro w hSw; (try dsimp only at hSw); go_simp; try with_reducible rfl)
        (try simp only [Act.put, List.setIfInBounds_toArray, List.set_cons_zero, List.set_cons_succ])
        refine wpAnyH_ready (rs := [12]) (by kernel_rfl) (by simp) ?_
        refine AllReadyH.cons (o := { dst := some 86, op := Go.Op.call { callee := Go.Callee.value (Go.Operand.func 36), args := #[Go.Operand.tmp 80, Go.Operand.tmp 85], argTypes := #[27, 27] }, type := 27, pos := "ref.go:314", after := #[{ on := 6, ground := Go.Ground.data }, { on := 11, ground := Go.Ground.data }], guard := none }) rfl (fun K hK => ?_) AllReadyH.nil
        go_simp
        refine (HIC.out).mono ?_
        rintro e w6 ⟨Az, cz, Kz, dz, he6, hlz, h6⟩
        unfold aggOf at he6
        subst he6
        have hb6 : Below w5.heap.size w5 w6 := ⟨h6.os, h6.tape, h6.output, h6.size, h6.block⟩
        have HLZ := Lib.hid (HI5.out.in_ (W' := w6) hlz)
        have HI6 := Lib.hid (HI5.out.on HP.out hb6)
        clear hlz h6
        (try go_wp2_with fail)
        refine hK.out _ _ ⟨five_of HI6.out.bo, (HRED5.out.to (fun b hb => hb6.block b (HLT.out b hb))).all⟩ (fun hH1 => ?_)
        clear hK K
        (try simp only [Act.put, List.setIfInBounds_toArray, List.set_cons_zero, List.set_cons_succ])
        refine wpAnyH_ready (rs := [13]) (by kernel_rfl) (by simp) ?_
        refine AllReadyH.cons (o := { dst := some 87, op := Go.Op.call { callee := Go.Callee.value (Go.Operand.func 48), args := #[Go.Operand.tmp 74, Go.Operand.tmp 79, Go.Operand.tmp 86], argTypes := #[27, 9, 27] }, type := 27, pos := "ref.go:314", after := #[{ on := 0, ground := Go.Ground.data }, { on := 5, ground := Go.Ground.data }, { on := 12, ground := Go.Ground.data }, { on := 12, ground := Go.Ground.chain }], guard := none }) rfl (fun K hK => ?_) AllReadyH.nil
        go_simp
        refine (HWC.out _ _ _ _ _ hb6 HLZ.out).mono ?_
        rintro e w7 ⟨A7, c7, K7, d7, he7, hl7, h7⟩
        unfold aggOf at he7
        subst he7
        have hb7 := below_on hb6 h7
        have HM7 := Lib.hid (HI6.out.put HP.out h7 hl7 HST.out.1 (F' := InB a b R (j + 1)) HST.out.2)
        have HG7 := HI6.out.bo.below h7 HI6.out.bo.lt
        obtain ⟨k0, k1, k2, k3, k4⟩ := five_of HG7
        have f0 := BlockIs.frozen HG7 0
        have f1 := BlockIs.frozen HG7 1
        have f2 := BlockIs.frozen HG7 2
        have f3 := BlockIs.frozen HG7 3
        have f4 := BlockIs.frozen HG7 4
        have kl := BlockIs.lt HG7
        clear hl7 h7
        (try go_wp2_with fail)
        refine hK.out _ _ ⟨⟨k0, k1, k2, k3, k4⟩, (HRED5.out.to (fun b hb => hb7.block b (HLT.out b hb))).all⟩ (fun hH2 => ?_)
        clear hK K
        (try simp only [Act.put, List.setIfInBounds_toArray, List.set_cons_zero, List.set_cons_succ])
        refine wpAnyH_done (by kernel_rfl) ?_ _
        refine upto_step (o := { dst := none, op := Go.Op.store 27 (Go.Operand.tmp 5) (Go.Operand.tmp 87), type := 0, pos := "ref.go:314", after := #[{ on := 13, ground := Go.Ground.data }, { on := 13, ground := Go.Ground.chain }, { on := 0, ground := Go.Ground.phase }, { on := 1, ground := Go.Ground.phase }, { on := 2, ground := Go.Ground.phase }, { on := 3, ground := Go.Ground.phase }, { on := 4, ground := Go.Ground.phase }, { on := 5, ground := Go.Ground.phase }, { on := 6, ground := Go.Ground.phase }, { on := 7, ground := Go.Ground.phase }, { on := 8, ground := Go.Ground.phase }, { on := 9, ground := Go.Ground.phase }, { on := 10, ground := Go.Ground.phase }, { on := 11, ground := Go.Ground.phase }, { on := 12, ground := Go.Ground.phase }, { on := 13, ground := Go.Ground.phase }], guard := none }) rfl (fun K hK => ?_)
        go_simp
        refine hK _ _ ?_
        clear hK K
        all_goals
         go_wp2_with fail
         go_roundw
         case rel => exact ⟨j + 1, _, _, _, _, _, by go_num, by omega, HM7⟩
         case measure => simp [intOf]; omega
       ·have HM7 := Lib.hid (HI5.out.turn (F' := InB a b R (j + 1)) (HI5.out.st.skip HE.out.2.1 HE.out.1 HBQ.out))
        go_wp2_with fail
        go_roundw
        case rel => exact ⟨j + 1, _, _, _, _, _, by go_num, by omega, HM7⟩
        case measure => simp [intOf]; omega
    ·have hjn : ¬ ((j : Int) < n) := by omega
     have HRE := Lib.hid (show m = R by
      have h1 := HI.out.st.2
      rw [List.drop_eq_nil_of_le (by have := HN.out.1; omega), patchL] at h1
      exact h1)
     obtain ⟨u0, u1, u2, u3, u4⟩ := five_of HBB.out
     obtain ⟨p0, p1, p2, p3, p4⟩ := five_of HI.out.bo
     have pl := HI.out.bo.lt
     obtain ⟨z0, z1, z2, z3, z4⟩ := five_of (show BlockIs wr (w.heap.size + 2) 27 #[.int .i64 0, .int .i64 0, .string ⟨#[]⟩, .slice none 0 0, .slice none 0 0] from HI.out.box.br)
     have f0 := HI.out.box.br.frozen 0
     have f1 := HI.out.box.br.frozen 1
     have f2 := HI.out.box.br.frozen 2
     have f3 := HI.out.box.br.frozen 3
     have f4 := HI.out.box.br.frozen 4
     have zl := HI.out.box.br.lt
     go_wp2_with fail
     refine bodyPost_ret (v := .agg #[.int .i64 m.kind, .int .i64 m.int, .string m.text, .slice Am m.items.length cm, .slice Km m.keys.length dm]) (by simp [results, Tryz.results36, go_sem, z0, z1, z2, z3, z4]) rfl ?_
     rw [← HRE.out]
     exact HI.out.done HP.out
theorem refPatch_any : ∀ (N : Nat) (b : V), b.nodes ≤ N → ∀ (a : V), a.valid = true → b.valid = true → (1 + a.nodes) * b.nodes ≤ 5000 → ∀ (P : Nat → Prop) (w : World) (A K : Option Addr) (c d : Nat) (A' K' : Option Addr) (c' d' : Nat), (∀ b, P b → b < w.heap.size) → LiesIn P w a A c K d → LiesIn P w b A' c' K' d' →
  Calls Tryz.prog 36 #[.agg #[.int .i64 a.kind, .int .i64 a.int, .string a.text, .slice A a.items.length c, .slice K a.keys.length d], .agg #[.int .i64 b.kind, .int .i64 b.int, .string b.text, .slice A' b.items.length c', .slice K' b.keys.length d']] w (OutQ P (patchV a b) w)
 | 0, b, hN, _, _, _, _, _, _, _, _, _, _, _, _, _, _, _, _, _ => by have := V.nodes_pos b; omega
 | N + 1, b, hN, a, hav, hbv, hn, P, w, A, K, c, d, A', K', c', d', hP, ha, hb => by
  by_cases h5 : a.kind = 5 ∧ b.kind = 5
  ·exact refPatch_step P a b w A K c d A' K' c' d' hP ha hb hav hbv hn h5.1 h5.2 fun x y hx hy hxy W A K c d A' K' c' d' hQ h1 h2 => refPatch_any N y (by have := V.nodes_mem hy; have := nodes_items b; omega) x hx (items_valid hbv hy) hxy P W A K c d A' K' c' d' hQ h1 h2
  ·exact refPatch_not P a b w A K c d A' K' c' d' hP hb h5
end Go.Proofs.YtebmjefimbcefaaGreatDoor
