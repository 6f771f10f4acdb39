/- An item taken out of a value at a path, walked. -/
import Derived.Test.YtdlmphbaolejcaaDoorTn
namespace Go.Proofs.YtdlmphbaolejcaaDoor
open Go.RowKit

theorem rem_gone {x : V} {s : Stp} {r : List Stp} (h : (findV x s).2 = false) : removeV x (s :: r) = (x, false) := by rw [removeV, if_neg (by simp [h])]
theorem rem_last {x : V} {s : Stp} (h : (findV x s).2 = true) : removeV x [s] = (delV x s, true) := by rw [removeV, if_pos h, if_pos rfl]
theorem rem_on {x y : V} {s s' : Stp} {r : List Stp} (h : (findV x s).2 = true) (hy : x.items[whereV x s]? = some y) : removeV x (s :: s' :: r) = (setIt x (whereV x s) (removeV y (s' :: r)).1, (removeV y (s' :: r)).2) := by
  rw [removeV, if_pos h, if_neg (by simp), List.getD_eq_getElem?_getD, hy]
  rfl

set_option maxRecDepth 100000 in
set_option maxHeartbeats 2000000 in
theorem rem_step (x : V) (i : Int) (k : ByteArray) (r : List Stp) (N g : Nat) (t : TypeId) (pre post : List Value) (vI vK : Value) (D : Nat → Prop) (W : World) (A : Option Addr) (cp : Nat)
    (h : Node W N g t pre post x vI vK D) (hok : x.ok = true) (h60 : x.nodes ≤ 60) (hp : PLies W N A cp ((i, k) :: r))
    (ih : ∀ y : V, y.ok = true → y.nodes ≤ 60 → ∀ (W : World) (g : Nat) (t : TypeId) (pre post : List Value) (vI vK : Value) (D : Nat → Prop) (A : Option Addr) (cp : Nat), r ≠ [] → Node W N g t pre post y vI vK D → PLies W N A cp r →
      Calls Tryd.prog 43 #[.pointer (some ⟨g, pre.length, none⟩), .slice A r.length cp] W (RemP (removeV y r) N g t pre post D W)) :
    Calls Tryd.prog 43 #[.pointer (some ⟨g, pre.length, none⟩), .slice A (r.length + 1) cp] W (RemP (removeV x ((i, k) :: r)) N g t pre post D W) := by
  have hgW := h.row.lt
  obtain ⟨hp1, hp2, hp3⟩ := hp
  obtain ⟨b, o, rfl, hb, hf⟩ : ∃ b o, A = some ⟨b, o, none⟩ ∧ b < N ∧ StepsFrom W ((i, k) :: r) b o := by
    rcases hp3 with h | h
    · simp at h
    · exact h
  have hcp : r.length + 1 ≤ cp := by simpa using hp1
  unfold maxLen at hp2
  obtain ⟨e0, e1, hks, hrest⟩ := hf
  have hNg : N ≤ g := h.base
  have HPR := Lib.hid (show PLies W N (some ⟨b, o + 2, none⟩) (cp - 1) r from ⟨by omega, by unfold maxLen; omega, .inr ⟨b, o + 2, rfl, hb, hrest⟩⟩)
  have hit := fit_of hok
  have hi60 : x.items.length ≤ 60 := by have := nodes_items x; have := length_le_nodesL x.items; omega
  have hkl : x.keys.length ≤ 60 := by
    by_cases h5 : x.kind = 5
    · rw [hit.five h5]; omega
    · rw [hit.none h5]; simp
  obtain ⟨A0, c0', K0, d0', rfl, rfl, hlie⟩ := h.lies
  have HFIND := Lib.hid fun W' (hW : Below W.heap.size W W') => show Calls Tryd.prog 32 #[.agg #[.int .i64 x.kind, .int .i64 x.int, .string x.text, .slice A0 x.items.length c0', .slice K0 x.keys.length d0'], .agg #[.int .i64 i, .string k]] W' fun e w' => e = .returned (.tuple #[.int .i64 (whereV x (i, k) : Nat), .bool (findV x (i, k)).2]) ∧ Below W'.heap.size W' w' from by
    have := find_any x (i, k) W' A0 K0 c0' d0' (lies_on hlie hW) hit.rise (by omega)
    rw [where_int] at this
    exact this
  have HWT := Lib.hid (fun (e : (findV x (i, k)).2 = true) => where_lt hit (find_kind hit e) e)
  have HG := Lib.hid (rem_gone (x := x) (s := (i, k)) (r := r))
  have HFK := Lib.hid (find_kind (x := x) (s := (i, k)) hit)
  have HFIVE := Lib.hid hit.five
  have HN0 := Lib.hid h
  have HDN := Lib.hid (show ∀ b, D b → N ≤ b from fun b hb => (h.low b hb).1)
  have HOK := Lib.hid (And.intro hok h60)
  have HIH := Lib.hid ih
  obtain ⟨c0, c1, c2, c3, c4⟩ := h.cells
  obtain ⟨f0, f1, f2, f3, f4, gl⟩ := h.frozen
  obtain ⟨fb, hfb⟩ : ∃ fb, fb = (findV x (i, k)).2 := ⟨_, rfl⟩
  obtain ⟨n, hn⟩ : ∃ n, n = whereV x (i, k) := ⟨_, rfl⟩
  obtain ⟨q, hq⟩ : ∃ q, q = removeV x ((i, k) :: r) := ⟨_, rfl⟩
  have HQ := Lib.hid hq
  have HFB := Lib.hid hfb
  have HNN := Lib.hid hn
  rw [← hfb, ← hn] at HFIND
  rw [← hfb] at HWT HG HFK
  rw [← hn] at HWT
  rw [← hq] at HG ⊢
  clear h hit hok h60 hp1 hp3 hks hrest ih hlie hfb hn hq
  have hr0 : (0 : Int) < (r.length : Int) + 1 := by omega
  have hr2 : (r.length : Int) + 1 ≤ cp := by omega
  have hr3 : (1 : Int) ≤ cp := by omega
  have hr1 : (1 : Int) ≤ (r.length : Int) + 1 := by omega
  go_enter Tryd.func43, Tryd.ntmps43
  go_wp2_with fail
  go_region_with (go_at_call 32; refine (HFIND.out _ (by first | exact Below.refl _ _ | exact (Below.refl _ _).drew)).mono ?_; rintro e w1 ⟨rfl, h1⟩)
  all_goals
    have HB1 := Lib.hid (show Below W.heap.size W w1 from by first | exact below_on (Below.refl _ W).drew h1 | exact h1)
    have HN1 := Lib.hid (HN0.out.on HB1.out)
    clear h1 HN0 HFIND c0 c1 c2 c3 c4 f0 f1 f2 f3 f4 gl
    cases fb
    case false =>
      have HE := Lib.hid (HG.out (by trivial))
      clear HG HWT HFK
      go_wp2_with fail
      refine bodyPost_ret (v := .bool false) (by simp [results, Tryd.results43, go_sem]) rfl ?_
      rw [HE.out]
      exact ⟨rfl, Fr.of_below HB1.out g D, fun h => by simp at h⟩
    case true =>
      have hlt : n < x.items.length := HWT.out (by trivial)
      have HKD := Lib.hid (HFK.out (by trivial))
      clear HG HWT HFK
      obtain ⟨gI, cI, eI⟩ := HN1.out.slot hlt
      cases eI
      have hlt' : (n : Int) < x.items.length := by omega
      have hn0 : (0 : Int) ≤ n := by omega
      obtain ⟨y, hy⟩ : ∃ y, x.items[n]? = some y := ⟨_, List.getElem?_eq_getElem hlt⟩
      have HY := Lib.hid hy
      have hz1 : W.heap.size ≤ w1.heap.size := HB1.out.size
      have hbW : b < W.heap.size := by omega
      have e0' : w1.cell? ⟨b, o, none⟩ = some (.int .i64 i) := (bcell HB1.out b o hbW).trans e0
      have e1' : w1.cell? ⟨b, o + 1, none⟩ = some (.string k) := (bcell HB1.out b (o + 1) hbW).trans e1
      obtain ⟨c0, c1, c2, c3, c4⟩ := HN1.out.cells
      obtain ⟨f0, f1, f2, f3, f4, gl⟩ := HN1.out.frozen
      clear e0 e1 hy
      cases r with
      | cons s' r' =>
        have hq2 := rem_on (r := r') (s' := s') HFB.out.symm (by rw [← HNN.out]; exact HY.out)
        rw [← HQ.out, ← HNN.out] at hq2
        have HQ2 := Lib.hid hq2
        have hyn := V.nodes_mem (List.mem_of_getElem? HY.out)
        have hxn := nodes_items x
        have HIN := Lib.hid (fun W' (hW : Below w1.heap.size w1 W') => (rem_inner (HN1.out.on hW) HY.out (HPR.out.low (W' := W') (fun b' hb' => (hW.block b' (by omega)).trans (HB1.out.block b' (by omega)))) (fun W g t pre post vI vK D A cp h1 h2 => HIH.out y (okItems HOK.out.1 y (List.mem_of_getElem? HY.out)) (by have := HOK.out.2; omega) W g t pre post vI vK D A cp (by simp) h1 h2)).mono fun e w' h => RemP.trans h (Fr.of_below (below_on HB1.out hW) g D) (fun b h => .inl h))
        rw [show (s' :: r').length = r'.length + 1 from rfl] at HIN hcp hr0 hr1 hr2 ⊢
        have HR2 := Lib.hid (show q = (setIt x n (removeV y (s' :: r')).1, (removeV y (s' :: r')).2) from HQ2.out)
        obtain ⟨qy, hqy⟩ : ∃ qy, qy = removeV y (s' :: r') := ⟨_, rfl⟩
        rw [← hqy] at HR2 HIN
        obtain ⟨m, hm⟩ : ∃ m, m = r'.length := ⟨_, rfl⟩
        rw [← hm] at HIN hcp hr0 hr1 hr2 ⊢
        have hc1 : ¬ cp = 1 := by omega
        have hm1 : (1 : Int) < (m : Int) + 1 + 1 := by omega
        have hm2 : (m : Int) + 1 + 1 ≤ cp := by omega
        have hm3 : (1 : Int) ≤ (m : Int) + 1 + 1 := by omega
        clear HQ HIH HPR hyn hxn hqy hm HQ2 hq2 hr0 hr1 hr2
        go_wp2_with fail
        go_region_with (go_at_call 43; refine (HIN.out _ (by first | exact Below.refl _ _ | exact (Below.refl _ _).drew)).mono ?_; rintro e w4 ⟨rfl, h4⟩)
        all_goals
          have HR4 := Lib.hid h4
          clear h4
          go_wp2_with fail
          refine bodyPost_ret (v := .bool qy.2) (by simp [results, Tryd.results43, go_sem]) rfl ?_
          rw [HR2.out]
          exact ⟨rfl, HR4.out⟩
      | nil =>
        have HQ2 := Lib.hid (HQ.out.trans (rem_last HFB.out.symm))
        have HW := Lib.hid (HN1.out.withoutI hlt (by omega))
        clear HQ HIH HPR
        go_wp2_with fail
        refine HW.out.mono ?_
        rintro e w2 ⟨A2, c2', rfl, hN2, hF2, hrow2, hb2⟩
        have HN2 := Lib.hid hN2
        have HF2 := Lib.hid ((Fr.of_below HB1.out g D).trans hF2 fun _ h => .inl h)
        have hz2 := hb2.size
        clear c0 c1 c2 c3 c4 f0 f1 f2 f3 f4 gl e0' e1' hN2 hF2 HW
        obtain ⟨⟨c0, c1, c2, c3, c4⟩, f0, f1, f2, f3, f4, gl⟩ := cells_five hrow2
        have hwn := HNN.out
        by_cases h5 : x.kind = 5
        · rw [h5] at c0
          have hq5 : q = (.mk x.kind x.int x.text (x.items.take n ++ x.items.drop (n + 1)) (x.keys.take n ++ x.keys.drop (n + 1)), true) := by rw [HQ2.out, delV, ← HNN.out, if_pos h5]
          have HQ5 := Lib.hid hq5
          have hnk : n < x.keys.length := by rw [HFIVE.out h5]; exact hlt
          obtain ⟨W3, hW3⟩ : ∃ W3, W3 = w2.setCell ⟨g, pre.length + 3, none⟩ (.slice A2 (x.items.length - 1) c2') := ⟨_, rfl⟩
          have HN3 := Lib.hid (show Node W3 N g t pre post _ _ _ _ from by rw [hW3]; exact HN2.out)
          have HF3 := Lib.hid (show Fr W W3 g D from by rw [hW3]; exact HF2.out)
          have HK3 := Lib.hid fun W' (hW : Below W3.heap.size W3 W') => (HN3.out.on hW).withoutK (n := n) hnk (by show x.keys.length ≤ 100; omega)
          have HW3 := Lib.hid hW3
          have hz3 : w1.heap.size ≤ W3.heap.size := by rw [hW3]; simp; omega
          clear hq5 hW3 HQ2 HN2 HF2 hrow2 hwn
          go_wp2_with fail
          rw [← HW3.out]
          clear c0 c1 c2 c3 c4 f0 f1 f2 f3 f4 gl
          refine (HK3.out W3 (Below.refl _ W3)).mono ?_
          rintro e w4 ⟨A4, c4', rfl, hN4, hF4, hrow4, hb4⟩
          have HN4 := Lib.hid hN4
          have HF4 := Lib.hid (HF3.out.trans hF4 fun b hb => hb.elim .inl fun h => .inr (by omega))
          obtain ⟨⟨c0, c1, c2, c3, c4⟩, f0, f1, f2, f3, f4, gl⟩ := cells_five hrow4
          clear hN4 hF4 hrow4 hb4 HK3
          go_wp2_with fail
          refine bodyPost_ret (v := .bool true) (by simp [results, Tryd.results43, go_sem]) rfl ?_
          rw [HQ5.out]
          refine ⟨rfl, HF4.out, fun _ => ⟨_, _, _, HN4.out, fun b hb => ?_⟩⟩
          rcases hb with (hb | hb) | hb
          · exact .inl hb
          · exact .inr (by omega)
          · exact .inr (by omega)
        · have hq4 : q = (.mk x.kind x.int x.text (x.items.take n ++ x.items.drop (n + 1)) x.keys, true) := by rw [HQ2.out, delV, ← HNN.out, if_neg h5]
          have h4 : x.kind = 4 := by have := HKD.out; unfold holderS at this; split at this <;> omega
          rw [h4] at c0
          have HQ4 := Lib.hid hq4
          clear hq4 HQ2 hrow2 hwn hb2
          go_wp2_with fail
          refine bodyPost_ret (v := .bool true) (by simp [results, Tryd.results43, go_sem]) rfl ?_
          rw [HQ4.out]
          exact ⟨rfl, HF2.out, fun _ => ⟨_, _, _, HN2.out, fun b hb => hb.elim .inl (fun h => .inr (by omega))⟩⟩
theorem remove_any : ∀ (p : List Stp), p ≠ [] → ∀ (x : V), x.ok = true → x.nodes ≤ 60 → ∀ (W : World) (N g : Nat) (t : TypeId) (pre post : List Value) (vI vK : Value) (D : Nat → Prop) (A : Option Addr) (cp : Nat), Node W N g t pre post x vI vK D → PLies W N A cp p →
    Calls Tryd.prog 43 #[.pointer (some ⟨g, pre.length, none⟩), .slice A p.length cp] W (RemP (removeV x p) N g t pre post D W)
  | [], h, _, _, _, _, _, _, _, _, _, _, _, _, _, _, _, _ => absurd rfl h
  | (i, k) :: r, _, x, hok, h60, W, N, g, t, pre, post, vI, vK, D, A, cp, h, hl => rem_step x i k r N g t pre post vI vK D W A cp h hok h60 hl fun y hy1 hy2 W g t pre post vI vK D A cp hr h hl => remove_any r hr y hy1 hy2 W N g t pre post vI vK D A cp h hl
end Go.Proofs.YtdlmphbaolejcaaDoor
