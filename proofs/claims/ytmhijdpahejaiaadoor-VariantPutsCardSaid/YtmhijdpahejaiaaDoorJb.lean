/- An item taken out of a value at a path, walked: the last step. -/
import Derived.Test.YtmhijdpahejaiaaDoorTm
import Derived.Test.YtmhijdpahejaiaaDoorTl
import Derived.Test.YtmhijdpahejaiaaDoorJa
namespace Go.Proofs.YtmhijdpahejaiaaDoor
open Go.RowKit
theorem find_kind {x : V} {s : Stp} (hf : Fit x) (h : (findV x s).2 = true) : x.kind = holderS s := by
  obtain ⟨i, k⟩ := s
  by_cases h0 : 0 ≤ i
  · simp [findV, h0] at h
    rw [holderS, if_neg (by simp only; omega)]; exact h.1
  · rw [holderS, if_pos (by simp only; omega)]
    simp [findV, h0] at h
    have hm := (hasK_iff _ _).1 h
    by_cases h5 : x.kind = 5
    · exact h5
    · rw [hf.none h5] at hm; cases hm
/-- What remove leaves. -/
def RemP (q : V × Bool) (N g : Nat) (t : TypeId) (pre post : List Value) (D : Nat → Prop) (W : World) (e : Ending) (W' : World) : Prop :=
  e = .returned (.bool q.2) ∧ Fr W W' g D ∧ (q.2 = true → ∃ vI' vK' D', Node W' N g t pre post q.1 vI' vK' D' ∧ ∀ b, D' b → D b ∨ W.heap.size ≤ b)
section
variable {W W' W1 : World} {N g n m c gI cp : Nat} {t : TypeId} {pre post : List Value} {x y : V} {vI vK : Value} {D D1 : Nat → Prop} {q : V × Bool} {e : Ending}
theorem RemP.trans (h : RemP q N g t pre post D1 W1 e W') (hF : Fr W W1 g D) (hD : ∀ b, D1 b → D b ∨ W.heap.size ≤ b) : RemP q N g t pre post D W e W' := by
  obtain ⟨h1, h2, h3⟩ := h
  refine ⟨h1, hF.trans h2 hD, fun h0 => ?_⟩
  obtain ⟨vI', vK', D', hN, hD'⟩ := h3 h0
  refine ⟨vI', vK', D', hN, fun b hb => ?_⟩
  rcases hD' b hb with h | h
  · exact hD b h
  · exact .inr (Nat.le_trans hF.size h)
theorem rem_inner {r : List Stp} {A : Option Addr} (hN : Node W N g t pre post x (.slice (some ⟨gI, 0, none⟩) m c) vK D) (hy : x.items[n]? = some y) (hp : PLies W N A cp r)
    (ih : ∀ (W : World) (g : Nat) (t : TypeId) (pre post : List Value) (vI vK : Value) (D : Nat → Prop) (A : Option Addr) (cp : Nat), Node W N g t pre post y vI vK D → PLies W N A cp r →
      Calls Tryd.prog 43 #[.pointer (some ⟨g, pre.length, none⟩), .slice A r.length cp] W (RemP q N g t pre post D W)) :
    Calls Tryd.prog 43 #[.pointer (some ⟨gI, n * 5, none⟩), .slice A r.length cp] W (RemP (setIt x n q.1, q.2) N g t pre post D W) := by
  obtain ⟨gJ, cJ, pre', post', yI, yK, D0, eJ, hpre, hNy, hD0, hDg, hup⟩ := hN.down hy
  have eg : gI = gJ := by
    have := eJ
    simp at this
    exact this.1
  subst eg
  rw [← hpre]
  refine (ih W gI _ pre' post' yI yK D0 A cp hNy hp).mono ?_
  rintro e w' ⟨h1, h2, h3⟩
  refine ⟨h1, h2.up hD0 hDg, fun h0 => ?_⟩
  obtain ⟨vI', vK', D', hN', hD'⟩ := h3 h0
  refine ⟨_, _, _, hup (fun _ => False) w' q.1 vI' vK' D' (fun b hb => hb.elim) hN' (fun b hb => (hD' b hb).elim .inl (fun h => .inr (.inr h))) h2, fun b hb => ?_⟩
  rcases hb with h | h | h
  · exact .inl h
  · exact h.elim
  · exact .inr h.1
/-- What without leaves, of the items of a node. -/
theorem Node.withoutI (h : Node W N g t pre post x vI vK D) (hi : n < x.items.length) (h60 : x.items.length ≤ 100) :
    Calls Tryd.prog 64 #[vI, .int .i64 n] W fun e W2 => ∃ A c, e = .returned (.slice A (x.items.length - 1) c) ∧
      Node (W2.setCell ⟨g, pre.length + 3, none⟩ (.slice A (x.items.length - 1) c)) N g t pre post (.mk x.kind x.int x.text (x.items.take n ++ x.items.drop (n + 1)) x.keys) (.slice A (x.items.length - 1) c) vK (fun b => D b ∨ (W.heap.size ≤ b ∧ b < W2.heap.size)) ∧ Fr W (W2.setCell ⟨g, pre.length + 3, none⟩ (.slice A (x.items.length - 1) c)) g D ∧ BlockIs W2 g t (pre ++ (five x vI vK ++ post)).toArray ∧ Below W.heap.size W W2 := by
  obtain ⟨css, hcs, htr, hk, hI, hK, htx, hks⟩ := h.rows
  obtain ⟨gI, c, rfl⟩ := h.slot hi
  have hnc : x.items.length ≤ c := by
    obtain ⟨hl, ⟨he, h0⟩ | ⟨g, cap, cur, he, hB, hb, hnc, hmx, hs, ht⟩⟩ := hcs
    · cases he
    · cases he; exact hnc
  have e1 : x.items.length = n + 1 + (x.items.length - (n + 1)) := by omega
  have e2 : c = n + 1 + (x.items.length - (n + 1)) + (c - x.items.length) := by omega
  have hcs' := hcs
  rw [e1, e2] at hcs'
  have := withoutV W N gI n (x.items.length - (n + 1)) (c - x.items.length) css.flatten hcs' (by omega) htr.one
  rw [← e2, ← e1] at this
  refine this.mono ?_
  rintro e W2 ⟨v', rfl, hown, hb⟩
  rw [show n + (x.items.length - (n + 1)) = x.items.length - 1 by omega] at hown
  obtain ⟨A, c', rfl⟩ := own_form hown
  obtain ⟨h1, h2⟩ := h.delI hi htr hown hb
  exact ⟨A, c', rfl, h1, h2, h.row.below hb h.row.lt, hb⟩
theorem Node.withoutK (h : Node W N g t pre post x vI vK D) (hi : n < x.keys.length) (h60 : x.keys.length ≤ 100) :
    Calls Tryd.prog 65 #[vK, .int .i64 n] W fun e W2 => ∃ A c, e = .returned (.slice A (x.keys.length - 1) c) ∧
      Node (W2.setCell ⟨g, pre.length + 4, none⟩ (.slice A (x.keys.length - 1) c)) N g t pre post (.mk x.kind x.int x.text x.items (x.keys.take n ++ x.keys.drop (n + 1))) vI (.slice A (x.keys.length - 1) c) (fun b => D b ∨ (W.heap.size ≤ b ∧ b < W2.heap.size)) ∧ Fr W (W2.setCell ⟨g, pre.length + 4, none⟩ (.slice A (x.keys.length - 1) c)) g D ∧ BlockIs W2 g t (pre ++ (five x vI vK ++ post)).toArray ∧ Below W.heap.size W W2 := by
  obtain ⟨css, hcs, htr, hk, hI, hK, htx, hks⟩ := h.rows
  obtain ⟨gI, c, rfl, hnc⟩ : ∃ gI c, vK = .slice (some ⟨gI, 0, none⟩) x.keys.length c ∧ x.keys.length ≤ c := by
    obtain ⟨hl, ⟨he, h0⟩ | ⟨gI, cap, cur, he, hB, hb, hnc, hmx, hs, ht⟩⟩ := hk
    · omega
    · exact ⟨gI, cap, he, hnc⟩
  have e1 : x.keys.length = n + 1 + (x.keys.length - (n + 1)) := by omega
  have e2 : c = n + 1 + (x.keys.length - (n + 1)) + (c - x.keys.length) := by omega
  have hk' := hk
  rw [e1, e2] at hk'
  have := withoutS W N gI n (x.keys.length - (n + 1)) (c - x.keys.length) (x.keys.map Value.string) hk' (by omega) (fun u hu => by obtain ⟨q, -, rfl⟩ := List.mem_map.1 hu; rfl)
  rw [← e2, ← e1] at this
  refine this.mono ?_
  rintro e W2 ⟨v', rfl, hown, hb⟩
  rw [show n + (x.keys.length - (n + 1)) = x.keys.length - 1 by omega] at hown
  obtain ⟨A, c', rfl⟩ := own_form hown
  obtain ⟨h1, h2⟩ := h.delK hi hown hb
  exact ⟨A, c', rfl, h1, h2, h.row.below hb h.row.lt, hb⟩
end
open Go.RowKit
theorem rem_gone {x : V} {s : Stp} {r : List Stp} (h : (findV x s).2 = false) : removeV x (s :: r) = (x, false) := by rw [removeV, if_neg (by simp [h])]
theorem rem_last {x : V} {s : Stp} (h : (findV x s).2 = true) : removeV x [s] = (delV x s, true) := by rw [removeV, if_pos h, if_pos rfl]
theorem rem_on {x y : V} {s s' : Stp} {r : List Stp} (h : (findV x s).2 = true) (hy : x.items[whereV x s]? = some y) : removeV x (s :: s' :: r) = (setIt x (whereV x s) (removeV y (s' :: r)).1, (removeV y (s' :: r)).2) := by
  rw [removeV, if_pos h, if_neg (by simp), List.getD_eq_getElem?_getD, hy]
  rfl
set_option maxRecDepth 100000 in
set_option maxHeartbeats 2000000 in
theorem rem_step (x : V) (i : Int) (k : ByteArray) (r : List Stp) (N g : Nat) (t : TypeId) (pre post : List Value) (vI vK : Value) (D : Nat → Prop) (W : World) (A : Option Addr) (cp : Nat)
    (h : Node W N g t pre post x vI vK D) (hok : x.ok = true) (h60 : x.nodes ≤ 60) (hp : PLies W N A cp ((i, k) :: r))
    (ih : ∀ y : V, y.ok = true → y.nodes ≤ 60 → ∀ (W : World) (g : Nat) (t : TypeId) (pre post : List Value) (vI vK : Value) (D : Nat → Prop) (A : Option Addr) (cp : Nat), r ≠ [] → Node W N g t pre post y vI vK D → PLies W N A cp r →
      Calls Tryd.prog 43 #[.pointer (some ⟨g, pre.length, none⟩), .slice A r.length cp] W (RemP (removeV y r) N g t pre post D W)) :
    Calls Tryd.prog 43 #[.pointer (some ⟨g, pre.length, none⟩), .slice A (r.length + 1) cp] W (RemP (removeV x ((i, k) :: r)) N g t pre post D W) := by
  have hgW := h.row.lt
  obtain ⟨hp1, hp2, hp3⟩ := hp
  obtain ⟨b, o, rfl, hb, hf⟩ : ∃ b o, A = some ⟨b, o, none⟩ ∧ b < N ∧ StepsFrom W ((i, k) :: r) b o := by
    rcases hp3 with h | h
    · simp at h
    · exact h
  have hcp : r.length + 1 ≤ cp := by simpa using hp1
  unfold maxLen at hp2
  obtain ⟨e0, e1, hks, hrest⟩ := hf
  have hNg : N ≤ g := h.base
  have HPR := Lib.hid (show PLies W N (some ⟨b, o + 2, none⟩) (cp - 1) r from ⟨by omega, by unfold maxLen; omega, .inr ⟨b, o + 2, rfl, hb, hrest⟩⟩)
  have hit := fit_of hok
  have hi60 : x.items.length ≤ 60 := by have := nodes_items x; have := length_le_nodesL x.items; omega
  have hkl : x.keys.length ≤ 60 := by
    by_cases h5 : x.kind = 5
    · rw [hit.five h5]; omega
    · rw [hit.none h5]; simp
  obtain ⟨A0, c0', K0, d0', rfl, rfl, hlie⟩ := h.lies
  have HFIND := Lib.hid fun W' (hW : Below W.heap.size W W') => show Calls Tryd.prog 32 #[.agg #[.int .i64 x.kind, .int .i64 x.int, .string x.text, .slice A0 x.items.length c0', .slice K0 x.keys.length d0'], .agg #[.int .i64 i, .string k]] W' fun e w' => e = .returned (.tuple #[.int .i64 (whereV x (i, k) : Nat), .bool (findV x (i, k)).2]) ∧ Below W'.heap.size W' w' from by
    have := find_any x (i, k) W' A0 K0 c0' d0' (lies_on hlie hW) hit.rise (by omega)
    rw [where_int] at this
    exact this
  have HWT := Lib.hid (fun (e : (findV x (i, k)).2 = true) => where_lt hit (find_kind hit e) e)
  have HG := Lib.hid (rem_gone (x := x) (s := (i, k)) (r := r))
  have HFK := Lib.hid (find_kind (x := x) (s := (i, k)) hit)
  have HFIVE := Lib.hid hit.five
  have HN0 := Lib.hid h
  have HDN := Lib.hid (show ∀ b, D b → N ≤ b from fun b hb => (h.low b hb).1)
  have HOK := Lib.hid (And.intro hok h60)
  have HIH := Lib.hid ih
  obtain ⟨c0, c1, c2, c3, c4⟩ := h.cells
  obtain ⟨f0, f1, f2, f3, f4, gl⟩ := h.frozen
  obtain ⟨fb, hfb⟩ : ∃ fb, fb = (findV x (i, k)).2 := ⟨_, rfl⟩
  obtain ⟨n, hn⟩ : ∃ n, n = whereV x (i, k) := ⟨_, rfl⟩
  obtain ⟨q, hq⟩ : ∃ q, q = removeV x ((i, k) :: r) := ⟨_, rfl⟩
  have HQ := Lib.hid hq
  have HFB := Lib.hid hfb
  have HNN := Lib.hid hn
  rw [← hfb, ← hn] at HFIND
  rw [← hfb] at HWT HG HFK
  rw [← hn] at HWT
  rw [← hq] at HG ⊢
  clear h hit hok h60 hp1 hp3 hks hrest ih hlie hfb hn hq
  have hr0 : (0 : Int) < (r.length : Int) + 1 := by omega
  have hr2 : (r.length : Int) + 1 ≤ cp := by omega
  have hr3 : (1 : Int) ≤ cp := by omega
  have hr1 : (1 : Int) ≤ (r.length : Int) + 1 := by omega
  go_enter Tryd.func43, Tryd.ntmps43
  go_wp2_with fail
  go_region_with (go_at_call 32; refine (HFIND.out _ (by first | exact Below.refl _ _ | exact (Below.refl _ _).drew)).mono ?_; rintro e w1 ⟨rfl, h1⟩)
  all_goals
    have HB1 := Lib.hid (show Below W.heap.size W w1 from by first | exact below_on (Below.refl _ W).drew h1 | exact h1)
    have HN1 := Lib.hid (HN0.out.on HB1.out)
    clear h1 HN0 HFIND c0 c1 c2 c3 c4 f0 f1 f2 f3 f4 gl
    cases fb
    case false =>
      have HE := Lib.hid (HG.out (by trivial))
      clear HG HWT HFK
      go_wp2_with fail
      refine bodyPost_ret (v := .bool false) (by simp [results, Tryd.results43, go_sem]) rfl ?_
      rw [HE.out]
      exact ⟨rfl, Fr.of_below HB1.out g D, fun h => by simp at h⟩
    case true =>
      have hlt : n < x.items.length := HWT.out (by trivial)
      have HKD := Lib.hid (HFK.out (by trivial))
      clear HG HWT HFK
      obtain ⟨gI, cI, eI⟩ := HN1.out.slot hlt
      cases eI
      have hlt' : (n : Int) < x.items.length := by omega
      have hn0 : (0 : Int) ≤ n := by omega
      obtain ⟨y, hy⟩ : ∃ y, x.items[n]? = some y := ⟨_, List.getElem?_eq_getElem hlt⟩
      have HY := Lib.hid hy
      have hz1 : W.heap.size ≤ w1.heap.size := HB1.out.size
      have hbW : b < W.heap.size := by omega
      have e0' : w1.cell? ⟨b, o, none⟩ = some (.int .i64 i) := (bcell HB1.out b o hbW).trans e0
      have e1' : w1.cell? ⟨b, o + 1, none⟩ = some (.string k) := (bcell HB1.out b (o + 1) hbW).trans e1
      obtain ⟨c0, c1, c2, c3, c4⟩ := HN1.out.cells
      obtain ⟨f0, f1, f2, f3, f4, gl⟩ := HN1.out.frozen
      clear e0 e1 hy
      cases r with
      | cons s' r' =>
        have hq2 := rem_on (r := r') (s' := s') HFB.out.symm (by rw [← HNN.out]; exact HY.out)
        rw [← HQ.out, ← HNN.out] at hq2
        have HQ2 := Lib.hid hq2
        have hyn := V.nodes_mem (List.mem_of_getElem? HY.out)
        have hxn := nodes_items x
        have HIN := Lib.hid (fun W' (hW : Below w1.heap.size w1 W') => (rem_inner (HN1.out.on hW) HY.out (HPR.out.low (W' := W') (fun b' hb' => (hW.block b' (by omega)).trans (HB1.out.block b' (by omega)))) (fun W g t pre post vI vK D A cp h1 h2 => HIH.out y (okItems HOK.out.1 y (List.mem_of_getElem? HY.out)) (by have := HOK.out.2; omega) W g t pre post vI vK D A cp (by simp) h1 h2)).mono fun e w' h => RemP.trans h (Fr.of_below (below_on HB1.out hW) g D) (fun b h => .inl h))
        rw [show (s' :: r').length = r'.length + 1 from rfl] at HIN hcp hr0 hr1 hr2 ⊢
        have HR2 := Lib.hid (show q = (setIt x n (removeV y (s' :: r')).1, (removeV y (s' :: r')).2) from HQ2.out)
        obtain ⟨qy, hqy⟩ : ∃ qy, qy = removeV y (s' :: r') := ⟨_, rfl⟩
        rw [← hqy] at HR2 HIN
        obtain ⟨m, hm⟩ : ∃ m, m = r'.length := ⟨_, rfl⟩
        rw [← hm] at HIN hcp hr0 hr1 hr2 ⊢
        have hc1 : ¬ cp = 1 := by omega
        have hm1 : (1 : Int) < (m : Int) + 1 + 1 := by omega
        have hm2 : (m : Int) + 1 + 1 ≤ cp := by omega
        have hm3 : (1 : Int) ≤ (m : Int) + 1 + 1 := by omega
        clear HQ HIH HPR hyn hxn hqy hm HQ2 hq2 hr0 hr1 hr2
        go_wp2_with fail
        go_region_with (go_at_call 43; refine (HIN.out _ (by first | exact Below.refl _ _ | exact (Below.refl _ _).drew)).mono ?_; rintro e w4 ⟨rfl, h4⟩)
        all_goals
          have HR4 := Lib.hid h4
          clear h4
          go_wp2_with fail
          refine bodyPost_ret (v := .bool qy.2) (by simp [results, Tryd.results43, go_sem]) rfl ?_
          rw [HR2.out]
          exact ⟨rfl, HR4.out⟩
      | nil =>
        have HQ2 := Lib.hid (HQ.out.trans (rem_last HFB.out.symm))
        have HW := Lib.hid (HN1.out.withoutI hlt (by omega))
        clear HQ HIH HPR
        go_wp2_with fail
        refine HW.out.mono ?_
        rintro e w2 ⟨A2, c2', rfl, hN2, hF2, hrow2, hb2⟩
        have HN2 := Lib.hid hN2
        have HF2 := Lib.hid ((Fr.of_below HB1.out g D).trans hF2 fun _ h => .inl h)
        have hz2 := hb2.size
        clear c0 c1 c2 c3 c4 f0 f1 f2 f3 f4 gl e0' e1' hN2 hF2 HW
        obtain ⟨⟨c0, c1, c2, c3, c4⟩, f0, f1, f2, f3, f4, gl⟩ := cells_five hrow2
        have hwn := HNN.out
        by_cases h5 : x.kind = 5
        · rw [h5] at c0
          have hq5 : q = (.mk x.kind x.int x.text (x.items.take n ++ x.items.drop (n + 1)) (x.keys.take n ++ x.keys.drop (n + 1)), true) := by rw [HQ2.out, delV, ← HNN.out, if_pos h5]
          have HQ5 := Lib.hid hq5
          have hnk : n < x.keys.length := by rw [HFIVE.out h5]; exact hlt
          obtain ⟨W3, hW3⟩ : ∃ W3, W3 = w2.setCell ⟨g, pre.length + 3, none⟩ (.slice A2 (x.items.length - 1) c2') := ⟨_, rfl⟩
          have HN3 := Lib.hid (show Node W3 N g t pre post _ _ _ _ from by rw [hW3]; exact HN2.out)
          have HF3 := Lib.hid (show Fr W W3 g D from by rw [hW3]; exact HF2.out)
          have HK3 := Lib.hid fun W' (hW : Below W3.heap.size W3 W') => (HN3.out.on hW).withoutK (n := n) hnk (by show x.keys.length ≤ 100; omega)
          have HW3 := Lib.hid hW3
          have hz3 : w1.heap.size ≤ W3.heap.size := by rw [hW3]; simp; omega
          clear hq5 hW3 HQ2 HN2 HF2 hrow2 hwn
          go_wp2_with fail
          rw [← HW3.out]
          clear c0 c1 c2 c3 c4 f0 f1 f2 f3 f4 gl
          refine (HK3.out W3 (Below.refl _ W3)).mono ?_
          rintro e w4 ⟨A4, c4', rfl, hN4, hF4, hrow4, hb4⟩
          have HN4 := Lib.hid hN4
          have HF4 := Lib.hid (HF3.out.trans hF4 fun b hb => hb.elim .inl fun h => .inr (by omega))
          obtain ⟨⟨c0, c1, c2, c3, c4⟩, f0, f1, f2, f3, f4, gl⟩ := cells_five hrow4
          clear hN4 hF4 hrow4 hb4 HK3
          go_wp2_with fail
          refine bodyPost_ret (v := .bool true) (by simp [results, Tryd.results43, go_sem]) rfl ?_
          rw [HQ5.out]
          refine ⟨rfl, HF4.out, fun _ => ⟨_, _, _, HN4.out, fun b hb => ?_⟩⟩
          rcases hb with (hb | hb) | hb
          · exact .inl hb
          · exact .inr (by omega)
          · exact .inr (by omega)
        · have hq4 : q = (.mk x.kind x.int x.text (x.items.take n ++ x.items.drop (n + 1)) x.keys, true) := by rw [HQ2.out, delV, ← HNN.out, if_neg h5]
          have h4 : x.kind = 4 := by have := HKD.out; unfold holderS at this; split at this <;> omega
          rw [h4] at c0
          have HQ4 := Lib.hid hq4
          clear hq4 HQ2 hrow2 hwn hb2
          go_wp2_with fail
          refine bodyPost_ret (v := .bool true) (by simp [results, Tryd.results43, go_sem]) rfl ?_
          rw [HQ4.out]
          exact ⟨rfl, HF2.out, fun _ => ⟨_, _, _, HN2.out, fun b hb => hb.elim .inl (fun h => .inr (by omega))⟩⟩
theorem remove_any : ∀ (p : List Stp), p ≠ [] → ∀ (x : V), x.ok = true → x.nodes ≤ 60 → ∀ (W : World) (N g : Nat) (t : TypeId) (pre post : List Value) (vI vK : Value) (D : Nat → Prop) (A : Option Addr) (cp : Nat), Node W N g t pre post x vI vK D → PLies W N A cp p →
    Calls Tryd.prog 43 #[.pointer (some ⟨g, pre.length, none⟩), .slice A p.length cp] W (RemP (removeV x p) N g t pre post D W)
  | [], h, _, _, _, _, _, _, _, _, _, _, _, _, _, _, _, _ => absurd rfl h
  | (i, k) :: r, _, x, hok, h60, W, N, g, t, pre, post, vI, vK, D, A, cp, h, hl => rem_step x i k r N g t pre post vI vK D W A cp h hok h60 hl fun y hy1 hy2 W g t pre post vI vK D A cp hr h hl => remove_any r hr y hy1 hy2 W N g t pre post vI vK D A cp h hl
open Go.RowKit
/-- What Remove answers. -/
def remOut (x : V) (p : List Stp) : V × Int :=
  if (x.valid && pathB p) = true then (if p = [] then (nullV, 3) else if (removeV x p).2 = true then ((removeV x p).1, 0) else (nullV, 6)) else (nullV, 1)
/-- The boxes of Remove: its value, what is answered. -/
structure RB (w : World) (c0 : Array Value) (W : World) : Prop where
  old : Below w.heap.size w W
  bv : BlockIs W w.heap.size 25 c0
  br : BlockIs W (w.heap.size + 1) 25 zeroF
section
variable {w W W' : World} {c0 : Array Value} {g c d : Nat} {y : V} {D : Nat → Prop} {A K : Option Addr} {u0 u1 u2 u3 u4 : Value}
theorem RB.start (w : World) (c0 : Array Value) : RB w c0 ((w.alloc (.cells c0 25)).alloc (.cells zeroF 25)) := ⟨below_al (below_al (Below.refl _ w) _) _, (BlockIs.new w _ _).alloc _, BlockIs.newAt _ _ _ (by simp)⟩
theorem RB.below (h : RB w c0 W) (hb : Below W.heap.size W W') : RB w c0 W' := ⟨below_on h.old hb, h.bv.below hb h.bv.lt, h.br.below hb h.br.lt⟩
theorem RB.fr (h : RB w c0 W) (hb : Below (w.heap.size + 2) W W') : RB w c0 W' :=
  ⟨h.old.trans ⟨hb.os, hb.tape, hb.output, hb.size, fun b hlt => hb.block b (by omega)⟩, h.bv.below hb (by omega), h.br.below hb (by omega)⟩
theorem RB.ends (h : RB w c0 W) : Below w.heap.size w (put5 W (w.heap.size + 1) 0 u0 u1 u2 u3 u4) :=
  ((((h.old.setCell (by simp) _).setCell (by simp) _).setCell (by simp) _).setCell (by simp) _).setCell (by simp) _
theorem RB.bad (r : Int) (h : RB w c0 W) : PutAns (nullV, r) w (.returned (.tuple #[aggOf (leaf 0 0 ⟨#[]⟩) none 0 none 0, .int .i64 r])) (put5 W (w.heap.size + 1) 0 u0 u1 u2 u3 u4) := ⟨none, 0, none, 0, rfl, leaf_lies _ _ 0 0 (by decide), h.ends⟩
theorem RB.good (h : RB w c0 W) (hn : Node W (w.heap.size + 2) g 25 [] [] y (.slice A y.items.length c) (.slice K y.keys.length d) D) : PutAns (y, 0) w (.returned (.tuple #[aggOf y A c K d, .int .i64 0])) (put5 W (w.heap.size + 1) 0 u0 u1 u2 u3 u4) := by
  have hs := put5_size W (w.heap.size + 1) 0 u0 u1 u2 u3 u4
  have ht := hn.tree.keep (w' := put5 W (w.heap.size + 1) 0 u0 u1 u2 u3 u4) y (fun b hb => put5_heap W (w.heap.size + 1) 0 u0 u1 u2 u3 u4 (by have := (hn.low b hb).1; omega)) (fun _ h => h)
  obtain ⟨A', c', K', d', e1, e2, hl⟩ := ht.lies (B := (put5 W (w.heap.size + 1) 0 u0 u1 u2 u3 u4).heap.size) y (fun b hb => by rw [hs]; exact (hn.low b hb).2)
  cases e1
  cases e2
  exact ⟨A, c, K, d, rfl, hl, h.ends⟩
end
set_option maxRecDepth 100000 in
set_option maxHeartbeats 4000000 in
theorem progRemove_any (x : V) (p : List Stp) (w : World) (A0 K0 : Option Addr) (c0 d0 : Nat) (Ap : Option Addr) (cp : Nat) (hx : Lies w w.heap.size x A0 c0 K0 d0) (hp : PLies w w.heap.size Ap cp p) :
    Calls Tryd.prog 16 #[.agg #[.int .i64 x.kind, .int .i64 x.int, .string x.text, .slice A0 x.items.length c0, .slice K0 x.keys.length d0], .slice Ap p.length cp] w (PutAns (remOut x p) w) := by
  have HB0 := Lib.hid (RB.start w #[.int .i64 x.kind, .int .i64 x.int, .string x.text, .slice A0 x.items.length c0, .slice K0 x.keys.length d0])
  obtain ⟨n, hn⟩ : ∃ n, n = p.length := ⟨_, rfl⟩
  obtain ⟨bx, hbx⟩ : ∃ b, x.valid = b := ⟨_, rfl⟩
  obtain ⟨bp, hbp⟩ : ∃ b, pathB p = b := ⟨_, rfl⟩
  have HPV := Lib.hid fun W (hW : Below w.heap.size w W) => show Calls Tryd.prog 31 #[.slice Ap n cp] W fun e w' => e = .returned (.bool bp) ∧ Below W.heap.size W w' from by
    have := pathValid_any p W Ap cp (hp.on hW)
    rw [hbp, ← hn] at this
    exact this
  have HV := Lib.hid fun W (hW : Below w.heap.size w W) => valid_yes x W A0 K0 c0 d0 (lies_on hx hW) hbx
  have HCX := Lib.hid fun (h : bx = true) W (hW : Below w.heap.size w W) => copied_tree x.nodes x W A0 K0 c0 d0 (Nat.le_refl _) (valid_nodes (hbx.trans h)).2 (valid_nodes (hbx.trans h)).1 (lies_on hx hW)
  have HREM := Lib.hid fun (h : bx = true) (h0 : ¬ n = 0) W g vI vK D (hW : Below w.heap.size w W) (hN : Node W (w.heap.size + 2) g 25 [] [] x vI vK D) =>
    show Calls Tryd.prog 43 #[.pointer (some ⟨g, 0, none⟩), .slice Ap n cp] W (RemP (removeV x p) (w.heap.size + 2) g 25 [] [] D W) from by
      rw [hn]
      exact remove_any p (fun e => h0 (by rw [hn, e]; rfl)) x (valid_nodes (hbx.trans h)).1 (valid_nodes (hbx.trans h)).2 W (w.heap.size + 2) g _ [] [] vI vK D Ap cp hN ((hp.low_on hW).wider (by omega))
  have HOUT := Lib.hid (show remOut x p = if (bx && bp) = true then (if p = [] then (nullV, 3) else if (removeV x p).2 = true then ((removeV x p).1, 0) else (nullV, 6)) else (nullV, 1) by rw [← hbx, ← hbp]; rfl)
  have HNIL := Lib.hid (show p = [] ↔ n = 0 from ⟨fun e => by rw [hn, e]; rfl, fun e => List.length_eq_zero_iff.1 (hn.symm.trans e)⟩)
  obtain ⟨out, hout⟩ : ∃ out, out = remOut x p := ⟨_, rfl⟩
  obtain ⟨q, hq⟩ : ∃ q, q = removeV x p := ⟨_, rfl⟩
  rw [← hout, ← hq] at HOUT
  rw [← hq] at HREM
  rw [← hn, ← hout]
  clear hn hbx hbp hx hp hout hq
  go_enter Tryd.func16, Tryd.ntmps16
  go_wp2_with fail
  refine (HV.out _ HB0.out.old).mono ?_
  rintro e w1 ⟨rfl, h1⟩
  have HB1 := Lib.hid (HB0.out.below h1)
  clear h1 HB0
  cases bx
  case false =>
    obtain ⟨z0, z1, z2, z3, z4⟩ := five_of (show BlockIs w1 (w.heap.size + 1) 25 #[.int .i64 0, .int .i64 0, .string ⟨#[]⟩, .slice none 0 0, .slice none 0 0] from HB1.out.br)
    have y0 := HB1.out.br.frozen 0
    have y1 := HB1.out.br.frozen 1
    have y2 := HB1.out.br.frozen 2
    have y3 := HB1.out.br.frozen 3
    have y4 := HB1.out.br.frozen 4
    have zl := HB1.out.br.lt
    go_wp2_with fail
    refine bodyPost_ret (v := .tuple #[aggOf (leaf 0 0 ⟨#[]⟩) none 0 none 0, .int .i64 1]) (by simp [results, Tryd.results16, go_sem, aggOf, leaf, V.kind, V.int, V.text, V.items, V.keys, z0, z1, z2, z3, z4]) rfl ?_
    rw [HOUT.out, if_neg (by simp)]
    exact RB.bad 1 HB1.out
  obtain ⟨b0, b1, b2, b3, b4⟩ := five_of HB1.out.bv
  go_wp2_with fail
  refine (HPV.out _ HB1.out.old).mono ?_
  rintro e w2 ⟨rfl, h2⟩
  have HB2 := Lib.hid (HB1.out.below h2)
  clear h2 b0 b1 b2 b3 b4 HB1
  cases bp
  case false =>
    obtain ⟨z0, z1, z2, z3, z4⟩ := five_of (show BlockIs w2 (w.heap.size + 1) 25 #[.int .i64 0, .int .i64 0, .string ⟨#[]⟩, .slice none 0 0, .slice none 0 0] from HB2.out.br)
    have y0 := HB2.out.br.frozen 0
    have y1 := HB2.out.br.frozen 1
    have y2 := HB2.out.br.frozen 2
    have y3 := HB2.out.br.frozen 3
    have y4 := HB2.out.br.frozen 4
    have zl := HB2.out.br.lt
    go_wp2_with fail
    refine bodyPost_ret (v := .tuple #[aggOf (leaf 0 0 ⟨#[]⟩) none 0 none 0, .int .i64 1]) (by simp [results, Tryd.results16, go_sem, aggOf, leaf, V.kind, V.int, V.text, V.items, V.keys, z0, z1, z2, z3, z4]) rfl ?_
    rw [HOUT.out, if_neg (by simp)]
    exact RB.bad 1 HB2.out
  have HOUT := Lib.hid (show out = if n = 0 then (nullV, 3) else if q.2 = true then (q.1, 0) else (nullV, 6) by
    rw [HOUT.out, if_pos (by simp)]
    by_cases h0 : n = 0
    · rw [if_pos h0, if_pos (HNIL.out.2 h0)]
    · rw [if_neg h0, if_neg (fun e => h0 (HNIL.out.1 e))])
  by_cases h0 : n = 0
  · have HOUT := Lib.hid (show out = (nullV, 3) by rw [HOUT.out, if_pos h0])
    rw [h0]
    clear HREM HCX HNIL
    obtain ⟨z0, z1, z2, z3, z4⟩ := five_of (show BlockIs w2 (w.heap.size + 1) 25 #[.int .i64 0, .int .i64 0, .string ⟨#[]⟩, .slice none 0 0, .slice none 0 0] from HB2.out.br)
    have y0 := HB2.out.br.frozen 0
    have y1 := HB2.out.br.frozen 1
    have y2 := HB2.out.br.frozen 2
    have y3 := HB2.out.br.frozen 3
    have y4 := HB2.out.br.frozen 4
    have zl := HB2.out.br.lt
    go_wp2_with fail
    refine bodyPost_ret (v := .tuple #[aggOf (leaf 0 0 ⟨#[]⟩) none 0 none 0, .int .i64 3]) (by simp [results, Tryd.results16, go_sem, aggOf, leaf, V.kind, V.int, V.text, V.items, V.keys, z0, z1, z2, z3, z4]) rfl ?_
    rw [HOUT.out]
    exact RB.bad 3 HB2.out
  have hn0 : ¬ (n : Int) = 0 := by omega
  obtain ⟨b0, b1, b2, b3, b4⟩ := five_of HB2.out.bv
  have HREM := Lib.hid (fun W g vI vK D => HREM.out (by trivial) h0 W g vI vK D)
  go_wp2_with fail
  refine (HCX.out (by trivial) _ HB2.out.old).mono ?_
  rintro e w4 ⟨xI, xK, rfl, ht4, h4⟩
  obtain ⟨⟨XA, xc, rfl⟩, XK, xd, rfl⟩ := ht4.forms
  have hw2 : w.heap.size + 2 ≤ w2.heap.size := by have := HB2.out.br.lt; omega
  have HN5 := Lib.hid (made_node (N := w.heap.size + 2) ht4 hw2 h4.size)
  have HB5 := Lib.hid ((HB2.out.below h4).below (below_al (Below.refl _ w4) (.cells #[.int .i64 x.kind, .int .i64 x.int, .string x.text, .slice XA x.items.length xc, .slice XK x.keys.length xd] 25)))
  have hw4 : w.heap.size + 2 ≤ w4.heap.size := by have := h4.size; omega
  clear h4 ht4 b0 b1 b2 b3 b4 HB2 HCX HPV HV
  go_wp2_with fail
  refine (HREM.out _ _ _ _ _ HB5.out.old HN5.out).mono ?_
  rintro e w7 ⟨rfl, hF7, hN7⟩
  have HB7 := Lib.hid (HB5.out.fr (hF7.below hw4 (fun b hb => (HN5.out.low b hb).1) (by have := HN5.out.row.lt; omega)))
  clear hF7 HREM HN5 HB5
  cases hb : q.2 with
  | true =>
    obtain ⟨vI7, vK7, D7, hN, -⟩ := hN7 hb
    obtain ⟨A7, c7, K7, d7, rfl, rfl, hl7⟩ := hN.lies
    have HN7 := Lib.hid hN
    have HOUT := Lib.hid (show out = (q.1, 0) by rw [HOUT.out, if_neg h0, if_pos hb])
    obtain ⟨m0, m1, m2, m3, m4⟩ : w7.cell? ⟨w4.heap.size, 0, none⟩ = some (.int .i64 q.1.kind) ∧ w7.cell? ⟨w4.heap.size, 1, none⟩ = some (.int .i64 q.1.int) ∧ w7.cell? ⟨w4.heap.size, 2, none⟩ = some (.string q.1.text) ∧ w7.cell? ⟨w4.heap.size, 3, none⟩ = some (.slice A7 q.1.items.length c7) ∧ w7.cell? ⟨w4.heap.size, 4, none⟩ = some (.slice K7 q.1.keys.length d7) := hN.cells
    have ml := hN.row.lt
    clear hN hl7 hN7
    obtain ⟨z0, z1, z2, z3, z4⟩ := five_of (show BlockIs w7 (w.heap.size + 1) 25 #[.int .i64 0, .int .i64 0, .string ⟨#[]⟩, .slice none 0 0, .slice none 0 0] from HB7.out.br)
    have y0 := HB7.out.br.frozen 0
    have y1 := HB7.out.br.frozen 1
    have y2 := HB7.out.br.frozen 2
    have y3 := HB7.out.br.frozen 3
    have y4 := HB7.out.br.frozen 4
    have zl := HB7.out.br.lt
    go_wp2_with fail
    refine bodyPost_ret (v := .tuple #[aggOf q.1 A7 c7 K7 d7, .int .i64 0]) (by simp [results, Tryd.results16, go_sem, aggOf, z0, z1, z2, z3, z4]) rfl ?_
    rw [HOUT.out]
    exact RB.good HB7.out HN7.out
  | false =>
    have HOUT := Lib.hid (show out = (nullV, 6) by rw [HOUT.out, if_neg h0, if_neg (by simp [hb])])
    clear hN7
    obtain ⟨z0, z1, z2, z3, z4⟩ := five_of (show BlockIs w7 (w.heap.size + 1) 25 #[.int .i64 0, .int .i64 0, .string ⟨#[]⟩, .slice none 0 0, .slice none 0 0] from HB7.out.br)
    have y0 := HB7.out.br.frozen 0
    have y1 := HB7.out.br.frozen 1
    have y2 := HB7.out.br.frozen 2
    have y3 := HB7.out.br.frozen 3
    have y4 := HB7.out.br.frozen 4
    have zl := HB7.out.br.lt
    go_wp2_with fail
    refine bodyPost_ret (v := .tuple #[aggOf (leaf 0 0 ⟨#[]⟩) none 0 none 0, .int .i64 6]) (by simp [results, Tryd.results16, go_sem, aggOf, leaf, V.kind, V.int, V.text, V.items, V.keys, z0, z1, z2, z3, z4]) rfl ?_
    rw [HOUT.out]
    exact RB.bad 6 HB7.out
end Go.Proofs.YtmhijdpahejaiaaDoor
