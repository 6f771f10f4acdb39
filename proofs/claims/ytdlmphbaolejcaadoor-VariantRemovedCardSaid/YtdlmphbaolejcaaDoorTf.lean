/- A value laid at a path, walked: a step of the path. -/
import Derived.Test.YtdlmphbaolejcaaDoorTe
namespace Go.Proofs.YtdlmphbaolejcaaDoor
open Go.RowKit

theorem put_plain {x z : V} {s : Stp} {r : List Stp} (hok : x.ok = true) (h60 : x.nodes ≤ 60) (hs : stepB s = true) (h1 : (kindV x s).kind = holderS s) (h2 : ¬ s.1 > x.items.length) :
    Fit (kindV x s) ∧ (kindV x s).items.length ≤ 99 ∧ ∃ y, (roomV (kindV x s) s).items[whereV (kindV x s) s]? = some y ∧ y.ok = true ∧ y.nodes ≤ 60 ∧ putV x (s :: r) z = (setIt (roomV (kindV x s) s) (whereV (kindV x s) s) (putV y r z).1, (putV y r z).2) := by
  have hi : (kindV x s).items = x.items := by unfold kindV; split <;> rfl
  have hf := (fit_of hok).kindV s
  have hl : ¬ s.1 > (kindV x s).items.length := by rw [hi]; exact h2
  obtain ⟨-, -, h3, h4, -⟩ := room_items hf h1 hs hl nullV
  refine ⟨hf, by rw [hi]; have := nodes_items x; have := length_le_nodesL x.items; omega, (roomV (kindV x s) s).items.getD (whereV (kindV x s) s) nullV, ?_, ?_, ?_, ?_⟩
  · rw [List.getD_eq_getElem?_getD, List.getElem?_eq_getElem h4]; rfl
  · rw [h3, kindV_item (fit_of hok)]
    cases hit : itemV x s with
    | none => exact (by decide : nullV.ok = true)
    | some y => exact okItems hok y (item_mem hit)
  · rw [h3, kindV_item (fit_of hok)]
    cases hit : itemV x s with
    | none => exact (by decide : nullV.nodes ≤ 60)
    | some y => have := V.nodes_mem (item_mem hit); have := nodes_items x; simp only [Option.getD_some]; omega
  · rw [putV, if_neg (by simpa using h1), if_neg hl]
theorem put_type8 {x z : V} {s : Stp} {r : List Stp} (h1 : ¬ (kindV x s).kind = holderS s) : (putV x (s :: r) z).2 = 8 := by rw [putV, if_pos h1]
theorem put_arg3 {x z : V} {s : Stp} {r : List Stp} (h1 : (kindV x s).kind = holderS s) (h2 : s.1 > x.items.length) : (putV x (s :: r) z).2 = 3 := by
  have hi : (kindV x s).items = x.items := by unfold kindV; split <;> rfl
  rw [putV, if_neg (by simpa using h1), if_pos (by rw [hi]; exact h2)]

set_option maxRecDepth 100000 in
set_option maxHeartbeats 8000000 in
theorem put_step (x z : V) (i : Int) (k : ByteArray) (r : List Stp) (N g : Nat) (t : TypeId) (pre post : List Value) (vI vK zI zK : Value) (D Dz : Nat → Prop) (W : World) (A : Option Addr) (cp : Nat)
    (h : Node W N g t pre post x vI vK D) (hz : ZIn W N g z zI zK D Dz) (hok : x.ok = true) (h60 : x.nodes ≤ 60) (hs : stepB (i, k) = true) (hp : PLies W N A cp ((i, k) :: r))
    (ih : ∀ y : V, y.ok = true → y.nodes ≤ 60 → ∀ (W : World) (g : Nat) (t : TypeId) (pre post : List Value) (vI vK : Value) (D : Nat → Prop) (A : Option Addr) (cp : Nat), Node W N g t pre post y vI vK D → ZIn W N g z zI zK D Dz → PLies W N A cp r →
      Calls Tryd.prog 41 #[.pointer (some ⟨g, pre.length, none⟩), .slice A r.length cp, .agg #[.int .i64 z.kind, .int .i64 z.int, .string z.text, zI, zK]] W (PutP (putV y r z) N g t pre post D Dz W)) :
    Calls Tryd.prog 41 #[.pointer (some ⟨g, pre.length, none⟩), .slice A (r.length + 1) cp, .agg #[.int .i64 z.kind, .int .i64 z.int, .string z.text, zI, zK]] W (PutP (putV x ((i, k) :: r) z) N g t pre post D Dz W) := by
  have hgW := h.row.lt
  obtain ⟨⟨ZA, zc, rfl⟩, ZK, zd, rfl⟩ := hz.tree.forms
  obtain ⟨hp1, hp2, hp3⟩ := hp
  obtain ⟨b, o, rfl, hb, hf⟩ : ∃ b o, A = some ⟨b, o, none⟩ ∧ b < N ∧ StepsFrom W ((i, k) :: r) b o := by
    rcases hp3 with h | h
    · simp at h
    · exact h
  have hcp : r.length + 1 ≤ cp := by simpa using hp1
  unfold maxLen at hp2
  obtain ⟨e0, e1, hks, hrest⟩ := hf
  have hNg : N ≤ g := h.base
  have HKS := Lib.hid hks
  have HPR := Lib.hid (show PLies W N (some ⟨b, o + 2, none⟩) (cp - 1) r from ⟨by omega, by unfold maxLen; omega, .inr ⟨b, o + 2, rfl, hb, hrest⟩⟩)
  have HT8 := Lib.hid (put_type8 (x := x) (z := z) (s := (i, k)) (r := r))
  have HA3 := Lib.hid (put_arg3 (x := x) (z := z) (s := (i, k)) (r := r))
  have HPL := Lib.hid (put_plain (z := z) (r := r) hok h60 hs)
  have HHOLD := Lib.hid (holder_any i k hs)
  have HNULL := Lib.hid ((fit_of hok).null)
  have HKV := Lib.hid (show kindV x (i, k) = if x.kind = 0 then .mk (holderS (i, k)) x.int x.text x.items x.keys else x from rfl)
  obtain ⟨q, hq⟩ : ∃ q, q = putV x ((i, k) :: r) z := ⟨_, rfl⟩
  obtain ⟨hd, hhd⟩ : ∃ hd, hd = holderS (i, k) := ⟨_, rfl⟩
  rw [← hq] at HT8 HA3 HPL ⊢
  rw [← hhd] at HT8 HA3 HPL HHOLD HKV
  have hd0 : ¬ hd = 0 := by rw [hhd, holderS]; split <;> omega
  have HHD := Lib.hid hhd
  obtain ⟨W1, hW1⟩ : ∃ W1, W1 = W.alloc (.cells #[.int .i64 z.kind, .int .i64 z.int, .string z.text, .slice ZA z.items.length zc, .slice ZK z.keys.length zd] 25) := ⟨_, rfl⟩
  have hb1 : Below W.heap.size W W1 := by rw [hW1]; exact below_al (Below.refl _ W) _
  have HW1 := Lib.hid hW1
  have HB1 := Lib.hid hb1
  have HX1 := Lib.hid (show BlockIs W1 W.heap.size 25 #[.int .i64 z.kind, .int .i64 z.int, .string z.text, .slice ZA z.items.length zc, .slice ZK z.keys.length zd] by rw [hW1]; exact BlockIs.new W _ _)
  have hz1 : W.heap.size < W1.heap.size := HX1.out.lt
  have e0' : W1.cell? ⟨b, o, none⟩ = some (.int .i64 i) := (bcell hb1 b o (by omega)).trans e0
  have e1' : W1.cell? ⟨b, o + 1, none⟩ = some (.string k) := (bcell hb1 b (o + 1) (by omega)).trans e1
  have HN1 := Lib.hid (h.on hb1)
  have HZ1 := Lib.hid (hz.on hb1)
  have HIH := Lib.hid ih
  have HDW := Lib.hid (show ∀ b, D b → b < W.heap.size from fun b hb => (h.low b hb).2)
  obtain ⟨A0, c0', K0, d0', rfl, rfl, hlie⟩ := h.lies
  clear ih hrest hp1 hp3 hks h hz hW1 hb1 e0 e1 hq hhd hok h60 hs hlie
  have hr0 : (0 : Int) < (r.length : Int) + 1 := by omega
  have hr1 : (1 : Int) ≤ (r.length : Int) + 1 := by omega
  have hr2 : (r.length : Int) + 1 ≤ cp := by omega
  have hr3 : (1 : Int) ≤ cp := by omega
  go_enter Tryd.func41, Tryd.ntmps41
  go_upto_region 1 with (fail)
  rw [← HW1.out]
  go_wp2_with fail
  refine (HHOLD.out W1).mono ?_
  rintro e w2 ⟨rfl, h2⟩
  have HN2 := Lib.hid (HN1.out.on h2)
  have HZ2 := Lib.hid (HZ1.out.on h2)
  have HB2 := Lib.hid (below_on HB1.out h2)
  have HX2 := Lib.hid (HX1.out.below h2 hz1)
  have hz2 := h2.size
  have e0 : w2.cell? ⟨b, o, none⟩ = some (.int .i64 i) := (bcell h2 b o (by omega)).trans e0'
  have e1 : w2.cell? ⟨b, o + 1, none⟩ = some (.string k) := (bcell h2 b (o + 1) (by omega)).trans e1'
  obtain ⟨c0, c1, c2, c3, c4⟩ := HN2.out.cells
  obtain ⟨f0, f1, f2, f3, f4, gl⟩ := HN2.out.frozen
  clear h2 e0' e1' HN1 HX1 HB1 HW1 HZ1 HHOLD
  have HKI := Lib.hid (show (kindV x (i, k)).items = x.items by unfold kindV; split <;> rfl)
  have HDN := Lib.hid (show ∀ b, D b → N ≤ b from fun b hb => (HN2.out.low b hb).1)
  by_cases h1 : (kindV x (i, k)).kind = hd
  · by_cases hi : i > x.items.length
    · have hq3 := HA3.out h1 hi
      have hi' : (x.items.length : Int) < i := hi
      clear HT8 HA3 HPL
      by_cases h0 : x.kind = 0
      · rw [h0] at c0
        go_wp2_with fail
        go_quiet (fail)
        go_wp2_with fail
        refine bodyPost_ret (v := .int .i64 3) (by simp [results, Tryd.results41, go_sem]) rfl ?_
        exact PutP.bad hq3 (by decide) (((Fr.of_below HB2.out g D).trans (Fr.set w2 g _ _ D) fun _ h => .inl h).trans (Fr.of_below (below_drewN (Below.refl _ _) _) g D) fun _ h => .inl h)
      · have hk : x.kind = hd := by rw [HKV.out, if_neg h0] at h1; exact h1
        rw [hk] at c0
        go_wp2_with fail
        go_quiet (fail)
        go_wp2_with fail
        refine bodyPost_ret (v := .int .i64 3) (by simp [results, Tryd.results41, go_sem]) rfl ?_
        exact PutP.bad hq3 (by decide) ((Fr.of_below HB2.out g D).trans (Fr.of_below (below_drewN (Below.refl _ _) _) g D) fun _ h => .inl h)
    · obtain ⟨hfit, h99, y, hy, hyok, hy60, hqe⟩ := HPL.out h1 (by omega)
      have HY := Lib.hid hy
      have HFIT := Lib.hid (And.intro hfit h99)
      have HYO := Lib.hid (And.intro hyok hy60)
      obtain ⟨qy, hqy⟩ : ∃ qy, qy = putV y r z := ⟨_, rfl⟩
      rw [← hqy] at hqe
      have HQE := Lib.hid hqe
      have HQY := Lib.hid hqy
      have hi' : i ≤ x.items.length := by omega
      have HI := Lib.hid hi
      have H1 := Lib.hid h1
      clear HT8 HA3 HPL hqe hqy hfit h99 hy hyok hy60 hi
      by_cases h0 : x.kind = 0
      focus
        have hkv : kindV x (i, k) = .mk hd x.int x.text x.items x.keys := by rw [HKV.out, if_pos h0]
        rw [h0] at c0
        clear h1
        go_wp2_with fail
        go_quiet (fail)
        obtain ⟨W4, hW4⟩ : ∃ W4, W4 = (w2.setCell ⟨g, pre.length, none⟩ (.int .i64 hd)).drewN nq := ⟨_, rfl⟩
        have hn3 := HN2.out.kind hd
        rw [← hkv] at hn3
        have HN4 := Lib.hid (show Node W4 N g t pre post (kindV x (i, k)) (.slice A0 x.items.length c0') (.slice K0 x.keys.length d0') D by rw [hW4]; exact hn3.on (below_drewN (Below.refl _ _) _))
        have hF3 : Fr w2 W4 g D := by rw [hW4]; exact (Fr.set w2 g _ _ D).trans (Fr.of_below (below_drewN (Below.refl _ _) _) g D) fun _ h => .inl h
      rotate_left
      focus
        have hkv : kindV x (i, k) = x := by rw [HKV.out, if_neg h0]
        have hk : x.kind = hd := by rw [hkv] at h1; exact h1
        rw [hk] at c0
        clear h1 hk
        go_wp2_with fail
        go_quiet (fail)
        obtain ⟨W4, hW4⟩ : ∃ W4, W4 = w2.drewN nq := ⟨_, rfl⟩
        have HN4 := Lib.hid (show Node W4 N g t pre post (kindV x (i, k)) (.slice A0 x.items.length c0') (.slice K0 x.keys.length d0') D by rw [hW4, hkv]; exact HN2.out.on (below_drewN (Below.refl _ _) _))
        have hF3 : Fr w2 W4 g D := by rw [hW4]; exact Fr.of_below (below_drewN (Below.refl _ _) _) g D
      all_goals
        have HF4 := Lib.hid ((Fr.of_below HB2.out g D).trans hF3 fun _ h => .inl h)
        have HZ4 := Lib.hid (HZ2.out.fr hF3 fun _ h => .inl h)
        have HX4 := Lib.hid (show BlockIs W4 W.heap.size 25 #[.int .i64 z.kind, .int .i64 z.int, .string z.text, .slice ZA z.items.length zc, .slice ZK z.keys.length zd] from HX2.out.to (hF3.block W.heap.size (by omega) (by omega) (fun e => by have := HDW.out _ e; omega)))
        have hlow : ∀ b', b' < N → W4.heap[b']? = w2.heap[b']? := fun b' hb' => hF3.block b' (by omega) (by omega) (fun e => by have := HDN.out _ e; omega)
        have e0' : W4.cell? ⟨b, o, none⟩ = some (.int .i64 i) := (World.cell?_of_block (hlow b hb)).trans e0
        have e1' : W4.cell? ⟨b, o + 1, none⟩ = some (.string k) := (World.cell?_of_block (hlow b hb)).trans e1
        have hz4 : W.heap.size < W4.heap.size := HX4.out.lt
        have HROOM := Lib.hid (room_any (kindV x (i, k)) i k N g t pre post _ _ D W4.drew (HN4.out.on (Below.refl _ W4).drew) HFIT.out.1 HFIT.out.2 (H1.out.trans HHD.out) (by rw [HKI.out]; have := HI.out; omega) HKS.out)
        obtain ⟨n, hn⟩ : ∃ n, n = whereV (kindV x (i, k)) (i, k) := ⟨_, rfl⟩
        obtain ⟨x2, hx2⟩ : ∃ x2, x2 = roomV (kindV x (i, k)) (i, k) := ⟨_, rfl⟩
        rw [← hn, ← hx2] at HROOM HQE HY
        have HINN := Lib.hid (fun W5 gI m c5 vK5 D5 A' cp' hN hz hp => put_inner (W := W5) (gI := gI) (m := m) (c := c5) (vK := vK5) (D := D5) (A := A') (cp := cp') (g := g) (t := t) (pre := pre) (post := post) (N := N) (Dz := Dz) (z := z) (zI := .slice ZA z.items.length zc) (zK := .slice ZK z.keys.length zd) (r := r) (n := n) (q := qy) hN HY.out hz hp (by rw [HQY.out]; exact HIH.out y HYO.out.1 HYO.out.2))
        have HPR4 := Lib.hid (HPR.out.low (W' := W4) (fun b' hb' => HF4.out.block b' (by omega) (by omega) (fun e => by have := HDN.out _ e; omega)))
        rw [← hW4]
        clear hn hx2 hF3 hlow HN2 HZ2 HB2 HX2 HNULL HKV HIH HY HFIT HYO HQY HI H1 HHD HKS HPR e0 e1 c0 c1 c2 c3 c4 f0 f1 f2 f3 f4 gl hW4 h0 hkv
        obtain ⟨c0, c1, c2, c3, c4⟩ := HN4.out.cells
        obtain ⟨f0, f1, f2, f3, f4, gl⟩ := HN4.out.frozen
        obtain ⟨x0, x1, x2', x3, x4⟩ := five_of HX4.out
        go_wp2_with fail
        by_cases hc1 : cp = 1
        · have hrn : r = [] := by
            cases r with
            | nil => rfl
            | cons y q => simp at hcp; omega
          subst hrn hc1
          have HPR1 := Lib.hid (show PLies W4 N (some ⟨b, o, none⟩) 0 ([] : List Stp) from ⟨Nat.zero_le _, by simp [maxLen], .inl rfl⟩)
          have HINN1 := Lib.hid (fun W5 gI m c5 vK5 D5 A' cp' hN hz (hp : PLies W5 N A' cp' []) => show Calls Tryd.prog 41 #[.pointer (some ⟨gI, n * 5, none⟩), .slice A' 0 cp', .agg #[.int .i64 z.kind, .int .i64 z.int, .string z.text, .slice ZA z.items.length zc, .slice ZK z.keys.length zd]] W5 (PutP (setIt x2 n qy.1, qy.2) N g t pre post D5 Dz W5) from HINN.out W5 gI m c5 vK5 D5 A' cp' hN hz hp)
          clear HINN HPR4
          go_region_with (first
            | (go_at_call 62; refine HROOM.out.mono ?_; rintro e w5 ⟨gI, c5, vK5, D5, rfl, hN5, hD5, hF5⟩; have hx5 := HX4.out.to (hF5.block W.heap.size hz4 (by omega) (fun e => by have := HDW.out _ e; omega)); obtain ⟨y0, y1, y2, y3, y4⟩ := five_of hx5; have HM5 := Lib.hid (And.intro hN5 (And.intro hD5 hF5)); clear hN5 hD5 hF5)
            | (go_at_call 41; refine (HINN1.out _ gI _ _ _ _ _ _ HM5.out.1 ((HZ4.out.on (Below.refl _ W4).drew).fr HM5.out.2.2 HM5.out.2.1) (HPR1.out.low (fun b' hb' => HM5.out.2.2.block b' (by show b' < W4.heap.size; omega) (by omega) (fun e => by have := HDN.out _ e; omega)))).mono ?_; rintro e w6 ⟨rfl, h6⟩))
          all_goals
            have HPO := Lib.hid (show PutP (setIt x2 n qy.1, qy.2) N g t pre post D Dz W (.returned (.int .i64 qy.2)) w6 from PutP.trans (D1 := D5) (W1 := w5) ⟨rfl, h6⟩ (HF4.out.trans ((Fr.of_below (Below.refl _ W4).drew g D).trans HM5.out.2.2 fun _ h => .inl h) fun _ h => .inl h) (fun b hb => (HM5.out.2.1 b hb).elim .inl (fun h => .inr (by have : W4.drew.heap.size = W4.heap.size := rfl; omega))))
            clear h6
            rw [← HQE.out] at HPO
            clear y0 y1 y2 y3 y4 hx5 c0 c1 c2 c3 c4 f0 f1 f2 f3 f4 x0 x1 x2' x3 x4
            go_wp2_with fail
            refine bodyPost_ret (v := .int .i64 qy.2) (by simp [results, Tryd.results41, go_sem]) rfl ?_
            exact HPO.out
        · go_region_with (first
            | (go_at_call 62; refine HROOM.out.mono ?_; rintro e w5 ⟨gI, c5, vK5, D5, rfl, hN5, hD5, hF5⟩; have hx5 := HX4.out.to (hF5.block W.heap.size hz4 (by omega) (fun e => by have := HDW.out _ e; omega)); obtain ⟨y0, y1, y2, y3, y4⟩ := five_of hx5; have HM5 := Lib.hid (And.intro hN5 (And.intro hD5 hF5)); clear hN5 hD5 hF5)
            | (go_at_call 41; refine (HINN.out _ gI _ _ _ _ _ _ HM5.out.1 ((HZ4.out.on (Below.refl _ W4).drew).fr HM5.out.2.2 HM5.out.2.1) (HPR4.out.low (fun b' hb' => HM5.out.2.2.block b' (by show b' < W4.heap.size; omega) (by omega) (fun e => by have := HDN.out _ e; omega)))).mono ?_; rintro e w6 ⟨rfl, h6⟩))
          all_goals
            have HPO := Lib.hid (show PutP (setIt x2 n qy.1, qy.2) N g t pre post D Dz W (.returned (.int .i64 qy.2)) w6 from PutP.trans (D1 := D5) (W1 := w5) ⟨rfl, h6⟩ (HF4.out.trans ((Fr.of_below (Below.refl _ W4).drew g D).trans HM5.out.2.2 fun _ h => .inl h) fun _ h => .inl h) (fun b hb => (HM5.out.2.1 b hb).elim .inl (fun h => .inr (by have : W4.drew.heap.size = W4.heap.size := rfl; omega))))
            clear h6
            rw [← HQE.out] at HPO
            clear y0 y1 y2 y3 y4 hx5 c0 c1 c2 c3 c4 f0 f1 f2 f3 f4 x0 x1 x2' x3 x4
            go_wp2_with fail
            refine bodyPost_ret (v := .int .i64 qy.2) (by simp [results, Tryd.results41, go_sem]) rfl ?_
            exact HPO.out
  · have hq8 := HT8.out h1
    have h0 : ¬ x.kind = 0 := fun e => h1 (by rw [HKV.out, if_pos e]; rfl)
    have hk : ¬ x.kind = hd := by rw [HKV.out, if_neg h0] at h1; exact h1
    clear HT8 HA3 HPL h1
    go_wp2_with fail
    refine bodyPost_ret (v := .int .i64 8) (by simp [results, Tryd.results41, go_sem]) rfl ?_
    exact PutP.bad hq8 (by decide) (Fr.of_below HB2.out g D)
end Go.Proofs.YtdlmphbaolejcaaDoor
