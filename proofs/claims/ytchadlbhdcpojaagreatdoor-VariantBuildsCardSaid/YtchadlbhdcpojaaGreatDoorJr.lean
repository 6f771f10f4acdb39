/- A value laid at a path, walked: a step of the path. -/
import Derived.Test.YtchadlbhdcpojaaGreatDoorJd
import Derived.Test.YtchadlbhdcpojaaGreatDoorTg
import Derived.Test.YtchadlbhdcpojaaGreatDoorJn
import Derived.Test.YtchadlbhdcpojaaGreatDoorJl
import Derived.Test.YtchadlbhdcpojaaGreatDoorJq
namespace Go.Proofs.YtchadlbhdcpojaaGreatDoor
open Go.RowKit
theorem put_plain {x z : V} {s : Stp} {r : List Stp} (hok : x.ok = true) (h60 : x.nodes ≤ 5000) (hs : stepB s = true) (h1 : (kindV x s).kind = holderS s) (h2 : ¬ s.1 > x.items.length) :
    Fit (kindV x s) ∧ (kindV x s).items.length ≤ 9999 ∧ ∃ y, (roomV (kindV x s) s).items[whereV (kindV x s) s]? = some y ∧ y.ok = true ∧ y.nodes ≤ 5000 ∧ putV x (s :: r) z = (setIt (roomV (kindV x s) s) (whereV (kindV x s) s) (putV y r z).1, (putV y r z).2) := by
  have hi : (kindV x s).items = x.items := by unfold kindV; split <;> rfl
  have hf := (fit_of hok).kindV s
  have hl : ¬ s.1 > (kindV x s).items.length := by rw [hi]; exact h2
  obtain ⟨-, -, h3, h4, -⟩ := room_items hf h1 hs hl nullV
  refine ⟨hf, by rw [hi]; have := nodes_items x; have := length_le_nodesL x.items; omega, (roomV (kindV x s) s).items.getD (whereV (kindV x s) s) nullV, ?_, ?_, ?_, ?_⟩
  · rw [List.getD_eq_getElem?_getD, List.getElem?_eq_getElem h4]; rfl
  · rw [h3, kindV_item (fit_of hok)]
    cases hit : itemV x s with
    | none => exact (by decide : nullV.ok = true)
    | some y => exact okItems hok y (item_mem hit)
  · rw [h3, kindV_item (fit_of hok)]
    cases hit : itemV x s with
    | none => exact (by decide : nullV.nodes ≤ 5000)
    | some y => have := V.nodes_mem (item_mem hit); have := nodes_items x; simp only [Option.getD_some]; omega
  · rw [putV, if_neg (by simpa using h1), if_neg hl]
theorem put_type8 {x z : V} {s : Stp} {r : List Stp} (h1 : ¬ (kindV x s).kind = holderS s) : (putV x (s :: r) z).2 = 8 := by rw [putV, if_pos h1]
theorem put_arg3 {x z : V} {s : Stp} {r : List Stp} (h1 : (kindV x s).kind = holderS s) (h2 : s.1 > x.items.length) : (putV x (s :: r) z).2 = 3 := by
  have hi : (kindV x s).items = x.items := by unfold kindV; split <;> rfl
  rw [putV, if_neg (by simpa using h1), if_pos (by rw [hi]; exact h2)]
set_option maxRecDepth 100000 in
set_option maxHeartbeats 8000000 in
theorem put_step (x z : V) (i : Int) (k : ByteArray) (r : List Stp) (N g : Nat) (t : TypeId) (pre post : List Value) (vI vK zI zK : Value) (D Dz : Nat → Prop) (W : World) (A : Option Addr) (cp : Nat)
    (h : Node W N g t pre post x vI vK D) (hz : ZIn W N g z zI zK D Dz) (hok : x.ok = true) (h60 : x.nodes ≤ 5000) (hs : stepB (i, k) = true) (hp : PLies W N A cp ((i, k) :: r))
    (ih : ∀ y : V, y.ok = true → y.nodes ≤ 5000 → ∀ (W : World) (g : Nat) (t : TypeId) (pre post : List Value) (vI vK : Value) (D : Nat → Prop) (A : Option Addr) (cp : Nat), Node W N g t pre post y vI vK D → ZIn W N g z zI zK D Dz → PLies W N A cp r →
      Calls Tryz.prog 18 #[.pointer (some ⟨g, pre.length, none⟩), .slice A r.length cp, .agg #[.int .i64 z.kind, .int .i64 z.int, .string z.text, zI, zK]] W (PutP (putV y r z) N g t pre post D Dz W)) :
    Calls Tryz.prog 18 #[.pointer (some ⟨g, pre.length, none⟩), .slice A (r.length + 1) cp, .agg #[.int .i64 z.kind, .int .i64 z.int, .string z.text, zI, zK]] W (PutP (putV x ((i, k) :: r) z) N g t pre post D Dz W) := by
  have hgW := h.row.lt
  obtain ⟨⟨ZA, zc, rfl⟩, ZK, zd, rfl⟩ := hz.tree.forms
  obtain ⟨hp1, hp2, hp3⟩ := hp
  obtain ⟨b, o, rfl, hb, hf⟩ : ∃ b o, A = some ⟨b, o, none⟩ ∧ b < N ∧ StepsFrom W ((i, k) :: r) b o := by
    rcases hp3 with h | h
    · simp at h
    · exact h
  have hcp : r.length + 1 ≤ cp := by simpa using hp1
  unfold maxLen at hp2
  obtain ⟨e0, e1, hks, hrest⟩ := hf
  have hNg : N ≤ g := h.base
  have HKS := Lib.hid hks
  have HPR := Lib.hid (show PLies W N (some ⟨b, o + 2, none⟩) (cp - 1) r from ⟨by omega, by unfold maxLen; omega, .inr ⟨b, o + 2, rfl, hb, hrest⟩⟩)
  have HT8 := Lib.hid (put_type8 (x := x) (z := z) (s := (i, k)) (r := r))
  have HA3 := Lib.hid (put_arg3 (x := x) (z := z) (s := (i, k)) (r := r))
  have HPL := Lib.hid (put_plain (z := z) (r := r) hok h60 hs)
  have HHOLD := Lib.hid (holder_any i k hs)
  have HNULL := Lib.hid ((fit_of hok).null)
  have HKV := Lib.hid (show kindV x (i, k) = if x.kind = 0 then .mk (holderS (i, k)) x.int x.text x.items x.keys else x from rfl)
  obtain ⟨q, hq⟩ : ∃ q, q = putV x ((i, k) :: r) z := ⟨_, rfl⟩
  obtain ⟨hd, hhd⟩ : ∃ hd, hd = holderS (i, k) := ⟨_, rfl⟩
  rw [← hq] at HT8 HA3 HPL ⊢
  rw [← hhd] at HT8 HA3 HPL HHOLD HKV
  have hd0 : ¬ hd = 0 := by rw [hhd, holderS]; split <;> omega
  have HHD := Lib.hid hhd
  obtain ⟨W1, hW1⟩ : ∃ W1, W1 = W.alloc (.cells #[.int .i64 z.kind, .int .i64 z.int, .string z.text, .slice ZA z.items.length zc, .slice ZK z.keys.length zd] 27) := ⟨_, rfl⟩
  have hb1 : Below W.heap.size W W1 := by rw [hW1]; exact below_al (Below.refl _ W) _
  have HW1 := Lib.hid hW1
  have HB1 := Lib.hid hb1
  have HX1 := Lib.hid (show BlockIs W1 W.heap.size 27 #[.int .i64 z.kind, .int .i64 z.int, .string z.text, .slice ZA z.items.length zc, .slice ZK z.keys.length zd] by rw [hW1]; exact BlockIs.new W _ _)
  have hz1 : W.heap.size < W1.heap.size := HX1.out.lt
  have e0' : W1.cell? ⟨b, o, none⟩ = some (.int .i64 i) := (bcell hb1 b o (by omega)).trans e0
  have e1' : W1.cell? ⟨b, o + 1, none⟩ = some (.string k) := (bcell hb1 b (o + 1) (by omega)).trans e1
  have HN1 := Lib.hid (h.on hb1)
  have HZ1 := Lib.hid (hz.on hb1)
  have HIH := Lib.hid ih
  have HDW := Lib.hid (show ∀ b, D b → b < W.heap.size from fun b hb => (h.low b hb).2)
  obtain ⟨A0, c0', K0, d0', rfl, rfl, hlie⟩ := h.lies
  clear ih hrest hp1 hp3 hks h hz hW1 hb1 e0 e1 hq hhd hok h60 hs hlie
  have hr0 : (0 : Int) < (r.length : Int) + 1 := by omega
  have hr1 : (1 : Int) ≤ (r.length : Int) + 1 := by omega
  have hr2 : (r.length : Int) + 1 ≤ cp := by omega
  have hr3 : (1 : Int) ≤ cp := by omega
  go_enter Tryz.func18, Tryz.ntmps18
  go_upto_region 1 with (fail)
  rw [← HW1.out]
  go_wp2_with fail
  refine (HHOLD.out W1).mono ?_
  rintro e w2 ⟨rfl, h2⟩
  have HN2 := Lib.hid (HN1.out.on h2)
  have HZ2 := Lib.hid (HZ1.out.on h2)
  have HB2 := Lib.hid (below_on HB1.out h2)
  have HX2 := Lib.hid (HX1.out.below h2 hz1)
  have hz2 := h2.size
  have e0 : w2.cell? ⟨b, o, none⟩ = some (.int .i64 i) := (bcell h2 b o (by omega)).trans e0'
  have e1 : w2.cell? ⟨b, o + 1, none⟩ = some (.string k) := (bcell h2 b (o + 1) (by omega)).trans e1'
  obtain ⟨c0, c1, c2, c3, c4⟩ := HN2.out.cells
  obtain ⟨f0, f1, f2, f3, f4, gl⟩ := HN2.out.frozen
  clear h2 e0' e1' HN1 HX1 HB1 HW1 HZ1 HHOLD
  have HKI := Lib.hid (show (kindV x (i, k)).items = x.items by unfold kindV; split <;> rfl)
  have HDN := Lib.hid (show ∀ b, D b → N ≤ b from fun b hb => (HN2.out.low b hb).1)
  by_cases h1 : (kindV x (i, k)).kind = hd
  · by_cases hi : i > x.items.length
    · have hq3 := HA3.out h1 hi
      have hi' : (x.items.length : Int) < i := hi
      clear HT8 HA3 HPL
      by_cases h0 : x.kind = 0
      · rw [h0] at c0
        go_wp2_with fail
        go_quiet (fail)
        go_wp2_with fail
        refine bodyPost_ret (v := .int .i64 3) (by simp [results, Tryz.results18, go_sem]) rfl ?_
        exact PutP.bad hq3 (by decide) (((Fr.of_below HB2.out g D).trans (Fr.set w2 g _ _ D) fun _ h => .inl h).trans (Fr.of_below (below_drewN (Below.refl _ _) _) g D) fun _ h => .inl h)
      · have hk : x.kind = hd := by rw [HKV.out, if_neg h0] at h1; exact h1
        rw [hk] at c0
        go_wp2_with fail
        go_quiet (fail)
        go_wp2_with fail
        refine bodyPost_ret (v := .int .i64 3) (by simp [results, Tryz.results18, go_sem]) rfl ?_
        exact PutP.bad hq3 (by decide) ((Fr.of_below HB2.out g D).trans (Fr.of_below (below_drewN (Below.refl _ _) _) g D) fun _ h => .inl h)
    · obtain ⟨hfit, h99, y, hy, hyok, hy60, hqe⟩ := HPL.out h1 (by omega)
      have HY := Lib.hid hy
      have HFIT := Lib.hid (And.intro hfit h99)
      have HYO := Lib.hid (And.intro hyok hy60)
      obtain ⟨qy, hqy⟩ : ∃ qy, qy = putV y r z := ⟨_, rfl⟩
      rw [← hqy] at hqe
      have HQE := Lib.hid hqe
      have HQY := Lib.hid hqy
      have hi' : i ≤ x.items.length := by omega
      have HI := Lib.hid hi
      have H1 := Lib.hid h1
      clear HT8 HA3 HPL hqe hqy hfit h99 hy hyok hy60 hi
      by_cases h0 : x.kind = 0
      focus
        have hkv : kindV x (i, k) = .mk hd x.int x.text x.items x.keys := by rw [HKV.out, if_pos h0]
        rw [h0] at c0
        clear h1
        go_wp2_with fail
        go_quiet (fail)
        obtain ⟨W4, hW4⟩ : ∃ W4, W4 = (w2.setCell ⟨g, pre.length, none⟩ (.int .i64 hd)).drewN nq := ⟨_, rfl⟩
        have hn3 := HN2.out.kind hd
        rw [← hkv] at hn3
        have HN4 := Lib.hid (show Node W4 N g t pre post (kindV x (i, k)) (.slice A0 x.items.length c0') (.slice K0 x.keys.length d0') D by rw [hW4]; exact hn3.on (below_drewN (Below.refl _ _) _))
        have hF3 : Fr w2 W4 g D := by rw [hW4]; exact (Fr.set w2 g _ _ D).trans (Fr.of_below (below_drewN (Below.refl _ _) _) g D) fun _ h => .inl h
      rotate_left
      focus
        have hkv : kindV x (i, k) = x := by rw [HKV.out, if_neg h0]
        have hk : x.kind = hd := by rw [hkv] at h1; exact h1
        rw [hk] at c0
        clear h1 hk
        go_wp2_with fail
        go_quiet (fail)
        obtain ⟨W4, hW4⟩ : ∃ W4, W4 = w2.drewN nq := ⟨_, rfl⟩
        have HN4 := Lib.hid (show Node W4 N g t pre post (kindV x (i, k)) (.slice A0 x.items.length c0') (.slice K0 x.keys.length d0') D by rw [hW4, hkv]; exact HN2.out.on (below_drewN (Below.refl _ _) _))
        have hF3 : Fr w2 W4 g D := by rw [hW4]; exact Fr.of_below (below_drewN (Below.refl _ _) _) g D
      all_goals
        have HF4 := Lib.hid ((Fr.of_below HB2.out g D).trans hF3 fun _ h => .inl h)
        have HZ4 := Lib.hid (HZ2.out.fr hF3 fun _ h => .inl h)
        have HX4 := Lib.hid (show BlockIs W4 W.heap.size 27 #[.int .i64 z.kind, .int .i64 z.int, .string z.text, .slice ZA z.items.length zc, .slice ZK z.keys.length zd] from HX2.out.to (hF3.block W.heap.size (by omega) (by omega) (fun e => by have := HDW.out _ e; omega)))
        have hlow : ∀ b', b' < N → W4.heap[b']? = w2.heap[b']? := fun b' hb' => hF3.block b' (by omega) (by omega) (fun e => by have := HDN.out _ e; omega)
        have e0' : W4.cell? ⟨b, o, none⟩ = some (.int .i64 i) := (World.cell?_of_block (hlow b hb)).trans e0
        have e1' : W4.cell? ⟨b, o + 1, none⟩ = some (.string k) := (World.cell?_of_block (hlow b hb)).trans e1
        have hz4 : W.heap.size < W4.heap.size := HX4.out.lt
        have HROOM := Lib.hid (room_any (kindV x (i, k)) i k N g t pre post _ _ D W4.drew (HN4.out.on (Below.refl _ W4).drew) HFIT.out.1 HFIT.out.2 (H1.out.trans HHD.out) (by rw [HKI.out]; have := HI.out; omega) HKS.out)
        obtain ⟨n, hn⟩ : ∃ n, n = whereV (kindV x (i, k)) (i, k) := ⟨_, rfl⟩
        obtain ⟨x2, hx2⟩ : ∃ x2, x2 = roomV (kindV x (i, k)) (i, k) := ⟨_, rfl⟩
        rw [← hn, ← hx2] at HROOM HQE HY
        have HINN := Lib.hid (fun W5 gI m c5 vK5 D5 A' cp' hN hz hp => put_inner (W := W5) (gI := gI) (m := m) (c := c5) (vK := vK5) (D := D5) (A := A') (cp := cp') (g := g) (t := t) (pre := pre) (post := post) (N := N) (Dz := Dz) (z := z) (zI := .slice ZA z.items.length zc) (zK := .slice ZK z.keys.length zd) (r := r) (n := n) (q := qy) hN HY.out hz hp (by rw [HQY.out]; exact HIH.out y HYO.out.1 HYO.out.2))
        have HPR4 := Lib.hid (HPR.out.low (W' := W4) (fun b' hb' => HF4.out.block b' (by omega) (by omega) (fun e => by have := HDN.out _ e; omega)))
        rw [← hW4]
        clear hn hx2 hF3 hlow HN2 HZ2 HB2 HX2 HNULL HKV HIH HY HFIT HYO HQY HI H1 HHD HKS HPR e0 e1 c0 c1 c2 c3 c4 f0 f1 f2 f3 f4 gl hW4 h0 hkv
        obtain ⟨c0, c1, c2, c3, c4⟩ := HN4.out.cells
        obtain ⟨f0, f1, f2, f3, f4, gl⟩ := HN4.out.frozen
        obtain ⟨x0, x1, x2', x3, x4⟩ := five_of HX4.out
        go_wp2_with fail
        by_cases hc1 : cp = 1
        · have hrn : r = [] := by
            cases r with
            | nil => rfl
            | cons y q => simp at hcp; omega
          subst hrn hc1
          have HPR1 := Lib.hid (show PLies W4 N (some ⟨b, o, none⟩) 0 ([] : List Stp) from ⟨Nat.zero_le _, by simp [maxLen], .inl rfl⟩)
          have HINN1 := Lib.hid (fun W5 gI m c5 vK5 D5 A' cp' hN hz (hp : PLies W5 N A' cp' []) => show Calls Tryz.prog 18 #[.pointer (some ⟨gI, n * 5, none⟩), .slice A' 0 cp', .agg #[.int .i64 z.kind, .int .i64 z.int, .string z.text, .slice ZA z.items.length zc, .slice ZK z.keys.length zd]] W5 (PutP (setIt x2 n qy.1, qy.2) N g t pre post D5 Dz W5) from HINN.out W5 gI m c5 vK5 D5 A' cp' hN hz hp)
          clear HINN HPR4
          go_region_with (first
            | (go_at_call 32; refine HROOM.out.mono ?_; rintro e w5 ⟨gI, c5, vK5, D5, rfl, hN5, hD5, hF5⟩; have hx5 := HX4.out.to (hF5.block W.heap.size hz4 (by omega) (fun e => by have := HDW.out _ e; omega)); obtain ⟨y0, y1, y2, y3, y4⟩ := five_of hx5; have HM5 := Lib.hid (And.intro hN5 (And.intro hD5 hF5)); clear hN5 hD5 hF5)
            | (go_at_call 18; refine (HINN1.out _ gI _ _ _ _ _ _ HM5.out.1 ((HZ4.out.on (Below.refl _ W4).drew).fr HM5.out.2.2 HM5.out.2.1) (HPR1.out.low (fun b' hb' => HM5.out.2.2.block b' (by show b' < W4.heap.size; omega) (by omega) (fun e => by have := HDN.out _ e; omega)))).mono ?_; rintro e w6 ⟨rfl, h6⟩))
          all_goals
            have HPO := Lib.hid (show PutP (setIt x2 n qy.1, qy.2) N g t pre post D Dz W (.returned (.int .i64 qy.2)) w6 from PutP.trans (D1 := D5) (W1 := w5) ⟨rfl, h6⟩ (HF4.out.trans ((Fr.of_below (Below.refl _ W4).drew g D).trans HM5.out.2.2 fun _ h => .inl h) fun _ h => .inl h) (fun b hb => (HM5.out.2.1 b hb).elim .inl (fun h => .inr (by have : W4.drew.heap.size = W4.heap.size := rfl; omega))))
            clear h6
            rw [← HQE.out] at HPO
            clear y0 y1 y2 y3 y4 hx5 c0 c1 c2 c3 c4 f0 f1 f2 f3 f4 x0 x1 x2' x3 x4
            go_wp2_with fail
            refine bodyPost_ret (v := .int .i64 qy.2) (by simp [results, Tryz.results18, go_sem]) rfl ?_
            exact HPO.out
        · go_region_with (first
            | (go_at_call 32; refine HROOM.out.mono ?_; rintro e w5 ⟨gI, c5, vK5, D5, rfl, hN5, hD5, hF5⟩; have hx5 := HX4.out.to (hF5.block W.heap.size hz4 (by omega) (fun e => by have := HDW.out _ e; omega)); obtain ⟨y0, y1, y2, y3, y4⟩ := five_of hx5; have HM5 := Lib.hid (And.intro hN5 (And.intro hD5 hF5)); clear hN5 hD5 hF5)
            | (go_at_call 18; refine (HINN.out _ gI _ _ _ _ _ _ HM5.out.1 ((HZ4.out.on (Below.refl _ W4).drew).fr HM5.out.2.2 HM5.out.2.1) (HPR4.out.low (fun b' hb' => HM5.out.2.2.block b' (by show b' < W4.heap.size; omega) (by omega) (fun e => by have := HDN.out _ e; omega)))).mono ?_; rintro e w6 ⟨rfl, h6⟩))
          all_goals
            have HPO := Lib.hid (show PutP (setIt x2 n qy.1, qy.2) N g t pre post D Dz W (.returned (.int .i64 qy.2)) w6 from PutP.trans (D1 := D5) (W1 := w5) ⟨rfl, h6⟩ (HF4.out.trans ((Fr.of_below (Below.refl _ W4).drew g D).trans HM5.out.2.2 fun _ h => .inl h) fun _ h => .inl h) (fun b hb => (HM5.out.2.1 b hb).elim .inl (fun h => .inr (by have : W4.drew.heap.size = W4.heap.size := rfl; omega))))
            clear h6
            rw [← HQE.out] at HPO
            clear y0 y1 y2 y3 y4 hx5 c0 c1 c2 c3 c4 f0 f1 f2 f3 f4 x0 x1 x2' x3 x4
            go_wp2_with fail
            refine bodyPost_ret (v := .int .i64 qy.2) (by simp [results, Tryz.results18, go_sem]) rfl ?_
            exact HPO.out
  · have hq8 := HT8.out h1
    have h0 : ¬ x.kind = 0 := fun e => h1 (by rw [HKV.out, if_pos e]; rfl)
    have hk : ¬ x.kind = hd := by rw [HKV.out, if_neg h0] at h1; exact h1
    clear HT8 HA3 HPL h1
    go_wp2_with fail
    refine bodyPost_ret (v := .int .i64 8) (by simp [results, Tryz.results18, go_sem]) rfl ?_
    exact PutP.bad hq8 (by decide) (Fr.of_below HB2.out g D)
open Go.RowKit
/-- A value laid at a path. -/
theorem put_any (z : V) (N : Nat) (zI zK : Value) (Dz : Nat → Prop) : ∀ (p : List Stp), p.all stepB = true → ∀ (x : V), x.ok = true → x.nodes ≤ 5000 → ∀ (W : World) (g : Nat) (t : TypeId) (pre post : List Value) (vI vK : Value) (D : Nat → Prop) (A : Option Addr) (cp : Nat), Node W N g t pre post x vI vK D → ZIn W N g z zI zK D Dz → PLies W N A cp p →
    Calls Tryz.prog 18 #[.pointer (some ⟨g, pre.length, none⟩), .slice A p.length cp, .agg #[.int .i64 z.kind, .int .i64 z.int, .string z.text, zI, zK]] W (PutP (putV x p z) N g t pre post D Dz W)
  | [], _, x, _, _, W, g, t, pre, post, vI, vK, D, A, cp, h, hz, _ => put_end x z N g t pre post vI vK zI zK D Dz W A cp h hz
  | (i, k) :: r, hp, x, hok, h60, W, g, t, pre, post, vI, vK, D, A, cp, h, hz, hl => by
    rw [List.all_cons, Bool.and_eq_true] at hp
    exact put_step x z i k r N g t pre post vI vK zI zK D Dz W A cp h hz hok h60 hp.1 hl fun y hy1 hy2 => put_any z N zI zK Dz r hp.2 y hy1 hy2
def PutAns (q : V × Int) (w : World) (e : Ending) (w' : World) : Prop := ∃ A c K d, e = .returned (.tuple #[aggOf q.1 A c K d, .int .i64 q.2]) ∧ Lies w' w'.heap.size q.1 A c K d ∧ Below w.heap.size w w'
section
variable {w w3 w4 W W' : World} {N g c d : Nat} {x y : V} {vI vK xI xK : Value} {D : Nat → Prop} {c0 c1 : Array Value} {t : TypeId} {A K : Option Addr} {u0 u1 u2 u3 u4 : Value}
theorem PB.fr (h : PB w c0 c1 W) (hb : Below (w.heap.size + 3) W W') : PB w c0 c1 W' :=
  ⟨h.old.trans ⟨hb.os, hb.tape, hb.output, hb.size, fun b hlt => hb.block b (by omega)⟩, h.bv.below hb (by omega), h.bx.below hb (by omega), h.br.below hb (by omega)⟩
theorem PutAns.bad (r : Int) (h : PB w c0 c1 W) : PutAns (nullV, r) w (.returned (.tuple #[aggOf (leaf 0 0 ⟨#[]⟩) none 0 none 0, .int .i64 r])) (put5 W (w.heap.size + 2) 0 u0 u1 u2 u3 u4) := ⟨none, 0, none, 0, rfl, leaf_lies _ _ 0 0 (by decide), h.ends⟩
theorem PutAns.good (h : PB w c0 c1 W) (hn : Node W (w.heap.size + 3) g t [] [] y (.slice A y.items.length c) (.slice K y.keys.length d) D) : PutAns (y, 0) w (.returned (.tuple #[aggOf y A c K d, .int .i64 0])) (put5 W (w.heap.size + 2) 0 u0 u1 u2 u3 u4) := by
  have hs := put5_size W (w.heap.size + 2) 0 u0 u1 u2 u3 u4
  have ht := hn.tree.keep (w' := put5 W (w.heap.size + 2) 0 u0 u1 u2 u3 u4) y (fun b hb => put5_heap W (w.heap.size + 2) 0 u0 u1 u2 u3 u4 (by have := (hn.low b hb).1; omega)) (fun _ h => h)
  obtain ⟨A', c', K', d', e1, e2, hl⟩ := ht.lies (B := (put5 W (w.heap.size + 2) 0 u0 u1 u2 u3 u4).heap.size) y (fun b hb => by rw [hs]; exact (hn.low b hb).2)
  cases e1
  cases e2
  exact ⟨A, c, K, d, rfl, hl, h.ends⟩
theorem PLies.wider {p : List Stp} {cp N' : Nat} (h : PLies W N A cp p) (hN : N ≤ N') : PLies W N' A cp p := by
  obtain ⟨h1, h2, h3⟩ := h
  refine ⟨h1, h2, h3.imp id ?_⟩
  rintro ⟨b, o, hA, hlt, hf⟩
  exact ⟨b, o, hA, by omega, hf⟩
end
open Go.RowKit Go.Shelf
attribute [local go_sem] Oper.semAt_some
/-- Leaf by leaf the same, so far. -/
def SameUpto (q l : List Lf) : Prop := q.length ≤ l.length ∧ ∀ (j : Nat) (x y : Lf), q[j]? = some x → l[j]? = some y → sameL x y = true
theorem SameUpto.more {q l : List Lf} {x y : Lf} (h : SameUpto q l) (hy : l[q.length]? = some y) (hs : sameL x y = true) : SameUpto (q ++ [x]) l := by
  refine ⟨by have := (List.getElem?_eq_some_iff.1 hy).1; simp; omega, fun j a b ha hb => ?_⟩
  by_cases hj : j < q.length
  · rw [List.getElem?_append_left hj] at ha
    exact h.2 j a b ha hb
  · have hj' : j = q.length := by
      have := (List.getElem?_eq_some_iff.1 ha).1
      simp at this; omega
    subst hj'
    rw [List.getElem?_append_right (Nat.le_refl _), Nat.sub_self] at ha
    cases ha
    rw [hy] at hb
    cases hb
    exact hs
theorem SameUpto.all {q l : List Lf} (h : SameUpto q l) : sameLs q l = (q.length == l.length) := by
  by_cases e : q.length = l.length
  · rw [sameLs_all e h.2, e, BEq.rfl]
  · have : sameLs q l = false := by
      cases hs : sameLs q l
      · rfl
      · exact absurd (sameLs_len hs) e
    rw [this, eq_comm, beq_eq_false_iff_ne]
    exact e
/-- Somewhere they differ. -/
def Differ (q l : List Lf) : Prop := l.length < q.length ∨ ∃ (j : Nat) (x y : Lf), q[j]? = some x ∧ l[j]? = some y ∧ sameL x y = false
theorem Differ.not {q xs l : List Lf} (h : Differ q l) (hq : q <+: xs) : sameLs xs l = false := by
  rcases h with h | ⟨j, x, y, h1, h2, h3⟩
  · cases hs : sameLs xs l
    · rfl
    · have := sameLs_len hs
      have := hq.length_le
      omega
  · obtain ⟨r, rfl⟩ := hq
    exact sameLs_ne (by rw [List.getElem?_append_left (List.getElem?_eq_some_iff.1 h1).1]; exact h1) h2 h3
/-- How far leaves are compared. -/
structure LCmp (B L : Nat) (w : World) (l : List Lf) (A : Option Addr) (c : Nat) (U : Nat → Prop) (pre : List Lf) (W : World) : Prop where
  old : Below B w W
  hl : BlockIs W (L + 1) 22 #[.slice A l.length c]
  hr : BlockIs W (L + 2) 4 #[.bool false]
  hn : BlockIs W (L + 3) 3 #[.int .i64 pre.length]
  so : SameUpto pre l
  us : ∀ b, U b ↔ (b < B ∨ b = L + 1 ∨ b = L + 2 ∨ b = L + 3)
theorem LCmp.coll {B L : Nat} {w : World} {l : List Lf} {A : Option Addr} {c : Nat} (hB : B ≤ L) (hL : L = w.heap.size) : Collects (LCmp B L w l A c) := by
  refine ⟨fun U pre W h b hb => ?_, fun U pre W W' X h hX hd => ?_⟩
  · have h1 := h.hl.lt
    have h2 := h.hr.lt
    have h3 := h.hn.lt
    rcases (h.us b).1 hb with h | h | h | h <;> omega
  · have hs := h.old.size
    exact ⟨h.old.trans (hX.to_below (fun b hb => by
        rcases Nat.lt_or_ge b B with hlt | hge
        · exact absurd hb (hd b ((h.us b).2 (.inl hlt)))
        · exact hge) (by omega)), h.hl.to (hX.block _ h.hl.lt (hd _ ((h.us _).2 (.inr (.inl rfl))))), h.hr.to (hX.block _ h.hr.lt (hd _ ((h.us _).2 (.inr (.inr (.inl rfl)))))), h.hn.to (hX.block _ h.hn.lt (hd _ ((h.us _).2 (.inr (.inr (.inr rfl)))))), h.so, h.us⟩
def LCmpX (B L : Nat) (w : World) (l : List Lf) (pre : List Lf) (W : World) : Prop := BlockIs W (L + 2) 4 #[.bool false] ∧ Below B w W ∧ Differ pre l
theorem But.store {W X : World} {l : Nat} {v : Value} (h : Below W.heap.size W X) : But (fun b => b = l) W (X.setCell ⟨l, 0, none⟩ v) :=
  ((But.below (X := fun _ => False) h).trans (But.grown (grownBy_setCell' X l v))).wider fun _ _ hx => hx.elim False.elim (fun e => Option.some.inj e)
theorem results_has (tmps : Array Value) (W : World) (b : Nat) (r : Bool) (hp : tmps.getD 4 undef = .pointer (some ⟨b, 0, none⟩)) (hc : W.cell? ⟨b, 0, none⟩ = some (.bool r)) :
    (results Tryz.f20 tmps).run Tryz.prog W = .ok (.bool r) W := by
  rw [Array.getD_eq_getD_getElem?] at hp
  simp [results, Tryz.results20, go_sem, hp, hc]
/-- How it ends, behind the loop. -/
theorem has_end {W : World} {tmps : Array Value} {b D B L : Nat} {r r' : Bool} {w : World} (hp : tmps.getD 4 undef = .pointer (some ⟨b, 0, none⟩)) (hc : W.cell? ⟨b, 0, none⟩ = some (.bool r)) (hne : b ≠ D) (hK : W.heap[D]? = some (.deferred (some []))) (hr : r' = r) (hBD : B ≤ D) (hLD : L ≤ D) (hb : Below B w W) (hl : r = true → Below L w W) (hsB : B ≤ W.heap.size) (hsL : L ≤ W.heap.size) (n0 : Nat) :
    bodyPostM Fence.wide n0 Tryz.prog Tryz.f20 (fun e w' => e = .returned (.bool r') ∧ Below B w w' ∧ (r' = true → Below L w w')) .ret { tmps := tmps, defers := [{ target := .collected D, args := #[] }] } W := by
  subst hr
  refine ⟨by simp, .inl ⟨_, _, rfl, run_takeDeferred hK, ?_⟩⟩
  refine ⟨_, results_has _ _ b r' hp ((World.cell?_of_block (World.putObj_heap_other hne)).trans hc), rfl, hb.trans ((But.put W D _).to_below (fun b' e => by omega) hsB), fun e => (hl e).trans ((But.put W D _).to_below (fun b' e => by omega) hsL)⟩
section
variable {B : Nat} {w W X : World} {l : List Lf} {A : Option Addr} {c : Nat} {U : Nat → Prop} {pre : List Lf} {x : Lf}
/-- A round that goes on. -/
theorem LCmp.next (h : LCmp B w.heap.size w l A c U pre W) (hB : B ≤ w.heap.size) (hX : Below W.heap.size W X) (hso : SameUpto (pre ++ [x]) l) :
    LCmp B w.heap.size w l A c U (pre ++ [x]) (X.setCell ⟨w.heap.size + 3, 0, none⟩ (.int .i64 ((pre.length : Int) + 1))) ∧ But U W (X.setCell ⟨w.heap.size + 3, 0, none⟩ (.int .i64 ((pre.length : Int) + 1))) := by
  have hb : But (fun b => b = w.heap.size + 3) W (X.setCell ⟨w.heap.size + 3, 0, none⟩ (.int .i64 ((pre.length : Int) + 1))) := But.store hX
  have hs := h.old.size
  refine ⟨⟨h.old.trans (hb.to_below (fun b e => by omega) (by omega)), h.hl.to (hb.block _ h.hl.lt (by omega)), h.hr.to (hb.block _ h.hr.lt (by omega)), ?_, hso, h.us⟩, hb.wider fun b _ e => (h.us b).2 (.inr (.inr (.inr e)))⟩
  have := (h.hn.below hX h.hn.lt).set_ 0 (.int .i64 ((pre.length : Int) + 1))
  simpa using this
/-- A round that ends it. -/
theorem LCmp.stop (h : LCmp B w.heap.size w l A c U pre W) (hB : B ≤ w.heap.size) (hX : Below W.heap.size W X) (hd : Differ (pre ++ [x]) l) :
    LCmpX B w.heap.size w l (pre ++ [x]) (X.setCell ⟨w.heap.size + 2, 0, none⟩ (.bool false)) ∧ But U W (X.setCell ⟨w.heap.size + 2, 0, none⟩ (.bool false)) := by
  have hb : But (fun b => b = w.heap.size + 2) W (X.setCell ⟨w.heap.size + 2, 0, none⟩ (.bool false)) := But.store hX
  have hs := h.old.size
  refine ⟨⟨?_, h.old.trans (hb.to_below (fun b e => by omega) (by omega)), hd⟩, hb.wider fun b _ e => (h.us b).2 (.inr (.inr (.inl e)))⟩
  have := (h.hr.below hX h.hr.lt).set_ 0 (.bool false)
  simpa using this
end
set_option maxRecDepth 100000 in
set_option maxHeartbeats 2000000 in
theorem hasLeaves_in (n0 B : Nat) (x : V) (l : List Lf) (w : World) (A K : Option Addr) (c d : Nat) (Al : Option Addr) (cl : Nat) (h : LiesIn (fun b => B ≤ b ∧ b < w.heap.size) w x A c K d) (hB : B ≤ w.heap.size) (hl : LeafRow (fun b => b < B) w Al cl l) (hv : x.valid = true) :
    CallsIn Fence.wide n0 Tryz.prog 20 #[.agg #[.int .i64 x.kind, .int .i64 x.int, .string x.text, .slice A x.items.length c, .slice K x.keys.length d], .slice Al l.length cl] w fun e w' => e = .returned (.bool (sameLs (leavesV [] x) l)) ∧ Below B w w' ∧ (sameLs (leavesV [] x) l = true → Below w.heap.size w w') := by
  obtain ⟨hok, hn, hd⟩ := valid_deep hv
  obtain ⟨W1, hW1⟩ : ∃ W1, W1 = ((((w.alloc (.cells #[.int .i64 x.kind, .int .i64 x.int, .string x.text, .slice A x.items.length c, .slice K x.keys.length d] 27)).alloc (.cells #[.slice Al l.length cl] 22)).alloc (.cells #[.bool false] 4)).alloc (.cells #[.int .i64 0] 3)) := ⟨_, rfl⟩
  have hb1 : Below w.heap.size w W1 := by rw [hW1]; exact below_al (below_al (below_al (below_al (Below.refl _ w) _) _) _) _
  have hv1 : BlockIs W1 w.heap.size 27 #[.int .i64 x.kind, .int .i64 x.int, .string x.text, .slice A x.items.length c, .slice K x.keys.length d] := by rw [hW1]; exact (((BlockIs.new w _ _).alloc _).alloc _).alloc _
  have hl1 : BlockIs W1 (w.heap.size + 1) 22 #[.slice Al l.length cl] := by rw [hW1]; exact ((BlockIs.newAt _ _ _ (by simp)).alloc _).alloc _
  have hr1 : BlockIs W1 (w.heap.size + 2) 4 #[.bool false] := by rw [hW1]; exact (BlockIs.newAt _ _ _ (by simp)).alloc _
  have hn1 : BlockIs W1 (w.heap.size + 3) 3 #[.int .i64 0] := by rw [hW1]; exact BlockIs.newAt _ _ _ (by simp)
  have hs1 : W1.heap.size = w.heap.size + 4 := by rw [hW1]; simp
  have hdd : ∀ k : Nat, (Fence.wide.depth.isSome = true → 1 ≤ k) := fun k h => by cases h
  have HW := Lib.hid hW1
  have HV1 := Lib.hid hv1
  obtain ⟨v0, v1, v2, v3, v4⟩ := five_of hv1
  have vl := hv1.lt
  have HF := Lib.hid (And.intro h (And.intro hB (And.intro hl (And.intro hok (And.intro hn hd)))))
  have H1 := Lib.hid (And.intro hb1 (And.intro hl1 (And.intro hr1 (And.intro hn1 hs1))))
  clear hb1 hv1 hl1 hr1 hn1 hs1 hW1 h hB hl hok hn hd
  refine callsIn_of_wp_marks Tryz.func20 rfl trivial ?_
  simp only [Tryz.ntmps20, List.size_toArray, List.length_cons, List.length_nil, Nat.reduceAdd, Nat.reduceSub, Array.replicate_succ, Array.replicate_zero, List.push_toArray, List.append_toArray, List.nil_append, List.cons_append]
  gi_upto_region 2 with (fail)
  simp only [Nat.add_assoc, Nat.reduceAdd]
  rw [← HW.out]
  gi_wp2_with (refine ⟨trivial, hdd _, ?_⟩; gi_at_call 33; refine (callsIn_wide.2 (leavesF_any _ _ _ _ _ _)).mono ?_; rintro e w2 ⟨rfl, hw2⟩)
  obtain ⟨hb1, hl1, hr1, hn1, hs1⟩ := H1.out
  have h12 : Below W1.heap.size W1 w2 := by rw [hw2]; exact below_al (Below.refl _ W1) _
  have hv2 : BlockIs w2 W1.heap.size 27 #[.int .i64 x.kind, .int .i64 x.int, .string x.text, .slice A x.items.length c, .slice K x.keys.length d] := by rw [hw2]; exact BlockIs.new W1 _ _
  have hs2 : w2.heap.size = w.heap.size + 5 := by rw [hw2, World.size_alloc, hs1]
  have hwb : Below w.heap.size w w2 := below_on hb1 h12
  have HI0 := Lib.hid (show LCmp B w.heap.size w l Al cl (fun b => b < B ∨ b = w.heap.size + 1 ∨ b = w.heap.size + 2 ∨ b = w.heap.size + 3) [] w2 from ⟨hwb.mono HF.out.2.1, hl1.below h12 hl1.lt, hr1.below h12 hr1.lt, hn1.below h12 hn1.lt, ⟨Nat.zero_le _, fun j a b ha => by simp at ha⟩, fun _ => Iff.rfl⟩)
  have HS := Lib.hid (And.intro hv2 (And.intro hs2 (And.intro hwb hs1)))
  have hnl : (leavesV [] x).length ≤ 60 := Nat.le_trans (leavesV_length [] x) HF.out.2.2.2.2.1
  have HNL := Lib.hid hnl
  rw [← hw2]
  clear hb1 hl1 hr1 hn1 hs1 h12 hv2 hs2 hwb hw2 v0 v1 v2 v3 v4 vl H1 HV1 hnl HW
  refine range_leaves (gf := 50) (lb := #[.pointer (some ⟨W1.heap.size, 0, none⟩)]) rfl (enters_of Tryz.func50 (by kernel_rfl) rfl) (leavesV [] x) (fun b => b < B ∨ b = w.heap.size + 1 ∨ b = w.heap.size + 2 ∨ b = w.heap.size + 3) ?seq (LCmp B w.heap.size w l Al cl) (LCmpX B w.heap.size w l) (LCmp.coll HF.out.2.1 rfl) HI0.out ?keep
    (fun cs b => #[.agg #[.int .i64 x.kind, .int .i64 x.int, .string x.text, .slice A x.items.length c, .slice K x.keys.length d], .slice Al l.length cl, .pointer (some ⟨w.heap.size, 0, none⟩), .pointer (some ⟨w.heap.size + 1, 0, none⟩), .pointer (some ⟨w.heap.size + 2, 0, none⟩), .pointer (some ⟨w.heap.size + 3, 0, none⟩), .pointer (some ⟨b, 0, none⟩), .agg #[.int .i64 x.kind, .int .i64 x.int, .string x.text, .slice A x.items.length c, .slice K x.keys.length d], .func (.func 50) #[] #[.pointer (some ⟨W1.heap.size, 0, none⟩)], .agg cs.toArray, undef, undef, undef, undef, undef, undef, undef, undef, undef, undef, undef, undef, undef, undef, undef, undef, undef, undef, undef]) 47 ?assign ?body ?done ?stop
  case seq =>
    intro l' J Jx U W hJ hY hju hbw hU
    obtain ⟨hx0, hB, hl, hok, hn, hd⟩ := HF.out
    obtain ⟨hv2, hs2, hwb, hs1⟩ := HS.out
    have hsz := hbw.size
    have := leaves1_any (n0 - 1) l' x J Jx U (fun b => B ≤ b ∧ b < w.heap.size) W A K c d W1.heap.size hJ hY hju (fun b hb => ⟨by omega, fun hu => by rcases hU b hu with h | h <;> omega⟩) (LiesIn.keep (fun b o hb => (bcell hbw b o (by omega)).trans (bcell hwb b o hb.2)) (fun _ h => h) x hx0) hok (by omega) (by omega) (hv2.below hbw hv2.lt)
    simpa using this
  case keep =>
    intro pre W l' o h hl'
    obtain ⟨h1, h2, h3⟩ := h
    obtain ⟨hv2, hs2, hwb, hs1⟩ := HS.out
    have hB := HF.out.2.1
    have h2s := h2.size
    refine ⟨h1.to (World.putObj_heap_other (by omega)), h2.trans ((But.put W l' o).to_below (fun b hb => by omega) (by omega)), h3⟩
  case assign =>
    intro m l' D x1 cs W KK hleaf hK
    obtain ⟨Ap, cp, A2, c2, K2, d2, rfl, -, -⟩ := hleaf
    gi_wp2
    exact hK
  case body =>
    intro m l' U D pre x1 cs b W hI hlen hleaf hD hbx hnB
    obtain ⟨hx0, hB, hl, -, -, -⟩ := HF.out
    have hrow : LeafRow (fun b => b < B) W Al cl l := LeafRow.keep (fun b o hb => bcell hI.old b o hb) (fun _ h => h) hl
    have hmx := hl.2.1
    have hlc := hl.1
    obtain ⟨n, hnn⟩ : ∃ n, n = pre.length := ⟨_, rfl⟩
    obtain ⟨k, hk⟩ : ∃ k, k = l.length := ⟨_, rfl⟩
    have hle : n ≤ k := by rw [hnn, hk]; exact hI.so.1
    have hn6 : n ≤ 60 := by have := HNL.out; omega
    have hkm : k ≤ maxLen := by omega
    unfold maxLen at hkm hmx
    rw [← hk] at hlc
    have c3 : W.cell? ⟨w.heap.size + 3, 0, none⟩ = some (.int .i64 n) := by rw [hnn]; exact hI.hn.cell 0
    have c1 : W.cell? ⟨w.heap.size + 1, 0, none⟩ = some (.slice Al k cl) := by rw [hk]; exact hI.hl.cell 0
    have hleaf' := hleaf
    obtain ⟨Ap, cp, A2, c2, K2, d2, rfl, -, -⟩ := hleaf'
    obtain ⟨b0, b1, b2, b3, b4, b5⟩ : W.cell? ⟨b, 0, none⟩ = some (.slice Ap x1.1.length cp) ∧ W.cell? ⟨b, 1, none⟩ = some (.int .i64 x1.2.kind) ∧ W.cell? ⟨b, 2, none⟩ = some (.int .i64 x1.2.int) ∧ W.cell? ⟨b, 3, none⟩ = some (.string x1.2.text) ∧ W.cell? ⟨b, 4, none⟩ = some (.slice A2 x1.2.items.length c2) ∧ W.cell? ⟨b, 5, none⟩ = some (.slice K2 x1.2.keys.length d2) := ⟨hbx.cell 0, hbx.cell 1, hbx.cell 2, hbx.cell 3, hbx.cell 4, hbx.cell 5⟩
    have hbl := hbx.lt
    have l1 := hI.hl.lt
    have l2 := hI.hr.lt
    have l3 := hI.hn.lt
    have HK := Lib.hid (And.intro hI (And.intro hB (And.intro hnn hk)))
    have HFR : ∀ X, Below W.heap.size W X → (X.cell? ⟨w.heap.size + 2, 0, none⟩ = some (.bool false) ∧ X.frozen? ⟨w.heap.size + 2, 0, none⟩ = false ∧ X.cell? ⟨w.heap.size + 3, 0, none⟩ = some (.int .i64 n) ∧ X.frozen? ⟨w.heap.size + 3, 0, none⟩ = false ∧ w.heap.size + 2 < X.heap.size ∧ w.heap.size + 3 < X.heap.size) := fun X hX =>
      ⟨(bcell hX _ _ l2).trans (hI.hr.cell 0), (bfro hX _ _ l2).trans (hI.hr.frozen 0), (bcell hX _ _ l3).trans c3, (bfro hX _ _ l3).trans (hI.hn.frozen 0), by have := hX.size; omega, by have := hX.size; omega⟩
    have HFR := Lib.hid HFR
    by_cases hlt : n = k
    · have hdf : Differ (pre ++ [x1]) l := .inl (by rw [List.length_append, List.length_singleton]; omega)
      have hnk : ((n : Int) == (k : Int)) = true := by rw [hlt]; simp
      have hS : (fun X : World => X.cell? ⟨w.heap.size + 3, 0, none⟩ = some (.int .i64 n) ∧ X.cell? ⟨w.heap.size + 1, 0, none⟩ = some (.slice Al k cl)) W.drew := ⟨c3, c1⟩
      have HD := Lib.hid hdf
      have HQ := Lib.hid hS
      clear hI hB hl hrow hnn hk hleaf hD hbx hnB hlen c3 c1 b0 b1 b2 b3 b4 b5 hbl l1 l2 l3 hS hdf hlt hle
      gi_wp2_with fail
      refine region_round (fun X : World => X.cell? ⟨w.heap.size + 3, 0, none⟩ = some (.int .i64 n) ∧ X.cell? ⟨w.heap.size + 1, 0, none⟩ = some (.slice Al k cl)) (by kernel_rfl) (by kernel_rfl) (fun _ _ h => h) HQ.out (fun hH0 => ?_)
      refine wpAnyH_take (i := 0) (oi := { dst := some 10, op := Go.Op.load 3 (Go.Operand.tmp 5), type := 3, pos := "leaves.go:82", after := #[], guard := none }) (v := ?_) rfl (by kernel_rfl) (by kernel_rfl) (by kernel_rfl) (fun _ _ _ h => h) (Or.inl ⟨by rfl, ?_⟩) (by assumption) ?_
      rotate_left
      · (intro w hSw; (try dsimp only at hSw); go_simp; try with_reducible rfl)
      (try simp only [Act.put, List.setIfInBounds_toArray, List.set_cons_zero, List.set_cons_succ])
      refine wpAnyH_take (i := 1) (oi := { dst := some 11, op := Go.Op.load 22 (Go.Operand.tmp 3), type := 22, pos := "leaves.go:82", after := #[], guard := none }) (v := ?_) rfl (by kernel_rfl) (by kernel_rfl) (by kernel_rfl) (fun _ _ _ h => h) (Or.inl ⟨by rfl, ?_⟩) (by assumption) ?_
      rotate_left
      · (intro w hSw; (try dsimp only at hSw); go_simp; try with_reducible rfl)
      (try simp only [Act.put, List.setIfInBounds_toArray, List.set_cons_zero, List.set_cons_succ])
      refine wpAnyH_take (i := 2) (oi := { dst := some 12, op := Go.Op.call { callee := Go.Callee.builtin Go.Builtin.len, args := #[Go.Operand.tmp 11], argTypes := #[22] }, type := 3, pos := "leaves.go:82", after := #[{ on := 1, ground := Go.Ground.data }], guard := none }) (v := ?_) rfl (by kernel_rfl) (by kernel_rfl) (by kernel_rfl) (fun _ _ _ h => h) (Or.inl ⟨by rfl, ?_⟩) (by assumption) ?_
      rotate_left
      · (intro w hSw; (try dsimp only at hSw); go_simp; try with_reducible rfl)
      (try simp only [Act.put, List.setIfInBounds_toArray, List.set_cons_zero, List.set_cons_succ])
      refine wpAnyH_take (i := 3) (oi := { dst := some 13, op := Go.Op.binOp Go.BinOp.eql 3 (Go.Operand.tmp 10) (Go.Operand.tmp 12) 3, type := 4, pos := "leaves.go:82", after := #[{ on := 0, ground := Go.Ground.data }, { on := 2, ground := Go.Ground.data }], guard := none }) (v := ?_) rfl (by kernel_rfl) (by kernel_rfl) (by kernel_rfl) (fun _ _ _ h => h) (Or.inl ⟨by rfl, ?_⟩) (by assumption) ?_
      rotate_left
      · (intro w hSw; (try dsimp only at hSw); go_simp; try with_reducible rfl)
      (try simp only [Act.put, List.setIfInBounds_toArray, List.set_cons_zero, List.set_cons_succ])
      refine wpAnyH_take (i := 4) (oi := { dst := some 14, op := Go.Op.move (Go.Operand.tmp 13), type := 4, pos := "leaves.go:82", after := #[{ on := 3, ground := Go.Ground.data }], guard := none }) (v := ?_) rfl (by kernel_rfl) (by kernel_rfl) (by kernel_rfl) (fun _ _ _ h => h) (Or.inl ⟨by rfl, ?_⟩) (by assumption) ?_
      rotate_left
      · (intro w hSw; (try dsimp only at hSw); go_simp; try with_reducible rfl)
      (try simp only [Act.put, List.setIfInBounds_toArray, List.set_cons_zero, List.set_cons_succ])
      refine wpAnyH_take (i := 5) (oi := { dst := some 15, op := Go.Op.load 47 (Go.Operand.tmp 6), type := 47, pos := "leaves.go:82", after := #[{ on := 4, ground := Go.Ground.guard }], guard := some (4, false) }) (v := undef) rfl (by kernel_rfl) (by kernel_rfl) (by kernel_rfl) (fun _ _ _ h => h) (Or.inr ⟨by rfl, rfl⟩) (by assumption) ?_
      (try simp only [Act.put, List.setIfInBounds_toArray, List.set_cons_zero, List.set_cons_succ])
      refine wpAnyH_take (i := 6) (oi := { dst := some 16, op := Go.Op.load 22 (Go.Operand.tmp 3), type := 22, pos := "leaves.go:82", after := #[{ on := 4, ground := Go.Ground.guard }], guard := some (4, false) }) (v := undef) rfl (by kernel_rfl) (by kernel_rfl) (by kernel_rfl) (fun _ _ _ h => h) (Or.inr ⟨by rfl, rfl⟩) (by assumption) ?_
      (try simp only [Act.put, List.setIfInBounds_toArray, List.set_cons_zero, List.set_cons_succ])
      refine wpAnyH_take (i := 7) (oi := { dst := some 17, op := Go.Op.load 3 (Go.Operand.tmp 5), type := 3, pos := "leaves.go:82", after := #[{ on := 4, ground := Go.Ground.guard }], guard := some (4, false) }) (v := undef) rfl (by kernel_rfl) (by kernel_rfl) (by kernel_rfl) (fun _ _ _ h => h) (Or.inr ⟨by rfl, rfl⟩) (by assumption) ?_
      (try simp only [Act.put, List.setIfInBounds_toArray, List.set_cons_zero, List.set_cons_succ])
      refine wpAnyH_take (i := 8) (oi := { dst := some 18, op := Go.Op.indexAddr 22 (Go.Operand.tmp 16) (Go.Operand.tmp 17), type := 0, pos := "leaves.go:82", after := #[{ on := 6, ground := Go.Ground.data }, { on := 7, ground := Go.Ground.data }, { on := 4, ground := Go.Ground.guard }], guard := some (4, false) }) (v := undef) rfl (by kernel_rfl) (by kernel_rfl) (by kernel_rfl) (fun _ _ _ h => h) (Or.inr ⟨by rfl, rfl⟩) (by assumption) ?_
      (try simp only [Act.put, List.setIfInBounds_toArray, List.set_cons_zero, List.set_cons_succ])
      refine wpAnyH_take (i := 9) (oi := { dst := some 19, op := Go.Op.load 47 (Go.Operand.tmp 18), type := 47, pos := "leaves.go:82", after := #[{ on := 8, ground := Go.Ground.data }, { on := 4, ground := Go.Ground.guard }], guard := some (4, false) }) (v := undef) rfl (by kernel_rfl) (by kernel_rfl) (by kernel_rfl) (fun _ _ _ h => h) (Or.inr ⟨by rfl, rfl⟩) (by assumption) ?_
      (try simp only [Act.put, List.setIfInBounds_toArray, List.set_cons_zero, List.set_cons_succ])
      refine wpAnyH_take (i := 10) (oi := { dst := some 20, op := Go.Op.call { callee := Go.Callee.value (Go.Operand.func 34), args := #[Go.Operand.tmp 15, Go.Operand.tmp 19], argTypes := #[47, 47] }, type := 4, pos := "leaves.go:82", after := #[{ on := 5, ground := Go.Ground.data }, { on := 9, ground := Go.Ground.data }, { on := 4, ground := Go.Ground.chain }, { on := 4, ground := Go.Ground.guard }], guard := some (4, false) }) (v := undef) rfl (by kernel_rfl) (by kernel_rfl) (by kernel_rfl) (fun _ _ _ h => h) (Or.inr ⟨by rfl, rfl⟩) (by assumption) ?_
      (try simp only [Act.put, List.setIfInBounds_toArray, List.set_cons_zero, List.set_cons_succ])
      refine wpAnyH_take (i := 11) (oi := { dst := some 21, op := Go.Op.unOp Go.UnOp.not 4 (Go.Operand.tmp 20), type := 4, pos := "leaves.go:82", after := #[{ on := 10, ground := Go.Ground.data }, { on := 4, ground := Go.Ground.guard }], guard := some (4, false) }) (v := undef) rfl (by kernel_rfl) (by kernel_rfl) (by kernel_rfl) (fun _ _ _ h => h) (Or.inr ⟨by rfl, rfl⟩) (by assumption) ?_
      (try simp only [Act.put, List.setIfInBounds_toArray, List.set_cons_zero, List.set_cons_succ])
      refine wpAnyH_take (i := 12) (oi := { dst := some 22, op := Go.Op.pick (Go.Operand.tmp 14) (Go.Operand.const (Go.Value.bool true)) (Go.Operand.tmp 21), type := 4, pos := "leaves.go:82", after := #[{ on := 4, ground := Go.Ground.data }, { on := 11, ground := Go.Ground.data }], guard := none }) (v := ?_) rfl (by kernel_rfl) (by kernel_rfl) (by kernel_rfl) (fun _ _ _ h => h) (Or.inl ⟨by rfl, ?_⟩) (by assumption) ?_
      rotate_left
      · (intro w hSw; (try dsimp only at hSw); go_simp; try with_reducible rfl)
      (try simp only [Act.put, List.setIfInBounds_toArray, List.set_cons_zero, List.set_cons_succ])
      refine wpAnyH_done (by kernel_rfl) ?_ _
      obtain ⟨z0, z1, z2, z3, z4, z5⟩ := HFR.out W.drew (Below.drew (Below.refl _ W))
      gi_wp2_with fail
      exact HK.out.1.stop HK.out.2.1 (Below.drew (Below.refl _ W)) HD.out
    · obtain ⟨y, hy⟩ : ∃ y, l[n]? = some y := ⟨_, List.getElem?_eq_getElem (by omega)⟩
      obtain ⟨g, o, Aq, cq, A3, c4, K3, d3, rfl, hg, ⟨g0, g1, g2, g3, g4, g5⟩, hpq, hlq⟩ := hrow.at_ hy
      obtain ⟨r, hr⟩ : ∃ r, r = sameL x1 y := ⟨_, rfl⟩
      have hgl : g < W.heap.size := by have := hI.old.size; omega
      have HC := Lib.hid fun X (hX : Below W.heap.size W X) => show Calls Tryz.prog 34 #[.agg #[.slice Ap x1.1.length cp, .int .i64 x1.2.kind, .int .i64 x1.2.int, .string x1.2.text, .slice A2 x1.2.items.length c2, .slice K2 x1.2.keys.length d2], .agg #[.slice Aq y.1.length cq, .int .i64 y.2.kind, .int .i64 y.2.int, .string y.2.text, .slice A3 y.2.items.length c4, .slice K3 y.2.keys.length d3]] X fun e w' => e = .returned (.bool r) ∧ Below X.heap.size X w' from by
        rw [hr]
        exact sameLeaf_any x1 y X _ _ (hleaf.keep (fun b o hb => bcell hX b o (hD b hb).1) (fun b hb => by have := (hD b hb).1; have := hX.size; omega)) (LeafIn.keep (P := fun b => b < B) (fun b o hb => bcell hX b o (by have := hI.old.size; omega)) (fun b hb => by have := hI.old.size; have := hX.size; omega) ⟨Aq, cq, A3, c4, K3, d3, rfl, hpq, hlq⟩)
      have HP := Lib.hid fun X (hX : Below W.heap.size W X) => show (fun X : World => Hid (Below W.heap.size W X) ∧ (X.cell? ⟨w.heap.size + 3, 0, none⟩ = some (.int .i64 n) ∧ X.cell? ⟨w.heap.size + 1, 0, none⟩ = some (.slice (some ⟨g, o, none⟩) k cl)) ∧ (X.cell? ⟨b, 0, none⟩ = some (.slice Ap x1.1.length cp) ∧ X.cell? ⟨b, 1, none⟩ = some (.int .i64 x1.2.kind) ∧ X.cell? ⟨b, 2, none⟩ = some (.int .i64 x1.2.int) ∧ X.cell? ⟨b, 3, none⟩ = some (.string x1.2.text) ∧ X.cell? ⟨b, 4, none⟩ = some (.slice A2 x1.2.items.length c2) ∧ X.cell? ⟨b, 5, none⟩ = some (.slice K2 x1.2.keys.length d2)) ∧ (X.cell? ⟨g, o + n * 6, none⟩ = some (.slice Aq y.1.length cq) ∧ X.cell? ⟨g, o + n * 6 + 1, none⟩ = some (.int .i64 y.2.kind) ∧ X.cell? ⟨g, o + n * 6 + 2, none⟩ = some (.int .i64 y.2.int) ∧ X.cell? ⟨g, o + n * 6 + 3, none⟩ = some (.string y.2.text) ∧ X.cell? ⟨g, o + n * 6 + 4, none⟩ = some (.slice A3 y.2.items.length c4) ∧ X.cell? ⟨g, o + n * 6 + 5, none⟩ = some (.slice K3 y.2.keys.length d3))) X from
        ⟨Lib.hid hX, ⟨(bcell hX _ _ l3).trans c3, (bcell hX _ _ l1).trans c1⟩, ⟨(bcell hX _ _ hbl).trans b0, (bcell hX _ _ hbl).trans b1, (bcell hX _ _ hbl).trans b2, (bcell hX _ _ hbl).trans b3, (bcell hX _ _ hbl).trans b4, (bcell hX _ _ hbl).trans b5⟩, (bcell hX _ _ hgl).trans g0, (bcell hX _ _ hgl).trans g1, (bcell hX _ _ hgl).trans g2, (bcell hX _ _ hgl).trans g3, (bcell hX _ _ hgl).trans g4, (bcell hX _ _ hgl).trans g5⟩
      have HD := Lib.hid (show r = false → Differ (pre ++ [x1]) l from fun e => .inr ⟨n, x1, y, by rw [List.getElem?_append_right (by omega), ← hnn, Nat.sub_self]; rfl, hy, by rw [← hr, e]⟩)
      have HM := Lib.hid (show r = true → SameUpto (pre ++ [x1]) l from fun e => hI.so.more (by rw [← hnn]; exact hy) (by rw [← hr, e]))
      have hnk : ((n : Int) == (k : Int)) = false := by rw [beq_eq_false_iff_ne]; omega
      have hji : (n : Int) < k := by omega
      have hj0 : 0 ≤ (n : Int) := by omega
      clear hI hB hl hrow hnn hk hleaf hD hbx hnB hlen c3 c1 b0 b1 b2 b3 b4 b5 hbl l1 l2 l3 hlt hle hy hg g0 g1 g2 g3 g4 g5 hpq hlq hr hgl
      cases r
      · gi_wp2_with fail
        refine region_round (fun X : World => Hid (Below W.heap.size W X) ∧ (X.cell? ⟨w.heap.size + 3, 0, none⟩ = some (.int .i64 n) ∧ X.cell? ⟨w.heap.size + 1, 0, none⟩ = some (.slice (some ⟨g, o, none⟩) k cl)) ∧ (X.cell? ⟨b, 0, none⟩ = some (.slice Ap x1.1.length cp) ∧ X.cell? ⟨b, 1, none⟩ = some (.int .i64 x1.2.kind) ∧ X.cell? ⟨b, 2, none⟩ = some (.int .i64 x1.2.int) ∧ X.cell? ⟨b, 3, none⟩ = some (.string x1.2.text) ∧ X.cell? ⟨b, 4, none⟩ = some (.slice A2 x1.2.items.length c2) ∧ X.cell? ⟨b, 5, none⟩ = some (.slice K2 x1.2.keys.length d2)) ∧ (X.cell? ⟨g, o + n * 6, none⟩ = some (.slice Aq y.1.length cq) ∧ X.cell? ⟨g, o + n * 6 + 1, none⟩ = some (.int .i64 y.2.kind) ∧ X.cell? ⟨g, o + n * 6 + 2, none⟩ = some (.int .i64 y.2.int) ∧ X.cell? ⟨g, o + n * 6 + 3, none⟩ = some (.string y.2.text) ∧ X.cell? ⟨g, o + n * 6 + 4, none⟩ = some (.slice A3 y.2.items.length c4) ∧ X.cell? ⟨g, o + n * 6 + 5, none⟩ = some (.slice K3 y.2.keys.length d3))) (by kernel_rfl) (by kernel_rfl) (fun _ _ h => h) (HP.out _ (Below.drew (Below.refl _ W))) (fun hH0 => ?_)
        refine wpAnyH_take (i := 0) (oi := { dst := some 10, op := Go.Op.load 3 (Go.Operand.tmp 5), type := 3, pos := "leaves.go:82", after := #[], guard := none }) (v := ?_) rfl (by kernel_rfl) (by kernel_rfl) (by kernel_rfl) (fun _ _ _ h => h) (Or.inl ⟨by rfl, ?_⟩) (by assumption) ?_
        rotate_left
        · (intro w hSw; (try dsimp only at hSw); go_simp; try with_reducible rfl)
        (try simp only [Act.put, List.setIfInBounds_toArray, List.set_cons_zero, List.set_cons_succ])
        refine wpAnyH_take (i := 1) (oi := { dst := some 11, op := Go.Op.load 22 (Go.Operand.tmp 3), type := 22, pos := "leaves.go:82", after := #[], guard := none }) (v := ?_) rfl (by kernel_rfl) (by kernel_rfl) (by kernel_rfl) (fun _ _ _ h => h) (Or.inl ⟨by rfl, ?_⟩) (by assumption) ?_
        rotate_left
        · (intro w hSw; (try dsimp only at hSw); go_simp; try with_reducible rfl)
        (try simp only [Act.put, List.setIfInBounds_toArray, List.set_cons_zero, List.set_cons_succ])
        refine wpAnyH_take (i := 2) (oi := { dst := some 12, op := Go.Op.call { callee := Go.Callee.builtin Go.Builtin.len, args := #[Go.Operand.tmp 11], argTypes := #[22] }, type := 3, pos := "leaves.go:82", after := #[{ on := 1, ground := Go.Ground.data }], guard := none }) (v := ?_) rfl (by kernel_rfl) (by kernel_rfl) (by kernel_rfl) (fun _ _ _ h => h) (Or.inl ⟨by rfl, ?_⟩) (by assumption) ?_
        rotate_left
        · (intro w hSw; (try dsimp only at hSw); go_simp; try with_reducible rfl)
        (try simp only [Act.put, List.setIfInBounds_toArray, List.set_cons_zero, List.set_cons_succ])
        refine wpAnyH_take (i := 3) (oi := { dst := some 13, op := Go.Op.binOp Go.BinOp.eql 3 (Go.Operand.tmp 10) (Go.Operand.tmp 12) 3, type := 4, pos := "leaves.go:82", after := #[{ on := 0, ground := Go.Ground.data }, { on := 2, ground := Go.Ground.data }], guard := none }) (v := ?_) rfl (by kernel_rfl) (by kernel_rfl) (by kernel_rfl) (fun _ _ _ h => h) (Or.inl ⟨by rfl, ?_⟩) (by assumption) ?_
        rotate_left
        · (intro w hSw; (try dsimp only at hSw); go_simp; try with_reducible rfl)
        (try simp only [Act.put, List.setIfInBounds_toArray, List.set_cons_zero, List.set_cons_succ])
        refine wpAnyH_take (i := 4) (oi := { dst := some 14, op := Go.Op.move (Go.Operand.tmp 13), type := 4, pos := "leaves.go:82", after := #[{ on := 3, ground := Go.Ground.data }], guard := none }) (v := ?_) rfl (by kernel_rfl) (by kernel_rfl) (by kernel_rfl) (fun _ _ _ h => h) (Or.inl ⟨by rfl, ?_⟩) (by assumption) ?_
        rotate_left
        · (intro w hSw; (try dsimp only at hSw); go_simp; try with_reducible rfl)
        (try simp only [Act.put, List.setIfInBounds_toArray, List.set_cons_zero, List.set_cons_succ])
        refine wpAnyH_take (i := 5) (oi := { dst := some 15, op := Go.Op.load 47 (Go.Operand.tmp 6), type := 47, pos := "leaves.go:82", after := #[{ on := 4, ground := Go.Ground.guard }], guard := some (4, false) }) (v := ?_) rfl (by kernel_rfl) (by kernel_rfl) (by kernel_rfl) (fun _ _ _ h => h) (Or.inl ⟨by rfl, ?_⟩) (by assumption) ?_
        rotate_left
        · (intro w hSw; (try dsimp only at hSw); go_simp; try with_reducible rfl)
        (try simp only [Act.put, List.setIfInBounds_toArray, List.set_cons_zero, List.set_cons_succ])
        refine wpAnyH_take (i := 6) (oi := { dst := some 16, op := Go.Op.load 22 (Go.Operand.tmp 3), type := 22, pos := "leaves.go:82", after := #[{ on := 4, ground := Go.Ground.guard }], guard := some (4, false) }) (v := ?_) rfl (by kernel_rfl) (by kernel_rfl) (by kernel_rfl) (fun _ _ _ h => h) (Or.inl ⟨by rfl, ?_⟩) (by assumption) ?_
        rotate_left
        · (intro w hSw; (try dsimp only at hSw); go_simp; try with_reducible rfl)
        (try simp only [Act.put, List.setIfInBounds_toArray, List.set_cons_zero, List.set_cons_succ])
        refine wpAnyH_take (i := 7) (oi := { dst := some 17, op := Go.Op.load 3 (Go.Operand.tmp 5), type := 3, pos := "leaves.go:82", after := #[{ on := 4, ground := Go.Ground.guard }], guard := some (4, false) }) (v := ?_) rfl (by kernel_rfl) (by kernel_rfl) (by kernel_rfl) (fun _ _ _ h => h) (Or.inl ⟨by rfl, ?_⟩) (by assumption) ?_
        rotate_left
        · (intro w hSw; (try dsimp only at hSw); go_simp; try with_reducible rfl)
        (try simp only [Act.put, List.setIfInBounds_toArray, List.set_cons_zero, List.set_cons_succ])
        refine wpAnyH_take (i := 8) (oi := { dst := some 18, op := Go.Op.indexAddr 22 (Go.Operand.tmp 16) (Go.Operand.tmp 17), type := 0, pos := "leaves.go:82", after := #[{ on := 6, ground := Go.Ground.data }, { on := 7, ground := Go.Ground.data }, { on := 4, ground := Go.Ground.guard }], guard := some (4, false) }) (v := ?_) rfl (by kernel_rfl) (by kernel_rfl) (by kernel_rfl) (fun _ _ _ h => h) (Or.inl ⟨by rfl, ?_⟩) (by assumption) ?_
        rotate_left
        · (intro w hSw; (try dsimp only at hSw); go_simp; try with_reducible rfl)
        (try simp only [Act.put, List.setIfInBounds_toArray, List.set_cons_zero, List.set_cons_succ])
        refine wpAnyH_take (i := 9) (oi := { dst := some 19, op := Go.Op.load 47 (Go.Operand.tmp 18), type := 47, pos := "leaves.go:82", after := #[{ on := 8, ground := Go.Ground.data }, { on := 4, ground := Go.Ground.guard }], guard := some (4, false) }) (v := ?_) rfl (by kernel_rfl) (by kernel_rfl) (by kernel_rfl) (fun _ _ _ h => h) (Or.inl ⟨by rfl, ?_⟩) (by assumption) ?_
        rotate_left
        · (intro w hSw; (try dsimp only at hSw); go_simp; try with_reducible rfl)
        (try simp only [Act.put, List.setIfInBounds_toArray, List.set_cons_zero, List.set_cons_succ])
        refine wpAnyH_ready (rs := [10]) (by kernel_rfl) (by simp) ?_
        refine AllReadyH.cons (o := { dst := some 20, op := Go.Op.call { callee := Go.Callee.value (Go.Operand.func 34), args := #[Go.Operand.tmp 15, Go.Operand.tmp 19], argTypes := #[47, 47] }, type := 4, pos := "leaves.go:82", after := #[{ on := 5, ground := Go.Ground.data }, { on := 9, ground := Go.Ground.data }, { on := 4, ground := Go.Ground.chain }, { on := 4, ground := Go.Ground.guard }], guard := some (4, false) }) rfl (fun KK hK => ?_) (AllReadyH.nil)
        · go_simp
          refine (HC.out _ hH0.1.out).mono ?_
          rintro e X ⟨rfl, hX⟩
          have HX := Lib.hid (below_on hH0.1.out hX)
          clear hX
          (try go_wp2_with fail)
          refine hK.out _ _ (HP.out _ HX.out) (fun hH1 => ?_)
          clear hK KK
          (try simp only [Act.put, List.setIfInBounds_toArray, List.set_cons_zero, List.set_cons_succ])
          refine wpAnyH_take (i := 11) (oi := { dst := some 21, op := Go.Op.unOp Go.UnOp.not 4 (Go.Operand.tmp 20), type := 4, pos := "leaves.go:82", after := #[{ on := 10, ground := Go.Ground.data }, { on := 4, ground := Go.Ground.guard }], guard := some (4, false) }) (v := ?_) rfl (by kernel_rfl) (by kernel_rfl) (by kernel_rfl) (fun _ _ _ h => h) (Or.inl ⟨by rfl, ?_⟩) (by assumption) ?_
          rotate_left
          · (intro w hSw; (try dsimp only at hSw); go_simp; try with_reducible rfl)
          (try simp only [Act.put, List.setIfInBounds_toArray, List.set_cons_zero, List.set_cons_succ])
          refine wpAnyH_take (i := 12) (oi := { dst := some 22, op := Go.Op.pick (Go.Operand.tmp 14) (Go.Operand.const (Go.Value.bool true)) (Go.Operand.tmp 21), type := 4, pos := "leaves.go:82", after := #[{ on := 4, ground := Go.Ground.data }, { on := 11, ground := Go.Ground.data }], guard := none }) (v := ?_) rfl (by kernel_rfl) (by kernel_rfl) (by kernel_rfl) (fun _ _ _ h => h) (Or.inl ⟨by rfl, ?_⟩) (by assumption) ?_
          rotate_left
          · (intro w hSw; (try dsimp only at hSw); go_simp; try with_reducible rfl)
          (try simp only [Act.put, List.setIfInBounds_toArray, List.set_cons_zero, List.set_cons_succ])
          refine wpAnyH_done (by kernel_rfl) ?_ _
          obtain ⟨z0, z1, z2, z3, z4, z5⟩ := HFR.out X HX.out
          gi_wp2_with fail
          exact HK.out.1.stop HK.out.2.1 HX.out (HD.out trivial)
      · gi_wp2_with fail
        refine region_round (fun X : World => Hid (Below W.heap.size W X) ∧ (X.cell? ⟨w.heap.size + 3, 0, none⟩ = some (.int .i64 n) ∧ X.cell? ⟨w.heap.size + 1, 0, none⟩ = some (.slice (some ⟨g, o, none⟩) k cl)) ∧ (X.cell? ⟨b, 0, none⟩ = some (.slice Ap x1.1.length cp) ∧ X.cell? ⟨b, 1, none⟩ = some (.int .i64 x1.2.kind) ∧ X.cell? ⟨b, 2, none⟩ = some (.int .i64 x1.2.int) ∧ X.cell? ⟨b, 3, none⟩ = some (.string x1.2.text) ∧ X.cell? ⟨b, 4, none⟩ = some (.slice A2 x1.2.items.length c2) ∧ X.cell? ⟨b, 5, none⟩ = some (.slice K2 x1.2.keys.length d2)) ∧ (X.cell? ⟨g, o + n * 6, none⟩ = some (.slice Aq y.1.length cq) ∧ X.cell? ⟨g, o + n * 6 + 1, none⟩ = some (.int .i64 y.2.kind) ∧ X.cell? ⟨g, o + n * 6 + 2, none⟩ = some (.int .i64 y.2.int) ∧ X.cell? ⟨g, o + n * 6 + 3, none⟩ = some (.string y.2.text) ∧ X.cell? ⟨g, o + n * 6 + 4, none⟩ = some (.slice A3 y.2.items.length c4) ∧ X.cell? ⟨g, o + n * 6 + 5, none⟩ = some (.slice K3 y.2.keys.length d3))) (by kernel_rfl) (by kernel_rfl) (fun _ _ h => h) (HP.out _ (Below.drew (Below.refl _ W))) (fun hH0 => ?_)
        refine wpAnyH_take (i := 0) (oi := { dst := some 10, op := Go.Op.load 3 (Go.Operand.tmp 5), type := 3, pos := "leaves.go:82", after := #[], guard := none }) (v := ?_) rfl (by kernel_rfl) (by kernel_rfl) (by kernel_rfl) (fun _ _ _ h => h) (Or.inl ⟨by rfl, ?_⟩) (by assumption) ?_
        rotate_left
        · (intro w hSw; (try dsimp only at hSw); go_simp; try with_reducible rfl)
        (try simp only [Act.put, List.setIfInBounds_toArray, List.set_cons_zero, List.set_cons_succ])
        refine wpAnyH_take (i := 1) (oi := { dst := some 11, op := Go.Op.load 22 (Go.Operand.tmp 3), type := 22, pos := "leaves.go:82", after := #[], guard := none }) (v := ?_) rfl (by kernel_rfl) (by kernel_rfl) (by kernel_rfl) (fun _ _ _ h => h) (Or.inl ⟨by rfl, ?_⟩) (by assumption) ?_
        rotate_left
        · (intro w hSw; (try dsimp only at hSw); go_simp; try with_reducible rfl)
        (try simp only [Act.put, List.setIfInBounds_toArray, List.set_cons_zero, List.set_cons_succ])
        refine wpAnyH_take (i := 2) (oi := { dst := some 12, op := Go.Op.call { callee := Go.Callee.builtin Go.Builtin.len, args := #[Go.Operand.tmp 11], argTypes := #[22] }, type := 3, pos := "leaves.go:82", after := #[{ on := 1, ground := Go.Ground.data }], guard := none }) (v := ?_) rfl (by kernel_rfl) (by kernel_rfl) (by kernel_rfl) (fun _ _ _ h => h) (Or.inl ⟨by rfl, ?_⟩) (by assumption) ?_
        rotate_left
        · (intro w hSw; (try dsimp only at hSw); go_simp; try with_reducible rfl)
        (try simp only [Act.put, List.setIfInBounds_toArray, List.set_cons_zero, List.set_cons_succ])
        refine wpAnyH_take (i := 3) (oi := { dst := some 13, op := Go.Op.binOp Go.BinOp.eql 3 (Go.Operand.tmp 10) (Go.Operand.tmp 12) 3, type := 4, pos := "leaves.go:82", after := #[{ on := 0, ground := Go.Ground.data }, { on := 2, ground := Go.Ground.data }], guard := none }) (v := ?_) rfl (by kernel_rfl) (by kernel_rfl) (by kernel_rfl) (fun _ _ _ h => h) (Or.inl ⟨by rfl, ?_⟩) (by assumption) ?_
        rotate_left
        · (intro w hSw; (try dsimp only at hSw); go_simp; try with_reducible rfl)
        (try simp only [Act.put, List.setIfInBounds_toArray, List.set_cons_zero, List.set_cons_succ])
        refine wpAnyH_take (i := 4) (oi := { dst := some 14, op := Go.Op.move (Go.Operand.tmp 13), type := 4, pos := "leaves.go:82", after := #[{ on := 3, ground := Go.Ground.data }], guard := none }) (v := ?_) rfl (by kernel_rfl) (by kernel_rfl) (by kernel_rfl) (fun _ _ _ h => h) (Or.inl ⟨by rfl, ?_⟩) (by assumption) ?_
        rotate_left
        · (intro w hSw; (try dsimp only at hSw); go_simp; try with_reducible rfl)
        (try simp only [Act.put, List.setIfInBounds_toArray, List.set_cons_zero, List.set_cons_succ])
        refine wpAnyH_take (i := 5) (oi := { dst := some 15, op := Go.Op.load 47 (Go.Operand.tmp 6), type := 47, pos := "leaves.go:82", after := #[{ on := 4, ground := Go.Ground.guard }], guard := some (4, false) }) (v := ?_) rfl (by kernel_rfl) (by kernel_rfl) (by kernel_rfl) (fun _ _ _ h => h) (Or.inl ⟨by rfl, ?_⟩) (by assumption) ?_
        rotate_left
        · (intro w hSw; (try dsimp only at hSw); go_simp; try with_reducible rfl)
        (try simp only [Act.put, List.setIfInBounds_toArray, List.set_cons_zero, List.set_cons_succ])
        refine wpAnyH_take (i := 6) (oi := { dst := some 16, op := Go.Op.load 22 (Go.Operand.tmp 3), type := 22, pos := "leaves.go:82", after := #[{ on := 4, ground := Go.Ground.guard }], guard := some (4, false) }) (v := ?_) rfl (by kernel_rfl) (by kernel_rfl) (by kernel_rfl) (fun _ _ _ h => h) (Or.inl ⟨by rfl, ?_⟩) (by assumption) ?_
        rotate_left
        · (intro w hSw; (try dsimp only at hSw); go_simp; try with_reducible rfl)
        (try simp only [Act.put, List.setIfInBounds_toArray, List.set_cons_zero, List.set_cons_succ])
        refine wpAnyH_take (i := 7) (oi := { dst := some 17, op := Go.Op.load 3 (Go.Operand.tmp 5), type := 3, pos := "leaves.go:82", after := #[{ on := 4, ground := Go.Ground.guard }], guard := some (4, false) }) (v := ?_) rfl (by kernel_rfl) (by kernel_rfl) (by kernel_rfl) (fun _ _ _ h => h) (Or.inl ⟨by rfl, ?_⟩) (by assumption) ?_
        rotate_left
        · (intro w hSw; (try dsimp only at hSw); go_simp; try with_reducible rfl)
        (try simp only [Act.put, List.setIfInBounds_toArray, List.set_cons_zero, List.set_cons_succ])
        refine wpAnyH_take (i := 8) (oi := { dst := some 18, op := Go.Op.indexAddr 22 (Go.Operand.tmp 16) (Go.Operand.tmp 17), type := 0, pos := "leaves.go:82", after := #[{ on := 6, ground := Go.Ground.data }, { on := 7, ground := Go.Ground.data }, { on := 4, ground := Go.Ground.guard }], guard := some (4, false) }) (v := ?_) rfl (by kernel_rfl) (by kernel_rfl) (by kernel_rfl) (fun _ _ _ h => h) (Or.inl ⟨by rfl, ?_⟩) (by assumption) ?_
        rotate_left
        · (intro w hSw; (try dsimp only at hSw); go_simp; try with_reducible rfl)
        (try simp only [Act.put, List.setIfInBounds_toArray, List.set_cons_zero, List.set_cons_succ])
        refine wpAnyH_take (i := 9) (oi := { dst := some 19, op := Go.Op.load 47 (Go.Operand.tmp 18), type := 47, pos := "leaves.go:82", after := #[{ on := 8, ground := Go.Ground.data }, { on := 4, ground := Go.Ground.guard }], guard := some (4, false) }) (v := ?_) rfl (by kernel_rfl) (by kernel_rfl) (by kernel_rfl) (fun _ _ _ h => h) (Or.inl ⟨by rfl, ?_⟩) (by assumption) ?_
        rotate_left
        · (intro w hSw; (try dsimp only at hSw); go_simp; try with_reducible rfl)
        (try simp only [Act.put, List.setIfInBounds_toArray, List.set_cons_zero, List.set_cons_succ])
        refine wpAnyH_ready (rs := [10]) (by kernel_rfl) (by simp) ?_
        refine AllReadyH.cons (o := { dst := some 20, op := Go.Op.call { callee := Go.Callee.value (Go.Operand.func 34), args := #[Go.Operand.tmp 15, Go.Operand.tmp 19], argTypes := #[47, 47] }, type := 4, pos := "leaves.go:82", after := #[{ on := 5, ground := Go.Ground.data }, { on := 9, ground := Go.Ground.data }, { on := 4, ground := Go.Ground.chain }, { on := 4, ground := Go.Ground.guard }], guard := some (4, false) }) rfl (fun KK hK => ?_) (AllReadyH.nil)
        · go_simp
          refine (HC.out _ hH0.1.out).mono ?_
          rintro e X ⟨rfl, hX⟩
          have HX := Lib.hid (below_on hH0.1.out hX)
          clear hX
          (try go_wp2_with fail)
          refine hK.out _ _ (HP.out _ HX.out) (fun hH1 => ?_)
          clear hK KK
          (try simp only [Act.put, List.setIfInBounds_toArray, List.set_cons_zero, List.set_cons_succ])
          refine wpAnyH_take (i := 11) (oi := { dst := some 21, op := Go.Op.unOp Go.UnOp.not 4 (Go.Operand.tmp 20), type := 4, pos := "leaves.go:82", after := #[{ on := 10, ground := Go.Ground.data }, { on := 4, ground := Go.Ground.guard }], guard := some (4, false) }) (v := ?_) rfl (by kernel_rfl) (by kernel_rfl) (by kernel_rfl) (fun _ _ _ h => h) (Or.inl ⟨by rfl, ?_⟩) (by assumption) ?_
          rotate_left
          · (intro w hSw; (try dsimp only at hSw); go_simp; try with_reducible rfl)
          (try simp only [Act.put, List.setIfInBounds_toArray, List.set_cons_zero, List.set_cons_succ])
          refine wpAnyH_take (i := 12) (oi := { dst := some 22, op := Go.Op.pick (Go.Operand.tmp 14) (Go.Operand.const (Go.Value.bool true)) (Go.Operand.tmp 21), type := 4, pos := "leaves.go:82", after := #[{ on := 4, ground := Go.Ground.data }, { on := 11, ground := Go.Ground.data }], guard := none }) (v := ?_) rfl (by kernel_rfl) (by kernel_rfl) (by kernel_rfl) (fun _ _ _ h => h) (Or.inl ⟨by rfl, ?_⟩) (by assumption) ?_
          rotate_left
          · (intro w hSw; (try dsimp only at hSw); go_simp; try with_reducible rfl)
          (try simp only [Act.put, List.setIfInBounds_toArray, List.set_cons_zero, List.set_cons_succ])
          refine wpAnyH_done (by kernel_rfl) ?_ _
          obtain ⟨z0, z1, z2, z3, z4, z5⟩ := HFR.out X HX.out
          gi_wp2_with fail
          have hz := HK.out.1.next HK.out.2.1 HX.out (HM.out trivial)
          rw [← HK.out.2.2.1] at hz
          exact ⟨U, hz.1, fun b hb => .inl hb, hz.2⟩
  case done =>
    intro D U W hD hnU hI hBut hK
    obtain ⟨hv2, hs2, hwb, hs1⟩ := HS.out
    obtain ⟨hx0, hB, hl, -, -, -⟩ := HF.out
    have hkm : l.length ≤ maxLen := by have := hl.1; have := hl.2.1; omega
    unfold maxLen at hkm
    have hn6 := HNL.out
    have hall := hI.so.all
    have hbw : Below w.heap.size w W := ⟨hI.old.os, hI.old.tape, hI.old.output, hI.old.size, fun b hb => by
      by_cases hlt : b < B
      · exact hI.old.block b hlt
      · exact (hBut.block b (by omega) (by omega)).trans (hwb.block b hb)⟩
    obtain ⟨q, hq⟩ : ∃ q, q = (leavesV [] x).length := ⟨_, rfl⟩
    obtain ⟨k, hk⟩ : ∃ k, k = l.length := ⟨_, rfl⟩
    have c3 : W.cell? ⟨w.heap.size + 3, 0, none⟩ = some (.int .i64 q) := by rw [hq]; exact hI.hn.cell 0
    have c1 : W.cell? ⟨w.heap.size + 1, 0, none⟩ = some (.slice Al k cl) := by rw [hk]; exact hI.hl.cell 0
    have c2 : W.cell? ⟨w.heap.size + 2, 0, none⟩ = some (.bool false) := hI.hr.cell 0
    have f2 := hI.hr.frozen 0
    have l2 := hI.hr.lt
    rw [← hq] at hn6 hall
    rw [← hk] at hkm hall
    have HR := Lib.hid (And.intro hbw (And.intro hD (And.intro hK (And.intro hB hI.hr))))
    have HA := Lib.hid hall
    clear hI hBut hK hbw hD hnU hall hx0 hB hl hv2 hs2 hwb hs1 hq hk
    have fin : ∀ r : Bool, Below w.heap.size w (W.setCell ⟨w.heap.size + 2, 0, none⟩ (.bool r)) ∧ (W.setCell ⟨w.heap.size + 2, 0, none⟩ (.bool r)).heap[D]? = some (.deferred (some [])) ∧ (W.setCell ⟨w.heap.size + 2, 0, none⟩ (.bool r)).cell? ⟨w.heap.size + 2, 0, none⟩ = some (.bool r) ∧ w.heap.size + 5 ≤ D ∧ B ≤ w.heap.size := fun r => by
      obtain ⟨hbw, hD, hK, hB, hr2⟩ := HR.out
      have hs2 := HS.out.2.1
      have hb := (But.store (W := W) (X := W) (l := w.heap.size + 2) (v := .bool r) (Below.refl _ W))
      exact ⟨hbw.trans (hb.to_below (fun b e => by omega) hbw.size), (hb.block D (Array.getElem?_eq_some_iff.1 hK).1 (by omega)).trans hK, (by simpa using hr2.set_ 0 (.bool r) : BlockIs (W.setCell ⟨w.heap.size + 2, 0, none⟩ (.bool r)) (w.heap.size + 2) 4 #[.bool r]).cell 0, by omega, hB⟩
    have FIN := Lib.hid fin
    clear fin
    cases hr : sameLs (leavesV [] x) l
    · have hqk : ((q : Int) == (k : Int)) = false := by have := HA.out; rw [hr, eq_comm, beq_eq_false_iff_ne] at this; rw [beq_eq_false_iff_ne]; omega
      gi_wp2_with fail
      obtain ⟨f1, f2, f3, f4, f5⟩ := FIN.out false
      refine has_end (r := false) ?_ f3 (by omega) f2 hr (by omega) (by omega) (f1.mono f5) (fun e => by cases e) (by have := f1.size; omega) f1.size n0
      rfl
    · have hqk : ((q : Int) == (k : Int)) = true := by have := HA.out; rw [hr, eq_comm, beq_iff_eq] at this; rw [this]; simp
      gi_wp2_with fail
      obtain ⟨f1, f2, f3, f4, f5⟩ := FIN.out true
      refine has_end (r := true) ?_ f3 (by omega) f2 hr (by omega) (by omega) (f1.mono f5) (fun e => f1) (by have := f1.size; omega) f1.size n0
      rfl
  case stop =>
    intro D q W hD hq hx hK
    obtain ⟨h1, h2, h3⟩ := hx
    have hr := h3.not hq
    have HR := Lib.hid (And.intro h1 (And.intro h2 (And.intro hr (And.intro hD hK))))
    clear h1 h2 h3 hq hK hr hD
    gi_wp2_with fail
    obtain ⟨h1, h2, hr, hD, hK⟩ := HR.out
    have hs2 := HS.out.2.1
    have hB := HF.out.2.1
    have hlt := h1.lt
    rw [hr]
    exact has_end rfl (h1.cell 0) (by omega) hK rfl (by omega) (by omega) h2 (fun e => by cases e) (by omega) (by omega) n0
/-- Whether the leaves of a value are those that were given. -/
theorem hasLeaves_any (B : Nat) (x : V) (l : List Lf) (w : World) (A K : Option Addr) (c d : Nat) (Al : Option Addr) (cl : Nat) (h : LiesIn (fun b => B ≤ b ∧ b < w.heap.size) w x A c K d) (hB : B ≤ w.heap.size) (hl : LeafRow (fun b => b < B) w Al cl l) (hv : x.valid = true) :
    Calls Tryz.prog 20 #[.agg #[.int .i64 x.kind, .int .i64 x.int, .string x.text, .slice A x.items.length c, .slice K x.keys.length d], .slice Al l.length cl] w fun e w' => e = .returned (.bool (sameLs (leavesV [] x) l)) ∧ Below B w w' ∧ (sameLs (leavesV [] x) l = true → Below w.heap.size w w') := (callsIn_wide (n := 0)).1 (hasLeaves_in 0 B x l w A K c d Al cl h hB hl hv)
open Go.RowKit
/-- The box of what is answered. -/
structure RB (w W : World) : Prop where
  old : Below w.heap.size w W
  br : BlockIs W w.heap.size 27 zeroF
section
variable {w W W' : World} {N g c d : Nat} {y : V} {D : Nat → Prop} {t : TypeId} {A K : Option Addr} {u0 u1 u2 u3 u4 : Value}
theorem RB.start (w : World) : RB w (w.alloc (.cells zeroF 27)) := ⟨below_al (Below.refl _ w) _, BlockIs.new w _ _⟩
theorem RB.fr (h : RB w W) (hb : Below (w.heap.size + 1) W W') : RB w W' := ⟨h.old.trans (hb.mono (by omega)), h.br.below hb (by omega)⟩
theorem RB.on (h : RB w W) (hb : Below W.heap.size W W') : RB w W' := h.fr (hb.mono h.br.lt)
theorem RB.ends (h : RB w W) : Below w.heap.size w (put5 W w.heap.size 0 u0 u1 u2 u3 u4) :=
  ((((h.old.setCell (by simp) _).setCell (by simp) _).setCell (by simp) _).setCell (by simp) _).setCell (by simp) _
theorem RB.bad (r : Int) (h : RB w W) : PutAns (nullV, r) w (.returned (.tuple #[aggOf (leaf 0 0 ⟨#[]⟩) none 0 none 0, .int .i64 r])) (put5 W w.heap.size 0 u0 u1 u2 u3 u4) := ⟨none, 0, none, 0, rfl, leaf_lies _ _ 0 0 (by decide), h.ends⟩
theorem RB.good (h : RB w W) (hN : w.heap.size + 1 ≤ N) (hn : Node W N g t [] [] y (.slice A y.items.length c) (.slice K y.keys.length d) D) : PutAns (y, 0) w (.returned (.tuple #[aggOf y A c K d, .int .i64 0])) (put5 W w.heap.size 0 u0 u1 u2 u3 u4) := by
  have hs := put5_size W w.heap.size 0 u0 u1 u2 u3 u4
  have ht := hn.tree.keep (w' := put5 W w.heap.size 0 u0 u1 u2 u3 u4) y (fun b hb => put5_heap W w.heap.size 0 u0 u1 u2 u3 u4 (by have := (hn.low b hb).1; omega)) (fun _ h => h)
  obtain ⟨A', c', K', d', e1, e2, hl⟩ := ht.lies (B := (put5 W w.heap.size 0 u0 u1 u2 u3 u4).heap.size) y (fun b hb => by rw [hs]; exact (hn.low b hb).2)
  cases e1
  cases e2
  exact ⟨A, c, K, d, rfl, hl, h.ends⟩
theorem Node.null (W : World) : Node (W.alloc (.cells zeroF 27)) W.heap.size W.heap.size 27 [] [] nullV (.slice none 0 0) (.slice none 0 0) (fun _ => False) :=
  ⟨BlockIs.new W _ _, ⟨by decide, (fun k hk => by cases hk), World.ownsRow_nil _ _ _ _, (fun b h => by simp [Value.ownBlock] at h), (fun b h => by simp [Value.ownBlock] at h), [], World.ownsRow_nil _ _ _ _, trivial⟩, fun h => h, fun _ h => h.elim, Nat.le_refl _⟩
end
theorem putsV_step {v : V} {l : List Lf} {j : Nat} {x : Lf} (hx : l[j]? = some x) : putsV v (l.drop j) = if (putV v x.1 x.2).2 = 0 then putsV (putV v x.1 x.2).1 (l.drop (j + 1)) else (nullV, 3) := by
  rw [drop_at hx, putsV]
/-- How far leaves are laid: the value, and where it lies. -/
def LaidUpto (w : World) (g n : Nat) (l : List Lf) (j : Nat) (W : World) : Prop :=
  RB w W ∧ ∃ v D vI vK, Node W g g 27 [] [] v vI vK D ∧ v.ok = true ∧ v.nodes ≤ 1 + 66 * j ∧ putsV v (l.drop j) = putsV nullV l ∧ n = l.length
section
variable {w wr W5 w1 w2 : World} {g : Nat} {v z : V} {vI vK zI zK : Value} {D : Nat → Prop} {t : TypeId} {cs : Array Value}
/-- Behind the copy of a leaf's value. -/
theorem BuildAt.copied (hN : Node wr g g 27 [] [] v vI vK D) (h5 : Below wr.heap.size wr W5) (hx : BlockIs W5 wr.heap.size t cs) (ht : Tree w1 W5.drew.heap.size z zI zK (Fresh W5.drew w1)) (h1 : Below W5.drew.heap.size W5.drew w1) :
    Below wr.heap.size wr w1 ∧ BlockIs w1 wr.heap.size t cs ∧ Node w1 g g 27 [] [] v vI vK D ∧ ZIn w1 g g z zI zK D (Fresh W5.drew w1) := by
  have hb := below_on h5.drew h1
  have hs : wr.heap.size ≤ W5.drew.heap.size := h5.size
  have hg := hN.row.lt
  exact ⟨hb, hx.to (h1.block _ hx.lt), hN.on hb, Tree.base (by omega) z ht, fun b h => ⟨by have := h.1; omega, h.2⟩, fun b h => ⟨fun e => by have := (hN.low b e).2; have := h.1; omega, by have := h.1; omega⟩⟩
/-- Behind put. -/
theorem BuildAt.put (hgw : w.heap.size + 1 ≤ g) (hR : RB w w1) (hN1 : Node w1 g g 27 [] [] v vI vK D) (hx : BlockIs w1 wr.heap.size t cs) (hN : Node wr g g 27 [] [] v vI vK D) (hfr : Fr w1 w2 g D) : RB w w2 ∧ BlockIs w2 wr.heap.size t cs := by
  have hg := hN.row.lt
  exact ⟨hR.fr (hfr.below hgw (fun b hb => by have := (hN1.low b hb).1; omega) hR.br.lt), hx.to (hfr.block _ hx.lt (by omega) (fun e => by have := (hN.low _ e).2; omega))⟩
end
set_option maxRecDepth 100000 in
set_option maxHeartbeats 4000000 in
theorem progBuild_any (l : List Lf) (w : World) (Al : Option Addr) (cl : Nat) (hl : LeafRow (fun b => b < w.heap.size) w Al cl l) :
    Calls Tryz.prog 5 #[.slice Al l.length cl] w (PutAns (buildOut l) w) := by
  obtain ⟨n, hn⟩ : ∃ n, n = l.length := ⟨_, rfl⟩
  have HN := Lib.hid hn
  have HL := Lib.hid fun W (hW : Below w.heap.size w W) => LeafRow.keep (P' := fun b => b < w.heap.size) (fun b o hb => bcell hW b o hb) (fun _ h => h) hl
  have hnl : n ≤ maxLen := by have := hl.1; have := hl.2.1; omega
  have hnc : n ≤ cl := by have := hl.1; omega
  have hcl := hl.2.1
  unfold maxLen at hnl hcl
  obtain ⟨out, hout⟩ : ∃ out, out = buildOut l := ⟨_, rfl⟩
  have HOUT := Lib.hid hout
  rw [← hn, ← hout]
  clear hl hn hout
  go_enter Tryz.func5, Tryz.ntmps5
  go_wp2_with fail
  go_loopw [11] (fun iv wr => ∃ j : Nat, iv = .int .i64 j ∧ j ≤ n ∧ Hid (RB w wr ∧ ∀ (i : Nat) (x : Lf), i < j → l[i]? = some x → (pathB x.1 && x.2.valid) = true)) (fun iv _ => n - (intOf iv).toNat)
  case atStart => exact ⟨0, rfl, Nat.zero_le _, Lib.hid ⟨RB.start w, fun i x h => by omega⟩⟩
  case round =>
    obtain ⟨j, rfl, hj1, hI⟩ := hrel
    by_cases hlt : j < n
    · obtain ⟨x, hx⟩ : ∃ x, l[j]? = some x := ⟨_, List.getElem?_eq_getElem (by rw [← HN.out]; exact hlt)⟩
      obtain ⟨b, o, Ap, cp, A', c', K', d', rfl, hb, ⟨c0, c1, c2, c3, c4, c5⟩, hp, hv⟩ := (HL.out _ hI.out.1.old).at_ hx
      obtain ⟨W5, hW5⟩ : ∃ W5, W5 = wr.alloc (.cells #[.slice Ap x.1.length cp, .int .i64 x.2.kind, .int .i64 x.2.int, .string x.2.text, .slice A' x.2.items.length c', .slice K' x.2.keys.length d'] 47) := ⟨_, rfl⟩
      have h5 : Below wr.heap.size wr W5 := by rw [hW5]; exact below_al (Below.refl _ wr) _
      have hx5 : BlockIs W5 wr.heap.size 47 #[.slice Ap x.1.length cp, .int .i64 x.2.kind, .int .i64 x.2.int, .string x.2.text, .slice A' x.2.items.length c', .slice K' x.2.keys.length d'] := by rw [hW5]; exact BlockIs.new wr _ _
      have hbw : b < wr.heap.size := by have := hI.out.1.old.size; omega
      obtain ⟨bp, hbp⟩ : ∃ q, pathB x.1 = q := ⟨_, rfl⟩
      obtain ⟨bv, hbv⟩ : ∃ q, x.2.valid = q := ⟨_, rfl⟩
      have hR5 := hI.out.1.on h5
      have hs5 := hI.out.1.old.size
      have HP := Lib.hid (pathValid_is x.1 W5 Ap cp ((hp.lies (fun b hb => by omega : ∀ b, b < w.heap.size → b < wr.heap.size)).on h5) hbp)
      have HV := Lib.hid fun W (hW : Below wr.heap.size wr W) => valid_yes x.2 W A' K' c' d' (lies_on (LiesIn.lies (fun b hb => by omega) x.2 hv) hW) hbv
      have HX := Lib.hid hx
      have HBB := Lib.hid (And.intro hbp hbv)
      have HW := Lib.hid hW5
      have HR5 := Lib.hid (And.intro hR5 (And.intro h5 hx5))
      have hji : (j : Int) < n := by omega
      have hj0 : 0 ≤ (j : Int) := by omega
      clear hp hv hb hx hbp hbv hW5 hR5 h5 hs5
      go_upto_region 4 with (fail)
      rw [← HW.out]
      clear c0 c1 c2 c3 c4 c5
      obtain ⟨v0, v1, v2, v3, v4, v5⟩ := six_of hx5
      have vl := hx5.lt
      clear hx5
      go_wp2_with fail
      refine HP.out.mono ?_
      rintro e w1 ⟨rfl, h1⟩
      have HR1 := Lib.hid (And.intro (HR5.out.1.on h1) (And.intro (below_on HR5.out.2.1 h1) (HR5.out.2.2.below h1 HR5.out.2.2.lt)))
      clear h1 v0 v1 v2 v3 v4 v5 vl HP HR5 HW
      have HRB := Lib.hid HR1.out.1
      cases bp
      · have HO := Lib.hid (show out = (nullV, 1) by
          rw [HOUT.out, buildOut, if_neg]
          intro e
          have := (formB_at e HX.out).1
          rw [HBB.out.1] at this; cases this)
        obtain ⟨z0, z1, z2, z3, z4⟩ := five_of (show BlockIs w1 w.heap.size 27 #[.int .i64 0, .int .i64 0, .string ⟨#[]⟩, .slice none 0 0, .slice none 0 0] from HRB.out.br)
        have y0 := HRB.out.br.frozen 0
        have y1 := HRB.out.br.frozen 1
        have y2 := HRB.out.br.frozen 2
        have y3 := HRB.out.br.frozen 3
        have y4 := HRB.out.br.frozen 4
        have zl := HRB.out.br.lt
        go_wp2_with fail
        refine bodyPost_ret (v := .tuple #[aggOf (leaf 0 0 ⟨#[]⟩) none 0 none 0, .int .i64 1]) (by simp [results, Tryz.results5, go_sem, aggOf, leaf, V.kind, V.int, V.text, V.items, V.keys, z0, z1, z2, z3, z4]) rfl ?_
        rw [HO.out]
        exact RB.bad 1 HRB.out
      · obtain ⟨v0, v1, v2, v3, v4, v5⟩ := six_of HR1.out.2.2
        have vl := HR1.out.2.2.lt
        go_wp2_with fail
        refine (HV.out _ HR1.out.2.1).mono ?_
        rintro e w2 ⟨rfl, h2⟩
        have HR2 := Lib.hid (HR1.out.1.on h2)
        clear h2 v0 v1 v2 v3 v4 v5 vl HR1 HRB HV
        cases bv
        · have HO := Lib.hid (show out = (nullV, 1) by
            rw [HOUT.out, buildOut, if_neg]
            intro e
            have := (formB_at e HX.out).2
            rw [HBB.out.2] at this; cases this)
          obtain ⟨z0, z1, z2, z3, z4⟩ := five_of (show BlockIs w2 w.heap.size 27 #[.int .i64 0, .int .i64 0, .string ⟨#[]⟩, .slice none 0 0, .slice none 0 0] from HR2.out.br)
          have y0 := HR2.out.br.frozen 0
          have y1 := HR2.out.br.frozen 1
          have y2 := HR2.out.br.frozen 2
          have y3 := HR2.out.br.frozen 3
          have y4 := HR2.out.br.frozen 4
          have zl := HR2.out.br.lt
          go_wp2_with fail
          refine bodyPost_ret (v := .tuple #[aggOf (leaf 0 0 ⟨#[]⟩) none 0 none 0, .int .i64 1]) (by simp [results, Tryz.results5, go_sem, aggOf, leaf, V.kind, V.int, V.text, V.items, V.keys, z0, z1, z2, z3, z4]) rfl ?_
          rw [HO.out]
          exact RB.bad 1 HR2.out
        · go_wp2_with fail
          go_roundw
          case rel =>
            refine ⟨j + 1, by go_num, by omega, Lib.hid ⟨HR2.out, fun i y hi hy => ?_⟩⟩
            by_cases e : i = j
            · subst e
              rw [HX.out] at hy
              cases hy
              rw [HBB.out.1, HBB.out.2]; rfl
            · exact hI.out.2 i y (by omega) hy
          case measure => simp [intOf]; omega
    · have hjn : ¬ (j : Int) < n := by omega
      have HF := Lib.hid (show formB l = true by
        unfold formB
        rw [List.all_eq_true]
        intro y hy
        obtain ⟨i, hi, he⟩ := List.getElem_of_mem hy
        exact hI.out.2 i y (by rw [← HN.out] at hi; omega) (by rw [List.getElem?_eq_getElem hi, he]))
      have HR := Lib.hid hI.out.1
      clear hI
      by_cases h60 : 60 < n
      · have h60i : (60 : Int) < n := by omega
        have HO := Lib.hid (show out = (nullV, 3) by rw [HOUT.out, buildOut, if_pos HF.out, if_pos (by rw [← HN.out]; exact h60)])
        obtain ⟨z0, z1, z2, z3, z4⟩ := five_of (show BlockIs wr w.heap.size 27 #[.int .i64 0, .int .i64 0, .string ⟨#[]⟩, .slice none 0 0, .slice none 0 0] from HR.out.br)
        have y0 := HR.out.br.frozen 0
        have y1 := HR.out.br.frozen 1
        have y2 := HR.out.br.frozen 2
        have y3 := HR.out.br.frozen 3
        have y4 := HR.out.br.frozen 4
        have zl := HR.out.br.lt
        go_wp2_with fail
        refine bodyPost_ret (v := .tuple #[aggOf (leaf 0 0 ⟨#[]⟩) none 0 none 0, .int .i64 3]) (by simp [results, Tryz.results5, go_sem, aggOf, leaf, V.kind, V.int, V.text, V.items, V.keys, z0, z1, z2, z3, z4]) rfl ?_
        rw [HO.out]
        exact RB.bad 3 HR.out
      · have h60i : ¬ (60 : Int) < n := by omega
        obtain ⟨g, hg⟩ : ∃ g, g = wr.heap.size := ⟨_, rfl⟩
        have hgw : w.heap.size + 1 ≤ g := by have := HR.out.br.lt; omega
        have HST := Lib.hid (show LaidUpto w g n l 0 (wr.alloc (.cells zeroF 27)) from ⟨HR.out.on (below_al (Below.refl _ wr) _), nullV, fun _ => False, .slice none 0 0, .slice none 0 0, by rw [hg]; exact Node.null wr, nullV_ok, by decide, rfl, HN.out⟩)
        go_wp2_with fail
        rw [← hg]
        clear hg h60i hjn hlt HR
        go_loopw [33] (fun iv wr => ∃ j : Nat, iv = .int .i64 j ∧ j ≤ n ∧ Hid (LaidUpto w g n l j wr)) (fun iv _ => n - (intOf iv).toNat)
        case atStart => exact ⟨0, rfl, Nat.zero_le _, HST⟩
        case round =>
          clear HST
          obtain ⟨i, rfl, hi1, hI2⟩ := hrel
          by_cases hlt2 : i < n
          · obtain ⟨x, hx⟩ : ∃ x, l[i]? = some x := ⟨_, List.getElem?_eq_getElem (by rw [← HN.out]; exact hlt2)⟩
            obtain ⟨hR, v, D, vI, vK, hN, hok, hnn, hput, -⟩ := hI2.out
            obtain ⟨b, o, Ap, cp, A', c', K', d', rfl, hb, ⟨c0, c1, c2, c3, c4, c5⟩, hp, hv⟩ := (HL.out _ hR.old).at_ hx
            obtain ⟨W5, hW5⟩ : ∃ W5, W5 = wr.alloc (.cells #[.slice Ap x.1.length cp, .int .i64 x.2.kind, .int .i64 x.2.int, .string x.2.text, .slice A' x.2.items.length c', .slice K' x.2.keys.length d'] 47) := ⟨_, rfl⟩
            have h5 : Below wr.heap.size wr W5 := by rw [hW5]; exact below_al (Below.refl _ wr) _
            have hx5 : BlockIs W5 wr.heap.size 47 #[.slice Ap x.1.length cp, .int .i64 x.2.kind, .int .i64 x.2.int, .string x.2.text, .slice A' x.2.items.length c', .slice K' x.2.keys.length d'] := by rw [hW5]; exact BlockIs.new wr _ _
            have hbw : b < wr.heap.size := by have := hR.old.size; omega
            have hws := hR.old.size
            obtain ⟨hpb, hvb⟩ := formB_at HF.out hx
            obtain ⟨hzo, hzn, -⟩ := valid_deep hvb
            have hstep := putsV_step (v := v) hx
            have hpo := puts_step HF.out hx hok hnn
            obtain ⟨q, hq⟩ : ∃ q, q = putV v x.1 x.2 := ⟨_, rfl⟩
            have HC := Lib.hid (copied_tree x.2.nodes x.2 W5.drew A' K' c' d' (Nat.le_refl _) (by omega) hzo (lies_on (LiesIn.lies (fun b hb => by omega) x.2 hv) h5.drew))
            have HPT := Lib.hid fun W zI zK Dz (hW : Below wr.heap.size wr W) (hNW : Node W g g 27 [] [] v vI vK D) (hZ : ZIn W g g x.2 zI zK D Dz) => show Calls Tryz.prog 18 #[.pointer (some ⟨g, 0, none⟩), .slice Ap x.1.length cp, .agg #[.int .i64 x.2.kind, .int .i64 x.2.int, .string x.2.text, zI, zK]] W (PutP q g g 27 [] [] D Dz W) from by
              rw [hq]
              exact put_any x.2 g zI zK Dz x.1 (by unfold pathB at hpb; rw [Bool.and_eq_true] at hpb; exact hpb.2) v hok (by omega) W g _ [] [] vI vK D Ap cp hNW hZ ((PIn.keep (P' := fun b => b < w.heap.size) (fun b o hb => bcell hW b o (by omega)) (fun _ h => h) hp).lies (fun b hb => by omega))
            rw [← hq] at hstep hpo
            have HS := Lib.hid (And.intro hR (And.intro hN (And.intro hput (And.intro hstep hpo))))
            have HW := Lib.hid hW5
            have H5 := Lib.hid (And.intro h5 hx5)
            have hji : (i : Int) < n := by omega
            have hj0 : 0 ≤ (i : Int) := by omega
            clear hx hR hN hok hnn hput hb hp hv hpb hvb hzo hzn hstep hpo hq hW5 h5 hI2 hws
            go_upto_region 13 with (fail)
            rw [← HW.out]
            clear c0 c1 c2 c3 c4 c5
            obtain ⟨v0, v1, v2, v3, v4, v5⟩ := six_of hx5
            have vl := hx5.lt
            clear hx5
            refine wp_region_held_drew (S := (fun X : World => X.cell? ⟨wr.heap.size, 0, none⟩ = some (.slice Ap x.1.length cp) ∧ X.cell? ⟨wr.heap.size, 1, none⟩ = some (.int .i64 x.2.kind) ∧ X.cell? ⟨wr.heap.size, 2, none⟩ = some (.int .i64 x.2.int) ∧ X.cell? ⟨wr.heap.size, 3, none⟩ = some (.string x.2.text) ∧ X.cell? ⟨wr.heap.size, 4, none⟩ = some (.slice A' x.2.items.length c') ∧ X.cell? ⟨wr.heap.size, 5, none⟩ = some (.slice K' x.2.keys.length d'))) (by kernel_rfl) ⟨v0, v1, v2, v3, v4, v5⟩ (fun hH0 => ?_)
            refine wpAnyH_take (i := 0) (oi := { dst := some 37, op := Go.Op.fieldAddr 47 (Go.Operand.tmp 8) 0, type := 0, pos := "leaves.go:35", after := #[], guard := none }) (v := ?_) rfl (by kernel_rfl) (by kernel_rfl) (by kernel_rfl) (fun _ _ _ h => h) (Or.inl ⟨by rfl, ?_⟩) (by assumption) ?_
            rotate_left
            · (intro w hSw; (try dsimp only at hSw); go_simp; try with_reducible rfl)
            (try simp only [Act.put, List.setIfInBounds_toArray, List.set_cons_zero, List.set_cons_succ])
            refine wpAnyH_take (i := 1) (oi := { dst := some 38, op := Go.Op.load 36 (Go.Operand.tmp 37), type := 36, pos := "leaves.go:35", after := #[{ on := 0, ground := Go.Ground.data }], guard := none }) (v := ?_) rfl (by kernel_rfl) (by kernel_rfl) (by kernel_rfl) (fun _ _ _ h => h) (Or.inl ⟨by rfl, ?_⟩) (by assumption) ?_
            rotate_left
            · (intro w hSw; (try dsimp only at hSw); go_simp; try with_reducible rfl)
            (try simp only [Act.put, List.setIfInBounds_toArray, List.set_cons_zero, List.set_cons_succ])
            refine wpAnyH_take (i := 2) (oi := { dst := some 39, op := Go.Op.fieldAddr 47 (Go.Operand.tmp 8) 1, type := 0, pos := "leaves.go:35", after := #[], guard := none }) (v := ?_) rfl (by kernel_rfl) (by kernel_rfl) (by kernel_rfl) (fun _ _ _ h => h) (Or.inl ⟨by rfl, ?_⟩) (by assumption) ?_
            rotate_left
            · (intro w hSw; (try dsimp only at hSw); go_simp; try with_reducible rfl)
            (try simp only [Act.put, List.setIfInBounds_toArray, List.set_cons_zero, List.set_cons_succ])
            refine wpAnyH_take (i := 3) (oi := { dst := some 40, op := Go.Op.load 27 (Go.Operand.tmp 39), type := 27, pos := "leaves.go:35", after := #[{ on := 2, ground := Go.Ground.data }], guard := none }) (v := ?_) rfl (by kernel_rfl) (by kernel_rfl) (by kernel_rfl) (fun _ _ _ h => h) (Or.inl ⟨by rfl, ?_⟩) (by assumption) ?_
            rotate_left
            · (intro w hSw; (try dsimp only at hSw); go_simp; try with_reducible rfl)
            (try simp only [Act.put, List.setIfInBounds_toArray, List.set_cons_zero, List.set_cons_succ])
            refine wpAnyH_ready (rs := [4]) (by kernel_rfl) (by simp) ?_
            refine AllReadyH.cons (o := { dst := some 41, op := Go.Op.call { callee := Go.Callee.value (Go.Operand.func 19), args := #[Go.Operand.tmp 40], argTypes := #[27] }, type := 27, pos := "leaves.go:35", after := #[{ on := 3, ground := Go.Ground.data }], guard := none }) rfl (fun KK hK => ?_) (AllReadyH.nil)
            · go_simp
              refine (HC.out).mono ?_
              rintro e w1 ⟨zI, zK, rfl, ht, h1⟩
              have H1 := Lib.hid (BuildAt.copied HS.out.2.1 H5.out.1 H5.out.2 ht h1)
              clear ht h1
              (try go_wp2_with fail)
              refine hK.out _ _ (six_of H1.out.2.1) (fun hH1 => ?_)
              clear hK KK
              (try simp only [Act.put, List.setIfInBounds_toArray, List.set_cons_zero, List.set_cons_succ])
              refine wpAnyH_ready (rs := [5]) (by kernel_rfl) (by simp) ?_
              refine AllReadyH.cons (o := { dst := some 42, op := Go.Op.call { callee := Go.Callee.value (Go.Operand.func 18), args := #[Go.Operand.tmp 6, Go.Operand.tmp 38, Go.Operand.tmp 41], argTypes := #[51, 36, 27] }, type := 28, pos := "leaves.go:35", after := #[{ on := 1, ground := Go.Ground.data }, { on := 4, ground := Go.Ground.data }, { on := 4, ground := Go.Ground.chain }], guard := none }) rfl (fun KK hK => ?_) (AllReadyH.nil)
              · go_simp
                refine (HPT.out _ _ _ _ H1.out.1 H1.out.2.2.1 H1.out.2.2.2).mono ?_
                rintro e w2 ⟨rfl, hfr, hnx⟩
                have H2 := Lib.hid (BuildAt.put hgw (HS.out.1.on H1.out.1) H1.out.2.2.1 H1.out.2.1 (HS.out.2.1) hfr)
                have HNX := Lib.hid hnx
                clear hfr hnx
                (try go_wp2_with fail)
                refine hK.out _ _ (six_of H2.out.2) (fun hH2 => ?_)
                clear hK KK
                (try simp only [Act.put, List.setIfInBounds_toArray, List.set_cons_zero, List.set_cons_succ])
                refine wpAnyH_take (i := 6) (oi := { dst := some 43, op := Go.Op.binOp Go.BinOp.neq 28 (Go.Operand.tmp 42) (Go.Operand.const (Go.Value.int Go.IntKind.i64 0)) 28, type := 4, pos := "leaves.go:35", after := #[{ on := 5, ground := Go.Ground.data }], guard := none }) (v := ?_) rfl (by kernel_rfl) (by kernel_rfl) (by kernel_rfl) (fun _ _ _ h => h) (Or.inl ⟨by rfl, ?_⟩) (by assumption) ?_
                rotate_left
                · (intro w hSw; (try dsimp only at hSw); go_simp; try with_reducible rfl)
                (try simp only [Act.put, List.setIfInBounds_toArray, List.set_cons_zero, List.set_cons_succ])
                refine wpAnyH_done (by kernel_rfl) ?_ _
                clear v0 v1 v2 v3 v4 v5 vl HC HPT H1 H5 HW
                have HR2 := Lib.hid H2.out.1
                by_cases h0 : q.2 = 0
                · have k0 : (q.2 != 0) = false := by simp [h0]
                  have HNX0 := Lib.hid (HNX.out h0)
                  have HS0 := Lib.hid h0
                  clear HNX h0
                  go_wp2_with fail
                  go_roundw
                  case rel =>
                    obtain ⟨vI', vK', D', hN', -⟩ := HNX0.out
                    obtain ⟨-, -, hput, hstep, hpo⟩ := HS.out
                    have hpo := hpo HS0.out
                    rw [if_pos HS0.out] at hstep
                    exact ⟨i + 1, by go_num, by omega, Lib.hid ⟨HR2.out, q.1, D', vI', vK', hN', hpo.1, hpo.2, hstep.symm.trans hput, HN.out⟩⟩
                  case measure => simp [intOf]; omega
                · have k0 : (q.2 != 0) = true := by simp [h0]
                  have HO := Lib.hid (show out = (nullV, 3) by
                    obtain ⟨-, -, hput, hstep, -⟩ := HS.out
                    rw [if_neg h0] at hstep
                    rw [HOUT.out, buildOut, if_pos HF.out, if_neg (by rw [← HN.out]; exact h60), if_neg]
                    rintro ⟨e, -⟩
                    rw [← hput, hstep] at e
                    cases e)
                  clear HNX h0
                  obtain ⟨z0, z1, z2, z3, z4⟩ := five_of (show BlockIs w2 w.heap.size 27 #[.int .i64 0, .int .i64 0, .string ⟨#[]⟩, .slice none 0 0, .slice none 0 0] from HR2.out.br)
                  have y0 := HR2.out.br.frozen 0
                  have y1 := HR2.out.br.frozen 1
                  have y2 := HR2.out.br.frozen 2
                  have y3 := HR2.out.br.frozen 3
                  have y4 := HR2.out.br.frozen 4
                  have zl := HR2.out.br.lt
                  go_wp2_with fail
                  refine bodyPost_ret (v := .tuple #[aggOf (leaf 0 0 ⟨#[]⟩) none 0 none 0, .int .i64 3]) (by simp [results, Tryz.results5, go_sem, aggOf, leaf, V.kind, V.int, V.text, V.items, V.keys, z0, z1, z2, z3, z4]) rfl ?_
                  rw [HO.out]
                  exact RB.bad 3 HR2.out
          · have hjn : ¬ (i : Int) < n := by omega
            obtain ⟨hR, v, D, vI, vK, hN, hok, hnn, hput, -⟩ := hI2.out
            have hput : putsV nullV l = (v, 0) := by rw [← hput, List.drop_eq_nil_of_le (by rw [← HN.out]; omega)]; rfl
            obtain ⟨A', c', K', d', rfl, rfl, hlv⟩ := hN.lies
            obtain ⟨bv, hbv⟩ : ∃ q, v.valid = q := ⟨_, rfl⟩
            have HV := Lib.hid (valid_yes v wr A' K' c' d' hlv hbv)
            have HNO := Lib.hid hN
            have HR := Lib.hid hR
            have HP := Lib.hid hput
            have HBV := Lib.hid hbv
            obtain ⟨v0, v1, v2, v3, v4⟩ := five_of (show BlockIs wr g 27 #[.int .i64 v.kind, .int .i64 v.int, .string v.text, .slice A' v.items.length c', .slice K' v.keys.length d'] from hN.row)
            have vl := hN.row.lt
            clear hR hN hok hnn hput hlv hbv hI2
            go_wp2_with fail
            refine HV.out.mono ?_
            rintro e w1 ⟨rfl, h1⟩
            have HR1 := Lib.hid (HR.out.on h1)
            have HN1 := Lib.hid (HNO.out.on h1)
            clear h1 v0 v1 v2 v3 v4 vl HV HR HNO
            cases bv
            · have HO := Lib.hid (show out = (nullV, 3) by
                rw [HOUT.out, buildOut, if_pos HF.out, if_neg (by rw [← HN.out]; exact h60), if_neg]
                rintro ⟨-, e⟩
                rw [HP.out] at e
                simp only [HBV.out, Bool.false_and] at e
                cases e)
              obtain ⟨z0, z1, z2, z3, z4⟩ := five_of (show BlockIs w1 w.heap.size 27 #[.int .i64 0, .int .i64 0, .string ⟨#[]⟩, .slice none 0 0, .slice none 0 0] from HR1.out.br)
              have y0 := HR1.out.br.frozen 0
              have y1 := HR1.out.br.frozen 1
              have y2 := HR1.out.br.frozen 2
              have y3 := HR1.out.br.frozen 3
              have y4 := HR1.out.br.frozen 4
              have zl := HR1.out.br.lt
              go_wp2_with fail
              refine bodyPost_ret (v := .tuple #[aggOf (leaf 0 0 ⟨#[]⟩) none 0 none 0, .int .i64 3]) (by simp [results, Tryz.results5, go_sem, aggOf, leaf, V.kind, V.int, V.text, V.items, V.keys, z0, z1, z2, z3, z4]) rfl ?_
              rw [HO.out]
              exact RB.bad 3 HR1.out
            · obtain ⟨bs, hbs⟩ : ∃ q, sameLs (leavesV [] v) l = q := ⟨_, rfl⟩
              have HHAS := Lib.hid (show Calls Tryz.prog 20 #[.agg #[.int .i64 v.kind, .int .i64 v.int, .string v.text, .slice A' v.items.length c', .slice K' v.keys.length d'], .slice Al n cl] w1 (fun e w' => e = .returned (.bool bs) ∧ Below (w.heap.size + 1) w1 w' ∧ (bs = true → Below w1.heap.size w1 w')) from by
                obtain ⟨A2, c2, K2, d2, e1, e2, hin⟩ := Tree.inn (P := fun b => w.heap.size + 1 ≤ b ∧ b < w1.heap.size) v HN1.out.tree (fun b hb => ⟨by have := (HN1.out.low b hb).1; omega, (HN1.out.low b hb).2⟩)
                cases e1
                cases e2
                have := hasLeaves_any (w.heap.size + 1) v l w1 A' K' c' d' Al cl hin HR1.out.br.lt (LeafRow.keep (P' := fun b => b < w.heap.size + 1) (fun _ _ _ => rfl) (fun b hb => by omega) (HL.out _ HR1.out.old)) HBV.out
                rw [hbs, ← HN.out] at this
                exact this)
              have HBS := Lib.hid hbs
              obtain ⟨v0, v1, v2, v3, v4⟩ := five_of (show BlockIs w1 g 27 #[.int .i64 v.kind, .int .i64 v.int, .string v.text, .slice A' v.items.length c', .slice K' v.keys.length d'] from HN1.out.row)
              have vl := HN1.out.row.lt
              clear hbs
              go_wp2_with fail
              refine HHAS.out.mono ?_
              rintro e w2 ⟨rfl, h2, h3⟩
              have HR2 := Lib.hid (HR1.out.fr h2)
              clear v0 v1 v2 v3 v4 vl HHAS HR1
              cases bs
              · have HO := Lib.hid (show out = (nullV, 3) by
                  rw [HOUT.out, buildOut, if_pos HF.out, if_neg (by rw [← HN.out]; exact h60), if_neg]
                  rintro ⟨-, e⟩
                  rw [HP.out] at e
                  simp only [HBS.out, Bool.and_false] at e
                  cases e)
                clear h2 h3
                obtain ⟨z0, z1, z2, z3, z4⟩ := five_of (show BlockIs w2 w.heap.size 27 #[.int .i64 0, .int .i64 0, .string ⟨#[]⟩, .slice none 0 0, .slice none 0 0] from HR2.out.br)
                have y0 := HR2.out.br.frozen 0
                have y1 := HR2.out.br.frozen 1
                have y2 := HR2.out.br.frozen 2
                have y3 := HR2.out.br.frozen 3
                have y4 := HR2.out.br.frozen 4
                have zl := HR2.out.br.lt
                go_wp2_with fail
                refine bodyPost_ret (v := .tuple #[aggOf (leaf 0 0 ⟨#[]⟩) none 0 none 0, .int .i64 3]) (by simp [results, Tryz.results5, go_sem, aggOf, leaf, V.kind, V.int, V.text, V.items, V.keys, z0, z1, z2, z3, z4]) rfl ?_
                rw [HO.out]
                exact RB.bad 3 HR2.out
              · have HN2 := Lib.hid (HN1.out.on (h3 (by trivial)))
                have HO := Lib.hid (show out = (v, 0) by
                  rw [HOUT.out, buildOut, if_pos HF.out, if_neg (by rw [← HN.out]; exact h60), if_pos]
                  · rw [HP.out]
                  · rw [HP.out]
                    exact ⟨rfl, by simp only [HBV.out, HBS.out]; rfl⟩)
                obtain ⟨v0, v1, v2, v3, v4⟩ := five_of (show BlockIs w2 g 27 #[.int .i64 v.kind, .int .i64 v.int, .string v.text, .slice A' v.items.length c', .slice K' v.keys.length d'] from HN2.out.row)
                have vl := HN2.out.row.lt
                obtain ⟨z0, z1, z2, z3, z4⟩ := five_of (show BlockIs w2 w.heap.size 27 #[.int .i64 0, .int .i64 0, .string ⟨#[]⟩, .slice none 0 0, .slice none 0 0] from HR2.out.br)
                have y0 := HR2.out.br.frozen 0
                have y1 := HR2.out.br.frozen 1
                have y2 := HR2.out.br.frozen 2
                have y3 := HR2.out.br.frozen 3
                have y4 := HR2.out.br.frozen 4
                have zl := HR2.out.br.lt
                clear h2 h3 HN1
                go_wp2_with fail
                refine bodyPost_ret (v := .tuple #[aggOf v A' c' K' d', .int .i64 0]) (by simp [results, Tryz.results5, go_sem, aggOf, z0, z1, z2, z3, z4]) rfl ?_
                rw [HO.out]
                exact RB.good HR2.out hgw HN2.out
end Go.Proofs.YtchadlbhdcpojaaGreatDoor
