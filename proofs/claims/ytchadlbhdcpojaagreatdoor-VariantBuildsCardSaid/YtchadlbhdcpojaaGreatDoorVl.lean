/- Laying a value at a path of keys, where nothing is yet: walked. -/
import Derived.Test.YtchadlbhdcpojaaGreatDoorVj
namespace Go.Proofs.YtchadlbhdcpojaaGreatDoor
open Go.RowKit

theorem grow_new {a b c : World} {g g1 : Nat} (h : a.grownBy b (some g)) (h2 : b.grownBy c (some g1)) (hg : a.heap.size ≤ g1) : a.grownBy c (some g) :=
  ⟨h2.os.trans h.os, h2.tape.trans h.tape, h2.output.trans h.output, Nat.le_trans h.size h2.size, fun k hk hne => (h2.block k (Nat.lt_of_lt_of_le hk h.size) (fun e => by have := Option.some.inj e; omega)).trans (h.block k hk hne)⟩
theorem PLies.low {W W' : World} {N c : Nat} {A : Option Addr} {p : List Stp} (h : PLies W N A c p) (hk : ∀ b, b < N → W'.heap[b]? = W.heap[b]?) : PLies W' N A c p := by
  obtain ⟨h1, h2, h3⟩ := h
  refine ⟨h1, h2, h3.imp id ?_⟩
  rintro ⟨b, o, hA, hlt, hf⟩
  exact ⟨b, o, hA, hlt, hf.keep fun o => World.cell?_of_block (hk b hlt)⟩
theorem Five.set1 {W : World} {g : Nat} {a b c d e : Value} (h : Five W g a b c d e) (v : Value) : Five (W.setCell ⟨g, 1, none⟩ v) g a v c d e := by
  obtain ⟨c0, c1, c2, c3, c4, f0, f1, f2, f3, f4, lt⟩ := h
  exact ⟨(World.cell?_setCell_other _ _ _ _ (by simp)).trans c0, World.cell?_setCell_same _ _ _ c1, (World.cell?_setCell_other _ _ _ _ (by simp)).trans c2, (World.cell?_setCell_other _ _ _ _ (by simp)).trans c3, (World.cell?_setCell_other _ _ _ _ (by simp)).trans c4, by simpa using f0, by simpa using f1, by simpa using f2, by simpa using f3, by simpa using f4, by simpa using lt⟩
theorem Five.set2 {W : World} {g : Nat} {a b c d e : Value} (h : Five W g a b c d e) (v : Value) : Five (W.setCell ⟨g, 2, none⟩ v) g a b v d e := by
  obtain ⟨c0, c1, c2, c3, c4, f0, f1, f2, f3, f4, lt⟩ := h
  exact ⟨(World.cell?_setCell_other _ _ _ _ (by simp)).trans c0, (World.cell?_setCell_other _ _ _ _ (by simp)).trans c1, World.cell?_setCell_same _ _ _ c2, (World.cell?_setCell_other _ _ _ _ (by simp)).trans c3, (World.cell?_setCell_other _ _ _ _ (by simp)).trans c4, by simpa using f0, by simpa using f1, by simpa using f2, by simpa using f3, by simpa using f4, by simpa using lt⟩
/-- What a laid value leaves at its place. -/
def NestPost (g : Nat) (y : V) (W : World) (e : Ending) (W' : World) : Prop :=
  e = .returned (.int .i64 0) ∧ W.grownBy W' (some g) ∧ ∃ A c K d, Five W' g (.int .i64 y.kind) (.int .i64 y.int) (.string y.text) (.slice A y.items.length c) (.slice K y.keys.length d) ∧ LiesIn (Fresh W W') W' y A c K d
theorem leaf_none (P : Nat → Prop) (w : World) (k i : Int) {t : ByteArray} (ht : t.size ≤ maxLen) : LiesIn P w (leaf k i t) none 0 none 0 := by
  rw [leaf, LiesIn]
  exact ⟨ht, Nat.le_refl _, Nat.zero_le _, ⟨Nat.le_refl _, Nat.zero_le _, .inl rfl⟩, .inl rfl⟩
theorem nest_lies {W w6 : World} {g1 c1 g2 c2 : Nat} {y : V} {k : ByteArray} {A K : Option Addr} {c d : Nat}
    (hf : Five w6 g1 (.int .i64 y.kind) (.int .i64 y.int) (.string y.text) (.slice A y.items.length c) (.slice K y.keys.length d)) (hl : LiesIn (Fresh W w6) w6 y A c K d)
    (hk : w6.cell? ⟨g2, 0, none⟩ = some (.string k)) (hks : k.size ≤ maxLen) (h1 : W.heap.size ≤ g1) (h2 : W.heap.size ≤ g2) (h2l : g2 < w6.heap.size) (hc1 : 1 ≤ c1 ∧ c1 ≤ maxLen) (hc2 : 1 ≤ c2 ∧ c2 ≤ maxLen) :
    LiesIn (Fresh W w6) w6 (.mk 5 0 ⟨#[]⟩ [y] [k]) (some ⟨g1, 0, none⟩) c1 (some ⟨g2, 0, none⟩) c2 := by
  rw [LiesIn]
  refine ⟨by decide, hc1.1, hc1.2, ⟨hc2.1, hc2.2, .inr ⟨g2, 0, rfl, ⟨h2, h2l⟩, hk, hks, trivial⟩⟩, .inr ⟨g1, 0, rfl, ⟨h1, hf.lt⟩, ?_⟩⟩
  rw [LiesFromIn, LiesFromIn]
  exact ⟨⟨A, c, K, d, hf.c0, hf.c1, hf.c2, hf.c3, hf.c4, hl⟩, trivial⟩

theorem nest_post {g g1 c1 g2 c2 : Nat} {k : ByteArray} {r : List ByteArray} {x : V} {W w6 : World} (hG : W.grownBy w6 (some g)) (hF : Five w6 g (.int .i64 5) (.int .i64 0) (.string ⟨#[]⟩) (.slice (some ⟨g1, 0, none⟩) 1 c1) (.slice (some ⟨g2, 0, none⟩) 1 c2))
    (hN : LiesIn (Fresh W w6) w6 (.mk 5 0 ⟨#[]⟩ [nestV r x] [k]) (some ⟨g1, 0, none⟩) c1 (some ⟨g2, 0, none⟩) c2) : NestPost g (nestV (k :: r) x) W (.returned (.int .i64 0)) w6 := by
  rw [nestV]
  exact ⟨rfl, hG, _, _, _, _, hF, hN⟩
theorem here_post (k0 i0 : Int) (t0 : ByteArray) (ht0 : t0.size ≤ maxLen) (W : World) (g : Nat) (o : Obj) {u0 u1 u2 u3 u4 : Value} (h : Five W g u0 u1 u2 u3 u4) :
    NestPost g (leaf k0 i0 t0) W (.returned (.int .i64 0)) ((((((W.setCell ⟨g, 0, none⟩ (.int .i64 k0)).setCell ⟨g, 1, none⟩ (.int .i64 i0)).setCell ⟨g, 2, none⟩ (.string t0)).setCell ⟨g, 3, none⟩ (.slice none 0 0)).setCell ⟨g, 4, none⟩ (.slice none 0 0)).alloc o) := by
  have hF := ((((h.set0 (.int .i64 k0)).set1 (.int .i64 i0)).set2 (.string t0)).set3 (.slice none 0 0)).set4 (.slice none 0 0)
  have hG := grow_set (grow_set (grow_set (grow_set (grow_set (grow_refl W (some g)) ⟨g, 0, none⟩ (.int .i64 k0) rfl) ⟨g, 1, none⟩ (.int .i64 i0) rfl) ⟨g, 2, none⟩ (.string t0) rfl) ⟨g, 3, none⟩ (.slice none 0 0) rfl) ⟨g, 4, none⟩ (.slice none 0 0) rfl
  generalize ((((W.setCell ⟨g, 0, none⟩ (.int .i64 k0)).setCell ⟨g, 1, none⟩ (.int .i64 i0)).setCell ⟨g, 2, none⟩ (.string t0)).setCell ⟨g, 3, none⟩ (.slice none 0 0)).setCell ⟨g, 4, none⟩ (.slice none 0 0) = W2 at hF hG ⊢
  exact ⟨rfl, grow_alloc hG o, none, 0, none, 0, hF.below ((Below.refl _ W2).alloc (Nat.le_refl _) o), leaf_none _ _ _ _ ht0⟩

set_option maxRecDepth 100000 in
set_option maxHeartbeats 8000000 in
theorem put_here (k0 i0 : Int) (t0 : ByteArray) (ht0 : t0.size ≤ maxLen) (W : World) (g : Nat) (A : Option Addr) (cp : Nat) {u0 u1 u2 u3 u4 : Value} (h : Five W g u0 u1 u2 u3 u4) :
    Calls Tryz.prog 18 #[.pointer (some ⟨g, 0, none⟩), .slice A 0 cp, .agg #[.int .i64 k0, .int .i64 i0, .string t0, .slice none 0 0, .slice none 0 0]] W (NestPost g (leaf k0 i0 t0) W) := by
  have HT := Lib.hid ht0
  have HN := Lib.hid (here_post k0 i0 t0 HT.out W g (.cells #[.int .i64 k0, .int .i64 i0, .string t0, .slice none 0 0, .slice none 0 0] 27) h)
  obtain ⟨c0, c1, c2, c3, c4, f0, f1, f2, f3, f4, gl⟩ := h
  clear ht0 HT
  go_enter Tryz.func18, Tryz.ntmps18
  go_wp2_with fail
  refine bodyPost_ret (v := .int .i64 0) (by simp [results, Tryz.results18, go_sem]) rfl ?_
  exact HN.out

set_option maxRecDepth 100000 in
set_option maxHeartbeats 16000000 in
theorem put_deeper (k0 i0 : Int) (t0 k : ByteArray) (r : List ByteArray) (W : World) (g N : Nat) (A : Option Addr) (cp : Nat) (hN : N ≤ g) (h : Five W g (.int .i64 0) (.int .i64 0) (.string ⟨#[]⟩) (.slice none 0 0) (.slice none 0 0)) (hp : PLies W N A cp (keysP (k :: r)))
    (ih : ∀ (W : World) (g : Nat) (A : Option Addr) (cp : Nat), N ≤ g → Five W g (.int .i64 0) (.int .i64 0) (.string ⟨#[]⟩) (.slice none 0 0) (.slice none 0 0) → PLies W N A cp (keysP r) →
      Calls Tryz.prog 18 #[.pointer (some ⟨g, 0, none⟩), .slice A r.length cp, .agg #[.int .i64 k0, .int .i64 i0, .string t0, .slice none 0 0, .slice none 0 0]] W (NestPost g (nestV r (leaf k0 i0 t0)) W)) :
    Calls Tryz.prog 18 #[.pointer (some ⟨g, 0, none⟩), .slice A (r.length + 1) cp, .agg #[.int .i64 k0, .int .i64 i0, .string t0, .slice none 0 0, .slice none 0 0]] W (NestPost g (nestV (k :: r) (leaf k0 i0 t0)) W) := by
  have hgW := h.lt
  obtain ⟨hp1, hp2, hp3⟩ := hp
  obtain ⟨b, o, rfl, hb, hf⟩ : ∃ b o, A = some ⟨b, o, none⟩ ∧ b < N ∧ StepsFrom W (keysP (k :: r)) b o := by
    rcases hp3 with h | h
    · simp [keysP] at h
    · exact h
  have hcp : r.length + 1 ≤ cp := by simpa [keysP] using hp1
  unfold maxLen at hp2
  obtain ⟨e0, e1, hks, hrest⟩ := hf
  have HIH := Lib.hid ih
  have HKS := Lib.hid hks
  have HPR := Lib.hid (show PLies W N (some ⟨b, o + 2, none⟩) (cp - 1) (keysP r) from ⟨by simp [keysP]; omega, by unfold maxLen; omega, .inr ⟨b, o + 2, rfl, hb, hrest⟩⟩)
  obtain ⟨W1, hW1⟩ : ∃ W1, W1 = W.alloc (.cells #[.int .i64 k0, .int .i64 i0, .string t0, .slice none 0 0, .slice none 0 0] 27) := ⟨_, rfl⟩
  have hb1 : Below W.heap.size W W1 := by rw [hW1]; exact below_al (Below.refl _ W) _
  have HW1 := Lib.hid hW1
  have HB1 := Lib.hid hb1
  have HX1 := Lib.hid (show BlockIs W1 W.heap.size 27 #[.int .i64 k0, .int .i64 i0, .string t0, .slice none 0 0, .slice none 0 0] by rw [hW1]; exact BlockIs.new W _ _)
  have hz1 : W.heap.size < W1.heap.size := HX1.out.lt
  have e0' : W1.cell? ⟨b, o, none⟩ = some (.int .i64 (-1)) := (bcell hb1 b o (by omega)).trans e0
  have e1' : W1.cell? ⟨b, o + 1, none⟩ = some (.string k) := (bcell hb1 b (o + 1) (by omega)).trans e1
  have HF1 := Lib.hid (h.below hb1)
  clear ih hrest hp1 hp3 hks h hW1 hb1 e0 e1
  have hr0 : (0 : Int) < (r.length : Int) + 1 := by omega
  have hr1 : (1 : Int) ≤ (r.length : Int) + 1 := by omega
  have hr2 : (r.length : Int) + 1 ≤ cp := by omega
  have hr3 : (1 : Int) ≤ cp := by omega
  go_enter Tryz.func18, Tryz.ntmps18
  go_upto_region 1 with (fail)
  rw [← HW1.out]
  go_wp2_with fail
  refine (holder_key k W1).mono ?_
  rintro e w2 ⟨rfl, h2⟩
  have HF2 := Lib.hid (HF1.out.below h2)
  have HB2 := Lib.hid (below_on HB1.out h2)
  have HX2 := Lib.hid (HX1.out.below h2 hz1)
  have hz2 := h2.size
  have e0 : w2.cell? ⟨b, o, none⟩ = some (.int .i64 (-1)) := (bcell h2 b o (by omega)).trans e0'
  have e1 : w2.cell? ⟨b, o + 1, none⟩ = some (.string k) := (bcell h2 b (o + 1) (by omega)).trans e1'
  obtain ⟨c0, c1, c2, c3, c4, f0, f1, f2, f3, f4, gl⟩ := HF2.out
  clear h2 e0' e1' HF1 HX1 HB1 HW1
  go_wp2_with fail
  go_quiet (fail)
  obtain ⟨W4, hW4⟩ : ∃ W4, W4 = (w2.setCell ⟨g, 0, none⟩ (.int .i64 5)).drewN nq := ⟨_, rfl⟩
  have hF3 := HF2.out.set0 (.int .i64 5)
  have HF4 := Lib.hid (show Five W4 g (.int .i64 5) (.int .i64 0) (.string ⟨#[]⟩) (.slice none 0 0) (.slice none 0 0) by rw [hW4]; exact hF3.to rfl (Nat.le_refl _))
  have HG4 := Lib.hid (show W.grownBy W4 (some g) by rw [hW4]; exact grow_drewN (grow_set (grow_below (grow_refl W (some g)) HB2.out) _ _ rfl) _)
  have HX4 := Lib.hid (show BlockIs W4 W.heap.size 27 #[.int .i64 k0, .int .i64 i0, .string t0, .slice none 0 0, .slice none 0 0] by rw [hW4]; exact HX2.out.far (by show W.heap.size ≠ g; omega) _)
  have e0' : W4.cell? ⟨b, o, none⟩ = some (.int .i64 (-1)) := by rw [hW4]; exact (World.cell?_setCell_other _ _ _ _ (by first | (simp; done) | (simp; omega))).trans e0
  have e1' : W4.cell? ⟨b, o + 1, none⟩ = some (.string k) := by rw [hW4]; exact (World.cell?_setCell_other _ _ _ _ (by first | (simp; done) | (simp; omega))).trans e1
  have hz4 : W.heap.size < W4.heap.size := HX4.out.lt
  have HLOW := Lib.hid (show ∀ b', b' < N → W4.heap[b']? = W.heap[b']? from fun b' hb' => HG4.out.block b' (by omega) (by simp; omega))
  rw [← hW4]
  clear c0 c1 c2 c3 c4 f0 f1 f2 f3 f4 gl e0 e1 hF3 HF2 HB2 HX2 hW4
  go_wp2_with fail
  obtain ⟨c0, c1, c2, c3, c4, f0, f1, f2, f3, f4, gl⟩ := HF4.out
  obtain ⟨x0, x1, x2, x3, x4⟩ := five_of HX4.out
  have hlt4 : ∀ b', b' < N → b' < W4.heap.size := fun b' h => by omega
  by_cases hc1 : cp = 1
  · have hrn : r = [] := by
      cases r with
      | nil => rfl
      | cons y q => simp at hcp; omega
    subst hrn hc1
    have HPR1 := Lib.hid (show PLies W N (some ⟨b, o, none⟩) 0 (keysP []) from ⟨Nat.zero_le _, by simp [maxLen], .inl rfl⟩)
    have HIH1 := Lib.hid (show ∀ (W : World) (g : Nat) (A : Option Addr) (cp : Nat), N ≤ g → Five W g (.int .i64 0) (.int .i64 0) (.string ⟨#[]⟩) (.slice none 0 0) (.slice none 0 0) → PLies W N A cp (keysP []) →
      Calls Tryz.prog 18 #[.pointer (some ⟨g, 0, none⟩), .slice A 0 cp, .agg #[.int .i64 k0, .int .i64 i0, .string t0, .slice none 0 0, .slice none 0 0]] W (NestPost g (nestV [] (leaf k0 i0 t0)) W) from HIH.out)
    clear HPR HIH hr0 hr1 hr2 hr3 hcp
    go_region_with (first
      | (go_at_call 32; refine (room_null g k _ (HF4.out.below (Below.refl _ W4).drew)).mono ?_; rintro e w5 ⟨g1, c1', g2, c2', rfl, HRM⟩; have HRM' := Lib.hid HRM; have hx5 := BlockIs.grown (w := W4) HX4.out (grow_trans (grow_drew (grow_refl W4 (some g))) HRM.grown) (by simp; omega); obtain ⟨y0, y1, y2, y3, y4⟩ := five_of hx5; clear HRM)
      | (go_at_call 18; refine (HIH1.out _ g1 _ _ (by have := HRM'.out.far1; have : W4.drew.heap.size = W4.heap.size := rfl; omega) HRM'.out.item (HPR1.out.low (fun b' hb' => (HRM'.out.grown.block b' (hlt4 b' hb') (by simp; omega)).trans (HLOW.out b' hb')))).mono ?_; rintro e w6 ⟨rfl, hgr6, A6, c6, K6, d6, hf6, hl6⟩))
    all_goals
      have hrg := HRM'.out.grown
      have hf1 := HRM'.out.far1
      have hf2 := HRM'.out.far2
      have hzz : W4.drew.heap.size = W4.heap.size := rfl
      have hs5 := hrg.size
      have hs6 := hgr6.size
      have HG6 := Lib.hid (grow_new (grow_trans HG4.out (grow_trans (grow_drew (grow_refl W4 (some g))) hrg)) hgr6 (by omega))
      have HF6 := Lib.hid (HRM'.out.five.grown hgr6 (by simp; omega))
      have HN6 := Lib.hid (nest_lies (W := W) hf6 (LiesIn.keep (fun _ _ _ => rfl) (fun b' hb' => ⟨by have := hb'.1; omega, hb'.2⟩) _ hl6) ((hgr6.cell_far ⟨g2, 0, none⟩ HRM'.out.lt2 (by have := HRM'.out.apart; simp; omega)).trans HRM'.out.key) HKS.out (by omega) (by omega) (by have := HRM'.out.lt2; omega) HRM'.out.cap1 HRM'.out.cap2)
      clear hf6 hl6 hgr6 hrg hf1 hf2 hzz hs5 hs6 HRM' y0 y1 y2 y3 y4 c0 c1 c2 c3 c4 f0 f1 f2 f3 f4 x0 x1 x2 x3 x4 hx5
      go_wp2_with fail
      refine bodyPost_ret (v := .int .i64 0) (by simp [results, Tryz.results18, go_sem]) rfl ?_
      exact nest_post HG6.out HF6.out HN6.out
  · go_region_with (first
      | (go_at_call 32; refine (room_null g k _ (HF4.out.below (Below.refl _ W4).drew)).mono ?_; rintro e w5 ⟨g1, c1', g2, c2', rfl, HRM⟩; have HRM' := Lib.hid HRM; have hx5 := BlockIs.grown (w := W4) HX4.out (grow_trans (grow_drew (grow_refl W4 (some g))) HRM.grown) (by simp; omega); obtain ⟨y0, y1, y2, y3, y4⟩ := five_of hx5; clear HRM)
      | (go_at_call 18; refine (HIH.out _ g1 _ _ (by have := HRM'.out.far1; have : W4.drew.heap.size = W4.heap.size := rfl; omega) HRM'.out.item (HPR.out.low (fun b' hb' => (HRM'.out.grown.block b' (hlt4 b' hb') (by simp; omega)).trans (HLOW.out b' hb')))).mono ?_; rintro e w6 ⟨rfl, hgr6, A6, c6, K6, d6, hf6, hl6⟩))
    all_goals
      have hrg := HRM'.out.grown
      have hf1 := HRM'.out.far1
      have hf2 := HRM'.out.far2
      have hzz : W4.drew.heap.size = W4.heap.size := rfl
      have hs5 := hrg.size
      have hs6 := hgr6.size
      have HG6 := Lib.hid (grow_new (grow_trans HG4.out (grow_trans (grow_drew (grow_refl W4 (some g))) hrg)) hgr6 (by omega))
      have HF6 := Lib.hid (HRM'.out.five.grown hgr6 (by simp; omega))
      have HN6 := Lib.hid (nest_lies (W := W) hf6 (LiesIn.keep (fun _ _ _ => rfl) (fun b' hb' => ⟨by have := hb'.1; omega, hb'.2⟩) _ hl6) ((hgr6.cell_far ⟨g2, 0, none⟩ HRM'.out.lt2 (by have := HRM'.out.apart; simp; omega)).trans HRM'.out.key) HKS.out (by omega) (by omega) (by have := HRM'.out.lt2; omega) HRM'.out.cap1 HRM'.out.cap2)
      clear hf6 hl6 hgr6 hrg hf1 hf2 hzz hs5 hs6 HRM' y0 y1 y2 y3 y4 c0 c1 c2 c3 c4 f0 f1 f2 f3 f4 x0 x1 x2 x3 x4 hx5
      go_wp2_with fail
      refine bodyPost_ret (v := .int .i64 0) (by simp [results, Tryz.results18, go_sem]) rfl ?_
      exact nest_post HG6.out HF6.out HN6.out
/-- A value at a path of keys, where nothing is yet. -/
theorem put_nest (k0 i0 : Int) (t0 : ByteArray) (ht0 : t0.size ≤ maxLen) (N : Nat) : ∀ (ks : List ByteArray) (W : World) (g : Nat) (A : Option Addr) (cp : Nat), N ≤ g → Five W g (.int .i64 0) (.int .i64 0) (.string ⟨#[]⟩) (.slice none 0 0) (.slice none 0 0) → PLies W N A cp (keysP ks) →
    Calls Tryz.prog 18 #[.pointer (some ⟨g, 0, none⟩), .slice A ks.length cp, .agg #[.int .i64 k0, .int .i64 i0, .string t0, .slice none 0 0, .slice none 0 0]] W (NestPost g (nestV ks (leaf k0 i0 t0)) W)
  | [], W, g, A, cp, _, h, _ => put_here k0 i0 t0 ht0 W g A cp h
  | k :: r, W, g, A, cp, hN, h, hp => put_deeper k0 i0 t0 k r W g N A cp hN h hp fun W g A cp hN h hp => put_nest k0 i0 t0 ht0 N r W g A cp hN h hp
end Go.Proofs.YtchadlbhdcpojaaGreatDoor
