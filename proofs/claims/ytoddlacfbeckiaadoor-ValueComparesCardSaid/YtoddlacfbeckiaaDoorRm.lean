/- The program's order, and Compare. -/
import Derived.Test.YtoddlacfbeckiaaDoorRl
namespace Go.Proofs.YtoddlacfbeckiaaDoor
open Go.RowKit

theorem cmpI_self (k : Int) : cmpI k k = 0 := by unfold cmpI; simp
theorem cmpI_ne {k k' : Int} (h : ¬ k = k') : (cmpI k k' != 0) = true := by
  unfold cmpI
  rcases Int.lt_or_gt_of_ne h with h1 | h1
  · simp [h1]
  · rw [if_neg (by omega), if_pos h1]; rfl

set_option maxRecDepth 100000 in
set_option maxHeartbeats 2000000 in
theorem order_walk (k i k' i' : Int) (t t' : ByteArray) (n m n' m' : Nat) (w : World) (A K : Option Addr) (c d : Nat) (A' K' : Option Addr) (c' d' : Nat) (r : Int)
    (HC : Hid (¬ k = 1 → ¬ k = 2 → ¬ k = 3 → k = k' → ∀ W : World, Below w.heap.size w W → Calls Tryd.prog 58 #[.agg #[.int .i64 k, .int .i64 i, .string t, .slice A n c, .slice K m d], .agg #[.int .i64 k', .int .i64 i', .string t', .slice A' n' c', .slice K' m' d']] W fun e w' => e = .returned (.int .i64 r) ∧ Below W.heap.size W w')) :
    Calls Tryd.prog 42 #[.agg #[.int .i64 k, .int .i64 i, .string t, .slice A n c, .slice K m d], .agg #[.int .i64 k', .int .i64 i', .string t', .slice A' n' c', .slice K' m' d']] w fun e w' => e = .returned (.int .i64 (if k = k' then if k = 1 ∨ k = 2 then cmpI i i' else if k = 3 then cmpS t t' else r else cmpI k k')) ∧ Below w.heap.size w w' := by
  by_cases hk : k = k'
  · rw [if_pos hk]
    subst hk
    have HI := Lib.hid fun W => (cmpI_self k ▸ cmpInt_any k k W)
    by_cases h1 : k = 1
    · subst h1
      rw [if_pos (.inl rfl)]
      go_enter Tryd.func42, Tryd.ntmps42
      go_wp2_with fail
      refine (HI.out _).mono ?_
      rintro e w1 ⟨rfl, rfl⟩
      go_wp2_with fail
      refine (cmpInt_any _ _ _).mono ?_
      rintro e w1 ⟨rfl, rfl⟩
      go_wp2_with fail
      go_ret
      exact ⟨rfl, ((Below.refl _ _).alloc (Nat.le_refl _) _).alloc (by simp) _⟩
    by_cases h2 : k = 2
    · subst h2
      rw [if_pos (.inr rfl)]
      go_enter Tryd.func42, Tryd.ntmps42
      go_wp2_with fail
      refine (HI.out _).mono ?_
      rintro e w1 ⟨rfl, rfl⟩
      go_wp2_with fail
      refine (cmpInt_any _ _ _).mono ?_
      rintro e w1 ⟨rfl, rfl⟩
      go_wp2_with fail
      go_ret
      exact ⟨rfl, ((Below.refl _ _).alloc (Nat.le_refl _) _).alloc (by simp) _⟩
    rw [if_neg (by rintro (h | h); exact h1 h; exact h2 h)]
    by_cases h3 : k = 3
    · subst h3
      rw [if_pos rfl]
      go_enter Tryd.func42, Tryd.ntmps42
      go_wp2_with fail
      refine (HI.out _).mono ?_
      rintro e w1 ⟨rfl, rfl⟩
      go_wp2_with fail
      refine (cmpStr_any _ _ _).mono ?_
      rintro e w1 ⟨rfl, rfl⟩
      go_wp2_with fail
      go_ret
      exact ⟨rfl, ((Below.refl _ _).alloc (Nat.le_refl _) _).alloc (by simp) _⟩
    rw [if_neg h3]
    have HC1 := Lib.hid (HC.out h1 h2 h3 rfl)
    go_enter Tryd.func42, Tryd.ntmps42
    go_wp2_with fail
    refine (HI.out _).mono ?_
    rintro e w1 ⟨rfl, rfl⟩
    go_wp2_with fail
    refine (HC1.out _ (((Below.refl _ _).alloc (Nat.le_refl _) _).alloc (by simp) _)).mono ?_
    rintro e w1 ⟨rfl, hb⟩
    go_wp2_with fail
    go_ret
    exact ⟨rfl, (((Below.refl _ _).alloc (Nat.le_refl _) _).alloc (by simp) _).trans (hb.mono (by simp; omega))⟩
  · rw [if_neg hk]
    have HI := Lib.hid fun W => cmpInt_any k k' W
    have hr := cmpI_ne hk
    obtain ⟨q, hq⟩ : ∃ q, q = cmpI k k' := ⟨_, rfl⟩
    rw [← hq] at HI hr ⊢
    clear hq hk
    go_enter Tryd.func42, Tryd.ntmps42
    go_wp2_with fail
    refine (HI.out _).mono ?_
    rintro e w1 ⟨rfl, rfl⟩
    go_wp2_with fail
    go_ret
    exact ⟨rfl, ((Below.refl _ _).alloc (Nat.le_refl _) _).alloc (by simp) _⟩

theorem order_any (N : Nat) : OrderSaid 42 N := by
  induction N with
  | zero => intro x y w A K c d A' K' c' d' hx; have := x.nodes_pos; omega
  | succ N ih =>
    intro x y w A K c d A' K' c' d' hx hok hok' h h'
    obtain ⟨k, i, t, l, ks⟩ := x
    obtain ⟨k', i', t', l', ks'⟩ := y
    rw [V.nodes] at hx
    rw [V.cmp]
    simp only [V.kind, V.int, V.text, V.items, V.keys]
    refine order_walk k i k' i' t t' _ _ _ _ w A K c d A' K' c' d' _ (Lib.hid fun h1 h2 h3 hk W hW => ?_)
    exact orderItems_of N ih k i k' i' t t' l l' ks ks' W A K c d A' K' c' d' (by omega) (ok_items hok) (ok_items hok') (fun h5 => ⟨ok_keys hok h5, ok_keys hok' (by omega)⟩) (Lies.keep (bcell hW) hW.size _ h) (Lies.keep (bcell hW) hW.size _ h')

def CmpPost (x y : V) (w : World) (e : Ending) (w' : World) : Prop :=
  e = .returned (if x.valid && y.valid then .tuple #[.int .i64 (x.cmp y), .int .i64 0] else .tuple #[.int .i64 0, .int .i64 1]) ∧ Below w.heap.size w w'
theorem valid_ok {x : V} (h : x.valid = true) : x.ok = true := by unfold V.valid V.fits at h; simp at h; exact h.1.1

set_option maxRecDepth 100000 in
set_option maxHeartbeats 1000000 in
theorem compare_any (x y : V) (w : World) (A K : Option Addr) (c d : Nat) (A' K' : Option Addr) (c' d' : Nat) (h : Lies w w.heap.size x A c K d) (h' : Lies w w.heap.size y A' c' K' d') :
    Calls Tryd.prog 23 #[.agg #[.int .i64 x.kind, .int .i64 x.int, .string x.text, .slice A x.items.length c, .slice K x.keys.length d], .agg #[.int .i64 y.kind, .int .i64 y.int, .string y.text, .slice A' y.items.length c', .slice K' y.keys.length d']] w (CmpPost x y w) := by
  have HV1 := Lib.hid fun W (hW : Below w.heap.size w W) => valid_any x W A K c d (Lies.keep (bcell hW) hW.size _ h)
  have HV2 := Lib.hid fun W (hW : Below w.heap.size w W) => valid_any y W A' K' c' d' (Lies.keep (bcell hW) hW.size _ h')
  have hB0 : ∀ (o o' : Obj), Below w.heap.size w ((w.alloc o).alloc o') := fun o o' => ((Below.refl _ _).alloc (Nat.le_refl _) _).alloc (by simp) _
  have HB0 := Lib.hid hB0
  clear hB0
  cases hv : x.valid
  · have HX := Lib.hid hv
    rw [hv] at HV1
    clear hv
    go_enter Tryd.func23, Tryd.ntmps23
    go_wp2_with fail
    refine (HV1.out _ (HB0.out _ _)).mono ?_
    rintro e w1 ⟨rfl, hb⟩
    have HB := Lib.hid ((HB0.out _ _).trans (hb.mono (by simp; omega)))
    clear hb
    go_wp2_with fail
    go_ret2
    go_light
    exact ⟨by rw [HX.out]; rfl, HB.out⟩
  have HX := Lib.hid hv
  rw [hv] at HV1
  have hox := Lib.hid (valid_ok hv)
  clear hv
  cases hv : y.valid
  · have HY := Lib.hid hv
    rw [hv] at HV2
    clear hv
    go_enter Tryd.func23, Tryd.ntmps23
    go_wp2_with fail
    refine (HV1.out _ (HB0.out _ _)).mono ?_
    rintro e w1 ⟨rfl, hb⟩
    have HB := Lib.hid ((HB0.out _ _).trans (hb.mono (by simp; omega)))
    have hc := bcell hb
    have hz := hb.size
    simp only [World.size_alloc] at hz
    clear hb
    go_wp2_with fail
    refine (HV2.out _ HB.out).mono ?_
    rintro e w2 ⟨rfl, hb⟩
    have HB2 := Lib.hid (HB.out.trans (hb.mono (by omega)))
    clear hb
    go_wp2_with fail
    go_ret2
    go_light
    exact ⟨by rw [HX.out, HY.out]; rfl, HB2.out⟩
  have HY := Lib.hid hv
  rw [hv] at HV2
  have HC := Lib.hid fun W (hW : Below w.heap.size w W) => order_any x.nodes x y W A K c d A' K' c' d' (Nat.le_refl _) hox.out (valid_ok hv) (Lies.keep (bcell hW) hW.size _ h) (Lies.keep (bcell hW) hW.size _ h')
  clear hv
  obtain ⟨r, hr⟩ : ∃ r, r = x.cmp y := ⟨_, rfl⟩
  rw [← hr] at HC
  have HR := Lib.hid hr
  clear hr
  go_enter Tryd.func23, Tryd.ntmps23
  go_wp2_with fail
  refine (HV1.out _ (HB0.out _ _)).mono ?_
  rintro e w1 ⟨rfl, hb⟩
  have HB := Lib.hid ((HB0.out _ _).trans (hb.mono (by simp; omega)))
  have HK := Lib.hid (hb.mono (B' := w.heap.size + 2) (by simp))
  have hc := bcell hb
  have hz := hb.size
  simp only [World.size_alloc] at hz
  clear hb
  go_wp2_with fail
  refine (HV2.out _ HB.out).mono ?_
  rintro e w2 ⟨rfl, hb⟩
  have HB2 := Lib.hid (HB.out.trans (hb.mono (by omega)))
  have hz2 := hb.size
  obtain ⟨a0, a1, a2, a3, a4, b0, b1, b2, b3, b4⟩ := box2all (HK.out.trans (hb.mono hz))
  clear hb hc
  go_wp2_with fail
  refine (HC.out _ HB2.out).mono ?_
  rintro e w3 ⟨rfl, hb⟩
  have HB3 := Lib.hid (HB2.out.trans (hb.mono (by omega)))
  clear hb
  go_wp2_with fail
  go_ret2
  go_light
  exact ⟨by rw [HX.out, HY.out, ← HR.out]; rfl, HB3.out⟩

end Go.Proofs.YtoddlacfbeckiaaDoor
