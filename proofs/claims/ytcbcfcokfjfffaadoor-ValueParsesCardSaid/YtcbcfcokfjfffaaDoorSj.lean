/- The specification's reader: a value, walked. -/
import Derived.Test.YtcbcfcokfjfffaaDoorSh
namespace Go.Proofs.YtcbcfcokfjfffaaDoor
open Go.RowKit

section
variable {g k' : Nat} {s : ByteArray} {bl bd b : Bool} {w w1 w' : World} {R : Option (V × List UInt8)} {e : Ending}
theorem RPost.back (h : RPost g s bl b w1 R e w') (hw : RWent g s k' bl bd w w1) : RPost g s bl b w R e w' := by
  have hs := hw.1.size
  have hk : ∀ {x A c K d}, LiesIn (Fresh w1 w') w' x A c K d → LiesIn (Fresh w w') w' x A c K d := fun h => LiesIn.keep (fun _ _ _ => rfl) (fun b hb => ⟨Nat.le_trans hs hb.1, hb.2⟩) _ h
  rcases R with _ | ⟨x, l⟩
  · obtain ⟨x, A, c, K, q, he, hx, k, hk', hW⟩ := h
    exact ⟨x, A, c, K, q, he, hk hx, k, hk', hw.trans hW⟩
  · obtain ⟨A, c, K, q, he, hx, k, hk', hl, hW⟩ := h
    exact ⟨A, c, K, q, he, hk hx, k, hk', hl, hw.trans hW⟩
theorem RPost.flag (h : RPost g s bl bd w R e w') : RPost g s bl false w (if bd = true then none else R) e w' := by
  cases bd
  · simpa using h
  · rcases R with _ | ⟨x, l⟩
    · exact h
    · obtain ⟨A, c, K, q, he, hx, k, hk', hl, hW⟩ := h
      exact ⟨x, A, c, K, q, he, hx, k, hk', hW⟩
theorem RPost.returned (h : RPost g s bl b w R e w') : ∃ x A c K q, e = .returned (cellsOf x A c K q) := by
  rcases R with _ | ⟨x, l⟩
  · obtain ⟨x, A, c, K, q, he, -⟩ := h
    exact ⟨x, A, c, K, q, he⟩
  · obtain ⟨A, c, K, q, he, -⟩ := h
    exact ⟨x, A, c, K, q, he⟩
theorem RPost.went (h : RPost g s bl b w R e w') : ∃ k b', RWent g s k bl b' w w' := by
  rcases R with _ | ⟨x, l⟩
  · obtain ⟨x, A, c, K, q, he, -, k, -, hW⟩ := h
    exact ⟨k, true, hW⟩
  · obtain ⟨A, c, K, q, he, -, k, -, -, hW⟩ := h
    exact ⟨k, b, hW⟩
theorem leaf_in (P : Nat → Prop) (w : World) (k i : Int) {t : ByteArray} (ht : t.size ≤ maxLen) : LiesIn P w (leaf k i t) none 0 none 0 := by
  rw [leaf, LiesIn]
  exact ⟨ht, Nat.le_refl _, Nat.zero_le _, ⟨Nat.le_refl _, Nat.zero_le _, .inl rfl⟩, .inl rfl⟩
theorem RPost.leaf {k i : Int} {t : ByteArray} (h : RWent g s k' bl bd w w') (hk : k' ≤ s.size) (ht : t.size ≤ maxLen) (hR : R = some (leaf k i t, sfx s k')) :
    RPost g s bl false w (if bd = true then none else R) (.returned (cellsOf (Go.Proofs.YtcbcfcokfjfffaaDoor.leaf k i t) none 0 none 0)) w' := by
  subst hR
  exact RPost.flag (bd := bd) ⟨none, 0, none, 0, rfl, leaf_in _ _ _ _ ht, k', hk, rfl, h⟩
theorem RPost.wrong {k i : Int} {t : ByteArray} (h : RWent g s k' bl true w w') (hk : k' ≤ s.size) (ht : t.size ≤ maxLen) (hR : R = none) :
    RPost g s bl false w R (.returned (cellsOf (Go.Proofs.YtcbcfcokfjfffaaDoor.leaf k i t) none 0 none 0)) w' := by
  subst hR
  exact ⟨_, none, 0, none, 0, rfl, leaf_in _ _ _ _ ht, k', hk, h⟩
end
theorem vw_step {g k k' : Nat} {s : ByteArray} {bl bd bd' : Bool} {w W W' : World} (h : RWent g s k bl bd w W ∧ BlockIs W w.heap.size 25 zeroF) (hg : g < w.heap.size) (hw : RWent g s k' bl bd' W W') : RWent g s k' bl bd' w W' ∧ BlockIs W' w.heap.size 25 zeroF :=
  ⟨h.1.trans hw, h.2.grown hw.1 (by simp; omega)⟩
theorem vw_below {g k : Nat} {s : ByteArray} {bl bd : Bool} {w W W' : World} (h : RWent g s k bl bd w W ∧ BlockIs W w.heap.size 25 zeroF) (hb : Below W.heap.size W W') : RWent g s k bl bd w W' ∧ BlockIs W' w.heap.size 25 zeroF :=
  ⟨h.1.below hb, h.2.below hb h.2.lt⟩
/-- The answer, behind its store. -/
theorem RPost.ends {g k : Nat} {s : ByteArray} {bl bd b : Bool} {w W W' : World} {R : Option (V × List UInt8)} {e : Ending} (h : RPost g s bl b W R e W') (hw : RWent g s k bl bd w W) (hlt : w.heap.size < W.heap.size) (hg : g < w.heap.size) (u0 u1 u2 u3 u4 : Value) :
    RPost g s bl b w R e (put5 W' w.heap.size 0 u0 u1 u2 u3 u4) := by
  have hs := put5_size W' w.heap.size 0 u0 u1 u2 u3 u4
  have hk : ∀ {x A c K d}, LiesIn (Fresh W W') W' x A c K d → LiesIn (Fresh w (put5 W' w.heap.size 0 u0 u1 u2 u3 u4)) (put5 W' w.heap.size 0 u0 u1 u2 u3 u4) x A c K d := fun h =>
    LiesIn.keep (fun b o hb => World.cell?_of_block (put5_heap W' w.heap.size 0 u0 u1 u2 u3 u4 (by have := hb.1; show b ≠ w.heap.size; omega))) (fun b hb => ⟨by have := hb.1; omega, by rw [hs]; exact hb.2⟩) _ h
  have hR : ∀ {k b}, RWent g s k bl b W W' → RWent g s k bl b w (put5 W' w.heap.size 0 u0 u1 u2 u3 u4) := fun h =>
    (((((hw.trans h).set hg _ _ (by simp)).set hg _ _ (by simp)).set hg _ _ (by simp)).set hg _ _ (by simp)).set hg _ _ (by simp)
  rcases R with _ | ⟨x, l⟩
  · obtain ⟨x, A, c, K, q, he, hx, k, hk', hW⟩ := h
    exact ⟨x, A, c, K, q, he, hk hx, k, hk', hR hW⟩
  · obtain ⟨A, c, K, q, he, hx, k, hk', hl, hW⟩ := h
    exact ⟨A, c, K, q, he, hk hx, k, hk', hl, hR hW⟩
theorem sign_is (c x : UInt8) (r : List UInt8) : Lib.hasPrefix (c :: r) [x] = decide (c = x) := by
  simp only [Lib.hasPrefix, List.isPrefixOf, Bool.and_true]
  by_cases h : c = x
  · simp [h]
  · have : ¬ x = c := fun e => h e.symm
    simp [h, this]
theorem word_fits {s p : ByteArray} {k : Nat} (h : Lib.hasPrefix (sfx s k) p.data.toList = true) (hk : k ≤ s.size) : k + p.size ≤ s.size := by
  have h1 := congrArg List.length (prefix_is h)
  rw [List.length_append, sfx_length] at h1
  simp at h1
  omega
/-- What a value begins with. -/
theorem value_first {bl : Bool} {L : Nat} {l : List UInt8} {c : UInt8} {r : List UInt8} (h : skipB bl l = c :: r) {n f t q b o : Bool}
    (hn : Lib.hasPrefix (c :: r) nullW.data.toList = n) (hf : Lib.hasPrefix (c :: r) falseW.data.toList = f) (ht : Lib.hasPrefix (c :: r) trueW.data.toList = t)
    (hq : Lib.hasPrefix (c :: r) [34] = q) (hb : Lib.hasPrefix (c :: r) [91] = b) (ho : Lib.hasPrefix (c :: r) [123] = o) :
    valueR bl (L + 1) l = if n = true then some (leaf 0 0 ⟨#[]⟩, (c :: r).drop 4) else if f = true then some (leaf 1 0 ⟨#[]⟩, (c :: r).drop 5) else if t = true then some (leaf 1 1 ⟨#[]⟩, (c :: r).drop 4)
      else if q = true then (strR r []).map fun q => (leaf 3 0 ⟨q.1.toArray⟩, q.2) else if b = true then listR (valueR bl L) bl r else if o = true then objectR (valueR bl L) bl r else numberR (c :: r) := by
  subst hn hf ht hq hb ho
  rw [sign_is, sign_is, sign_is, valueR, h]
  simp only [decide_eq_true_eq]
  cases h1 : Lib.hasPrefix (c :: r) nullW.data.toList
  · cases h2 : Lib.hasPrefix (c :: r) falseW.data.toList
    · cases h3 : Lib.hasPrefix (c :: r) trueW.data.toList
      · simp [nameP, h1, h2, h3]
      · simp [nameP, h1, h2, h3]
    · simp [nameP, h1, h2]
  · simp [nameP, h1]

set_option maxRecDepth 100000 in
set_option maxHeartbeats 16000000 in
theorem value_stepR (g : Nat) (s : ByteArray) (hs : s.size ≤ 1000000) (bl bd : Bool) (L : Nat) (hL6 : L ≤ 6)
    (HLI : ∀ (k : Nat) (W : World), RAt W g s k bl bd → k ≤ s.size → Calls Tryd.prog 89 #[.pointer (some ⟨g, 0, none⟩), .int .i64 ((L : Int) + 1)] W (RPost g s bl false W (if bd = true then none else listR (valueR bl L) bl (sfx s k))))
    (HOB : ∀ (k : Nat) (W : World), RAt W g s k bl bd → k ≤ s.size → Calls Tryd.prog 90 #[.pointer (some ⟨g, 0, none⟩), .int .i64 ((L : Int) + 1)] W (RPost g s bl false W (if bd = true then none else objectR (valueR bl L) bl (sfx s k))))
    (k : Nat) (w : World) (h : RAt w g s k bl bd) (hk : k ≤ s.size) :
    Calls Tryd.prog 55 #[.pointer (some ⟨g, 0, none⟩), .int .i64 ((L : Int) + 1)] w (RPost g s bl false w (if bd = true then none else valueR bl (L + 1) (sfx s k))) := by
  have HL := Lib.hid HLI
  have HO := Lib.hid HOB
  have HP := Lib.hid h
  have hg := h.lt
  obtain ⟨R, hR⟩ : ∃ R, R = valueR bl (L + 1) (sfx s k) := ⟨_, rfl⟩
  rw [← hR]
  have HR := Lib.hid hR
  obtain ⟨RR, hRR⟩ : ∃ RR, RR = if bd = true then none else R := ⟨_, rfl⟩
  rw [← hRR]
  have HRR := Lib.hid hRR
  clear HLI HOB h hR hRR
  go_enter Tryd.func55, Tryd.ntmps55
  go_wp2_with fail
  refine (skip_any g s k bl bd _ (BlockIs.alloc HP.out _) hk hs).mono ?_
  rintro e w1 ⟨rfl, k1, hk1, hsk1, hW0⟩
  have hW := vw_step ⟨(RWent.refl HP.out).alloc _, BlockIs.new w 25 zeroF⟩ hg hW0
  have HS := Lib.hid hsk1
  have HW := Lib.hid hW
  obtain ⟨⟨c0, c1, c2, c3⟩, f1, f3⟩ := hW.1.2.cells
  have gz : g < w1.heap.size := hW.1.2.lt
  clear hW hsk1 HP hW0
  by_cases hlt : k1 < s.size
  · have HC := Lib.hid (show skipB bl (sfx s k) = s[k1] :: sfx s (k1 + 1) by rw [← HS.out, sfx_cons hlt])
    have HD := Lib.hid (fun m => sfx_drop s k1 m)
    obtain ⟨n, hn⟩ : ∃ n, Lib.hasPrefix (s[k1] :: sfx s (k1 + 1)) (⟨#[110, 117, 108, 108]⟩ : ByteArray).data.toList = n := ⟨_, rfl⟩
    obtain ⟨f, hf⟩ : ∃ f, Lib.hasPrefix (s[k1] :: sfx s (k1 + 1)) (⟨#[102, 97, 108, 115, 101]⟩ : ByteArray).data.toList = f := ⟨_, rfl⟩
    obtain ⟨t, ht⟩ : ∃ t, Lib.hasPrefix (s[k1] :: sfx s (k1 + 1)) (⟨#[116, 114, 117, 101]⟩ : ByteArray).data.toList = t := ⟨_, rfl⟩
    obtain ⟨q, hq⟩ : ∃ q, Lib.hasPrefix (s[k1] :: sfx s (k1 + 1)) (⟨#[34]⟩ : ByteArray).data.toList = q := ⟨_, rfl⟩
    obtain ⟨b, hb⟩ : ∃ b, Lib.hasPrefix (s[k1] :: sfx s (k1 + 1)) (⟨#[91]⟩ : ByteArray).data.toList = b := ⟨_, rfl⟩
    obtain ⟨o, ho⟩ : ∃ o, Lib.hasPrefix (s[k1] :: sfx s (k1 + 1)) (⟨#[123]⟩ : ByteArray).data.toList = o := ⟨_, rfl⟩
    have HV := Lib.hid (HR.out.trans (value_first (L := L) HC.out hn hf ht hq hb ho))
    have HNW := Lib.hid (show Lib.hasPrefix (sfx s k1) (⟨#[110, 117, 108, 108]⟩ : ByteArray).data.toList = n by rw [sfx_cons hlt]; exact hn)
    have HFW := Lib.hid (show Lib.hasPrefix (sfx s k1) (⟨#[102, 97, 108, 115, 101]⟩ : ByteArray).data.toList = f by rw [sfx_cons hlt]; exact hf)
    have HTW := Lib.hid (show Lib.hasPrefix (sfx s k1) (⟨#[116, 114, 117, 101]⟩ : ByteArray).data.toList = t by rw [sfx_cons hlt]; exact ht)
    have HQW := Lib.hid (show Lib.hasPrefix (sfx s k1) (⟨#[34]⟩ : ByteArray).data.toList = q by rw [sfx_cons hlt]; exact hq)
    have HBW := Lib.hid (show Lib.hasPrefix (sfx s k1) (⟨#[91]⟩ : ByteArray).data.toList = b by rw [sfx_cons hlt]; exact hb)
    have HOW := Lib.hid (show Lib.hasPrefix (sfx s k1) (⟨#[123]⟩ : ByteArray).data.toList = o by rw [sfx_cons hlt]; exact ho)
    clear hn hf ht hq hb ho HC HR
    go_wp2_with fail
    have hd : decide ((L : Int) + 1 < 1) = false := by simp; omega
    go_quiet (fail)
    have HWq := Lib.hid (vw_step HW.out hg ((RWent.refl HW.out.1.2).drewN nq))
    go_wp2_with fail
    refine (word_takes g s ⟨#[110, 117, 108, 108]⟩ k1 bl bd n (w1.drewN nq) HWq.out.1.2 hk1 hs (by decide) HNW.out).mono ?_
    rintro e w2 ⟨rfl, hW0⟩
    cases n
    rotate_left
    · have HT := Lib.hid (vw_step HWq.out hg hW0)
      have hkk : k1 + 4 ≤ s.size := word_fits (p := ⟨#[110, 117, 108, 108]⟩) HNW.out hk1
      clear hW0
      go_wp2_with fail
      refine (refNull_any _).mono ?_
      rintro e w9 ⟨rfl, h9⟩
      have HF := Lib.hid (vw_below HT.out h9)
      clear h9
      obtain ⟨z0, z1, z2, z3, z4⟩ := five_cells (show BlockIs _ w.heap.size 25 #[.int .i64 0, .int .i64 0, .string ⟨#[]⟩, .slice none 0 0, .slice none 0 0] from HF.out.2)
      have x0 := HF.out.2.frozen 0
      have x1 := HF.out.2.frozen 1
      have x2 := HF.out.2.frozen 2
      have x3 := HF.out.2.frozen 3
      have x4 := HF.out.2.frozen 4
      have zl := HF.out.2.lt
      go_wp2_with fail
      refine bodyPost_ret (v := cellsOf (leaf 0 0 ⟨#[]⟩) none 0 none 0) (by simp [results, Tryd.results55, go_sem, cellsOf, leaf, V.kind, V.int, V.text, V.items, V.keys, z0, z1, z2, z3, z4]) rfl ?_
      rw [HRR.out]
      exact (RPost.leaf (RWent.refl HF.out.1.2) hkk (by decide) (by rw [HV.out, ← sfx_cons hlt]; simp only [HD.out]; rfl)).ends HF.out.1 HF.out.2.lt hg _ _ _ _ _
    have HW0 := Lib.hid (show RWent g s k1 bl bd w w2 ∧ BlockIs w2 w.heap.size 25 zeroF from vw_step HWq.out hg hW0)
    clear hW0
    go_wp2_with fail
    refine (word_takes g s ⟨#[102, 97, 108, 115, 101]⟩ k1 bl bd f w2 HW0.out.1.2 hk1 hs (by decide) HFW.out).mono ?_
    rintro e w3 ⟨rfl, hW1⟩
    cases f
    rotate_left
    · have HT := Lib.hid (vw_step HW0.out hg hW1)
      have hkk : k1 + 5 ≤ s.size := word_fits (p := ⟨#[102, 97, 108, 115, 101]⟩) HFW.out hk1
      clear hW1
      go_wp2_with fail
      refine (refTruth_any false _).mono ?_
      rintro e w9 ⟨rfl, h9⟩
      have HF := Lib.hid (vw_below HT.out h9)
      clear h9
      obtain ⟨z0, z1, z2, z3, z4⟩ := five_cells (show BlockIs _ w.heap.size 25 #[.int .i64 0, .int .i64 0, .string ⟨#[]⟩, .slice none 0 0, .slice none 0 0] from HF.out.2)
      have x0 := HF.out.2.frozen 0
      have x1 := HF.out.2.frozen 1
      have x2 := HF.out.2.frozen 2
      have x3 := HF.out.2.frozen 3
      have x4 := HF.out.2.frozen 4
      have zl := HF.out.2.lt
      go_wp2_with fail
      refine bodyPost_ret (v := cellsOf (leaf 1 0 ⟨#[]⟩) none 0 none 0) (by simp [results, Tryd.results55, go_sem, cellsOf, leaf, V.kind, V.int, V.text, V.items, V.keys, z0, z1, z2, z3, z4]) rfl ?_
      rw [HRR.out]
      exact (RPost.leaf (RWent.refl HF.out.1.2) hkk (by decide) (by rw [HV.out, ← sfx_cons hlt]; simp only [HD.out]; rfl)).ends HF.out.1 HF.out.2.lt hg _ _ _ _ _
    have HW1 := Lib.hid (show RWent g s k1 bl bd w w3 ∧ BlockIs w3 w.heap.size 25 zeroF from vw_step HW0.out hg hW1)
    clear hW1
    go_wp2_with fail
    refine (word_takes g s ⟨#[116, 114, 117, 101]⟩ k1 bl bd t w3 HW1.out.1.2 hk1 hs (by decide) HTW.out).mono ?_
    rintro e w4 ⟨rfl, hW2⟩
    cases t
    rotate_left
    · have HT := Lib.hid (vw_step HW1.out hg hW2)
      have hkk : k1 + 4 ≤ s.size := word_fits (p := ⟨#[116, 114, 117, 101]⟩) HTW.out hk1
      clear hW2
      go_wp2_with fail
      refine (refTruth_any true _).mono ?_
      rintro e w9 ⟨rfl, h9⟩
      have HF := Lib.hid (vw_below HT.out h9)
      clear h9
      obtain ⟨z0, z1, z2, z3, z4⟩ := five_cells (show BlockIs _ w.heap.size 25 #[.int .i64 0, .int .i64 0, .string ⟨#[]⟩, .slice none 0 0, .slice none 0 0] from HF.out.2)
      have x0 := HF.out.2.frozen 0
      have x1 := HF.out.2.frozen 1
      have x2 := HF.out.2.frozen 2
      have x3 := HF.out.2.frozen 3
      have x4 := HF.out.2.frozen 4
      have zl := HF.out.2.lt
      go_wp2_with fail
      refine bodyPost_ret (v := cellsOf (leaf 1 1 ⟨#[]⟩) none 0 none 0) (by simp [results, Tryd.results55, go_sem, cellsOf, leaf, V.kind, V.int, V.text, V.items, V.keys, z0, z1, z2, z3, z4]) rfl ?_
      rw [HRR.out]
      exact (RPost.leaf (RWent.refl HF.out.1.2) hkk (by decide) (by rw [HV.out, ← sfx_cons hlt]; simp only [HD.out]; rfl)).ends HF.out.1 HF.out.2.lt hg _ _ _ _ _
    have HW2 := Lib.hid (show RWent g s k1 bl bd w w4 ∧ BlockIs w4 w.heap.size 25 zeroF from vw_step HW1.out hg hW2)
    clear hW2
    go_wp2_with fail
    refine (word_takes g s ⟨#[34]⟩ k1 bl bd q w4 HW2.out.1.2 hk1 hs (by decide) HQW.out).mono ?_
    rintro e w5 ⟨rfl, hW3⟩
    cases q
    rotate_left
    · have HT := Lib.hid (vw_step HW2.out hg hW3)
      have hkk : k1 + 1 ≤ s.size := word_fits (p := ⟨#[34]⟩) HQW.out hk1
      clear hW3
      go_wp2_with fail
      refine (str_form g s hs bl bd (k1 + 1) w5 HT.out.1.2 hkk).mono ?_
      rintro e w9 ⟨t9, k9, bd9, rfl, ht9, hk9, hW9, HH⟩
      have HF := Lib.hid (vw_step HT.out hg hW9)
      clear hW9
      go_wp2_with fail
      refine (refStr_any _ _).mono ?_
      rintro e w10 ⟨rfl, h10⟩
      have HG := Lib.hid (vw_below HF.out h10)
      clear h10
      obtain ⟨z0, z1, z2, z3, z4⟩ := five_cells (show BlockIs _ w.heap.size 25 #[.int .i64 0, .int .i64 0, .string ⟨#[]⟩, .slice none 0 0, .slice none 0 0] from HG.out.2)
      have x0 := HG.out.2.frozen 0
      have x1 := HG.out.2.frozen 1
      have x2 := HG.out.2.frozen 2
      have x3 := HG.out.2.frozen 3
      have x4 := HG.out.2.frozen 4
      have zl := HG.out.2.lt
      go_wp2_with fail
      refine bodyPost_ret (v := cellsOf (leaf 3 0 t9) none 0 none 0) (by simp [results, Tryd.results55, go_sem, cellsOf, leaf, V.kind, V.int, V.text, V.items, V.keys, z0, z1, z2, z3, z4]) rfl ?_
      rw [HRR.out]
      rcases HH.out with ⟨rfl, hn⟩ | ⟨rfl, T, rfl, hn⟩
      · rw [show R = none by rw [HV.out]; simp [hn], ite_self]
        exact (RPost.wrong (RWent.refl HG.out.1.2) hk9 ht9 rfl).ends HG.out.1 HG.out.2.lt hg _ _ _ _ _
      · exact (RPost.leaf (RWent.refl HG.out.1.2) hk9 ht9 (by rw [HV.out]; simp [hn])).ends HG.out.1 HG.out.2.lt hg _ _ _ _ _
    have HW3 := Lib.hid (show RWent g s k1 bl bd w w5 ∧ BlockIs w5 w.heap.size 25 zeroF from vw_step HW2.out hg hW3)
    clear hW3
    go_wp2_with fail
    refine (word_takes g s ⟨#[91]⟩ k1 bl bd b w5 HW3.out.1.2 hk1 hs (by decide) HBW.out).mono ?_
    rintro e w6 ⟨rfl, hW4⟩
    cases b
    rotate_left
    · have HT := Lib.hid (vw_step HW3.out hg hW4)
      have hkk : k1 + 1 ≤ s.size := word_fits (p := ⟨#[91]⟩) HBW.out hk1
      clear hW4
      go_wp2_with fail
      refine (HL.out (k1 + 1) w6 HT.out.1.2 hkk).mono ?_
      intro e w9 hp
      have HPP := Lib.hid hp
      obtain ⟨k8, b8, hw8⟩ := hp.went
      obtain ⟨x9, A9, c9, K9, q9, rfl⟩ := hp.returned
      have HF := Lib.hid (vw_step HT.out hg hw8)
      clear hp hw8
      unfold cellsOf
      obtain ⟨z0, z1, z2, z3, z4⟩ := five_cells (show BlockIs _ w.heap.size 25 #[.int .i64 0, .int .i64 0, .string ⟨#[]⟩, .slice none 0 0, .slice none 0 0] from HF.out.2)
      have x0 := HF.out.2.frozen 0
      have x1 := HF.out.2.frozen 1
      have x2 := HF.out.2.frozen 2
      have x3 := HF.out.2.frozen 3
      have x4 := HF.out.2.frozen 4
      have zl := HF.out.2.lt
      go_wp2_with fail
      refine bodyPost_ret (v := cellsOf x9 A9 c9 K9 q9) (by simp [results, Tryd.results55, go_sem, cellsOf, V.kind, V.int, V.text, V.items, V.keys, z0, z1, z2, z3, z4]) rfl ?_
      rw [HRR.out, HV.out]
      exact HPP.out.ends HT.out.1 HT.out.2.lt hg _ _ _ _ _
    have HW4 := Lib.hid (show RWent g s k1 bl bd w w6 ∧ BlockIs w6 w.heap.size 25 zeroF from vw_step HW3.out hg hW4)
    clear hW4
    go_wp2_with fail
    refine (word_takes g s ⟨#[123]⟩ k1 bl bd o w6 HW4.out.1.2 hk1 hs (by decide) HOW.out).mono ?_
    rintro e w7 ⟨rfl, hW5⟩
    cases o
    rotate_left
    · have HT := Lib.hid (vw_step HW4.out hg hW5)
      have hkk : k1 + 1 ≤ s.size := word_fits (p := ⟨#[123]⟩) HOW.out hk1
      clear hW5
      go_wp2_with fail
      refine (HO.out (k1 + 1) w7 HT.out.1.2 hkk).mono ?_
      intro e w9 hp
      have HPP := Lib.hid hp
      obtain ⟨k8, b8, hw8⟩ := hp.went
      obtain ⟨x9, A9, c9, K9, q9, rfl⟩ := hp.returned
      have HF := Lib.hid (vw_step HT.out hg hw8)
      clear hp hw8
      unfold cellsOf
      obtain ⟨z0, z1, z2, z3, z4⟩ := five_cells (show BlockIs _ w.heap.size 25 #[.int .i64 0, .int .i64 0, .string ⟨#[]⟩, .slice none 0 0, .slice none 0 0] from HF.out.2)
      have x0 := HF.out.2.frozen 0
      have x1 := HF.out.2.frozen 1
      have x2 := HF.out.2.frozen 2
      have x3 := HF.out.2.frozen 3
      have x4 := HF.out.2.frozen 4
      have zl := HF.out.2.lt
      go_wp2_with fail
      refine bodyPost_ret (v := cellsOf x9 A9 c9 K9 q9) (by simp [results, Tryd.results55, go_sem, cellsOf, V.kind, V.int, V.text, V.items, V.keys, z0, z1, z2, z3, z4]) rfl ?_
      rw [HRR.out, HV.out]
      exact HPP.out.ends HT.out.1 HT.out.2.lt hg _ _ _ _ _
    have HW5 := Lib.hid (show RWent g s k1 bl bd w w7 ∧ BlockIs w7 w.heap.size 25 zeroF from vw_step HW4.out hg hW5)
    clear hW5
    go_wp2_with fail
    refine (number_reads g s k1 bl bd w7 HW5.out.1.2 hk1 hs).mono ?_
    intro e w9 hp
    have HPP := Lib.hid hp
    obtain ⟨k8, b8, hw8⟩ := hp.went
    obtain ⟨x9, A9, c9, K9, q9, rfl⟩ := hp.returned
    have HF := Lib.hid (vw_step HW5.out hg hw8)
    clear hp hw8
    unfold cellsOf
    obtain ⟨z0, z1, z2, z3, z4⟩ := five_cells (show BlockIs _ w.heap.size 25 #[.int .i64 0, .int .i64 0, .string ⟨#[]⟩, .slice none 0 0, .slice none 0 0] from HF.out.2)
    have x0 := HF.out.2.frozen 0
    have x1 := HF.out.2.frozen 1
    have x2 := HF.out.2.frozen 2
    have x3 := HF.out.2.frozen 3
    have x4 := HF.out.2.frozen 4
    have zl := HF.out.2.lt
    go_wp2_with fail
    refine bodyPost_ret (v := cellsOf x9 A9 c9 K9 q9) (by simp [results, Tryd.results55, go_sem, cellsOf, V.kind, V.int, V.text, V.items, V.keys, z0, z1, z2, z3, z4]) rfl ?_
    rw [HRR.out, show R = numberR (sfx s k1) by rw [HV.out, ← sfx_cons hlt]; simp]
    exact HPP.out.flag.ends HW5.out.1 HW5.out.2.lt hg _ _ _ _ _
  · have HN := Lib.hid (show R = none by rw [HR.out]; exact valueR_nil (by rw [← HS.out]; exact sfx_nil hlt))
    go_wp2_with fail
    have hd : decide ((L : Int) + 1 < 1) = false := by simp; omega
    go_quiet (fail)
    go_wp2_with fail
    refine (refNull_any _).mono ?_
    rintro e w9 ⟨rfl, h9⟩
    have HF := Lib.hid (vw_below (vw_step HW.out hg ((RWent.refl HW.out.1.2).drewN nq).wrong) h9)
    clear h9
    obtain ⟨z0, z1, z2, z3, z4⟩ := five_cells (show BlockIs _ w.heap.size 25 #[.int .i64 0, .int .i64 0, .string ⟨#[]⟩, .slice none 0 0, .slice none 0 0] from HF.out.2)
    have x0 := HF.out.2.frozen 0
    have x1 := HF.out.2.frozen 1
    have x2 := HF.out.2.frozen 2
    have x3 := HF.out.2.frozen 3
    have x4 := HF.out.2.frozen 4
    have zl := HF.out.2.lt
    go_wp2_with fail
    refine bodyPost_ret (v := cellsOf (leaf 0 0 ⟨#[]⟩) none 0 none 0) (by simp [results, Tryd.results55, go_sem, cellsOf, leaf, V.kind, V.int, V.text, V.items, V.keys, z0, z1, z2, z3, z4]) rfl ?_
    rw [HRR.out, HN.out, ite_self]
    exact (RPost.wrong (RWent.refl HF.out.1.2) hk1 (by decide) rfl).ends HF.out.1 HF.out.2.lt hg _ _ _ _ _

set_option maxRecDepth 100000 in
set_option maxHeartbeats 4000000 in
theorem value_baseR (g : Nat) (s : ByteArray) (hs : s.size ≤ 1000000) (bl bd : Bool) (k : Nat) (w : World) (h : RAt w g s k bl bd) (hk : k ≤ s.size) :
    Calls Tryd.prog 55 #[.pointer (some ⟨g, 0, none⟩), .int .i64 0] w (RPost g s bl false w (if bd = true then none else valueR bl 0 (sfx s k))) := by
  have HP := Lib.hid h
  have hg := h.lt
  rw [show (if bd = true then none else valueR bl 0 (sfx s k)) = none by unfold valueR; rw [ite_self]]
  clear h
  go_enter Tryd.func55, Tryd.ntmps55
  go_wp2_with fail
  refine (skip_any g s k bl bd _ (BlockIs.alloc HP.out _) hk hs).mono ?_
  rintro e w1 ⟨rfl, k1, hk1, hsk1, hW0⟩
  have hW := vw_step ⟨(RWent.refl HP.out).alloc _, BlockIs.new w 25 zeroF⟩ hg hW0
  have HW := Lib.hid hW
  obtain ⟨⟨c0, c1, c2, c3⟩, f1, f3⟩ := hW.1.2.cells
  have gz : g < w1.heap.size := hW.1.2.lt
  clear hW hsk1 HP hW0
  go_wp2_with fail
  have hd : decide ((0 : Int) < 1) = true := by decide
  go_quiet (fail)
  go_wp2_with fail
  refine (refNull_any _).mono ?_
  rintro e w9 ⟨rfl, h9⟩
  have HF := Lib.hid (vw_below (vw_step HW.out hg ((RWent.refl HW.out.1.2).drewN nq).wrong) h9)
  clear h9
  obtain ⟨z0, z1, z2, z3, z4⟩ := five_cells (show BlockIs _ w.heap.size 25 #[.int .i64 0, .int .i64 0, .string ⟨#[]⟩, .slice none 0 0, .slice none 0 0] from HF.out.2)
  have x0 := HF.out.2.frozen 0
  have x1 := HF.out.2.frozen 1
  have x2 := HF.out.2.frozen 2
  have x3 := HF.out.2.frozen 3
  have x4 := HF.out.2.frozen 4
  have zl := HF.out.2.lt
  go_wp2_with fail
  refine bodyPost_ret (v := cellsOf (leaf 0 0 ⟨#[]⟩) none 0 none 0) (by simp [results, Tryd.results55, go_sem, cellsOf, leaf, V.kind, V.int, V.text, V.items, V.keys, z0, z1, z2, z3, z4]) rfl ?_
  exact (RPost.wrong (RWent.refl HF.out.1.2) hk1 (by decide) rfl).ends HF.out.1 HF.out.2.lt hg _ _ _ _ _

theorem value_walkR (g : Nat) (s : ByteArray) (hs : s.size ≤ 1000000) (bl : Bool) : ∀ (L : Nat), L ≤ 6 → ∀ (bd : Bool) (k : Nat) (w : World), RAt w g s k bl bd → k ≤ s.size →
    Calls Tryd.prog 55 #[.pointer (some ⟨g, 0, none⟩), .int .i64 L] w (RPost g s bl false w (if bd = true then none else valueR bl L (sfx s k)))
  | 0, _, bd, k, w, h, hk => value_baseR g s hs bl bd k w h hk
  | L + 1, hL, bd, k, w, h, hk => by
    have ih := value_walkR g s hs bl L (by omega)
    have he := (valueR_facts bl L).1
    have := value_stepR g s hs bl bd L (by omega)
      (fun k W hW hk => list_walkR g s hs bl bd L (by omega) (valueR bl L) he (fun k W hW hk => by simpa using ih false k W hW hk) k W hW hk)
      (fun k W hW hk => object_walkR g s hs bl bd L (by omega) (valueR bl L) he ih k W hW hk) k w h hk
    rwa [show ((L + 1 : Nat) : Int) = (L : Int) + 1 by omega]
end Go.Proofs.YtcbcfcokfjfffaaDoor
