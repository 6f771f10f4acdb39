/- Reading: numbers. -/
import Derived.Test.YtoddlacfbeckiaaDoorWj
import Derived.Test.YtoddlacfbeckiaaDoorWb
import Derived.Test.YtoddlacfbeckiaaDoorRh
namespace Go.Proofs.YtoddlacfbeckiaaDoor
open Go.RowKit

theorem dg_end {s : ByteArray} {j : Nat} (h : ¬ j < s.size) (m c : Nat) : digsP (sfx s j) m c = some (m, c, sfx s j) := by rw [sfx_nil h, digsP]
theorem dg_other {s : ByteArray} {j : Nat} (h : j < s.size) (hc : digitB s[j] = false) (m c : Nat) : digsP (sfx s j) m c = some (m, c, sfx s j) := by
  rw [sfx_cons h, digsP, if_neg (by rw [show digB s[j] = digitB s[j] from rfl, hc]; simp)]
theorem dg_digit {s : ByteArray} {j : Nat} (h : j < s.size) (hc : digitB s[j] = true) (m c : Nat) (hm : 10 * m + (s[j].toNat - 48) ≤ 1000000000000) : digsP (sfx s j) m c = digsP (sfx s (j + 1)) (10 * m + (s[j].toNat - 48)) (c + 1) := by
  rw [sfx_cons h, digsP, if_pos (show digB s[j] = true from hc), if_pos hm]
theorem dg_big {s : ByteArray} {j : Nat} (h : j < s.size) (hc : digitB s[j] = true) (m c : Nat) (hm : ¬ 10 * m + (s[j].toNat - 48) ≤ 1000000000000) : digsP (sfx s j) m c = none := by
  rw [sfx_cons h, digsP, if_pos (show digB s[j] = true from hc), if_neg hm]

theorem u8sub {c : UInt8} (h : 48 ≤ c.toNat) : IntKind.u8.wrap ((c.toNat : Int) - 48) = ((c.toNat - 48 : Nat) : Int) := by
  rw [IntKind.wrap_u8]; have := c.toNat_lt; omega

/-- What number leaves, behind its sign. -/
def numR (neg : Bool) (l : List UInt8) (n : Nat) : Option (V × List UInt8 × Nat) := (magP neg l).map fun r => (leaf 2 r.1 ⟨#[]⟩, r.2, n)

/-- Where the reading of digits stands. -/
def DigAt (g : Nat) (s : ByteArray) (n k1 : Nat) (w wr : World) (j m : Nat) : Prop :=
  k1 ≤ j ∧ j ≤ s.size ∧ m ≤ 1000000000000 ∧ digsP (sfx s j) m (j - k1) = digsP (sfx s k1) 0 0 ∧ Went g s j n w wr

theorem pos_after {g : Nat} {s : ByteArray} {k n : Nat} {a b : World} (h : Went g s k n a b) (m : Nat) : posOf g ((b.drewN m).setCell ⟨g, 1, none⟩ (.int .i64 ((k : Int) + 1))) = k + 1 := ((h.drewN m).move (k + 1)).2.pos
theorem num_none0 {l r : List UInt8} {m c : Nat} (h : digsP l 0 0 = some (m, c, r)) (hc : c = 0) (neg : Bool) (n : Nat) : numR neg l n = none := by
  simp [numR, magP, h, hc]
theorem num_big {l : List UInt8} (h : digsP l 0 0 = none) (neg : Bool) (n : Nat) : numR neg l n = none := by
  simp [numR, magP, h]
theorem num_ok {l r : List UInt8} {m c : Nat} (h : digsP l 0 0 = some (m, c, r)) (hc : ¬ c = 0) (neg : Bool) (hh : l.head? = some 48 → c = 1 ∧ neg = false) (n : Nat) : numR neg l n = some (leaf 2 (if neg then -(m : Int) else m) ⟨#[]⟩, r, n) := by
  unfold numR magP
  rw [h]
  simp only [hc, if_false]
  rw [if_neg (fun hx => hx.2 (hh hx.1))]
  rfl
theorem num_bad {l r : List UInt8} {m c : Nat} (h : digsP l 0 0 = some (m, c, r)) (hc : ¬ c = 0) (neg : Bool) (hh : l.head? = some 48) (hb : ¬ (c = 1 ∧ neg = false)) (n : Nat) : numR neg l n = none := by
  unfold numR magP
  rw [h]
  simp only [hc, if_false]
  rw [if_pos ⟨hh, hb⟩]
  rfl


set_option maxRecDepth 100000 in
set_option maxHeartbeats 4000000 in
theorem number_walk (g : Nat) (s : ByteArray) (k n : Nat) (neg : Bool) (k1 : Nat) (w : World) (h : PAt w g s k n) (hs : s.size ≤ 1000000) (hk1 : k1 ≤ s.size)
    (HA : Hid (∀ W, PAt W g s k n → Calls Tryd.prog 89 #[.pointer (some ⟨g, 0, none⟩), .int .u8 45] W fun e w' => e = .returned (.bool neg) ∧ Went g s k1 n W w')) :
    Calls Tryd.prog 72 #[.pointer (some ⟨g, 0, none⟩)] w (VPost g s w (numR neg (sfx s k1) n)) := by
  have hg := h.lt
  have H0 := Lib.hid h
  clear h
  go_enter Tryd.func72, Tryd.ntmps72
  go_wp2_with fail
  refine (HA.out _ (Blk.alloc H0.out _)).mono ?_
  rintro e w1 ⟨rfl, hw1⟩
  have c0 := hw1.2.c0
  have c1 := hw1.2.c1
  have hR := Lib.hid (show DigAt g s n k1 _ _ k1 0 from ⟨Nat.le_refl _, hk1, by omega, by simp, hw1⟩)
  clear hw1
  go_wp2_with fail
  clear c0 c1
  go_loopw [5] (fun x wr => ∃ j m : Nat, x = .int .i64 m ∧ Hid (DigAt g s n k1 (w.alloc (.cells #[.int .i64 0, .int .i64 0, .string ⟨#[]⟩, .slice none 0 0, .slice none 0 0] 25)) wr j m)) (fun _ wr => s.size - posOf g wr)
  case atStart => exact ⟨k1, 0, rfl, hR⟩
  case round =>
    obtain ⟨j, m, rfl, hA⟩ := hrel
    have HA := hA
    obtain ⟨hj0, hj, hm, hsk, hA⟩ := hA.out
    have HS := Lib.hid hsk
    have c0 := hA.2.c0
    have c1 := hA.2.c1
    have f1 := hA.2.fro 1
    have hz := hA.2.lt
    have hmm := Lib.hid hA.2.pos
    have HW := Lib.hid hA
    clear hA hsk
    by_cases hlt : j < s.size
    · have hdc : digitB s[j] = false ∨ digitB s[j] = true := by cases digitB s[j] <;> simp
      rcases hdc with hd | hd
      · have HD := Lib.hid (dg_other hlt hd m (j - k1))
        have HC := Lib.hid fun W => show Calls Tryd.prog 41 #[.int .u8 s[j].toNat] W fun e w' => e = .returned (.bool false) ∧ w' = W from by have := digit_any s[j] W; rw [hd] at this; exact this
        clear hd
        go_wp2_with fail
        have hdd : decide (j < s.size) = true := by simpa using hlt
        go_quiet ((go_at_call 41; exact Calls.quiet_of_same (HC.out _)))
        go_wp2_with fail
        have HF := Lib.hid (HS.out.symm.trans HD.out)
        obtain ⟨_, hc, hf, hz2⟩ := after_new j n hg _ _ HW.out
        have hw5 : IntKind.i64.wrap (-(m : Int)) = -(m : Int) := by rw [IntKind.wrap_i64]; omega
        by_cases hgt : k1 < j
        · have hks : k1 < s.size := by omega
          have HG := Lib.hid hgt
          refine (must_on (decide_eq_true hgt) _ _).mono ?_
          rintro e w' ⟨rfl, rfl⟩
          by_cases h0 : s[k1].toNat = 48
          · have e0 : ((s[k1].toNat : Int) == 48) = true := by simp; omega
            have HH := Lib.hid (show (sfx s k1).head? = some 48 by rw [sfx_cons hks]; simp; exact UInt8.toNat_inj.1 h0)
            clear h0
            by_cases hj1 : j = k1 + 1
            · subst hj1
              cases neg
              · go_wp2_with (go_at_call 50; refine (must_yes _ _).mono ?_; rintro e w' ⟨rfl, rfl⟩)
                refine bodyPost_ret (v := cellsOf (leaf 2 ((m : Int)) ⟨#[]⟩) none 0 none 0) (by simp [results, Tryd.results72, go_sem, cellsOf, leaf, V.kind, V.int, V.text, V.items, V.keys, hc, hz2]) rfl ?_
                rw [num_ok HF.out (by have := HG.out; omega) _ (fun _ => ⟨by omega, rfl⟩) n]
                exact ⟨none, 0, none, 0, _, rfl, lies_leaf _ _ _ _ _ (by decide), hj, rfl, set5 ((HW.out.drewN _).old hg) hg _ _ _ _ _⟩
              · go_wp2_with (go_at_call 50; refine (must_no _ _).mono ?_; rintro e w' ⟨rfl, rfl⟩)
                refine ⟨rfl, ?_⟩
                rw [num_bad HF.out (by have := HG.out; omega) _ HH.out (by simp) n]
                exact ⟨rfl, ((HW.out.drewN _).old hg).1⟩
            · have e1 : ((j : Int) == (k1 : Int) + 1) = false := by simp; omega
              go_wp2_with (go_at_call 50; refine (must_no _ _).mono ?_; rintro e w' ⟨rfl, rfl⟩)
              refine ⟨rfl, ?_⟩
              rw [num_bad HF.out (by have := HG.out; omega) _ HH.out (by omega) n]
              exact ⟨rfl, ((HW.out.drewN _).old hg).1⟩
          · have e0 : ((s[k1].toNat : Int) == 48) = false := by simp; omega
            have HH := Lib.hid (show ¬ (sfx s k1).head? = some 48 by rw [sfx_cons hks]; simp; intro e; rw [e] at h0; exact h0 rfl)
            clear h0
            cases neg
            · go_wp2_with fail
              refine bodyPost_ret (v := cellsOf (leaf 2 ((m : Int)) ⟨#[]⟩) none 0 none 0) (by simp [results, Tryd.results72, go_sem, cellsOf, leaf, V.kind, V.int, V.text, V.items, V.keys, hc, hz2]) rfl ?_
              rw [num_ok HF.out (by have := HG.out; omega) _ (fun hx => absurd hx HH.out) n]
              exact ⟨none, 0, none, 0, _, rfl, lies_leaf _ _ _ _ _ (by decide), hj, rfl, set5 ((HW.out.drewN _).old hg) hg _ _ _ _ _⟩
            · go_wp2_with fail
              refine bodyPost_ret (v := cellsOf (leaf 2 (-(m : Int)) ⟨#[]⟩) none 0 none 0) (by simp [results, Tryd.results72, go_sem, cellsOf, leaf, V.kind, V.int, V.text, V.items, V.keys, hc, hz2]) rfl ?_
              rw [num_ok HF.out (by have := HG.out; omega) _ (fun hx => absurd hx HH.out) n]
              exact ⟨none, 0, none, 0, _, rfl, lies_leaf _ _ _ _ _ (by decide), hj, rfl, set5 ((HW.out.drewN _).old hg) hg _ _ _ _ _⟩
        · refine (must_of (decide_eq_false hgt) _ _).mono ?_
          rintro e w' ⟨rfl, rfl⟩
          refine ⟨rfl, ?_⟩
          rw [num_none0 HF.out (by omega)]
          exact ⟨rfl, ((HW.out.drewN _).old hg).1⟩
      · have HD := Lib.hid hd
        have hd' := hd
        unfold digitB at hd'
        simp at hd'
        obtain ⟨h48, h57⟩ := hd'
        have HC := Lib.hid fun W => show Calls Tryd.prog 41 #[.int .u8 s[j].toNat] W fun e w' => e = .returned (.bool true) ∧ w' = W from by have := digit_any s[j] W; rw [hd] at this; exact this
        clear hd
        obtain ⟨d, hdq, hw, hd9⟩ : ∃ d : Nat, s[j].toNat - 48 = d ∧ IntKind.u8.wrap ((s[j].toNat : Int) - 48) = (d : Int) ∧ d ≤ 9 := ⟨_, rfl, u8sub h48, by omega⟩
        have hw3 : IntKind.i64.wrap (d : Int) = d := by rw [IntKind.wrap_i64]; omega
        have hw2 : IntKind.i64.wrap (10 * (m : Int)) = 10 * m := by rw [IntKind.wrap_i64]; omega
        have hw4 : IntKind.i64.wrap (10 * (m : Int) + d) = 10 * m + d := by rw [IntKind.wrap_i64]; omega
        have HWi := Lib.hid fun W => within_any (10 * (m : Int) + d) W
        by_cases hbig : 10 * m + d ≤ 1000000000000
        · have HK := Lib.hid (dg_digit hlt HD.out m (j - k1) (by rw [hdq]; exact hbig))
          rw [hdq] at HK
          rw [show (decide (-1000000000000 ≤ (10 * (m : Int) + d)) && decide ((10 * (m : Int) + d) ≤ 1000000000000)) = true by simp; omega] at HWi
          have HB := Lib.hid hbig
          clear hdq hbig
          go_wp2_with fail
          have hdd : decide (j < s.size) = true := by simpa using hlt
          go_quiet ((go_at_call 41; exact Calls.quiet_of_same (HC.out _)))
          go_wp2_with fail
          go_quiet (fail)
          go_wp2_with fail
          refine (HWi.out _).mono ?_
          rintro e w2 ⟨rfl, rfl⟩
          go_wp2_with (go_at_call 50; refine (must_yes _ _).mono ?_; rintro e w' ⟨rfl, rfl⟩)
          go_roundw
          case rel => exact ⟨j + 1, 10 * m + d, rfl, Lib.hid ⟨by omega, by omega, HB.out, by rw [show j + 1 - k1 = j - k1 + 1 by omega]; exact HK.out.symm.trans HS.out, (HW.out.drewN _).move (j + 1)⟩⟩
          case measure => rw [hmm.out, pos_after HW.out]; omega
        · have HK := Lib.hid (dg_big hlt HD.out m (j - k1) (by rw [hdq]; exact hbig))
          rw [show (decide (-1000000000000 ≤ (10 * (m : Int) + d)) && decide ((10 * (m : Int) + d) ≤ 1000000000000)) = false by simp; omega] at HWi
          clear hdq hbig
          go_wp2_with fail
          have hdd : decide (j < s.size) = true := by simpa using hlt
          go_quiet ((go_at_call 41; exact Calls.quiet_of_same (HC.out _)))
          go_wp2_with fail
          go_quiet (fail)
          go_wp2_with fail
          refine (HWi.out _).mono ?_
          rintro e w2 ⟨rfl, rfl⟩
          go_wp2_with (go_at_call 50; refine (must_no _ _).mono ?_; rintro e w' ⟨rfl, rfl⟩)
          refine ⟨rfl, ?_⟩
          rw [num_big (HS.out.symm.trans HK.out)]
          exact ⟨rfl, ((HW.out.drewN _).old hg).1⟩
    · have HD := Lib.hid (dg_end hlt m (j - k1))
      go_wp2_with fail
      have hdd : decide (j < s.size) = false := by simpa using hlt
      go_quiet (fail)
      go_wp2_with fail
      have HF := Lib.hid (HS.out.symm.trans HD.out)
      obtain ⟨_, hc, hf, hz2⟩ := after_new j n hg _ _ HW.out
      have hw5 : IntKind.i64.wrap (-(m : Int)) = -(m : Int) := by rw [IntKind.wrap_i64]; omega
      by_cases hgt : k1 < j
      · have hks : k1 < s.size := by omega
        have HG := Lib.hid hgt
        refine (must_on (decide_eq_true hgt) _ _).mono ?_
        rintro e w' ⟨rfl, rfl⟩
        by_cases h0 : s[k1].toNat = 48
        · have e0 : ((s[k1].toNat : Int) == 48) = true := by simp; omega
          have HH := Lib.hid (show (sfx s k1).head? = some 48 by rw [sfx_cons hks]; simp; exact UInt8.toNat_inj.1 h0)
          clear h0
          by_cases hj1 : j = k1 + 1
          · subst hj1
            cases neg
            · go_wp2_with (go_at_call 50; refine (must_yes _ _).mono ?_; rintro e w' ⟨rfl, rfl⟩)
              refine bodyPost_ret (v := cellsOf (leaf 2 ((m : Int)) ⟨#[]⟩) none 0 none 0) (by simp [results, Tryd.results72, go_sem, cellsOf, leaf, V.kind, V.int, V.text, V.items, V.keys, hc, hz2]) rfl ?_
              rw [num_ok HF.out (by have := HG.out; omega) _ (fun _ => ⟨by omega, rfl⟩) n]
              exact ⟨none, 0, none, 0, _, rfl, lies_leaf _ _ _ _ _ (by decide), hj, rfl, set5 ((HW.out.drewN _).old hg) hg _ _ _ _ _⟩
            · go_wp2_with (go_at_call 50; refine (must_no _ _).mono ?_; rintro e w' ⟨rfl, rfl⟩)
              refine ⟨rfl, ?_⟩
              rw [num_bad HF.out (by have := HG.out; omega) _ HH.out (by simp) n]
              exact ⟨rfl, ((HW.out.drewN _).old hg).1⟩
          · have e1 : ((j : Int) == (k1 : Int) + 1) = false := by simp; omega
            go_wp2_with (go_at_call 50; refine (must_no _ _).mono ?_; rintro e w' ⟨rfl, rfl⟩)
            refine ⟨rfl, ?_⟩
            rw [num_bad HF.out (by have := HG.out; omega) _ HH.out (by omega) n]
            exact ⟨rfl, ((HW.out.drewN _).old hg).1⟩
        · have e0 : ((s[k1].toNat : Int) == 48) = false := by simp; omega
          have HH := Lib.hid (show ¬ (sfx s k1).head? = some 48 by rw [sfx_cons hks]; simp; intro e; rw [e] at h0; exact h0 rfl)
          clear h0
          cases neg
          · go_wp2_with fail
            refine bodyPost_ret (v := cellsOf (leaf 2 ((m : Int)) ⟨#[]⟩) none 0 none 0) (by simp [results, Tryd.results72, go_sem, cellsOf, leaf, V.kind, V.int, V.text, V.items, V.keys, hc, hz2]) rfl ?_
            rw [num_ok HF.out (by have := HG.out; omega) _ (fun hx => absurd hx HH.out) n]
            exact ⟨none, 0, none, 0, _, rfl, lies_leaf _ _ _ _ _ (by decide), hj, rfl, set5 ((HW.out.drewN _).old hg) hg _ _ _ _ _⟩
          · go_wp2_with fail
            refine bodyPost_ret (v := cellsOf (leaf 2 (-(m : Int)) ⟨#[]⟩) none 0 none 0) (by simp [results, Tryd.results72, go_sem, cellsOf, leaf, V.kind, V.int, V.text, V.items, V.keys, hc, hz2]) rfl ?_
            rw [num_ok HF.out (by have := HG.out; omega) _ (fun hx => absurd hx HH.out) n]
            exact ⟨none, 0, none, 0, _, rfl, lies_leaf _ _ _ _ _ (by decide), hj, rfl, set5 ((HW.out.drewN _).old hg) hg _ _ _ _ _⟩
      · refine (must_of (decide_eq_false hgt) _ _).mono ?_
        rintro e w' ⟨rfl, rfl⟩
        refine ⟨rfl, ?_⟩
        rw [num_none0 HF.out (by omega)]
        exact ⟨rfl, ((HW.out.drewN _).old hg).1⟩

theorem sfx_inj {s : ByteArray} {k k' : Nat} (hk : k ≤ s.size) (hk' : k' ≤ s.size) (h : sfx s k = sfx s k') : k = k' := by
  have := congrArg List.length h
  rw [sfx_length, sfx_length] at this
  omega
/-- A number. -/
def numberP (l : List UInt8) (n : Nat) : Option (V × List UInt8 × Nat) := numR (takesP 45 (skipP l)) (tailP 45 (skipP l)) n
theorem skipP_sfx (s : ByteArray) (k : Nat) : ∃ k', sfx s k' = skipP (sfx s k) ∧ (k ≤ s.size → k' ≤ s.size) := by
  by_cases h : k < s.size
  · by_cases hc : s[k].toNat = 32
    · obtain ⟨k', h1, h2⟩ := skipP_sfx s (k + 1)
      exact ⟨k', h1.trans (sk_blank h hc).symm, fun _ => h2 (by omega)⟩
    · exact ⟨k, (sk_other h hc).symm, id⟩
  · exact ⟨k, (sk_end h).symm, id⟩
termination_by s.size - k
theorem tailP_sfx (c : UInt8) (s : ByteArray) (k : Nat) : ∃ k', sfx s k' = tailP c (sfx s k) ∧ (k ≤ s.size → k' ≤ s.size) := by
  by_cases h : k < s.size
  · by_cases hc : s[k] = c
    · exact ⟨k + 1, by rw [sfx_cons h, tailP, if_pos hc], fun _ => by omega⟩
    · exact ⟨k, by rw [sfx_cons h, tailP, if_neg hc], id⟩
  · exact ⟨k, by rw [sfx_nil h, tailP], id⟩

theorem number_any (g : Nat) (s : ByteArray) (k n : Nat) (w : World) (h : PAt w g s k n) (hk : k ≤ s.size) (hs : s.size ≤ 1000000) :
    Calls Tryd.prog 72 #[.pointer (some ⟨g, 0, none⟩)] w (VPost g s w (numberP (sfx s k) n)) := by
  obtain ⟨k0, h0, h0'⟩ := skipP_sfx s k
  obtain ⟨k1, h1, h1'⟩ := tailP_sfx 45 s k0
  have hk1 := h1' (h0' hk)
  unfold numberP
  rw [← h0, ← h1]
  refine number_walk g s k n (takesP 45 (sfx s k0)) k1 w h hs hk1 (Lib.hid fun W hW => (accept_any g s k n 45 45 rfl W hW hk hs).mono ?_)
  rintro e w' ⟨he, k', hk', hsk, hw⟩
  rw [← h0] at he hsk
  rw [← h1] at hsk
  rw [sfx_inj hk' hk1 hsk] at hw
  exact ⟨he, hw⟩
end Go.Proofs.YtoddlacfbeckiaaDoor
