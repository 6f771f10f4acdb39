/- Reading: numbers. -/
import Derived.Test.YtfiiaeomlmckfaaGreatDoorWi
import Derived.Test.YtfiiaeomlmckfaaGreatDoorWa
import Derived.Test.YtfiiaeomlmckfaaGreatDoorRg
namespace Go.Proofs.YtfiiaeomlmckfaaGreatDoor
open Go.RowKit

theorem dg_end {s : ByteArray} {j : Nat} (h : ¬ j < s.size) (m c : Nat) : digsP (sfx s j) m c = some (m, c, sfx s j) := by rw [sfx_nil h, digsP]
theorem dg_other {s : ByteArray} {j : Nat} (h : j < s.size) (hc : digitB s[j] = false) (m c : Nat) : digsP (sfx s j) m c = some (m, c, sfx s j) := by
  rw [sfx_cons h, digsP, if_neg (by rw [show digB s[j] = digitB s[j] from rfl, hc]; simp)]
theorem dg_digit {s : ByteArray} {j : Nat} (h : j < s.size) (hc : digitB s[j] = true) (m c : Nat) (hm : 10 * m + (s[j].toNat - 48) ≤ 1000000000000) : digsP (sfx s j) m c = digsP (sfx s (j + 1)) (10 * m + (s[j].toNat - 48)) (c + 1) := by
  rw [sfx_cons h, digsP, if_pos (show digB s[j] = true from hc), if_pos hm]
theorem dg_big {s : ByteArray} {j : Nat} (h : j < s.size) (hc : digitB s[j] = true) (m c : Nat) (hm : ¬ 10 * m + (s[j].toNat - 48) ≤ 1000000000000) : digsP (sfx s j) m c = none := by
  rw [sfx_cons h, digsP, if_pos (show digB s[j] = true from hc), if_neg hm]

theorem u8sub {c : UInt8} (h : 48 ≤ c.toNat) : IntKind.u8.wrap ((c.toNat : Int) - 48) = ((c.toNat - 48 : Nat) : Int) := by
  rw [IntKind.wrap_u8]; have := c.toNat_lt; omega

/-- What number leaves, behind its sign. -/
def numR (neg : Bool) (l : List UInt8) (n : Nat) : Option (V × List UInt8 × Nat) := (magP neg l).map fun r => (leaf 2 r.1 ⟨#[]⟩, r.2, n)

/-- Where the reading of digits stands. -/
def DigAt (g : Nat) (s : ByteArray) (n k1 : Nat) (w wr : World) (j m : Nat) : Prop :=
  k1 ≤ j ∧ j ≤ s.size ∧ m ≤ 1000000000000 ∧ digsP (sfx s j) m (j - k1) = digsP (sfx s k1) 0 0 ∧ Went g s j n w wr

theorem pos_after {g : Nat} {s : ByteArray} {k n : Nat} {a b : World} (h : Went g s k n a b) (m : Nat) : posOf g ((b.drewN m).setCell ⟨g, 1, none⟩ (.int .i64 ((k : Int) + 1))) = k + 1 := ((h.drewN m).move (k + 1)).2.pos
theorem num_none0 {l r : List UInt8} {m c : Nat} (h : digsP l 0 0 = some (m, c, r)) (hc : c = 0) (neg : Bool) (n : Nat) : numR neg l n = none := by
  simp [numR, magP, h, hc]
theorem num_big {l : List UInt8} (h : digsP l 0 0 = none) (neg : Bool) (n : Nat) : numR neg l n = none := by
  simp [numR, magP, h]
theorem num_ok {l r : List UInt8} {m c : Nat} (h : digsP l 0 0 = some (m, c, r)) (hc : ¬ c = 0) (neg : Bool) (hh : l.head? = some 48 → c = 1 ∧ neg = false) (n : Nat) : numR neg l n = some (leaf 2 (if neg then -(m : Int) else m) ⟨#[]⟩, r, n) := by
  unfold numR magP
  rw [h]
  simp only [hc, if_false]
  rw [if_neg (fun hx => hx.2 (hh hx.1))]
  rfl
theorem num_bad {l r : List UInt8} {m c : Nat} (h : digsP l 0 0 = some (m, c, r)) (hc : ¬ c = 0) (neg : Bool) (hh : l.head? = some 48) (hb : ¬ (c = 1 ∧ neg = false)) (n : Nat) : numR neg l n = none := by
  unfold numR magP
  rw [h]
  simp only [hc, if_false]
  rw [if_pos ⟨hh, hb⟩]
  rfl


set_option maxRecDepth 100000 in
set_option maxHeartbeats 4000000 in
theorem number_walk (g : Nat) (s : ByteArray) (k n : Nat) (neg : Bool) (k1 : Nat) (w : World) (h : PAt w g s k n) (hs : s.size ≤ 1000000) (hk1 : k1 ≤ s.size)
    (HA : Hid (∀ W, PAt W g s k n → Calls Tryz.prog 79 #[.pointer (some ⟨g, 0, none⟩), .int .u8 45] W fun e w' => e = .returned (.bool neg) ∧ Went g s k1 n W w')) :
    Calls Tryz.prog 56 #[.pointer (some ⟨g, 0, none⟩)] w (VPost g s w (numR neg (sfx s k1) n)) := by
  have hg := h.lt
  have H0 := Lib.hid h
  clear h
  go_enter Tryz.func56, Tryz.ntmps56
  go_wp2_with fail
  refine (HA.out _ (BlockIs.alloc H0.out _)).mono ?_
  rintro e w1 ⟨rfl, hw1⟩
  have c0 := hw1.2.c0
  have c1 := hw1.2.c1
  have hR := Lib.hid (show DigAt g s n k1 _ _ k1 0 from ⟨Nat.le_refl _, hk1, by omega, by simp, hw1⟩)
  clear hw1
  go_wp2_with fail
  clear c0 c1
  go_loopw [5] (fun x wr => ∃ j m : Nat, x = .int .i64 m ∧ Hid (DigAt g s n k1 (w.alloc (.cells #[.int .i64 0, .int .i64 0, .string ⟨#[]⟩, .slice none 0 0, .slice none 0 0] 35)) wr j m)) (fun _ wr => s.size - posOf g wr)
  case atStart => exact ⟨k1, 0, rfl, hR⟩
  case round =>
    obtain ⟨j, m, rfl, hA⟩ := hrel
    have HA := hA
    obtain ⟨hj0, hj, hm, hsk, hA⟩ := hA.out
    have HS := Lib.hid hsk
    have c0 := hA.2.c0
    have c1 := hA.2.c1
    have f1 := hA.2.fro 1
    have hz := hA.2.lt
    have hmm := Lib.hid hA.2.pos
    have HW := Lib.hid hA
    clear hA hsk
    by_cases hlt : j < s.size
    · have hdc : digitB s[j] = false ∨ digitB s[j] = true := by cases digitB s[j] <;> simp
      rcases hdc with hd | hd
      · have HD := Lib.hid (dg_other hlt hd m (j - k1))
        have HC := Lib.hid fun W => show Calls Tryz.prog 86 #[.int .u8 s[j].toNat] W fun e w' => e = .returned (.bool false) ∧ w' = W from by have := digit_any s[j] W; rw [hd] at this; exact this
        clear hd
        go_wp2_with fail
        have hdd : decide (j < s.size) = true := by simpa using hlt
        go_quiet ((go_at_call 86; exact Calls.quiet_of_same (HC.out _)))
        go_wp2_with fail
        have HF := Lib.hid (HS.out.symm.trans HD.out)
        obtain ⟨_, hc, hf, hz2⟩ := after_new j n hg _ _ HW.out
        have hw5 : IntKind.i64.wrap (-(m : Int)) = -(m : Int) := by rw [IntKind.wrap_i64]; omega
        by_cases hgt : k1 < j
        · have hks : k1 < s.size := by omega
          have HG := Lib.hid hgt
          refine (must_on (decide_eq_true hgt) _ _).mono ?_
          rintro e w' ⟨rfl, rfl⟩
          by_cases h0 : s[k1].toNat = 48
          · have e0 : ((s[k1].toNat : Int) == 48) = true := by simp; omega
            have HH := Lib.hid (show (sfx s k1).head? = some 48 by rw [sfx_cons hks]; simp; exact UInt8.toNat_inj.1 h0)
            clear h0
            by_cases hj1 : j = k1 + 1
            · subst hj1
              cases neg
              · go_wp2_with (go_at_call 37; refine (must_yes _ _).mono ?_; rintro e w' ⟨rfl, rfl⟩)
                refine bodyPost_ret (v := cellsOf (leaf 2 ((m : Int)) ⟨#[]⟩) none 0 none 0) (by simp [results, Tryz.results56, go_sem, cellsOf, leaf, V.kind, V.int, V.text, V.items, V.keys, hc]) rfl ?_
                rw [num_ok HF.out (by have := HG.out; omega) _ (fun _ => ⟨by omega, rfl⟩) n]
                exact ⟨none, 0, none, 0, _, rfl, lies_leaf _ _ _ _ _ (by decide), hj, rfl, set5 ((HW.out.drewN _).old hg) hg _ _ _ _ _⟩
              · go_wp2_with (go_at_call 37; refine (must_no _ _).mono ?_; rintro e w' ⟨rfl, rfl⟩)
                refine ⟨rfl, ?_⟩
                rw [num_bad HF.out (by have := HG.out; omega) _ HH.out (by simp) n]
                exact ⟨rfl, ((HW.out.drewN _).old hg).1⟩
            · have e1 : ((j : Int) == (k1 : Int) + 1) = false := by simp; omega
              go_wp2_with (go_at_call 37; refine (must_no _ _).mono ?_; rintro e w' ⟨rfl, rfl⟩)
              refine ⟨rfl, ?_⟩
              rw [num_bad HF.out (by have := HG.out; omega) _ HH.out (by omega) n]
              exact ⟨rfl, ((HW.out.drewN _).old hg).1⟩
          · have e0 : ((s[k1].toNat : Int) == 48) = false := by simp; omega
            have HH := Lib.hid (show ¬ (sfx s k1).head? = some 48 by rw [sfx_cons hks]; simp; intro e; rw [e] at h0; exact h0 rfl)
            clear h0
            cases neg
            · go_wp2_with fail
              refine bodyPost_ret (v := cellsOf (leaf 2 ((m : Int)) ⟨#[]⟩) none 0 none 0) (by simp [results, Tryz.results56, go_sem, cellsOf, leaf, V.kind, V.int, V.text, V.items, V.keys, hc]) rfl ?_
              rw [num_ok HF.out (by have := HG.out; omega) _ (fun hx => absurd hx HH.out) n]
              exact ⟨none, 0, none, 0, _, rfl, lies_leaf _ _ _ _ _ (by decide), hj, rfl, set5 ((HW.out.drewN _).old hg) hg _ _ _ _ _⟩
            · go_wp2_with fail
              refine bodyPost_ret (v := cellsOf (leaf 2 (-(m : Int)) ⟨#[]⟩) none 0 none 0) (by simp [results, Tryz.results56, go_sem, cellsOf, leaf, V.kind, V.int, V.text, V.items, V.keys, hc]) rfl ?_
              rw [num_ok HF.out (by have := HG.out; omega) _ (fun hx => absurd hx HH.out) n]
              exact ⟨none, 0, none, 0, _, rfl, lies_leaf _ _ _ _ _ (by decide), hj, rfl, set5 ((HW.out.drewN _).old hg) hg _ _ _ _ _⟩
        · refine (must_of (decide_eq_false hgt) _ _).mono ?_
          rintro e w' ⟨rfl, rfl⟩
          refine ⟨rfl, ?_⟩
          rw [num_none0 HF.out (by omega)]
          exact ⟨rfl, ((HW.out.drewN _).old hg).1⟩
      · have HD := Lib.hid hd
        have hd' := hd
        unfold digitB at hd'
        simp at hd'
        obtain ⟨h48, h57⟩ := hd'
        have HC := Lib.hid fun W => show Calls Tryz.prog 86 #[.int .u8 s[j].toNat] W fun e w' => e = .returned (.bool true) ∧ w' = W from by have := digit_any s[j] W; rw [hd] at this; exact this
        clear hd
        obtain ⟨d, hdq, hw, hd9⟩ : ∃ d : Nat, s[j].toNat - 48 = d ∧ IntKind.u8.wrap ((s[j].toNat : Int) - 48) = (d : Int) ∧ d ≤ 9 := ⟨_, rfl, u8sub h48, by omega⟩
        have hw3 : IntKind.i64.wrap (d : Int) = d := by rw [IntKind.wrap_i64]; omega
        have hw2 : IntKind.i64.wrap (10 * (m : Int)) = 10 * m := by rw [IntKind.wrap_i64]; omega
        have hw4 : IntKind.i64.wrap (10 * (m : Int) + d) = 10 * m + d := by rw [IntKind.wrap_i64]; omega
        have HWi := Lib.hid fun W => within_any (10 * (m : Int) + d) W
        by_cases hbig : 10 * m + d ≤ 1000000000000
        · have HK := Lib.hid (dg_digit hlt HD.out m (j - k1) (by rw [hdq]; exact hbig))
          rw [hdq] at HK
          rw [show (decide (-1000000000000 ≤ (10 * (m : Int) + d)) && decide ((10 * (m : Int) + d) ≤ 1000000000000)) = true by simp; omega] at HWi
          have HB := Lib.hid hbig
          clear hdq hbig
          go_wp2_with fail
          have hdd : decide (j < s.size) = true := by simpa using hlt
          go_quiet ((go_at_call 86; exact Calls.quiet_of_same (HC.out _)))
          go_wp2_with fail
          go_quiet (fail)
          go_wp2_with fail
          refine (HWi.out _).mono ?_
          rintro e w2 ⟨rfl, rfl⟩
          go_wp2_with (go_at_call 37; refine (must_yes _ _).mono ?_; rintro e w' ⟨rfl, rfl⟩)
          go_roundw
          case rel => exact ⟨j + 1, 10 * m + d, rfl, Lib.hid ⟨by omega, by omega, HB.out, by rw [show j + 1 - k1 = j - k1 + 1 by omega]; exact HK.out.symm.trans HS.out, (HW.out.drewN _).move (j + 1)⟩⟩
          case measure => rw [hmm.out, pos_after HW.out]; omega
        · have HK := Lib.hid (dg_big hlt HD.out m (j - k1) (by rw [hdq]; exact hbig))
          rw [show (decide (-1000000000000 ≤ (10 * (m : Int) + d)) && decide ((10 * (m : Int) + d) ≤ 1000000000000)) = false by simp; omega] at HWi
          clear hdq hbig
          go_wp2_with fail
          have hdd : decide (j < s.size) = true := by simpa using hlt
          go_quiet ((go_at_call 86; exact Calls.quiet_of_same (HC.out _)))
          go_wp2_with fail
          go_quiet (fail)
          go_wp2_with fail
          refine (HWi.out _).mono ?_
          rintro e w2 ⟨rfl, rfl⟩
          go_wp2_with (go_at_call 37; refine (must_no _ _).mono ?_; rintro e w' ⟨rfl, rfl⟩)
          refine ⟨rfl, ?_⟩
          rw [num_big (HS.out.symm.trans HK.out)]
          exact ⟨rfl, ((HW.out.drewN _).old hg).1⟩
    · have HD := Lib.hid (dg_end hlt m (j - k1))
      go_wp2_with fail
      have hdd : decide (j < s.size) = false := by simpa using hlt
      go_quiet (fail)
      go_wp2_with fail
      have HF := Lib.hid (HS.out.symm.trans HD.out)
      obtain ⟨_, hc, hf, hz2⟩ := after_new j n hg _ _ HW.out
      have hw5 : IntKind.i64.wrap (-(m : Int)) = -(m : Int) := by rw [IntKind.wrap_i64]; omega
      by_cases hgt : k1 < j
      · have hks : k1 < s.size := by omega
        have HG := Lib.hid hgt
        refine (must_on (decide_eq_true hgt) _ _).mono ?_
        rintro e w' ⟨rfl, rfl⟩
        by_cases h0 : s[k1].toNat = 48
        · have e0 : ((s[k1].toNat : Int) == 48) = true := by simp; omega
          have HH := Lib.hid (show (sfx s k1).head? = some 48 by rw [sfx_cons hks]; simp; exact UInt8.toNat_inj.1 h0)
          clear h0
          by_cases hj1 : j = k1 + 1
          · subst hj1
            cases neg
            · go_wp2_with (go_at_call 37; refine (must_yes _ _).mono ?_; rintro e w' ⟨rfl, rfl⟩)
              refine bodyPost_ret (v := cellsOf (leaf 2 ((m : Int)) ⟨#[]⟩) none 0 none 0) (by simp [results, Tryz.results56, go_sem, cellsOf, leaf, V.kind, V.int, V.text, V.items, V.keys, hc]) rfl ?_
              rw [num_ok HF.out (by have := HG.out; omega) _ (fun _ => ⟨by omega, rfl⟩) n]
              exact ⟨none, 0, none, 0, _, rfl, lies_leaf _ _ _ _ _ (by decide), hj, rfl, set5 ((HW.out.drewN _).old hg) hg _ _ _ _ _⟩
            · go_wp2_with (go_at_call 37; refine (must_no _ _).mono ?_; rintro e w' ⟨rfl, rfl⟩)
              refine ⟨rfl, ?_⟩
              rw [num_bad HF.out (by have := HG.out; omega) _ HH.out (by simp) n]
              exact ⟨rfl, ((HW.out.drewN _).old hg).1⟩
          · have e1 : ((j : Int) == (k1 : Int) + 1) = false := by simp; omega
            go_wp2_with (go_at_call 37; refine (must_no _ _).mono ?_; rintro e w' ⟨rfl, rfl⟩)
            refine ⟨rfl, ?_⟩
            rw [num_bad HF.out (by have := HG.out; omega) _ HH.out (by omega) n]
            exact ⟨rfl, ((HW.out.drewN _).old hg).1⟩
        · have e0 : ((s[k1].toNat : Int) == 48) = false := by simp; omega
          have HH := Lib.hid (show ¬ (sfx s k1).head? = some 48 by rw [sfx_cons hks]; simp; intro e; rw [e] at h0; exact h0 rfl)
          clear h0
          cases neg
          · go_wp2_with fail
            refine bodyPost_ret (v := cellsOf (leaf 2 ((m : Int)) ⟨#[]⟩) none 0 none 0) (by simp [results, Tryz.results56, go_sem, cellsOf, leaf, V.kind, V.int, V.text, V.items, V.keys, hc]) rfl ?_
            rw [num_ok HF.out (by have := HG.out; omega) _ (fun hx => absurd hx HH.out) n]
            exact ⟨none, 0, none, 0, _, rfl, lies_leaf _ _ _ _ _ (by decide), hj, rfl, set5 ((HW.out.drewN _).old hg) hg _ _ _ _ _⟩
          · go_wp2_with fail
            refine bodyPost_ret (v := cellsOf (leaf 2 (-(m : Int)) ⟨#[]⟩) none 0 none 0) (by simp [results, Tryz.results56, go_sem, cellsOf, leaf, V.kind, V.int, V.text, V.items, V.keys, hc]) rfl ?_
            rw [num_ok HF.out (by have := HG.out; omega) _ (fun hx => absurd hx HH.out) n]
            exact ⟨none, 0, none, 0, _, rfl, lies_leaf _ _ _ _ _ (by decide), hj, rfl, set5 ((HW.out.drewN _).old hg) hg _ _ _ _ _⟩
      · refine (must_of (decide_eq_false hgt) _ _).mono ?_
        rintro e w' ⟨rfl, rfl⟩
        refine ⟨rfl, ?_⟩
        rw [num_none0 HF.out (by omega)]
        exact ⟨rfl, ((HW.out.drewN _).old hg).1⟩

theorem sfx_inj {s : ByteArray} {k k' : Nat} (hk : k ≤ s.size) (hk' : k' ≤ s.size) (h : sfx s k = sfx s k') : k = k' := by
  have := congrArg List.length h
  rw [sfx_length, sfx_length] at this
  omega
/-- A number. -/
def numberP (l : List UInt8) (n : Nat) : Option (V × List UInt8 × Nat) := numR (takesP 45 (skipP l)) (tailP 45 (skipP l)) n
theorem skipP_sfx (s : ByteArray) (k : Nat) : ∃ k', sfx s k' = skipP (sfx s k) ∧ (k ≤ s.size → k' ≤ s.size) := by
  by_cases h : k < s.size
  · by_cases hc : s[k].toNat = 32
    · obtain ⟨k', h1, h2⟩ := skipP_sfx s (k + 1)
      exact ⟨k', h1.trans (sk_blank h hc).symm, fun _ => h2 (by omega)⟩
    · exact ⟨k, (sk_other h hc).symm, id⟩
  · exact ⟨k, (sk_end h).symm, id⟩
termination_by s.size - k
theorem tailP_sfx (c : UInt8) (s : ByteArray) (k : Nat) : ∃ k', sfx s k' = tailP c (sfx s k) ∧ (k ≤ s.size → k' ≤ s.size) := by
  by_cases h : k < s.size
  · by_cases hc : s[k] = c
    · exact ⟨k + 1, by rw [sfx_cons h, tailP, if_pos hc], fun _ => by omega⟩
    · exact ⟨k, by rw [sfx_cons h, tailP, if_neg hc], id⟩
  · exact ⟨k, by rw [sfx_nil h, tailP], id⟩

theorem number_any (g : Nat) (s : ByteArray) (k n : Nat) (w : World) (h : PAt w g s k n) (hk : k ≤ s.size) (hs : s.size ≤ 1000000) :
    Calls Tryz.prog 56 #[.pointer (some ⟨g, 0, none⟩)] w (VPost g s w (numberP (sfx s k) n)) := by
  obtain ⟨k0, h0, h0'⟩ := skipP_sfx s k
  obtain ⟨k1, h1, h1'⟩ := tailP_sfx 45 s k0
  have hk1 := h1' (h0' hk)
  unfold numberP
  rw [← h0, ← h1]
  refine number_walk g s k n (takesP 45 (sfx s k0)) k1 w h hs hk1 (Lib.hid fun W hW => (accept_any g s k n 45 45 rfl W hW hk hs).mono ?_)
  rintro e w' ⟨he, k', hk', hsk, hw⟩
  rw [← h0] at he hsk
  rw [← h1] at hsk
  rw [sfx_inj hk' hk1 hsk] at hw
  exact ⟨he, hw⟩
end Go.Proofs.YtfiiaeomlmckfaaGreatDoor
/- Reading: texts in quotes. -/
namespace Go.Proofs.YtfiiaeomlmckfaaGreatDoor
open Go.RowKit

/-- A row of bytes of the call's own. -/
def Own (B : Nat) (v : Value) (l : List UInt8) (w : World) : Prop := w.ownsRow B 5 1 v l.length (Lib.byteCells l)
theorem Own.nil (B : Nat) (w : World) : Own B (.slice none 0 0) [] w := World.ownsRow_nil _ _ _ _
theorem Own.went {g B : Nat} {s : ByteArray} {k n : Nat} {v : Value} {l : List UInt8} {a b : World} (h : Own B v l a) (hw : Went g s k n a b) (hg : g < B) : Own B v l b := by
  refine World.ownsRow.kept h hw.1 ?_
  rcases hb : v.ownBlock with _ | q
  · exact .inl rfl
  · exact .inr (fun e => by rw [Option.some.injEq] at e; have := (World.ownsRow.lt h q hb).1; omega)
theorem Went.own {g B : Nat} {s : ByteArray} {k n : Nat} {v : Value} {l : List UInt8} {w a b : World} (hw : Went g s k n w a) (h : Own B v l a) (hg : g < w.heap.size) (hB : B = w.heap.size) (hab : a.grownBy b v.ownBlock) : Went g s k n w b := by
  subst hB
  have hne : some g ≠ v.ownBlock := fun e => by have := (World.ownsRow.lt h g e.symm).1; omega
  refine ⟨⟨hab.os.trans hw.1.os, hab.tape.trans hw.1.tape, hab.output.trans hw.1.output, Nat.le_trans hw.1.size hab.size, fun i hi hne' => ?_⟩, BlockIs.grown hw.2 hab hne⟩
  refine (hab.block i (Nat.lt_of_lt_of_le hi hw.1.size) (fun e => ?_)).trans (hw.1.block i hi hne')
  have := (World.ownsRow.lt h i e.symm).1
  omega
theorem own_string {B : Nat} {v : Value} {l : List UInt8} {w : World} (h : Own B v l w) : (convert 29 9 v).run Tryz.prog w = .ok (.string ⟨l.toArray⟩) w := by
  have h' := h
  obtain ⟨hl, h | ⟨g, cap, cur, hv, hB, hc, hn, hcap, hcs, ht⟩⟩ := h
  · obtain ⟨rfl, h0⟩ := h
    have : l = [] := List.length_eq_zero_iff.1 h0
    subst this
    rw [run_convert_bytes_string w _ _ 5 none 0 0 Tryz.underlying29 Tryz.underlying5 Tryz.underlying9]
    rfl
  · subst hv
    refine run_convert_bytes_back w _ _ 5 ⟨g, 0, none⟩ cap l Tryz.underlying29 Tryz.underlying5 Tryz.underlying9 ?_
    intro j hj
    exact World.ownsRow.cells h' rfl j _ (by simp [Lib.byteCells, hj])
theorem Own.form {B : Nat} {v : Value} {l : List UInt8} {w : World} (h : Own B v l w) : ∃ A c, v = .slice A l.length c := by
  obtain ⟨hl, h | ⟨g, cap, cur, hv, hB, hc, hn, hcap, hcs, ht⟩⟩ := h
  · obtain ⟨rfl, h0⟩ := h
    exact ⟨none, 0, by rw [h0]⟩
  · exact ⟨_, _, hv⟩

/-- Where the reading of a text stands. -/
def QAt (g : Nat) (s : ByteArray) (n : Nat) (R : Option (List UInt8 × List UInt8)) (w wr : World) (v : Value) (j : Nat) (acc : List UInt8) (ch : UInt8) : Prop :=
  j ≤ s.size ∧ acc.length ≤ 100 ∧ textP (ch :: sfx s j) acc = R ∧ Went g s j n w wr ∧ Own w.heap.size v acc wr
/-- What quoted leaves. -/
def QPost (g : Nat) (s : ByteArray) (n : Nat) (w : World) : Option (List UInt8 × List UInt8) → Ending → World → Prop
  | none, e, w' => e = .panicked boom ∧ w.grownBy w' (some g)
  | some (t, l), e, w' => e = .returned (.string ⟨t.toArray⟩) ∧ ∃ k, k ≤ s.size ∧ sfx s k = l ∧ Went g s k n w w'

theorem tx_plain {c : UInt8} {r acc : List UInt8} (h1 : ¬ c.toNat = 34) (h2 : ¬ c.toNat = 92) (hv : visB c = true) (hl : acc.length < 100) : textP (c :: r) acc = textP r (acc ++ [c]) := by
  rw [textP_cons, if_neg (fun e => h1 (by rw [e]; rfl)), if_neg (fun e => h2 (by rw [e]; rfl)), if_pos ⟨hv, hl⟩]
theorem tx_bad {c : UInt8} {r acc : List UInt8} (h1 : ¬ c.toNat = 34) (h2 : ¬ c.toNat = 92) (hv : ¬ (visB c = true ∧ acc.length < 100)) : textP (c :: r) acc = none := by
  rw [textP_cons, if_neg (fun e => h1 (by rw [e]; rfl)), if_neg (fun e => h2 (by rw [e]; rfl)), if_neg hv]
theorem tx_end {c : UInt8} {r acc : List UInt8} (h1 : c.toNat = 34) : textP (c :: r) acc = some (acc, r) := by
  rw [textP_cons, if_pos (UInt8.toNat_inj.1 h1)]
theorem tx_esc {c x : UInt8} {r acc : List UInt8} (h1 : c.toNat = 92) (hx : x.toNat = 34 ∨ x.toNat = 92) (hl : acc.length < 100) : textP (c :: x :: r) acc = textP r (acc ++ [x]) := by
  rw [UInt8.toNat_inj.1 (show c.toNat = (92 : UInt8).toNat from h1), textP_cons, if_neg (by decide), if_pos rfl]
  show (if _ then _ else _) = _
  rw [if_pos ⟨hx.imp (fun e => UInt8.toNat_inj.1 e) (fun e => UInt8.toNat_inj.1 e), hl⟩]
theorem tx_esc0 {c : UInt8} {acc : List UInt8} (h1 : c.toNat = 92) : textP [c] acc = none := by
  rw [UInt8.toNat_inj.1 (show c.toNat = (92 : UInt8).toNat from h1), textP_cons, if_neg (by decide), if_pos rfl]
theorem tx_escbad {c x : UInt8} {r acc : List UInt8} (h1 : c.toNat = 92) (hx : ¬ ((x.toNat = 34 ∨ x.toNat = 92) ∧ acc.length < 100)) : textP (c :: x :: r) acc = none := by
  rw [UInt8.toNat_inj.1 (show c.toNat = (92 : UInt8).toNat from h1), textP_cons, if_neg (by decide), if_pos rfl]
  show (if _ then _ else _) = _
  rw [if_neg (fun e => hx ⟨e.1.imp (fun e => by rw [e]; rfl) (fun e => by rw [e]; rfl), e.2⟩)]

theorem Own.push {B : Nat} {v : Value} {acc : List UInt8} {x : UInt8} {w : World} (h : w.ownsRow B 5 1 v (acc.length + 1) (Lib.byteCells acc ++ [.int .u8 x.toNat])) : Own B v (acc ++ [x]) w := by
  simpa [Own, Lib.byteCells] using h
theorem vis_esc {x : UInt8} (h : x.toNat = 34 ∨ x.toNat = 92) : visB x = true := by unfold visB; simp; omega

set_option maxRecDepth 100000 in
set_option maxHeartbeats 4000000 in
theorem quoted_any (g : Nat) (s : ByteArray) (k n : Nat) (w : World) (h : PAt w g s k n) (_hk : k ≤ s.size) (hs : s.size ≤ 1000000) :
    Calls Tryz.prog 54 #[.pointer (some ⟨g, 0, none⟩)] w (QPost g s n w (quotedP (sfx s k))) := by
  have hg := h.lt
  have HW0 := Lib.hid (Went.refl h)
  obtain ⟨i0, hi, hz0, hz1, hz2⟩ := info_parts (P := Tryz.prog) (e := 5) (z := .int .u8 0) (size := 1) (bytes := 1) (by kernel_rfl)
  have HY := Lib.hid fun (W : World) (j : Nat) (hW : PAt W g s j n) (hj : j < s.size) => next_yes g s j n W hW hj hs
  have HN := Lib.hid fun (W : World) (j : Nat) (hW : PAt W g s j n) (hj : ¬ j < s.size) => next_no g s j n W hW hj
  obtain ⟨R, hR⟩ : ∃ R, R = quotedP (sfx s k) := ⟨_, rfl⟩
  rw [← hR]
  have HR := Lib.hid hR
  clear h hR
  by_cases hk0 : k < s.size
  · by_cases hq : s[k].toNat = 34
    · have e0 : ((s[k].toNat : Int) == 34) = true := by simp; omega
      have HR1 := Lib.hid (show textP (sfx s (k + 1)) [] = R by rw [HR.out, sfx_cons hk0, quotedP, if_pos (UInt8.toNat_inj.1 hq)])
      clear hq
      go_enter Tryz.func54, Tryz.ntmps54
      go_wp2_with fail
      refine (HY.out _ k HW0.out.2 hk0).mono ?_
      rintro e w1 ⟨rfl, hw1⟩
      have HW1 := Lib.hid (HW0.out.trans hw1)
      clear hw1
      go_wp2_with (go_at_call 37; refine (must_yes _ _).mono ?_; rintro e w' ⟨rfl, rfl⟩)
      by_cases hk1 : k + 1 < s.size
      · refine (HY.out _ (k + 1) HW1.out.2 hk1).mono ?_
        rintro e w2 ⟨rfl, hw2⟩
        have HA := Lib.hid (show QAt g s n R w w2 (.slice none 0 0) (k + 1 + 1) [] s[k + 1] from ⟨by omega, by simp, by rw [← sfx_cons hk1]; exact HR1.out, HW1.out.trans hw2, Own.nil _ _⟩)
        clear hw2
        go_wp2_with fail
        go_loopw [3, 4] (fun v x wr => ∃ (A : Option Addr) (c j : Nat) (acc : List UInt8) (ch : UInt8), v = .slice A acc.length c ∧ x = .int .u8 ch.toNat ∧ Hid (QAt g s n R w wr v j acc ch)) (fun _ _ wr => s.size - posOf g wr)
        case atStart => exact ⟨none, 0, k + 1 + 1, [], s[k + 1], rfl, rfl, HA⟩
        case round =>
          clear HA HW1 HR1 HR
          obtain ⟨A, c, j, acc, ch, rfl, rfl, HQ⟩ := hrel
          have HQ' := HQ.out
          obtain ⟨hj, hacc, htx, hX, hO⟩ := HQ'
          have hmm := Lib.hid hX.2.pos
          have HT0 := Lib.hid htx
          have HX0 := Lib.hid hX
          have HO0 := Lib.hid hO
          clear hX hO htx
          by_cases h34 : ch.toNat = 34
          · have e1 : ((ch.toNat : Int) != 34) = false := by simp; omega
            have HE := Lib.hid ((tx_end (r := sfx s j) (acc := acc) h34).symm.trans HT0.out)
            have hcv := own_string HO0.out
            clear h34
            go_wp2_with fail
            go_ret
            rw [← HE.out]
            exact ⟨rfl, j, hj, rfl, HX0.out⟩
          have e1 : ((ch.toNat : Int) != 34) = true := by simp; omega
          by_cases h92 : ch.toNat = 92
          · have e2 : ((ch.toNat : Int) == 92) = true := by simp; omega
            by_cases hjs : j < s.size
            · have HT1 := Lib.hid (show textP (ch :: s[j] :: sfx s (j + 1)) acc = R by rw [← sfx_cons hjs]; exact HT0.out)
              have H92 := Lib.hid h92
              have H34 := Lib.hid h34
              clear h34 h92
              go_wp2_with fail
              refine (HY.out _ j HX0.out.2 hjs).mono ?_
              rintro e w1 ⟨rfl, hw1⟩
              have HX := Lib.hid (HX0.out.trans hw1)
              have HO := Lib.hid (HO0.out.went hw1 hg)
              clear hw1
              by_cases hx : s[j].toNat = 34 ∨ s[j].toNat = 92
              · have HVX := Lib.hid (vis_esc hx)
                have HV := Lib.hid fun W => show Calls Tryz.prog 84 #[.int .u8 s[j].toNat] W fun e w' => e = .returned (.bool true) ∧ w' = W from by have := visible_any s[j] W; rw [HVX.out] at this; exact this
                by_cases hlen : acc.length < 100
                · have HT := Lib.hid ((tx_esc (r := sfx s (j + 1)) H92.out hx hlen).symm.trans HT1.out)
                  obtain ⟨x, hxx⟩ : ∃ x, x = s[j] := ⟨_, rfl⟩
                  obtain ⟨jj, hjj⟩ : ∃ jj, jj = j + 1 := ⟨_, rfl⟩
                  obtain ⟨wx, hwx⟩ : ∃ wx, wx = w1 := ⟨_, rfl⟩
                  have hJ := Lib.hid (show j ≤ jj by omega)
                  rw [← hxx] at HT HV hx ⊢
                  rw [← hjj] at HT HX
                  subst hwx
                  clear hxx hjj HVX HT1
                  rcases hx with hx | hx
                  · have e3 : ((x.toNat : Int) == 34) = true := by simp; omega
                    clear hx
                    go_wp2_with (go_at_call 37; refine (must_yes _ _).mono ?_; rintro e w' ⟨rfl, rfl⟩)
                    -- HX : Hid (Went g s jj n w wx) · HO : Hid (Own w.heap.size (.slice A acc.length c) acc wx) · HT : Hid (textP (sfx s jj) (acc ++ [x]) = R) · HV : visB x = true · hlen : acc.length < 100
                    have hzx := HX.out.1.size
                    have HLN := Lib.hid hlen
                    go_wp2_with fail
                    refine (HV.out _).mono ?_
                    rintro e w' ⟨rfl, rfl⟩
                    go_wp2_with fail
                    refine (must_on (decide_eq_true (show (acc.length : Int) < 100 by have := HLN.out; omega)) _ _).mono ?_
                    rintro e w' ⟨rfl, rfl⟩
                    go_wp2_with (at_builtin; refine wpList_append_own _ rfl _ _ 29 rfl w.heap.size 5 i0 (.int .u8 0) 1 1 Tryz.underlying29 hi hz0 hz1 hz2 rfl (by decide) _ _ _ rfl (World.ownsRow.alloc HO.out _) _ 1 1 [.int .u8 x.toNat] rfl rfl ?c1 ?c2 ?c3 ?c4 ?c5 ?_)
                    case c1 =>
                      intro i u hj
                      match i, hj with
                      | 0, hj => simp at hj; subst hj; simp [Addr.add]
                    case c2 => intro u hu; simp at hu; subst hu; rfl
                    case c3 => unfold maxLen; omega
                    case c4 => omega
                    case c5 => simp; omega
                    intro v' w5 hown hgrow _
                    have HX5 := Lib.hid (Went.own (HX.out.alloc _) (World.ownsRow.alloc HO.out _) hg rfl hgrow)
                    have HO5 := Lib.hid (Own.push hown)
                    clear hown hgrow
                    obtain ⟨A5, c5, rfl⟩ := HO5.out.form
                    go_wp2_with fail
                    by_cases hj2 : jj < s.size
                    · refine (HY.out _ jj HX5.out.2 hj2).mono ?_
                      rintro e w6 ⟨rfl, hw6⟩
                      have HX6 := Lib.hid (HX5.out.trans hw6)
                      have HO6 := Lib.hid (HO5.out.went hw6 hg)
                      clear hw6
                      go_wp2_with fail
                      go_roundw
                      case rel => exact ⟨A5, c5, jj + 1, acc ++ [x], s[jj], by simp, rfl, Lib.hid ⟨by omega, by simp; omega, by rw [← sfx_cons hj2]; exact HT.out, HX6.out, by have hh := HO6.out; rw [List.length_append] at hh; exact hh⟩⟩
                      case measure => rw [hmm.out, HX6.out.2.pos]; have := hJ.out; omega
                    · refine (HN.out _ jj HX5.out.2 hj2).mono ?_
                      rintro e w6 ⟨rfl, hw6⟩
                      refine ⟨rfl, ?_⟩
                      rw [← HT.out, sfx_nil hj2]
                      exact ⟨rfl, grow_trans HX5.out.1 hw6⟩
                  · have e3 : ((x.toNat : Int) == 34) = false := by simp; omega
                    have e4 : ((x.toNat : Int) == 92) = true := by simp; omega
                    clear hx
                    go_wp2_with (go_at_call 37; refine (must_yes _ _).mono ?_; rintro e w' ⟨rfl, rfl⟩)
                    -- HX : Hid (Went g s jj n w wx) · HO : Hid (Own w.heap.size (.slice A acc.length c) acc wx) · HT : Hid (textP (sfx s jj) (acc ++ [x]) = R) · HV : visB x = true · hlen : acc.length < 100
                    have hzx := HX.out.1.size
                    have HLN := Lib.hid hlen
                    go_wp2_with fail
                    refine (HV.out _).mono ?_
                    rintro e w' ⟨rfl, rfl⟩
                    go_wp2_with fail
                    refine (must_on (decide_eq_true (show (acc.length : Int) < 100 by have := HLN.out; omega)) _ _).mono ?_
                    rintro e w' ⟨rfl, rfl⟩
                    go_wp2_with (at_builtin; refine wpList_append_own _ rfl _ _ 29 rfl w.heap.size 5 i0 (.int .u8 0) 1 1 Tryz.underlying29 hi hz0 hz1 hz2 rfl (by decide) _ _ _ rfl (World.ownsRow.alloc HO.out _) _ 1 1 [.int .u8 x.toNat] rfl rfl ?c1 ?c2 ?c3 ?c4 ?c5 ?_)
                    case c1 =>
                      intro i u hj
                      match i, hj with
                      | 0, hj => simp at hj; subst hj; simp [Addr.add]
                    case c2 => intro u hu; simp at hu; subst hu; rfl
                    case c3 => unfold maxLen; omega
                    case c4 => omega
                    case c5 => simp; omega
                    intro v' w5 hown hgrow _
                    have HX5 := Lib.hid (Went.own (HX.out.alloc _) (World.ownsRow.alloc HO.out _) hg rfl hgrow)
                    have HO5 := Lib.hid (Own.push hown)
                    clear hown hgrow
                    obtain ⟨A5, c5, rfl⟩ := HO5.out.form
                    go_wp2_with fail
                    by_cases hj2 : jj < s.size
                    · refine (HY.out _ jj HX5.out.2 hj2).mono ?_
                      rintro e w6 ⟨rfl, hw6⟩
                      have HX6 := Lib.hid (HX5.out.trans hw6)
                      have HO6 := Lib.hid (HO5.out.went hw6 hg)
                      clear hw6
                      go_wp2_with fail
                      go_roundw
                      case rel => exact ⟨A5, c5, jj + 1, acc ++ [x], s[jj], by simp, rfl, Lib.hid ⟨by omega, by simp; omega, by rw [← sfx_cons hj2]; exact HT.out, HX6.out, by have hh := HO6.out; rw [List.length_append] at hh; exact hh⟩⟩
                      case measure => rw [hmm.out, HX6.out.2.pos]; have := hJ.out; omega
                    · refine (HN.out _ jj HX5.out.2 hj2).mono ?_
                      rintro e w6 ⟨rfl, hw6⟩
                      refine ⟨rfl, ?_⟩
                      rw [← HT.out, sfx_nil hj2]
                      exact ⟨rfl, grow_trans HX5.out.1 hw6⟩
                · have HT := Lib.hid (show R = none by rw [← HT1.out, tx_escbad H92.out (fun e => hlen e.2)])
                  obtain ⟨x, hxx⟩ : ∃ x, x = s[j] := ⟨_, rfl⟩
                  rw [← hxx] at HV hx ⊢
                  clear hxx HVX HT1
                  rcases hx with hx | hx
                  · have e3 : ((x.toNat : Int) == 34) = true := by simp; omega
                    clear hx
                    go_wp2_with (go_at_call 37; refine (must_yes _ _).mono ?_; rintro e w' ⟨rfl, rfl⟩)
                    go_wp2_with fail
                    refine (HV.out _).mono ?_
                    rintro e w' ⟨rfl, rfl⟩
                    go_wp2_with fail
                    refine (must_of (decide_eq_false (show ¬ (acc.length : Int) < 100 by omega)) _ _).mono ?_
                    rintro e w' ⟨rfl, rfl⟩
                    refine ⟨rfl, ?_⟩
                    rw [HT.out]
                    exact ⟨rfl, HX.out.1⟩
                  · have e3 : ((x.toNat : Int) == 34) = false := by simp; omega
                    have e4 : ((x.toNat : Int) == 92) = true := by simp; omega
                    clear hx
                    go_wp2_with (go_at_call 37; refine (must_yes _ _).mono ?_; rintro e w' ⟨rfl, rfl⟩)
                    go_wp2_with fail
                    refine (HV.out _).mono ?_
                    rintro e w' ⟨rfl, rfl⟩
                    go_wp2_with fail
                    refine (must_of (decide_eq_false (show ¬ (acc.length : Int) < 100 by omega)) _ _).mono ?_
                    rintro e w' ⟨rfl, rfl⟩
                    refine ⟨rfl, ?_⟩
                    rw [HT.out]
                    exact ⟨rfl, HX.out.1⟩
              · have HT := Lib.hid (show R = none by rw [← HT1.out, tx_escbad H92.out (fun e => hx e.1)])
                have e3 : ((s[j].toNat : Int) == 34) = false := by simp; omega
                have e4 : ((s[j].toNat : Int) == 92) = false := by simp; omega
                clear hx HT1
                go_wp2_with (go_at_call 37; refine (must_no _ _).mono ?_; rintro e w' ⟨rfl, rfl⟩)
                refine ⟨rfl, ?_⟩
                rw [HT.out]
                exact ⟨rfl, HX.out.1⟩
            · have HT1 := Lib.hid (show R = none by rw [← HT0.out, sfx_nil hjs, tx_esc0 h92])
              clear h34 h92
              go_wp2_with fail
              refine (HN.out _ j HX0.out.2 hjs).mono ?_
              rintro e w1 ⟨rfl, hw1⟩
              refine ⟨rfl, ?_⟩
              rw [HT1.out]
              exact ⟨rfl, grow_trans HX0.out.1 hw1⟩
          · have e2 : ((ch.toNat : Int) == 92) = false := by simp; omega
            by_cases hv : visB ch = true
            · by_cases hlen : acc.length < 100
              · have HT := Lib.hid ((tx_plain (r := sfx s j) h34 h92 hv hlen).symm.trans HT0.out)
                have HV := Lib.hid fun W => show Calls Tryz.prog 84 #[.int .u8 ch.toNat] W fun e w' => e = .returned (.bool true) ∧ w' = W from by have := visible_any ch W; rw [hv] at this; exact this
                have HX := HX0
                have HO := HO0
                obtain ⟨jj, hjj⟩ : ∃ jj, jj = j := ⟨_, rfl⟩
                have hJ := Lib.hid (show j ≤ jj by omega)
                obtain ⟨x, hx⟩ : ∃ x, x = ch := ⟨_, rfl⟩
                obtain ⟨wx, hwx⟩ : ∃ wx, wx = wr := ⟨_, rfl⟩
                clear h34 h92 hv
                subst hjj hx hwx
                -- HX : Hid (Went g s jj n w wx) · HO : Hid (Own w.heap.size (.slice A acc.length c) acc wx) · HT : Hid (textP (sfx s jj) (acc ++ [x]) = R) · HV : visB x = true · hlen : acc.length < 100
                have hzx := HX.out.1.size
                have HLN := Lib.hid hlen
                go_wp2_with fail
                refine (HV.out _).mono ?_
                rintro e w' ⟨rfl, rfl⟩
                go_wp2_with fail
                refine (must_on (decide_eq_true (show (acc.length : Int) < 100 by have := HLN.out; omega)) _ _).mono ?_
                rintro e w' ⟨rfl, rfl⟩
                go_wp2_with (at_builtin; refine wpList_append_own _ rfl _ _ 29 rfl w.heap.size 5 i0 (.int .u8 0) 1 1 Tryz.underlying29 hi hz0 hz1 hz2 rfl (by decide) _ _ _ rfl (World.ownsRow.alloc HO.out _) _ 1 1 [.int .u8 x.toNat] rfl rfl ?c1 ?c2 ?c3 ?c4 ?c5 ?_)
                case c1 =>
                  intro i u hj
                  match i, hj with
                  | 0, hj => simp at hj; subst hj; simp [Addr.add]
                case c2 => intro u hu; simp at hu; subst hu; rfl
                case c3 => unfold maxLen; omega
                case c4 => omega
                case c5 => simp; omega
                intro v' w5 hown hgrow _
                have HX5 := Lib.hid (Went.own (HX.out.alloc _) (World.ownsRow.alloc HO.out _) hg rfl hgrow)
                have HO5 := Lib.hid (Own.push hown)
                clear hown hgrow
                obtain ⟨A5, c5, rfl⟩ := HO5.out.form
                go_wp2_with fail
                by_cases hj2 : jj < s.size
                · refine (HY.out _ jj HX5.out.2 hj2).mono ?_
                  rintro e w6 ⟨rfl, hw6⟩
                  have HX6 := Lib.hid (HX5.out.trans hw6)
                  have HO6 := Lib.hid (HO5.out.went hw6 hg)
                  clear hw6
                  go_wp2_with fail
                  go_roundw
                  case rel => exact ⟨A5, c5, jj + 1, acc ++ [x], s[jj], by simp, rfl, Lib.hid ⟨by omega, by simp; omega, by rw [← sfx_cons hj2]; exact HT.out, HX6.out, by have hh := HO6.out; rw [List.length_append] at hh; exact hh⟩⟩
                  case measure => rw [hmm.out, HX6.out.2.pos]; have := hJ.out; omega
                · refine (HN.out _ jj HX5.out.2 hj2).mono ?_
                  rintro e w6 ⟨rfl, hw6⟩
                  refine ⟨rfl, ?_⟩
                  rw [← HT.out, sfx_nil hj2]
                  exact ⟨rfl, grow_trans HX5.out.1 hw6⟩
              · have HT := Lib.hid (show R = none by rw [← HT0.out, tx_bad h34 h92 (fun e => hlen e.2)])
                have HV := Lib.hid fun W => show Calls Tryz.prog 84 #[.int .u8 ch.toNat] W fun e w' => e = .returned (.bool true) ∧ w' = W from by have := visible_any ch W; rw [hv] at this; exact this
                have HX := HX0
                clear h34 h92 hv
                go_wp2_with fail
                refine (HV.out _).mono ?_
                rintro e w' ⟨rfl, rfl⟩
                go_wp2_with fail
                refine (must_of (decide_eq_false (show ¬ (acc.length : Int) < 100 by omega)) _ _).mono ?_
                rintro e w' ⟨rfl, rfl⟩
                refine ⟨rfl, ?_⟩
                rw [HT.out]
                exact ⟨rfl, HX.out.1⟩
            · have HT := Lib.hid (show R = none by rw [← HT0.out, tx_bad h34 h92 (fun e => hv e.1)])
              have HV := Lib.hid fun W => show Calls Tryz.prog 84 #[.int .u8 ch.toNat] W fun e w' => e = .returned (.bool false) ∧ w' = W from by have := visible_any ch W; rw [show visB ch = false by simpa using hv] at this; exact this
              have HX := HX0
              clear h34 h92 hv
              go_wp2_with fail
              refine (HV.out _).mono ?_
              rintro e w' ⟨rfl, rfl⟩
              go_wp2_with (go_at_call 37; refine (must_no _ _).mono ?_; rintro e w' ⟨rfl, rfl⟩)
              refine ⟨rfl, ?_⟩
              rw [HT.out]
              exact ⟨rfl, HX.out.1⟩
      · refine (HN.out _ (k + 1) HW1.out.2 hk1).mono ?_
        rintro e w2 ⟨rfl, hw2⟩
        refine ⟨rfl, ?_⟩
        rw [← HR1.out, sfx_nil hk1]
        exact ⟨rfl, grow_trans HW1.out.1 hw2⟩
    · have e0 : ((s[k].toNat : Int) == 34) = false := by simp; omega
      have HR1 := Lib.hid (show R = none by rw [HR.out, sfx_cons hk0, quotedP, if_neg (fun e => hq (by rw [e]; rfl))])
      clear hq
      go_enter Tryz.func54, Tryz.ntmps54
      go_wp2_with fail
      refine (HY.out _ k HW0.out.2 hk0).mono ?_
      rintro e w1 ⟨rfl, hw1⟩
      have HW1 := Lib.hid (HW0.out.trans hw1)
      clear hw1
      go_wp2_with (go_at_call 37; refine (must_no _ _).mono ?_; rintro e w' ⟨rfl, rfl⟩)
      refine ⟨rfl, ?_⟩
      rw [HR1.out]
      exact ⟨rfl, HW1.out.1⟩
  · go_enter Tryz.func54, Tryz.ntmps54
    go_wp2_with fail
    refine (HN.out _ k HW0.out.2 hk0).mono ?_
    rintro e w1 ⟨rfl, hw1⟩
    refine ⟨rfl, ?_⟩
    rw [HR.out, sfx_nil hk0]
    exact ⟨rfl, hw1⟩
end Go.Proofs.YtfiiaeomlmckfaaGreatDoor
/- Reading: a series. -/
namespace Go.Proofs.YtfiiaeomlmckfaaGreatDoor
open Go.RowKit

/-- What a reader leaves that builds up a state. -/
def SPost {St : Type} (Inv : St → Nat → World → Prop) (Bad : World → Prop) (g : Nat) (s : ByteArray) : Option (St × List UInt8 × Nat) → Ending → World → Prop
  | none, e, w' => e = .panicked boom ∧ Bad w'
  | some (st, l, n), e, w' => e = .returned (.tuple #[]) ∧ Inv st n w' ∧ ∃ k, k ≤ s.size ∧ sfx s k = l ∧ PAt w' g s k n
def SAt {St : Type} (step : St → Nat → List UInt8 → Option (St × List UInt8 × Nat)) (close : UInt8) (Inv : St → Nat → World → Prop) (g : Nat) (s : ByteArray) (R : Option (St × List UInt8 × Nat)) (wr : World) (st : St) (k n : Nat) : Prop :=
  Inv st n wr ∧ PAt wr g s k n ∧ (k ≤ s.size ∧ n ≤ 60) ∧ ∃ f, (sfx s k).length ≤ f ∧ restP step close f st n (sfx s k) = R

set_option maxRecDepth 100000 in
set_option maxHeartbeats 1000000 in
theorem series_any {St : Type} (step : St → Nat → List UInt8 → Option (St × List UInt8 × Nat)) (op close : UInt8) (qo qc : Int) (hqo : qo = op.toNat) (hqc : qc = close.toNat) (Inv : St → Nat → World → Prop) (Bad : World → Prop)
    (g : Nat) (s : ByteArray) (N : FuncId) (p1 p2 p3 : Option Addr) (hN : ∀ (args : Array Value) (W : World), (callFunc N args).run Tryz.prog W = .ok (.enter N args) W)
    (hkeep : ∀ st k n W W', Inv st n W → Went g s k n W W' → Inv st n W') (hbad : ∀ st n W W', Inv st n W → W.grownBy W' (some g) → Bad W')
    (hlen : ∀ st n l st' l' n', step st n l = some (st', l', n') → l'.length ≤ l.length ∧ n' ≤ 60)
    (hF : ∀ st k n W, Inv st n W → PAt W g s k n → k ≤ s.size → n ≤ 60 → Calls Tryz.prog N #[.pointer p1, .pointer p2, .pointer p3] W (SPost Inv Bad g s (step st n (sfx s k))))
    (hs : s.size ≤ 1000000) (st : St) (k n : Nat) (w : World) (h : PAt w g s k n) (hk : k ≤ s.size) (hn : n ≤ 60) (hI : Inv st n w) :
    Calls Tryz.prog 76 #[.pointer (some ⟨g, 0, none⟩), .int .u8 qo, .int .u8 qc, .func (.func N) #[] #[.pointer p1, .pointer p2, .pointer p3]] w (SPost Inv Bad g s (seriesP step close op st n (sfx s k))) := by
  have HA := Lib.hid fun (W : World) (j m : Nat) (c : UInt8) (q : Int) (hq : q = c.toNat) (hW : PAt W g s j m) (hj : j ≤ s.size) => accept_any g s j m c q hq W hW hj hs
  have HF := Lib.hid hF
  have HK := Lib.hid hkeep
  have HB := Lib.hid hbad
  have HL := Lib.hid hlen
  have H0 := Lib.hid h
  have HI := Lib.hid hI
  obtain ⟨R, hR⟩ : ∃ R, R = seriesP step close op st n (sfx s k) := ⟨_, rfl⟩
  rw [← hR]
  have HR := Lib.hid hR
  have HQO := Lib.hid hqo
  have HQC := Lib.hid hqc
  clear h hI hF hkeep hbad hlen hR hqo hqc
  by_cases ho : takesP op (skipP (sfx s k)) = true
  · have HO := Lib.hid ho
    clear ho
    go_enter Tryz.func76, Tryz.ntmps76
    go_wp2_with fail
    refine (HA.out _ k n op qo HQO.out H0.out hk).mono ?_
    rintro e w1 ⟨rfl, k1, hk1, hsk1, hw1⟩
    have HW1 := Lib.hid hw1
    have HS1 := Lib.hid hsk1
    clear hw1 hsk1
    rw [HO.out]
    go_wp2_with (go_at_call 37; refine (must_yes _ _).mono ?_; rintro e w' ⟨rfl, rfl⟩)
    refine (HA.out _ k1 n close qc HQC.out HW1.out.2 hk1).mono ?_
    rintro e w2 ⟨rfl, k2, hk2, hsk2, hw2⟩
    have HW2 := Lib.hid (HW1.out.trans hw2)
    have HS2 := Lib.hid hsk2
    clear hw2 hsk2
    by_cases hc : takesP close (skipP (sfx s k1)) = true
    · have HE := Lib.hid (show R = some (st, sfx s k2, n) by rw [HR.out, seriesP, if_pos HO.out, ← HS1.out, if_pos hc, HS2.out])
      rw [hc]
      clear hc
      go_wp2_with fail
      refine bodyPost_end (v := .tuple #[]) (by simp [results, Tryz.results76, go_sem]) rfl ?_
      rw [HE.out]
      exact ⟨rfl, HK.out _ _ _ _ _ HI.out HW2.out, k2, hk2, rfl, HW2.out.2⟩
    · have hcf : takesP close (skipP (sfx s k1)) = false := by simpa using hc
      have HE := Lib.hid (show R = loopP step close ((sfx s k1).length + 1) st n (sfx s k2) by rw [HR.out, seriesP, if_pos HO.out, ← HS1.out, if_neg hc, HS2.out, tailP_not hcf])
      have HL2 := Lib.hid (show (sfx s k2).length ≤ (sfx s k1).length by rw [HS2.out]; exact Nat.le_trans (tailP_len _ _) (skipP_len _))
      rw [hcf]
      clear hc hcf
      go_wp2_with fail
      refine (HF.out st k2 n _ (HK.out _ _ _ _ _ HI.out HW2.out) HW2.out.2 hk2 hn).mono ?_
      intro e w3 hp
      rcases hst : step st n (sfx s k2) with _ | ⟨st3, l3, n3⟩
      · rw [hst] at hp
        obtain ⟨rfl, hp⟩ := hp
        refine ⟨rfl, ?_⟩
        rw [HE.out, loopP_none _ _ hst]
        exact ⟨rfl, hp⟩
      rw [hst] at hp
      obtain ⟨rfl, hI3, k3, hk3, hsk3, hP3⟩ := hp
      have HX := Lib.hid (show SAt step close Inv g s R w3 st3 k3 n3 from ⟨hI3, hP3, ⟨hk3, (HL.out _ _ _ _ _ _ hst).2⟩, (sfx s k1).length, by rw [hsk3]; exact Nat.le_trans (HL.out _ _ _ _ _ _ hst).1 HL2.out, by rw [HE.out, loopP_some _ _ hst, hsk3]⟩)
      clear hst hI3 hsk3 hP3 hk3
      go_wp2_with fail
      clear HE HL2 HW1 HW2 HS1 HS2 HI H0 HO HR
      go_loopw [] (fun wr => ∃ (st : St) (k n : Nat), Hid (SAt step close Inv g s R wr st k n)) (fun wr => s.size - posOf g wr)
      case atStart => exact ⟨st3, k3, n3, HX⟩
      case round =>
        clear HX
        obtain ⟨su, ku, nu, HS⟩ := hrel
        obtain ⟨hI, hP, ⟨hku, hnu⟩, f, hf, hR⟩ := HS.out
        have HI := Lib.hid hI
        have HP := Lib.hid hP
        have hmm := Lib.hid hP.pos
        have HR := Lib.hid hR
        have Hf := Lib.hid hf
        clear hI hP hR hf
        go_wp2_with fail
        refine (HA.out _ ku nu 44 44 rfl HP.out hku).mono ?_
        rintro e w4 ⟨rfl, k4, hk4, hsk4, hw4⟩
        have HW4 := Lib.hid hw4
        have HS4 := Lib.hid hsk4
        clear hw4 hsk4
        by_cases hc : takesP 44 (skipP (sfx s ku)) = true
        · have hlt := tailP_less hc
          rw [← HS4.out] at hlt
          have HC := Lib.hid (show (sfx s k4).length < (sfx s ku).length from Nat.lt_of_lt_of_le hlt (skipP_len _))
          obtain ⟨f', rfl⟩ : ∃ f', f = f' + 1 := ⟨f - 1, by have := HC.out; have := Hf.out; omega⟩
          have HE := Lib.hid (show loopP step close (f' + 1) su nu (sfx s k4) = R by rw [← HR.out, restP, if_pos hc, HS4.out])
          rw [hc]
          clear hc hlt
          go_wp2_with fail
          refine (HF.out su k4 nu _ (HK.out _ _ _ _ _ HI.out HW4.out) HW4.out.2 hk4 hnu).mono ?_
          intro e w5 hp
          rcases hst : step su nu (sfx s k4) with _ | ⟨st5, l5, n5⟩
          · rw [hst] at hp
            obtain ⟨rfl, hp⟩ := hp
            refine ⟨rfl, ?_⟩
            rw [← HE.out, loopP_none _ _ hst]
            exact ⟨rfl, hp⟩
          rw [hst] at hp
          obtain ⟨rfl, hI5, k5, hk5, hsk5, hP5⟩ := hp
          have hl5 := (HL.out _ _ _ _ _ _ hst).1
          have hn5 := (HL.out _ _ _ _ _ _ hst).2
          have HX := Lib.hid (show SAt step close Inv g s R w5 st5 k5 n5 from ⟨hI5, hP5, ⟨hk5, hn5⟩, f', by rw [hsk5]; have := HC.out; have := Hf.out; omega, by rw [← HE.out, loopP_some _ _ hst, hsk5]⟩)
          have HM := Lib.hid (show ku < k5 by have h1 := HC.out; rw [← hsk5] at hl5; rw [sfx_length, sfx_length] at *; omega)
          clear hst hI5 hsk5 hP5 hl5
          go_wp2_with fail
          go_roundw
          case rel => exact ⟨st5, k5, n5, HX⟩
          case measure => rw [hmm.out, HX.out.2.1.pos]; have := HM.out; omega
        · have hcf : takesP 44 (skipP (sfx s ku)) = false := by simpa using hc
          have HE := Lib.hid (show (if takesP close (sfx s k4) = true then some (su, tailP close (sfx s k4), nu) else none) = R by rw [← HR.out, restP, if_neg hc, HS4.out, tailP_not hcf])
          have HK4 := Lib.hid (show skipP (sfx s k4) = sfx s k4 by rw [HS4.out, tailP_not hcf, skipP_skip])
          rw [hcf]
          clear hc hcf
          go_wp2_with fail
          refine (HA.out _ k4 nu close qc HQC.out HW4.out.2 hk4).mono ?_
          rintro e w5 ⟨rfl, k5, hk5, hsk5, hw5⟩
          have HW5 := Lib.hid (HW4.out.trans hw5)
          have HS5 := Lib.hid hsk5
          clear hw5 hsk5
          by_cases hd : takesP close (sfx s k4) = true
          · rw [show takesP close (skipP (sfx s k4)) = true by rw [HK4.out]; exact hd]
            have HD := Lib.hid hd
            clear hd
            go_wp2_with (go_at_call 37; refine (must_yes _ _).mono ?_; rintro e w' ⟨rfl, rfl⟩)
            refine bodyPost_end (v := .tuple #[]) (by simp [results, Tryz.results76, go_sem]) rfl ?_
            rw [← HE.out, if_pos HD.out]
            exact ⟨rfl, HK.out _ _ _ _ _ HI.out HW5.out, k5, hk5, by rw [HS5.out, HK4.out], HW5.out.2⟩
          · rw [show takesP close (skipP (sfx s k4)) = false by rw [HK4.out]; simpa using hd]
            have HD := Lib.hid hd
            clear hd
            go_wp2_with (go_at_call 37; refine (must_no _ _).mono ?_; rintro e w' ⟨rfl, rfl⟩)
            refine ⟨rfl, ?_⟩
            rw [← HE.out, if_neg HD.out]
            exact ⟨rfl, HB.out _ _ _ _ HI.out HW5.out.1⟩
  · have HN := Lib.hid (show R = none by rw [HR.out, seriesP, if_neg ho])
    have hof : takesP op (skipP (sfx s k)) = false := by simpa using ho
    have HOF := Lib.hid hof
    clear ho hof
    go_enter Tryz.func76, Tryz.ntmps76
    go_wp2_with fail
    refine (HA.out _ k n op qo HQO.out H0.out hk).mono ?_
    rintro e w1 ⟨rfl, k1, hk1, hsk1, hw1⟩
    have HW1 := Lib.hid hw1
    clear hw1 hsk1
    rw [HOF.out]
    go_wp2_with (go_at_call 37; refine (must_no _ _).mono ?_; rintro e w' ⟨rfl, rfl⟩)
    refine ⟨rfl, ?_⟩
    rw [HN.out]
    exact ⟨rfl, HB.out _ _ _ _ HI.out HW1.out.1⟩
end Go.Proofs.YtfiiaeomlmckfaaGreatDoor
