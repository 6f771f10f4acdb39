/- The specification's reader: numbers. -/
import Derived.Test.YtcbcfcokfjfffaaDoorRw
namespace Go.Proofs.YtcbcfcokfjfffaaDoor
open Go.RowKit

/-- What a reader of values leaves, in the specification. -/
def RPost (g : Nat) (s : ByteArray) (bl bd : Bool) (w : World) : Option (V × List UInt8) → Ending → World → Prop
  | none, e, w' => ∃ x A c K d, e = .returned (cellsOf x A c K d) ∧ LiesIn (Fresh w w') w' x A c K d ∧ ∃ k, k ≤ s.size ∧ RWent g s k bl true w w'
  | some (x, l), e, w' => ∃ A c K d, e = .returned (cellsOf x A c K d) ∧ LiesIn (Fresh w w') w' x A c K d ∧ ∃ k, k ≤ s.size ∧ sfx s k = l ∧ RWent g s k bl bd w w'
theorem after_newR {g : Nat} {s : ByteArray} {bl bd : Bool} {w w1 : World} (k : Nat) (hg : g < w.heap.size) (cs : Array Value) (t : TypeId) (h : RWent g s k bl bd (w.alloc (.cells cs t)) w1) :
    Hid (RWent g s k bl bd (w.alloc (.cells cs t)) w1) ∧ (∀ i, w1.cell? ⟨w.heap.size, i, none⟩ = cs[i]?) ∧ (∀ i, w1.frozen? ⟨w.heap.size, i, none⟩ = false) ∧ w.heap.size + 1 ≤ w1.heap.size := by
  have hb := (BlockIs.new w t cs).grown h.1 (by simp; omega)
  exact ⟨Lib.hid h, hb.cell, hb.frozen, by simpa using h.1.size⟩
theorem minus_is (l : List UInt8) : Lib.hasPrefix l [45] = takesP 45 l := by
  cases l with
  | nil => rfl
  | cons c r =>
    simp only [Lib.hasPrefix, List.isPrefixOf, takesP, Bool.and_true]
    cases h : ((45 : UInt8) == c) <;> cases h' : (c == (45 : UInt8)) <;> simp_all
theorem number_R {l r l' : List UInt8} {neg : Bool} (h1 : takesP 45 l = neg) (h2 : tailP 45 l = r) (N D : Nat) (hd : digsR r 0 0 = (N, D, l')) : numberR l = if D = 0 ∨ 13 < D ∨ (1 < D ∧ r.head? = some 48) ∨ (neg = true ∧ N = 0) then none else some (leaf 2 (if neg then -(N : Int) else N) ⟨#[]⟩, l') := by
  unfold numberR
  rw [h2, h1, hd]
theorem dr_end {s : ByteArray} {j : Nat} (h : ¬ j < s.size) (m c : Nat) : digsR (sfx s j) m c = (m, c, sfx s j) := by rw [sfx_nil h, digsR]
theorem dr_other {s : ByteArray} {j : Nat} (h : j < s.size) (hc : digitB s[j] = false) (m c : Nat) : digsR (sfx s j) m c = (m, c, sfx s j) := by
  rw [sfx_cons h, digsR, if_neg (by rw [show digB s[j] = digitB s[j] from rfl, hc]; simp)]
theorem dr_digit {s : ByteArray} {j : Nat} (h : j < s.size) (hc : digitB s[j] = true) (m c : Nat) (h14 : c < 14) : digsR (sfx s j) m c = digsR (sfx s (j + 1)) (10 * m + (s[j].toNat - 48)) (c + 1) := by
  rw [sfx_cons h, digsR, if_pos (show digB s[j] = true from hc), if_pos h14]
theorem dr_more {s : ByteArray} {j : Nat} (h : j < s.size) (hc : digitB s[j] = true) (m c : Nat) (h14 : ¬ c < 14) : digsR (sfx s j) m c = digsR (sfx s (j + 1)) m (c + 1) := by
  rw [sfx_cons h, digsR, if_pos (show digB s[j] = true from hc), if_neg h14]
theorem pow_less {m a : Nat} (h : m < 10 ^ (min a 14)) : m < 100000000000000 := Nat.lt_of_lt_of_le h (Nat.pow_le_pow_right (n := 10) (by omega) (show min a 14 ≤ 14 by omega))
theorem pow_step {m a d : Nat} (h : m < 10 ^ (min a 14)) (ha : a < 14) (hd : d ≤ 9) : 10 * m + d < 10 ^ (min (a + 1) 14) := by
  rw [show min a 14 = a by omega] at h
  rw [show min (a + 1) 14 = a + 1 by omega, Nat.pow_succ]
  omega
theorem pow_stay {m a : Nat} (h : m < 10 ^ (min a 14)) (ha : ¬ a < 14) : m < 10 ^ (min (a + 1) 14) := by
  rw [show min a 14 = 14 by omega] at h
  rwa [show min (a + 1) 14 = 14 by omega]
/-- Where the reading of digits stands. -/
def DrAt (g : Nat) (s : ByteArray) (bl bd : Bool) (k1 : Nat) (w wr : World) (j m : Nat) : Prop :=
  k1 ≤ j ∧ j ≤ s.size ∧ m < 10 ^ (min (j - k1) 14) ∧ digsR (sfx s j) m (j - k1) = digsR (sfx s k1) 0 0 ∧ RWent g s j bl bd w wr
theorem RWent.set {g k : Nat} {s : ByteArray} {bl bd : Bool} {a b : World} (h : RWent g s k bl bd a b) (hg : g < a.heap.size) (p : Addr) (v : Value) (hp : a.heap.size ≤ p.block) : RWent g s k bl bd a (b.setCell p v) := ⟨grow_set_new h.1 p v hp, BlockIs.far h.2 (by omega) v⟩
theorem RWent.old {g k : Nat} {s : ByteArray} {bl bd : Bool} {w w1 : World} {o : Obj} (h : RWent g s k bl bd (w.alloc o) w1) : RWent g s k bl bd w w1 := ⟨grow_trans (World.grownBy_alloc w o _) h.1, h.2⟩
theorem rset5 {g k : Nat} {s : ByteArray} {bl bd : Bool} {w w1 : World} (h : RWent g s k bl bd w w1) (hg : g < w.heap.size) (a b c d e : Value) : RWent g s k bl bd w (((((w1.setCell ⟨w.heap.size, 0, none⟩ a).setCell ⟨w.heap.size, 1, none⟩ b).setCell ⟨w.heap.size, 2, none⟩ c).setCell ⟨w.heap.size, 3, none⟩ d).setCell ⟨w.heap.size, 4, none⟩ e) :=
  ((((h.set hg _ _ (Nat.le_refl _)).set hg _ _ (Nat.le_refl _)).set hg _ _ (Nat.le_refl _)).set hg _ _ (Nat.le_refl _)).set hg _ _ (Nat.le_refl _)
theorem num_good {g j : Nat} {s : ByteArray} {bl bd : Bool} {w wr w3 : World} {cs : Array Value} {t : TypeId} (hg : g < w.heap.size) (h : RWent g s j bl bd (w.alloc (.cells cs t)) wr) {n : Nat} (h3 : Below (wr.drewN n).heap.size (wr.drewN n) w3) :
    (∀ i, w3.cell? ⟨w.heap.size, i, none⟩ = cs[i]?) ∧ (∀ i, w3.frozen? ⟨w.heap.size, i, none⟩ = false) ∧ RWent g s j bl bd (w.alloc (.cells cs t)) w3 := by
  have hX := (h.drewN n).below h3
  have hb := (BlockIs.new w t cs).grown hX.1 (by simp; omega)
  exact ⟨hb.cell, hb.frozen, hX⟩
theorem num_done {g j : Nat} {s : ByteArray} {bl bd : Bool} {w wr w3 : World} {cs : Array Value} {t : TypeId} (hg : g < w.heap.size) (h : RWent g s j bl bd (w.alloc (.cells cs t)) wr) (k : Nat) {n : Nat} (h3 : Below (((wr.drewN n).setCell ⟨g, 3, none⟩ (.bool true)).setCell ⟨g, 1, none⟩ (.int .i64 k)).heap.size (((wr.drewN n).setCell ⟨g, 3, none⟩ (.bool true)).setCell ⟨g, 1, none⟩ (.int .i64 k)) w3) :
    (∀ i, w3.cell? ⟨w.heap.size, i, none⟩ = cs[i]?) ∧ (∀ i, w3.frozen? ⟨w.heap.size, i, none⟩ = false) ∧ RWent g s k bl true (w.alloc (.cells cs t)) w3 := by
  have hX := ((h.drewN n).wrong.move k).below h3
  have hb := (BlockIs.new w t cs).grown hX.1 (by simp; omega)
  exact ⟨hb.cell, hb.frozen, hX⟩

set_option maxRecDepth 100000 in
set_option maxHeartbeats 16000000 in
theorem number_walkR (g : Nat) (s : ByteArray) (k : Nat) (bl bd neg : Bool) (k1 : Nat) (w : World) (h : RAt w g s k bl bd) (hs : s.size ≤ 1000000) (hk : k ≤ s.size) (hk1 : k1 ≤ s.size)
    (HA : Hid (∀ W, RAt W g s k bl bd → Calls Tryd.prog 85 #[.pointer (some ⟨g, 0, none⟩), .string ⟨#[45]⟩] W fun e w' => e = .returned (.bool neg) ∧ RWent g s k1 bl bd W w'))
    (HR : Hid (∀ N D l', digsR (sfx s k1) 0 0 = (N, D, l') → numberR (sfx s k) = if D = 0 ∨ 13 < D ∨ (1 < D ∧ (sfx s k1).head? = some 48) ∨ (neg = true ∧ N = 0) then none else some (leaf 2 (if neg then -(N : Int) else N) ⟨#[]⟩, l'))) :
    Calls Tryd.prog 91 #[.pointer (some ⟨g, 0, none⟩)] w (RPost g s bl bd w (numberR (sfx s k))) := by
  have hg := h.lt
  have H0 := Lib.hid h
  obtain ⟨⟨c0, c1, c2, c3⟩, f1, f3⟩ := h.cells
  clear h
  go_enter Tryd.func91, Tryd.ntmps91
  go_wp2_with fail
  refine (HA.out _ (BlockIs.alloc H0.out _)).mono ?_
  rintro e w1 ⟨rfl, hw1⟩
  clear c0 c1 c2 c3 f1 f3
  obtain ⟨⟨c0, c1, c2, c3⟩, f1, f3⟩ := hw1.2.cells
  have hR := Lib.hid (show DrAt g s bl bd k1 _ _ k1 0 from ⟨Nat.le_refl _, hk1, by simp, by simp, hw1⟩)
  clear hw1
  go_wp2_with fail
  clear c0 c1 c2 c3 f1 f3
  go_loopw [6] (fun x wr => ∃ j m : Nat, x = .int .i64 m ∧ Hid (DrAt g s bl bd k1 (w.alloc (.cells #[.int .i64 0, .int .i64 0, .string ⟨#[]⟩, .slice none 0 0, .slice none 0 0] 25)) wr j m)) (fun _ wr => s.size - posOf g wr)
  case atStart => exact ⟨k1, 0, rfl, hR⟩
  case round =>
    clear hR
    obtain ⟨j, m, rfl, hA⟩ := hrel
    obtain ⟨hj0, hj, hm, hsk, hA⟩ := hA.out
    have HS := Lib.hid hsk
    have HP := Lib.hid hm
    have hml := pow_less hm
    have HJ := Lib.hid (And.intro hj0 hj)
    obtain ⟨⟨c0, c1, c2, c3⟩, f1, f3⟩ := hA.2.cells
    have hz := hA.2.lt
    have hmm := Lib.hid hA.2.pos
    have HW := Lib.hid hA
    obtain ⟨D, hD⟩ : ∃ D, D = j - k1 := ⟨_, rfl⟩
    have hDD : (j : Int) - (k1 : Int) = (D : Int) := by omega
    have hDl : D ≤ 1000000 := by omega
    have HD := Lib.hid hD
    rw [← hD] at HS HP
    clear hA hsk hm hD
    have hw5 : IntKind.i64.wrap (-(m : Int)) = -(m : Int) := by rw [IntKind.wrap_i64]; omega
    by_cases hdig : ∃ h : j < s.size, digitB s[j] = true
    · obtain ⟨hlt, hd1⟩ := hdig
      have HDG := Lib.hid hd1
      unfold digitB at hd1
      simp at hd1
      obtain ⟨h48, h57⟩ := hd1
      have g48 : decide (48 ≤ (s[j].toNat : Int)) = true := by simp; omega
      have g57 : decide ((s[j].toNat : Int) ≤ 57) = true := by simp; omega
      obtain ⟨d, hdq, hw, hd9⟩ : ∃ d : Nat, s[j].toNat - 48 = d ∧ IntKind.u8.wrap ((s[j].toNat : Int) - 48) = (d : Int) ∧ d ≤ 9 := ⟨_, rfl, u8sub h48, by omega⟩
      have hw3 : IntKind.i64.wrap (d : Int) = d := by rw [IntKind.wrap_i64]; omega
      have hw2 : IntKind.i64.wrap (10 * (m : Int)) = 10 * m := by rw [IntKind.wrap_i64]; omega
      have hw4 : IntKind.i64.wrap (10 * (m : Int) + d) = 10 * m + d := by rw [IntKind.wrap_i64]; omega
      by_cases h14 : D < 14
      · have b14 : decide ((D : Int) < 14) = true := by simp; omega
        have HK := Lib.hid (dr_digit hlt HDG.out m D h14)
        rw [hdq] at HK
        have HP2 := Lib.hid (pow_step HP.out h14 hd9)
        clear hdq h48 h57 h14
        go_wp2_with fail
        have hdd : decide (j < s.size) = true := by simpa using hlt
        go_quiet (fail)
        go_wp2_with fail
        go_quiet (fail)
        go_wp2_with fail
        have HX := Lib.hid ((HW.out.drewN 0).move (j + 1))
        go_roundw
        case rel => exact ⟨j + 1, 10 * m + d, rfl, Lib.hid ⟨by have := HJ.out; omega, by omega, by rw [show j + 1 - k1 = D + 1 by have := HJ.out; omega]; exact HP2.out, by rw [show j + 1 - k1 = D + 1 by have := HJ.out; omega]; exact HK.out.symm.trans HS.out, (HW.out.drewN _).move (j + 1)⟩⟩
        case measure =>
          rw [hmm.out]
          have hx : ∀ q, posOf g ((wr.drewN q).setCell ⟨g, 1, none⟩ (.int .i64 (j + 1))) = j + 1 := fun q => ((HW.out.drewN q).move (j + 1)).2.pos
          rw [hx]; omega
      · have b14 : decide ((D : Int) < 14) = false := by simp; omega
        have HK := Lib.hid (dr_more hlt HDG.out m D h14)
        have HP2 := Lib.hid (pow_stay HP.out h14)
        clear hdq h48 h57 h14
        go_wp2_with fail
        have hdd : decide (j < s.size) = true := by simpa using hlt
        go_quiet (fail)
        go_wp2_with fail
        go_roundw
        case rel => exact ⟨j + 1, m, rfl, Lib.hid ⟨by have := HJ.out; omega, by omega, by rw [show j + 1 - k1 = D + 1 by have := HJ.out; omega]; exact HP2.out, by rw [show j + 1 - k1 = D + 1 by have := HJ.out; omega]; exact HK.out.symm.trans HS.out, (HW.out.drewN _).move (j + 1)⟩⟩
        case measure =>
          rw [hmm.out]
          have hx : ∀ q, posOf g ((wr.drewN q).setCell ⟨g, 1, none⟩ (.int .i64 (j + 1))) = j + 1 := fun q => ((HW.out.drewN q).move (j + 1)).2.pos
          rw [hx]; omega
    · have HF := Lib.hid (show digsR (sfx s k1) 0 0 = (m, D, sfx s j) by
        rw [← HS.out]
        by_cases hlt : j < s.size
        · exact dr_other hlt (by cases hb : digitB s[j] <;> simp_all) m D
        · exact dr_end hlt m D)
      have hex : ¬ j < s.size ∨ (∃ h : j < s.size, decide (48 ≤ (s[j].toNat : Int)) = false) ∨ (∃ h : j < s.size, decide (48 ≤ (s[j].toNat : Int)) = true ∧ decide ((s[j].toNat : Int) ≤ 57) = false) := by
        by_cases hlt : j < s.size
        · right
          have hb : digitB s[j] = false := by cases hb : digitB s[j] <;> simp_all
          unfold digitB at hb
          by_cases h48 : 48 ≤ s[j].toNat
          · right
            refine ⟨hlt, by simp; omega, ?_⟩
            simp [h48] at hb
            simp; omega
          · left; exact ⟨hlt, by simp; omega⟩
        · exact .inl hlt
      clear hdig
      rcases hex with hlt | ⟨hlt, g48⟩ | ⟨hlt, g48, g57⟩
      · go_wp2_with fail
        have hdd : decide (j < s.size) = false := by simpa using hlt
        go_quiet (fail)
        clear c0 c1 c2 c3 f1 f3
        obtain ⟨⟨c0, c1, c2, c3⟩, f1, f3⟩ := HW.out.2.cells
        rcases Nat.eq_zero_or_pos D with hD0 | hD0
        · have b0 : ((D : Int) == 0) = true := by simp; omega
          have HN := Lib.hid (show numberR (sfx s k) = none by rw [HR.out _ _ _ HF.out, if_pos (.inl hD0)])
          clear hD0
          cases neg
          · go_wp2_with fail
            refine (refInt_any _ _).mono ?_
            rintro e w3 ⟨rfl, h3⟩
            obtain ⟨hc3, hf3, hw3⟩ := num_done hg HW.out k h3
            unfold numV
            go_wp2_with fail
            refine bodyPost_ret (v := cellsOf (leaf 2 ((m : Int)) ⟨#[]⟩) none 0 none 0) (by simp [results, Tryd.results91, go_sem, cellsOf, leaf, V.kind, V.int, V.text, V.items, V.keys, hc3]) rfl ?_
            rw [HN.out]
            exact ⟨leaf 2 _ ⟨#[]⟩, none, 0, none, 0, rfl, lies_leaf _ _ _ _ _ (by decide), k, hk, rset5 hw3.old hg _ _ _ _ _⟩
          · go_wp2_with fail
            refine (refInt_any _ _).mono ?_
            rintro e w3 ⟨rfl, h3⟩
            obtain ⟨hc3, hf3, hw3⟩ := num_done hg HW.out k h3
            unfold numV
            go_wp2_with fail
            refine bodyPost_ret (v := cellsOf (leaf 2 (-(m : Int)) ⟨#[]⟩) none 0 none 0) (by simp [results, Tryd.results91, go_sem, cellsOf, leaf, V.kind, V.int, V.text, V.items, V.keys, hc3]) rfl ?_
            rw [HN.out]
            exact ⟨leaf 2 _ ⟨#[]⟩, none, 0, none, 0, rfl, lies_leaf _ _ _ _ _ (by decide), k, hk, rset5 hw3.old hg _ _ _ _ _⟩
        · have b0 : ((D : Int) == 0) = false := by simp; omega
          have hks : k1 < s.size := by have := HJ.out; omega
          by_cases hD13 : 13 < D
          · have b1 : decide (13 < (D : Int)) = true := by simp; omega
            have HN := Lib.hid (show numberR (sfx s k) = none by rw [HR.out _ _ _ HF.out, if_pos (.inr (.inl hD13))])
            clear hD0 hD13
            cases neg
            · go_wp2_with fail
              refine (refInt_any _ _).mono ?_
              rintro e w3 ⟨rfl, h3⟩
              obtain ⟨hc3, hf3, hw3⟩ := num_done hg HW.out k h3
              unfold numV
              go_wp2_with fail
              refine bodyPost_ret (v := cellsOf (leaf 2 ((m : Int)) ⟨#[]⟩) none 0 none 0) (by simp [results, Tryd.results91, go_sem, cellsOf, leaf, V.kind, V.int, V.text, V.items, V.keys, hc3]) rfl ?_
              rw [HN.out]
              exact ⟨leaf 2 _ ⟨#[]⟩, none, 0, none, 0, rfl, lies_leaf _ _ _ _ _ (by decide), k, hk, rset5 hw3.old hg _ _ _ _ _⟩
            · go_wp2_with fail
              refine (refInt_any _ _).mono ?_
              rintro e w3 ⟨rfl, h3⟩
              obtain ⟨hc3, hf3, hw3⟩ := num_done hg HW.out k h3
              unfold numV
              go_wp2_with fail
              refine bodyPost_ret (v := cellsOf (leaf 2 (-(m : Int)) ⟨#[]⟩) none 0 none 0) (by simp [results, Tryd.results91, go_sem, cellsOf, leaf, V.kind, V.int, V.text, V.items, V.keys, hc3]) rfl ?_
              rw [HN.out]
              exact ⟨leaf 2 _ ⟨#[]⟩, none, 0, none, 0, rfl, lies_leaf _ _ _ _ _ (by decide), k, hk, rset5 hw3.old hg _ _ _ _ _⟩
          · have b1 : decide (13 < (D : Int)) = false := by simp; omega
            have hk48 : s[k1].toNat = 48 ∨ ¬ s[k1].toNat = 48 := Classical.em _
            by_cases hB : 1 < D ∧ s[k1].toNat = 48
            · have b2 : decide (1 < (D : Int)) = true := by simp; omega
              have b3 : ((s[k1].toNat : Int) == 48) = true := by simp; omega
              have HN := Lib.hid (show numberR (sfx s k) = none by rw [HR.out _ _ _ HF.out, if_pos (.inr (.inr (.inl ⟨hB.1, by rw [sfx_cons hks]; simp; exact UInt8.toNat_inj.1 hB.2⟩)))])
              clear hD0 hD13 hB hk48
              cases neg
              · go_wp2_with fail
                refine (refInt_any _ _).mono ?_
                rintro e w3 ⟨rfl, h3⟩
                obtain ⟨hc3, hf3, hw3⟩ := num_done hg HW.out k h3
                unfold numV
                go_wp2_with fail
                refine bodyPost_ret (v := cellsOf (leaf 2 ((m : Int)) ⟨#[]⟩) none 0 none 0) (by simp [results, Tryd.results91, go_sem, cellsOf, leaf, V.kind, V.int, V.text, V.items, V.keys, hc3]) rfl ?_
                rw [HN.out]
                exact ⟨leaf 2 _ ⟨#[]⟩, none, 0, none, 0, rfl, lies_leaf _ _ _ _ _ (by decide), k, hk, rset5 hw3.old hg _ _ _ _ _⟩
              · go_wp2_with fail
                refine (refInt_any _ _).mono ?_
                rintro e w3 ⟨rfl, h3⟩
                obtain ⟨hc3, hf3, hw3⟩ := num_done hg HW.out k h3
                unfold numV
                go_wp2_with fail
                refine bodyPost_ret (v := cellsOf (leaf 2 (-(m : Int)) ⟨#[]⟩) none 0 none 0) (by simp [results, Tryd.results91, go_sem, cellsOf, leaf, V.kind, V.int, V.text, V.items, V.keys, hc3]) rfl ?_
                rw [HN.out]
                exact ⟨leaf 2 _ ⟨#[]⟩, none, 0, none, 0, rfl, lies_leaf _ _ _ _ _ (by decide), k, hk, rset5 hw3.old hg _ _ _ _ _⟩
            · have key : decide (1 < (D : Int)) = false ∨ decide (1 < (D : Int)) = true ∧ ((s[k1].toNat : Int) == 48) = false := by
                by_cases h1 : 1 < D
                · right
                  have : ¬ s[k1].toNat = 48 := fun e => hB ⟨h1, e⟩
                  constructor <;> (simp; omega)
                · left; simp; omega
              have hnB : ¬ (1 < D ∧ (sfx s k1).head? = some 48) := by
                rintro ⟨h1, h2⟩
                rw [sfx_cons hks] at h2
                simp at h2
                exact hB ⟨h1, by rw [h2]; rfl⟩
              have HNB := Lib.hid hnB
              have HD1 := Lib.hid (And.intro hD0 hD13)
              clear hB hk48 hnB hD0 hD13
              cases neg
              · have HN := Lib.hid (show numberR (sfx s k) = some (leaf 2 ((m : Int)) ⟨#[]⟩, sfx s j) by
                  rw [HR.out _ _ _ HF.out, if_neg]
                  · rfl
                  · rintro (e | e | e | e)
                    · have := HD1.out.1; omega
                    · exact HD1.out.2 e
                    · exact HNB.out e
                    · cases e.1)
                rcases key with b2 | ⟨b2, b3⟩
                all_goals
                  go_wp2_with fail
                  refine (refInt_any _ _).mono ?_
                  rintro e w3 ⟨rfl, h3⟩
                  obtain ⟨hc3, hf3, hw3⟩ := num_good hg HW.out h3
                  unfold numV
                  go_wp2_with fail
                  refine bodyPost_ret (v := cellsOf (leaf 2 ((m : Int)) ⟨#[]⟩) none 0 none 0) (by simp [results, Tryd.results91, go_sem, cellsOf, leaf, V.kind, V.int, V.text, V.items, V.keys, hc3]) rfl ?_
                  rw [HN.out]
                  exact ⟨none, 0, none, 0, rfl, lies_leaf _ _ _ _ _ (by decide), j, HJ.out.2, rfl, rset5 hw3.old hg _ _ _ _ _⟩
              · by_cases hm0 : m = 0
                · have b4 : ((m : Int) == 0) = true := by simp; omega
                  have HN := Lib.hid (show numberR (sfx s k) = none by rw [HR.out _ _ _ HF.out, if_pos (.inr (.inr (.inr ⟨rfl, hm0⟩)))])
                  clear hm0
                  rcases key with b2 | ⟨b2, b3⟩
                  all_goals
                    go_wp2_with fail
                    refine (refInt_any _ _).mono ?_
                    rintro e w3 ⟨rfl, h3⟩
                    obtain ⟨hc3, hf3, hw3⟩ := num_done hg HW.out k h3
                    unfold numV
                    go_wp2_with fail
                    refine bodyPost_ret (v := cellsOf (leaf 2 (-(m : Int)) ⟨#[]⟩) none 0 none 0) (by simp [results, Tryd.results91, go_sem, cellsOf, leaf, V.kind, V.int, V.text, V.items, V.keys, hc3]) rfl ?_
                    rw [HN.out]
                    exact ⟨leaf 2 _ ⟨#[]⟩, none, 0, none, 0, rfl, lies_leaf _ _ _ _ _ (by decide), k, hk, rset5 hw3.old hg _ _ _ _ _⟩
                · have b4 : ((m : Int) == 0) = false := by simp; omega
                  have HN := Lib.hid (show numberR (sfx s k) = some (leaf 2 (-(m : Int)) ⟨#[]⟩, sfx s j) by
                    rw [HR.out _ _ _ HF.out, if_neg]
                    · rfl
                    · rintro (e | e | e | e)
                      · have := HD1.out.1; omega
                      · exact HD1.out.2 e
                      · exact HNB.out e
                      · exact hm0 e.2)
                  clear hm0
                  rcases key with b2 | ⟨b2, b3⟩
                  all_goals
                    go_wp2_with fail
                    refine (refInt_any _ _).mono ?_
                    rintro e w3 ⟨rfl, h3⟩
                    obtain ⟨hc3, hf3, hw3⟩ := num_good hg HW.out h3
                    unfold numV
                    go_wp2_with fail
                    refine bodyPost_ret (v := cellsOf (leaf 2 (-(m : Int)) ⟨#[]⟩) none 0 none 0) (by simp [results, Tryd.results91, go_sem, cellsOf, leaf, V.kind, V.int, V.text, V.items, V.keys, hc3]) rfl ?_
                    rw [HN.out]
                    exact ⟨none, 0, none, 0, rfl, lies_leaf _ _ _ _ _ (by decide), j, HJ.out.2, rfl, rset5 hw3.old hg _ _ _ _ _⟩
      · go_wp2_with fail
        have hdd : decide (j < s.size) = true := by simpa using hlt
        go_quiet (fail)
        clear c0 c1 c2 c3 f1 f3
        obtain ⟨⟨c0, c1, c2, c3⟩, f1, f3⟩ := HW.out.2.cells
        rcases Nat.eq_zero_or_pos D with hD0 | hD0
        · have b0 : ((D : Int) == 0) = true := by simp; omega
          have HN := Lib.hid (show numberR (sfx s k) = none by rw [HR.out _ _ _ HF.out, if_pos (.inl hD0)])
          clear hD0
          cases neg
          · go_wp2_with fail
            refine (refInt_any _ _).mono ?_
            rintro e w3 ⟨rfl, h3⟩
            obtain ⟨hc3, hf3, hw3⟩ := num_done hg HW.out k h3
            unfold numV
            go_wp2_with fail
            refine bodyPost_ret (v := cellsOf (leaf 2 ((m : Int)) ⟨#[]⟩) none 0 none 0) (by simp [results, Tryd.results91, go_sem, cellsOf, leaf, V.kind, V.int, V.text, V.items, V.keys, hc3]) rfl ?_
            rw [HN.out]
            exact ⟨leaf 2 _ ⟨#[]⟩, none, 0, none, 0, rfl, lies_leaf _ _ _ _ _ (by decide), k, hk, rset5 hw3.old hg _ _ _ _ _⟩
          · go_wp2_with fail
            refine (refInt_any _ _).mono ?_
            rintro e w3 ⟨rfl, h3⟩
            obtain ⟨hc3, hf3, hw3⟩ := num_done hg HW.out k h3
            unfold numV
            go_wp2_with fail
            refine bodyPost_ret (v := cellsOf (leaf 2 (-(m : Int)) ⟨#[]⟩) none 0 none 0) (by simp [results, Tryd.results91, go_sem, cellsOf, leaf, V.kind, V.int, V.text, V.items, V.keys, hc3]) rfl ?_
            rw [HN.out]
            exact ⟨leaf 2 _ ⟨#[]⟩, none, 0, none, 0, rfl, lies_leaf _ _ _ _ _ (by decide), k, hk, rset5 hw3.old hg _ _ _ _ _⟩
        · have b0 : ((D : Int) == 0) = false := by simp; omega
          have hks : k1 < s.size := by have := HJ.out; omega
          by_cases hD13 : 13 < D
          · have b1 : decide (13 < (D : Int)) = true := by simp; omega
            have HN := Lib.hid (show numberR (sfx s k) = none by rw [HR.out _ _ _ HF.out, if_pos (.inr (.inl hD13))])
            clear hD0 hD13
            cases neg
            · go_wp2_with fail
              refine (refInt_any _ _).mono ?_
              rintro e w3 ⟨rfl, h3⟩
              obtain ⟨hc3, hf3, hw3⟩ := num_done hg HW.out k h3
              unfold numV
              go_wp2_with fail
              refine bodyPost_ret (v := cellsOf (leaf 2 ((m : Int)) ⟨#[]⟩) none 0 none 0) (by simp [results, Tryd.results91, go_sem, cellsOf, leaf, V.kind, V.int, V.text, V.items, V.keys, hc3]) rfl ?_
              rw [HN.out]
              exact ⟨leaf 2 _ ⟨#[]⟩, none, 0, none, 0, rfl, lies_leaf _ _ _ _ _ (by decide), k, hk, rset5 hw3.old hg _ _ _ _ _⟩
            · go_wp2_with fail
              refine (refInt_any _ _).mono ?_
              rintro e w3 ⟨rfl, h3⟩
              obtain ⟨hc3, hf3, hw3⟩ := num_done hg HW.out k h3
              unfold numV
              go_wp2_with fail
              refine bodyPost_ret (v := cellsOf (leaf 2 (-(m : Int)) ⟨#[]⟩) none 0 none 0) (by simp [results, Tryd.results91, go_sem, cellsOf, leaf, V.kind, V.int, V.text, V.items, V.keys, hc3]) rfl ?_
              rw [HN.out]
              exact ⟨leaf 2 _ ⟨#[]⟩, none, 0, none, 0, rfl, lies_leaf _ _ _ _ _ (by decide), k, hk, rset5 hw3.old hg _ _ _ _ _⟩
          · have b1 : decide (13 < (D : Int)) = false := by simp; omega
            have hk48 : s[k1].toNat = 48 ∨ ¬ s[k1].toNat = 48 := Classical.em _
            by_cases hB : 1 < D ∧ s[k1].toNat = 48
            · have b2 : decide (1 < (D : Int)) = true := by simp; omega
              have b3 : ((s[k1].toNat : Int) == 48) = true := by simp; omega
              have HN := Lib.hid (show numberR (sfx s k) = none by rw [HR.out _ _ _ HF.out, if_pos (.inr (.inr (.inl ⟨hB.1, by rw [sfx_cons hks]; simp; exact UInt8.toNat_inj.1 hB.2⟩)))])
              clear hD0 hD13 hB hk48
              cases neg
              · go_wp2_with fail
                refine (refInt_any _ _).mono ?_
                rintro e w3 ⟨rfl, h3⟩
                obtain ⟨hc3, hf3, hw3⟩ := num_done hg HW.out k h3
                unfold numV
                go_wp2_with fail
                refine bodyPost_ret (v := cellsOf (leaf 2 ((m : Int)) ⟨#[]⟩) none 0 none 0) (by simp [results, Tryd.results91, go_sem, cellsOf, leaf, V.kind, V.int, V.text, V.items, V.keys, hc3]) rfl ?_
                rw [HN.out]
                exact ⟨leaf 2 _ ⟨#[]⟩, none, 0, none, 0, rfl, lies_leaf _ _ _ _ _ (by decide), k, hk, rset5 hw3.old hg _ _ _ _ _⟩
              · go_wp2_with fail
                refine (refInt_any _ _).mono ?_
                rintro e w3 ⟨rfl, h3⟩
                obtain ⟨hc3, hf3, hw3⟩ := num_done hg HW.out k h3
                unfold numV
                go_wp2_with fail
                refine bodyPost_ret (v := cellsOf (leaf 2 (-(m : Int)) ⟨#[]⟩) none 0 none 0) (by simp [results, Tryd.results91, go_sem, cellsOf, leaf, V.kind, V.int, V.text, V.items, V.keys, hc3]) rfl ?_
                rw [HN.out]
                exact ⟨leaf 2 _ ⟨#[]⟩, none, 0, none, 0, rfl, lies_leaf _ _ _ _ _ (by decide), k, hk, rset5 hw3.old hg _ _ _ _ _⟩
            · have key : decide (1 < (D : Int)) = false ∨ decide (1 < (D : Int)) = true ∧ ((s[k1].toNat : Int) == 48) = false := by
                by_cases h1 : 1 < D
                · right
                  have : ¬ s[k1].toNat = 48 := fun e => hB ⟨h1, e⟩
                  constructor <;> (simp; omega)
                · left; simp; omega
              have hnB : ¬ (1 < D ∧ (sfx s k1).head? = some 48) := by
                rintro ⟨h1, h2⟩
                rw [sfx_cons hks] at h2
                simp at h2
                exact hB ⟨h1, by rw [h2]; rfl⟩
              have HNB := Lib.hid hnB
              have HD1 := Lib.hid (And.intro hD0 hD13)
              clear hB hk48 hnB hD0 hD13
              cases neg
              · have HN := Lib.hid (show numberR (sfx s k) = some (leaf 2 ((m : Int)) ⟨#[]⟩, sfx s j) by
                  rw [HR.out _ _ _ HF.out, if_neg]
                  · rfl
                  · rintro (e | e | e | e)
                    · have := HD1.out.1; omega
                    · exact HD1.out.2 e
                    · exact HNB.out e
                    · cases e.1)
                rcases key with b2 | ⟨b2, b3⟩
                all_goals
                  go_wp2_with fail
                  refine (refInt_any _ _).mono ?_
                  rintro e w3 ⟨rfl, h3⟩
                  obtain ⟨hc3, hf3, hw3⟩ := num_good hg HW.out h3
                  unfold numV
                  go_wp2_with fail
                  refine bodyPost_ret (v := cellsOf (leaf 2 ((m : Int)) ⟨#[]⟩) none 0 none 0) (by simp [results, Tryd.results91, go_sem, cellsOf, leaf, V.kind, V.int, V.text, V.items, V.keys, hc3]) rfl ?_
                  rw [HN.out]
                  exact ⟨none, 0, none, 0, rfl, lies_leaf _ _ _ _ _ (by decide), j, HJ.out.2, rfl, rset5 hw3.old hg _ _ _ _ _⟩
              · by_cases hm0 : m = 0
                · have b4 : ((m : Int) == 0) = true := by simp; omega
                  have HN := Lib.hid (show numberR (sfx s k) = none by rw [HR.out _ _ _ HF.out, if_pos (.inr (.inr (.inr ⟨rfl, hm0⟩)))])
                  clear hm0
                  rcases key with b2 | ⟨b2, b3⟩
                  all_goals
                    go_wp2_with fail
                    refine (refInt_any _ _).mono ?_
                    rintro e w3 ⟨rfl, h3⟩
                    obtain ⟨hc3, hf3, hw3⟩ := num_done hg HW.out k h3
                    unfold numV
                    go_wp2_with fail
                    refine bodyPost_ret (v := cellsOf (leaf 2 (-(m : Int)) ⟨#[]⟩) none 0 none 0) (by simp [results, Tryd.results91, go_sem, cellsOf, leaf, V.kind, V.int, V.text, V.items, V.keys, hc3]) rfl ?_
                    rw [HN.out]
                    exact ⟨leaf 2 _ ⟨#[]⟩, none, 0, none, 0, rfl, lies_leaf _ _ _ _ _ (by decide), k, hk, rset5 hw3.old hg _ _ _ _ _⟩
                · have b4 : ((m : Int) == 0) = false := by simp; omega
                  have HN := Lib.hid (show numberR (sfx s k) = some (leaf 2 (-(m : Int)) ⟨#[]⟩, sfx s j) by
                    rw [HR.out _ _ _ HF.out, if_neg]
                    · rfl
                    · rintro (e | e | e | e)
                      · have := HD1.out.1; omega
                      · exact HD1.out.2 e
                      · exact HNB.out e
                      · exact hm0 e.2)
                  clear hm0
                  rcases key with b2 | ⟨b2, b3⟩
                  all_goals
                    go_wp2_with fail
                    refine (refInt_any _ _).mono ?_
                    rintro e w3 ⟨rfl, h3⟩
                    obtain ⟨hc3, hf3, hw3⟩ := num_good hg HW.out h3
                    unfold numV
                    go_wp2_with fail
                    refine bodyPost_ret (v := cellsOf (leaf 2 (-(m : Int)) ⟨#[]⟩) none 0 none 0) (by simp [results, Tryd.results91, go_sem, cellsOf, leaf, V.kind, V.int, V.text, V.items, V.keys, hc3]) rfl ?_
                    rw [HN.out]
                    exact ⟨none, 0, none, 0, rfl, lies_leaf _ _ _ _ _ (by decide), j, HJ.out.2, rfl, rset5 hw3.old hg _ _ _ _ _⟩
      · go_wp2_with fail
        have hdd : decide (j < s.size) = true := by simpa using hlt
        go_quiet (fail)
        clear c0 c1 c2 c3 f1 f3
        obtain ⟨⟨c0, c1, c2, c3⟩, f1, f3⟩ := HW.out.2.cells
        rcases Nat.eq_zero_or_pos D with hD0 | hD0
        · have b0 : ((D : Int) == 0) = true := by simp; omega
          have HN := Lib.hid (show numberR (sfx s k) = none by rw [HR.out _ _ _ HF.out, if_pos (.inl hD0)])
          clear hD0
          cases neg
          · go_wp2_with fail
            refine (refInt_any _ _).mono ?_
            rintro e w3 ⟨rfl, h3⟩
            obtain ⟨hc3, hf3, hw3⟩ := num_done hg HW.out k h3
            unfold numV
            go_wp2_with fail
            refine bodyPost_ret (v := cellsOf (leaf 2 ((m : Int)) ⟨#[]⟩) none 0 none 0) (by simp [results, Tryd.results91, go_sem, cellsOf, leaf, V.kind, V.int, V.text, V.items, V.keys, hc3]) rfl ?_
            rw [HN.out]
            exact ⟨leaf 2 _ ⟨#[]⟩, none, 0, none, 0, rfl, lies_leaf _ _ _ _ _ (by decide), k, hk, rset5 hw3.old hg _ _ _ _ _⟩
          · go_wp2_with fail
            refine (refInt_any _ _).mono ?_
            rintro e w3 ⟨rfl, h3⟩
            obtain ⟨hc3, hf3, hw3⟩ := num_done hg HW.out k h3
            unfold numV
            go_wp2_with fail
            refine bodyPost_ret (v := cellsOf (leaf 2 (-(m : Int)) ⟨#[]⟩) none 0 none 0) (by simp [results, Tryd.results91, go_sem, cellsOf, leaf, V.kind, V.int, V.text, V.items, V.keys, hc3]) rfl ?_
            rw [HN.out]
            exact ⟨leaf 2 _ ⟨#[]⟩, none, 0, none, 0, rfl, lies_leaf _ _ _ _ _ (by decide), k, hk, rset5 hw3.old hg _ _ _ _ _⟩
        · have b0 : ((D : Int) == 0) = false := by simp; omega
          have hks : k1 < s.size := by have := HJ.out; omega
          by_cases hD13 : 13 < D
          · have b1 : decide (13 < (D : Int)) = true := by simp; omega
            have HN := Lib.hid (show numberR (sfx s k) = none by rw [HR.out _ _ _ HF.out, if_pos (.inr (.inl hD13))])
            clear hD0 hD13
            cases neg
            · go_wp2_with fail
              refine (refInt_any _ _).mono ?_
              rintro e w3 ⟨rfl, h3⟩
              obtain ⟨hc3, hf3, hw3⟩ := num_done hg HW.out k h3
              unfold numV
              go_wp2_with fail
              refine bodyPost_ret (v := cellsOf (leaf 2 ((m : Int)) ⟨#[]⟩) none 0 none 0) (by simp [results, Tryd.results91, go_sem, cellsOf, leaf, V.kind, V.int, V.text, V.items, V.keys, hc3]) rfl ?_
              rw [HN.out]
              exact ⟨leaf 2 _ ⟨#[]⟩, none, 0, none, 0, rfl, lies_leaf _ _ _ _ _ (by decide), k, hk, rset5 hw3.old hg _ _ _ _ _⟩
            · go_wp2_with fail
              refine (refInt_any _ _).mono ?_
              rintro e w3 ⟨rfl, h3⟩
              obtain ⟨hc3, hf3, hw3⟩ := num_done hg HW.out k h3
              unfold numV
              go_wp2_with fail
              refine bodyPost_ret (v := cellsOf (leaf 2 (-(m : Int)) ⟨#[]⟩) none 0 none 0) (by simp [results, Tryd.results91, go_sem, cellsOf, leaf, V.kind, V.int, V.text, V.items, V.keys, hc3]) rfl ?_
              rw [HN.out]
              exact ⟨leaf 2 _ ⟨#[]⟩, none, 0, none, 0, rfl, lies_leaf _ _ _ _ _ (by decide), k, hk, rset5 hw3.old hg _ _ _ _ _⟩
          · have b1 : decide (13 < (D : Int)) = false := by simp; omega
            have hk48 : s[k1].toNat = 48 ∨ ¬ s[k1].toNat = 48 := Classical.em _
            by_cases hB : 1 < D ∧ s[k1].toNat = 48
            · have b2 : decide (1 < (D : Int)) = true := by simp; omega
              have b3 : ((s[k1].toNat : Int) == 48) = true := by simp; omega
              have HN := Lib.hid (show numberR (sfx s k) = none by rw [HR.out _ _ _ HF.out, if_pos (.inr (.inr (.inl ⟨hB.1, by rw [sfx_cons hks]; simp; exact UInt8.toNat_inj.1 hB.2⟩)))])
              clear hD0 hD13 hB hk48
              cases neg
              · go_wp2_with fail
                refine (refInt_any _ _).mono ?_
                rintro e w3 ⟨rfl, h3⟩
                obtain ⟨hc3, hf3, hw3⟩ := num_done hg HW.out k h3
                unfold numV
                go_wp2_with fail
                refine bodyPost_ret (v := cellsOf (leaf 2 ((m : Int)) ⟨#[]⟩) none 0 none 0) (by simp [results, Tryd.results91, go_sem, cellsOf, leaf, V.kind, V.int, V.text, V.items, V.keys, hc3]) rfl ?_
                rw [HN.out]
                exact ⟨leaf 2 _ ⟨#[]⟩, none, 0, none, 0, rfl, lies_leaf _ _ _ _ _ (by decide), k, hk, rset5 hw3.old hg _ _ _ _ _⟩
              · go_wp2_with fail
                refine (refInt_any _ _).mono ?_
                rintro e w3 ⟨rfl, h3⟩
                obtain ⟨hc3, hf3, hw3⟩ := num_done hg HW.out k h3
                unfold numV
                go_wp2_with fail
                refine bodyPost_ret (v := cellsOf (leaf 2 (-(m : Int)) ⟨#[]⟩) none 0 none 0) (by simp [results, Tryd.results91, go_sem, cellsOf, leaf, V.kind, V.int, V.text, V.items, V.keys, hc3]) rfl ?_
                rw [HN.out]
                exact ⟨leaf 2 _ ⟨#[]⟩, none, 0, none, 0, rfl, lies_leaf _ _ _ _ _ (by decide), k, hk, rset5 hw3.old hg _ _ _ _ _⟩
            · have key : decide (1 < (D : Int)) = false ∨ decide (1 < (D : Int)) = true ∧ ((s[k1].toNat : Int) == 48) = false := by
                by_cases h1 : 1 < D
                · right
                  have : ¬ s[k1].toNat = 48 := fun e => hB ⟨h1, e⟩
                  constructor <;> (simp; omega)
                · left; simp; omega
              have hnB : ¬ (1 < D ∧ (sfx s k1).head? = some 48) := by
                rintro ⟨h1, h2⟩
                rw [sfx_cons hks] at h2
                simp at h2
                exact hB ⟨h1, by rw [h2]; rfl⟩
              have HNB := Lib.hid hnB
              have HD1 := Lib.hid (And.intro hD0 hD13)
              clear hB hk48 hnB hD0 hD13
              cases neg
              · have HN := Lib.hid (show numberR (sfx s k) = some (leaf 2 ((m : Int)) ⟨#[]⟩, sfx s j) by
                  rw [HR.out _ _ _ HF.out, if_neg]
                  · rfl
                  · rintro (e | e | e | e)
                    · have := HD1.out.1; omega
                    · exact HD1.out.2 e
                    · exact HNB.out e
                    · cases e.1)
                rcases key with b2 | ⟨b2, b3⟩
                all_goals
                  go_wp2_with fail
                  refine (refInt_any _ _).mono ?_
                  rintro e w3 ⟨rfl, h3⟩
                  obtain ⟨hc3, hf3, hw3⟩ := num_good hg HW.out h3
                  unfold numV
                  go_wp2_with fail
                  refine bodyPost_ret (v := cellsOf (leaf 2 ((m : Int)) ⟨#[]⟩) none 0 none 0) (by simp [results, Tryd.results91, go_sem, cellsOf, leaf, V.kind, V.int, V.text, V.items, V.keys, hc3]) rfl ?_
                  rw [HN.out]
                  exact ⟨none, 0, none, 0, rfl, lies_leaf _ _ _ _ _ (by decide), j, HJ.out.2, rfl, rset5 hw3.old hg _ _ _ _ _⟩
              · by_cases hm0 : m = 0
                · have b4 : ((m : Int) == 0) = true := by simp; omega
                  have HN := Lib.hid (show numberR (sfx s k) = none by rw [HR.out _ _ _ HF.out, if_pos (.inr (.inr (.inr ⟨rfl, hm0⟩)))])
                  clear hm0
                  rcases key with b2 | ⟨b2, b3⟩
                  all_goals
                    go_wp2_with fail
                    refine (refInt_any _ _).mono ?_
                    rintro e w3 ⟨rfl, h3⟩
                    obtain ⟨hc3, hf3, hw3⟩ := num_done hg HW.out k h3
                    unfold numV
                    go_wp2_with fail
                    refine bodyPost_ret (v := cellsOf (leaf 2 (-(m : Int)) ⟨#[]⟩) none 0 none 0) (by simp [results, Tryd.results91, go_sem, cellsOf, leaf, V.kind, V.int, V.text, V.items, V.keys, hc3]) rfl ?_
                    rw [HN.out]
                    exact ⟨leaf 2 _ ⟨#[]⟩, none, 0, none, 0, rfl, lies_leaf _ _ _ _ _ (by decide), k, hk, rset5 hw3.old hg _ _ _ _ _⟩
                · have b4 : ((m : Int) == 0) = false := by simp; omega
                  have HN := Lib.hid (show numberR (sfx s k) = some (leaf 2 (-(m : Int)) ⟨#[]⟩, sfx s j) by
                    rw [HR.out _ _ _ HF.out, if_neg]
                    · rfl
                    · rintro (e | e | e | e)
                      · have := HD1.out.1; omega
                      · exact HD1.out.2 e
                      · exact HNB.out e
                      · exact hm0 e.2)
                  clear hm0
                  rcases key with b2 | ⟨b2, b3⟩
                  all_goals
                    go_wp2_with fail
                    refine (refInt_any _ _).mono ?_
                    rintro e w3 ⟨rfl, h3⟩
                    obtain ⟨hc3, hf3, hw3⟩ := num_good hg HW.out h3
                    unfold numV
                    go_wp2_with fail
                    refine bodyPost_ret (v := cellsOf (leaf 2 (-(m : Int)) ⟨#[]⟩) none 0 none 0) (by simp [results, Tryd.results91, go_sem, cellsOf, leaf, V.kind, V.int, V.text, V.items, V.keys, hc3]) rfl ?_
                    rw [HN.out]
                    exact ⟨none, 0, none, 0, rfl, lies_leaf _ _ _ _ _ (by decide), j, HJ.out.2, rfl, rset5 hw3.old hg _ _ _ _ _⟩

theorem number_reads (g : Nat) (s : ByteArray) (k : Nat) (bl bd : Bool) (w : World) (h : RAt w g s k bl bd) (hk : k ≤ s.size) (hs : s.size ≤ 1000000) :
    Calls Tryd.prog 91 #[.pointer (some ⟨g, 0, none⟩)] w (RPost g s bl bd w (numberR (sfx s k))) := by
  obtain ⟨neg, hn⟩ : ∃ neg, takesP 45 (sfx s k) = neg := ⟨_, rfl⟩
  have hlt : neg = true → k < s.size := by
    intro e
    rw [e] at hn
    by_cases h : k < s.size
    · exact h
    · rw [sfx_nil h] at hn; cases hn
  have ht : tailP 45 (sfx s k) = sfx s (if neg then k + 1 else k) := by
    cases neg
    · rw [tailP_not hn]; rfl
    · rw [sfx_cons (hlt rfl)] at hn ⊢
      simp [takesP] at hn
      rw [tailP, if_pos hn]; rfl
  refine number_walkR g s k bl bd neg (if neg then k + 1 else k) w h hs hk (by cases neg; exact hk; exact hlt rfl) (Lib.hid fun W hW => ?_) (Lib.hid fun N D l' hd => number_R hn ht N D hd)
  exact word_takes g s ⟨#[45]⟩ k bl bd neg W hW hk hs (by decide) (by rw [← hn]; exact minus_is _)
end Go.Proofs.YtcbcfcokfjfffaaDoor
