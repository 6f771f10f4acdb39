/- What the specification reads: words and items, walked. -/
import Derived.Test.YthlmnhelmhnpfaaGreatDoorTa
namespace Go.Proofs.YthlmnhelmhnpfaaGreatDoor
open Go.RowKit
def RPost (g : Nat) (s : ByteArray) (bl bd : Bool) (w : World) : Option (V × List UInt8) → Ending → World → Prop
  | none, e, w' => ∃ x A c K d, e = .returned (cellsOf x A c K d) ∧ LiesIn (Fresh w w') w' x A c K d ∧ ∃ k, k ≤ s.size ∧ RWent g s k bl true w w'
  | some (x, l), e, w' => ∃ A c K d, e = .returned (cellsOf x A c K d) ∧ LiesIn (Fresh w w') w' x A c K d ∧ ∃ k, k ≤ s.size ∧ sfx s k = l ∧ RWent g s k bl bd w w'
theorem minus_is (l : List UInt8) : Lib.hasPrefix l [45] = takesP 45 l := by
  cases l with
  | nil => rfl
  | cons c r =>
    simp only [Lib.hasPrefix, List.isPrefixOf, takesP, Bool.and_true]
    cases h : ((45 : UInt8) == c) <;> cases h' : (c == (45 : UInt8)) <;> simp_all
theorem number_R {l r l' : List UInt8} {neg : Bool} (h1 : takesP 45 l = neg) (h2 : tailP 45 l = r) (N D : Nat) (hd : digsR r 0 0 = (N, D, l')) : numberR l = if D = 0 ∨ 13 < D ∨ (1 < D ∧ r.head? = some 48) ∨ (neg = true ∧ N = 0) then none else some (leaf 2 (if neg then -(N : Int) else N) ⟨#[]⟩, l') := by
  unfold numberR
  rw [h2, h1, hd]
theorem dr_end {s : ByteArray} {j : Nat} (h : ¬ j < s.size) (m c : Nat) : digsR (sfx s j) m c = (m, c, sfx s j) := by rw [sfx_nil h, digsR]
theorem dr_other {s : ByteArray} {j : Nat} (h : j < s.size) (hc : digitB s[j] = false) (m c : Nat) : digsR (sfx s j) m c = (m, c, sfx s j) := by
  rw [sfx_cons h, digsR, if_neg (by rw [show digB s[j] = digitB s[j] from rfl, hc]; simp)]
theorem dr_digit {s : ByteArray} {j : Nat} (h : j < s.size) (hc : digitB s[j] = true) (m c : Nat) (h14 : c < 14) : digsR (sfx s j) m c = digsR (sfx s (j + 1)) (10 * m + (s[j].toNat - 48)) (c + 1) := by
  rw [sfx_cons h, digsR, if_pos (show digB s[j] = true from hc), if_pos h14]
theorem dr_more {s : ByteArray} {j : Nat} (h : j < s.size) (hc : digitB s[j] = true) (m c : Nat) (h14 : ¬ c < 14) : digsR (sfx s j) m c = digsR (sfx s (j + 1)) m (c + 1) := by
  rw [sfx_cons h, digsR, if_pos (show digB s[j] = true from hc), if_neg h14]
theorem pow_less {m a : Nat} (h : m < 10 ^ (min a 14)) : m < 100000000000000 := Nat.lt_of_lt_of_le h (Nat.pow_le_pow_right (n := 10) (by omega) (show min a 14 ≤ 14 by omega))
theorem pow_step {m a d : Nat} (h : m < 10 ^ (min a 14)) (ha : a < 14) (hd : d ≤ 9) : 10 * m + d < 10 ^ (min (a + 1) 14) := by
  rw [show min a 14 = a by omega] at h
  rw [show min (a + 1) 14 = a + 1 by omega, Nat.pow_succ]
  omega
theorem pow_stay {m a : Nat} (h : m < 10 ^ (min a 14)) (ha : ¬ a < 14) : m < 10 ^ (min (a + 1) 14) := by
  rw [show min a 14 = 14 by omega] at h
  rwa [show min (a + 1) 14 = 14 by omega]
def DrAt (g : Nat) (s : ByteArray) (bl bd : Bool) (k1 : Nat) (w wr : World) (j m : Nat) : Prop :=
  k1 ≤ j ∧ j ≤ s.size ∧ m < 10 ^ (min (j - k1) 14) ∧ digsR (sfx s j) m (j - k1) = digsR (sfx s k1) 0 0 ∧ RWent g s j bl bd w wr
theorem RWent.set {g k : Nat} {s : ByteArray} {bl bd : Bool} {a b : World} (h : RWent g s k bl bd a b) (hg : g < a.heap.size) (p : Addr) (v : Value) (hp : a.heap.size ≤ p.block) : RWent g s k bl bd a (b.setCell p v) := ⟨grow_set_new h.1 p v hp, BlockIs.far h.2 (by omega) v⟩
theorem RWent.old {g k : Nat} {s : ByteArray} {bl bd : Bool} {w w1 : World} {o : Obj} (h : RWent g s k bl bd (w.alloc o) w1) : RWent g s k bl bd w w1 := ⟨grow_trans (World.grownBy_alloc w o _) h.1, h.2⟩
theorem rset5 {g k : Nat} {s : ByteArray} {bl bd : Bool} {w w1 : World} (h : RWent g s k bl bd w w1) (hg : g < w.heap.size) (a b c d e : Value) : RWent g s k bl bd w (((((w1.setCell ⟨w.heap.size, 0, none⟩ a).setCell ⟨w.heap.size, 1, none⟩ b).setCell ⟨w.heap.size, 2, none⟩ c).setCell ⟨w.heap.size, 3, none⟩ d).setCell ⟨w.heap.size, 4, none⟩ e) :=
  ((((h.set hg _ _ (Nat.le_refl _)).set hg _ _ (Nat.le_refl _)).set hg _ _ (Nat.le_refl _)).set hg _ _ (Nat.le_refl _)).set hg _ _ (Nat.le_refl _)
theorem num_good {g j : Nat} {s : ByteArray} {bl bd : Bool} {w wr w3 : World} {cs : Array Value} {t : TypeId} (hg : g < w.heap.size) (h : RWent g s j bl bd (w.alloc (.cells cs t)) wr) {n : Nat} (h3 : Below (wr.drewN n).heap.size (wr.drewN n) w3) :
    (∀ i, w3.cell? ⟨w.heap.size, i, none⟩ = cs[i]?) ∧ (∀ i, w3.frozen? ⟨w.heap.size, i, none⟩ = false) ∧ RWent g s j bl bd (w.alloc (.cells cs t)) w3 := by
  have hX := (h.drewN n).below h3
  have hb := (BlockIs.new w t cs).grown hX.1 (by simp; omega)
  exact ⟨hb.cell, hb.frozen, hX⟩
theorem num_done {g j : Nat} {s : ByteArray} {bl bd : Bool} {w wr w3 : World} {cs : Array Value} {t : TypeId} (hg : g < w.heap.size) (h : RWent g s j bl bd (w.alloc (.cells cs t)) wr) (k : Nat) {n : Nat} (h3 : Below (((wr.drewN n).setCell ⟨g, 3, none⟩ (.bool true)).setCell ⟨g, 1, none⟩ (.int .i64 k)).heap.size (((wr.drewN n).setCell ⟨g, 3, none⟩ (.bool true)).setCell ⟨g, 1, none⟩ (.int .i64 k)) w3) :
    (∀ i, w3.cell? ⟨w.heap.size, i, none⟩ = cs[i]?) ∧ (∀ i, w3.frozen? ⟨w.heap.size, i, none⟩ = false) ∧ RWent g s k bl true (w.alloc (.cells cs t)) w3 := by
  have hX := ((h.drewN n).wrong.move k).below h3
  have hb := (BlockIs.new w t cs).grown hX.1 (by simp; omega)
  exact ⟨hb.cell, hb.frozen, hX⟩
set_option maxRecDepth 100000 in
set_option maxHeartbeats 16000000 in
theorem number_walkR (g : Nat) (s : ByteArray) (k : Nat) (bl bd neg : Bool) (k1 : Nat) (w : World) (h : RAt w g s k bl bd) (hs : s.size ≤ 1000000) (hk : k ≤ s.size) (hk1 : k1 ≤ s.size)
    (HA : Hid (∀ W, RAt W g s k bl bd → Calls Tryz.prog 123 #[.pointer (some ⟨g, 0, none⟩), .string ⟨#[45]⟩] W fun e w' => e = .returned (.bool neg) ∧ RWent g s k1 bl bd W w'))
    (HR : Hid (∀ N D l', digsR (sfx s k1) 0 0 = (N, D, l') → numberR (sfx s k) = if D = 0 ∨ 13 < D ∨ (1 < D ∧ (sfx s k1).head? = some 48) ∨ (neg = true ∧ N = 0) then none else some (leaf 2 (if neg then -(N : Int) else N) ⟨#[]⟩, l'))) :
    Calls Tryz.prog 129 #[.pointer (some ⟨g, 0, none⟩)] w (RPost g s bl bd w (numberR (sfx s k))) := by
  have hg := h.lt
  have H0 := Lib.hid h
  obtain ⟨⟨c0, c1, c2, c3⟩, f1, f3⟩ := h.cells
  clear h
  go_enter Tryz.func129, Tryz.ntmps129
  go_wp2_with fail
  refine (HA.out _ (BlockIs.alloc H0.out _)).mono ?_
  rintro e w1 ⟨rfl, hw1⟩
  clear c0 c1 c2 c3 f1 f3
  obtain ⟨⟨c0, c1, c2, c3⟩, f1, f3⟩ := hw1.2.cells
  have hR := Lib.hid (show DrAt g s bl bd k1 _ _ k1 0 from ⟨Nat.le_refl _, hk1, by simp, by simp, hw1⟩)
  clear hw1
  go_wp2_with fail
  clear c0 c1 c2 c3 f1 f3
  go_loopw [6] (fun x wr => ∃ j m : Nat, x = .int .i64 m ∧ Hid (DrAt g s bl bd k1 (w.alloc (.cells #[.int .i64 0, .int .i64 0, .string ⟨#[]⟩, .slice none 0 0, .slice none 0 0] 38)) wr j m)) (fun _ wr => s.size - posOf g wr)
  case atStart => exact ⟨k1, 0, rfl, hR⟩
  case round =>
    clear hR
    obtain ⟨j, m, rfl, hA⟩ := hrel
    obtain ⟨hj0, hj, hm, hsk, hA⟩ := hA.out
    have HS := Lib.hid hsk
    have HP := Lib.hid hm
    have hml := pow_less hm
    have HJ := Lib.hid (And.intro hj0 hj)
    obtain ⟨⟨c0, c1, c2, c3⟩, f1, f3⟩ := hA.2.cells
    have hz := hA.2.lt
    have hmm := Lib.hid hA.2.pos
    have HW := Lib.hid hA
    obtain ⟨D, hD⟩ : ∃ D, D = j - k1 := ⟨_, rfl⟩
    have hDD : (j : Int) - (k1 : Int) = (D : Int) := by omega
    have hDl : D ≤ 1000000 := by omega
    have HD := Lib.hid hD
    rw [← hD] at HS HP
    clear hA hsk hm hD
    have hw5 : IntKind.i64.wrap (-(m : Int)) = -(m : Int) := by rw [IntKind.wrap_i64]; omega
    by_cases hdig : ∃ h : j < s.size, digitB s[j] = true
    · obtain ⟨hlt, hd1⟩ := hdig
      have HDG := Lib.hid hd1
      unfold digitB at hd1
      simp at hd1
      obtain ⟨h48, h57⟩ := hd1
      have g48 : decide (48 ≤ (s[j].toNat : Int)) = true := by simp; omega
      have g57 : decide ((s[j].toNat : Int) ≤ 57) = true := by simp; omega
      obtain ⟨d, hdq, hw, hd9⟩ : ∃ d : Nat, s[j].toNat - 48 = d ∧ IntKind.u8.wrap ((s[j].toNat : Int) - 48) = (d : Int) ∧ d ≤ 9 := ⟨_, rfl, u8sub h48, by omega⟩
      have hw3 : IntKind.i64.wrap (d : Int) = d := by rw [IntKind.wrap_i64]; omega
      have hw2 : IntKind.i64.wrap (10 * (m : Int)) = 10 * m := by rw [IntKind.wrap_i64]; omega
      have hw4 : IntKind.i64.wrap (10 * (m : Int) + d) = 10 * m + d := by rw [IntKind.wrap_i64]; omega
      by_cases h14 : D < 14
      · have b14 : decide ((D : Int) < 14) = true := by simp; omega
        have HK := Lib.hid (dr_digit hlt HDG.out m D h14)
        rw [hdq] at HK
        have HP2 := Lib.hid (pow_step HP.out h14 hd9)
        clear hdq h48 h57 h14
        go_wp2_with fail
        have hdd : decide (j < s.size) = true := by simpa using hlt
        go_quiet (fail)
        go_wp2_with fail
        go_quiet (fail)
        go_wp2_with fail
        have HX := Lib.hid ((HW.out.drewN 0).move (j + 1))
        go_roundw
        case rel => exact ⟨j + 1, 10 * m + d, rfl, Lib.hid ⟨by have := HJ.out; omega, by omega, by rw [show j + 1 - k1 = D + 1 by have := HJ.out; omega]; exact HP2.out, by rw [show j + 1 - k1 = D + 1 by have := HJ.out; omega]; exact HK.out.symm.trans HS.out, (HW.out.drewN _).move (j + 1)⟩⟩
        case measure =>
          rw [hmm.out]
          have hx : ∀ q, posOf g ((wr.drewN q).setCell ⟨g, 1, none⟩ (.int .i64 (j + 1))) = j + 1 := fun q => ((HW.out.drewN q).move (j + 1)).2.pos
          rw [hx]; omega
      · have b14 : decide ((D : Int) < 14) = false := by simp; omega
        have HK := Lib.hid (dr_more hlt HDG.out m D h14)
        have HP2 := Lib.hid (pow_stay HP.out h14)
        clear hdq h48 h57 h14
        go_wp2_with fail
        have hdd : decide (j < s.size) = true := by simpa using hlt
        go_quiet (fail)
        go_wp2_with fail
        go_roundw
        case rel => exact ⟨j + 1, m, rfl, Lib.hid ⟨by have := HJ.out; omega, by omega, by rw [show j + 1 - k1 = D + 1 by have := HJ.out; omega]; exact HP2.out, by rw [show j + 1 - k1 = D + 1 by have := HJ.out; omega]; exact HK.out.symm.trans HS.out, (HW.out.drewN _).move (j + 1)⟩⟩
        case measure =>
          rw [hmm.out]
          have hx : ∀ q, posOf g ((wr.drewN q).setCell ⟨g, 1, none⟩ (.int .i64 (j + 1))) = j + 1 := fun q => ((HW.out.drewN q).move (j + 1)).2.pos
          rw [hx]; omega
    · have HF := Lib.hid (show digsR (sfx s k1) 0 0 = (m, D, sfx s j) by
        rw [← HS.out]
        by_cases hlt : j < s.size
        · exact dr_other hlt (by cases hb : digitB s[j] <;> simp_all) m D
        · exact dr_end hlt m D)
      have hex : ¬ j < s.size ∨ (∃ h : j < s.size, decide (48 ≤ (s[j].toNat : Int)) = false) ∨ (∃ h : j < s.size, decide (48 ≤ (s[j].toNat : Int)) = true ∧ decide ((s[j].toNat : Int) ≤ 57) = false) := by
        by_cases hlt : j < s.size
        · right
          have hb : digitB s[j] = false := by cases hb : digitB s[j] <;> simp_all
          unfold digitB at hb
          by_cases h48 : 48 ≤ s[j].toNat
          · right
            refine ⟨hlt, by simp; omega, ?_⟩
            simp [h48] at hb
            simp; omega
          · left; exact ⟨hlt, by simp; omega⟩
        · exact .inl hlt
      clear hdig
      rcases hex with hlt | ⟨hlt, g48⟩ | ⟨hlt, g48, g57⟩
      · go_wp2_with fail
        have hdd : decide (j < s.size) = false := by simpa using hlt
        go_quiet (fail)
        clear c0 c1 c2 c3 f1 f3
        obtain ⟨⟨c0, c1, c2, c3⟩, f1, f3⟩ := HW.out.2.cells
        rcases Nat.eq_zero_or_pos D with hD0 | hD0
        · have b0 : ((D : Int) == 0) = true := by simp; omega
          have HN := Lib.hid (show numberR (sfx s k) = none by rw [HR.out _ _ _ HF.out, if_pos (.inl hD0)])
          clear hD0
          cases neg
          · go_wp2_with fail
            refine (refInt_any _ _).mono ?_
            rintro e w3 ⟨rfl, h3⟩
            obtain ⟨hc3, hf3, hw3⟩ := num_done hg HW.out k h3
            unfold numV
            go_wp2_with fail
            refine bodyPost_ret (v := cellsOf (leaf 2 ((m : Int)) ⟨#[]⟩) none 0 none 0) (by simp [results, Tryz.results129, go_sem, cellsOf, leaf, V.kind, V.int, V.text, V.items, V.keys, hc3]) rfl ?_
            rw [HN.out]
            exact ⟨leaf 2 _ ⟨#[]⟩, none, 0, none, 0, rfl, lies_leaf _ _ _ _ _ (by decide), k, hk, rset5 hw3.old hg _ _ _ _ _⟩
          · go_wp2_with fail
            refine (refInt_any _ _).mono ?_
            rintro e w3 ⟨rfl, h3⟩
            obtain ⟨hc3, hf3, hw3⟩ := num_done hg HW.out k h3
            unfold numV
            go_wp2_with fail
            refine bodyPost_ret (v := cellsOf (leaf 2 (-(m : Int)) ⟨#[]⟩) none 0 none 0) (by simp [results, Tryz.results129, go_sem, cellsOf, leaf, V.kind, V.int, V.text, V.items, V.keys, hc3]) rfl ?_
            rw [HN.out]
            exact ⟨leaf 2 _ ⟨#[]⟩, none, 0, none, 0, rfl, lies_leaf _ _ _ _ _ (by decide), k, hk, rset5 hw3.old hg _ _ _ _ _⟩
        · have b0 : ((D : Int) == 0) = false := by simp; omega
          have hks : k1 < s.size := by have := HJ.out; omega
          by_cases hD13 : 13 < D
          · have b1 : decide (13 < (D : Int)) = true := by simp; omega
            have HN := Lib.hid (show numberR (sfx s k) = none by rw [HR.out _ _ _ HF.out, if_pos (.inr (.inl hD13))])
            clear hD0 hD13
            cases neg
            · go_wp2_with fail
              refine (refInt_any _ _).mono ?_
              rintro e w3 ⟨rfl, h3⟩
              obtain ⟨hc3, hf3, hw3⟩ := num_done hg HW.out k h3
              unfold numV
              go_wp2_with fail
              refine bodyPost_ret (v := cellsOf (leaf 2 ((m : Int)) ⟨#[]⟩) none 0 none 0) (by simp [results, Tryz.results129, go_sem, cellsOf, leaf, V.kind, V.int, V.text, V.items, V.keys, hc3]) rfl ?_
              rw [HN.out]
              exact ⟨leaf 2 _ ⟨#[]⟩, none, 0, none, 0, rfl, lies_leaf _ _ _ _ _ (by decide), k, hk, rset5 hw3.old hg _ _ _ _ _⟩
            · go_wp2_with fail
              refine (refInt_any _ _).mono ?_
              rintro e w3 ⟨rfl, h3⟩
              obtain ⟨hc3, hf3, hw3⟩ := num_done hg HW.out k h3
              unfold numV
              go_wp2_with fail
              refine bodyPost_ret (v := cellsOf (leaf 2 (-(m : Int)) ⟨#[]⟩) none 0 none 0) (by simp [results, Tryz.results129, go_sem, cellsOf, leaf, V.kind, V.int, V.text, V.items, V.keys, hc3]) rfl ?_
              rw [HN.out]
              exact ⟨leaf 2 _ ⟨#[]⟩, none, 0, none, 0, rfl, lies_leaf _ _ _ _ _ (by decide), k, hk, rset5 hw3.old hg _ _ _ _ _⟩
          · have b1 : decide (13 < (D : Int)) = false := by simp; omega
            have hk48 : s[k1].toNat = 48 ∨ ¬ s[k1].toNat = 48 := Classical.em _
            by_cases hB : 1 < D ∧ s[k1].toNat = 48
            · have b2 : decide (1 < (D : Int)) = true := by simp; omega
              have b3 : ((s[k1].toNat : Int) == 48) = true := by simp; omega
              have HN := Lib.hid (show numberR (sfx s k) = none by rw [HR.out _ _ _ HF.out, if_pos (.inr (.inr (.inl ⟨hB.1, by rw [sfx_cons hks]; simp; exact UInt8.toNat_inj.1 hB.2⟩)))])
              clear hD0 hD13 hB hk48
              cases neg
              · go_wp2_with fail
                refine (refInt_any _ _).mono ?_
                rintro e w3 ⟨rfl, h3⟩
                obtain ⟨hc3, hf3, hw3⟩ := num_done hg HW.out k h3
                unfold numV
                go_wp2_with fail
                refine bodyPost_ret (v := cellsOf (leaf 2 ((m : Int)) ⟨#[]⟩) none 0 none 0) (by simp [results, Tryz.results129, go_sem, cellsOf, leaf, V.kind, V.int, V.text, V.items, V.keys, hc3]) rfl ?_
                rw [HN.out]
                exact ⟨leaf 2 _ ⟨#[]⟩, none, 0, none, 0, rfl, lies_leaf _ _ _ _ _ (by decide), k, hk, rset5 hw3.old hg _ _ _ _ _⟩
              · go_wp2_with fail
                refine (refInt_any _ _).mono ?_
                rintro e w3 ⟨rfl, h3⟩
                obtain ⟨hc3, hf3, hw3⟩ := num_done hg HW.out k h3
                unfold numV
                go_wp2_with fail
                refine bodyPost_ret (v := cellsOf (leaf 2 (-(m : Int)) ⟨#[]⟩) none 0 none 0) (by simp [results, Tryz.results129, go_sem, cellsOf, leaf, V.kind, V.int, V.text, V.items, V.keys, hc3]) rfl ?_
                rw [HN.out]
                exact ⟨leaf 2 _ ⟨#[]⟩, none, 0, none, 0, rfl, lies_leaf _ _ _ _ _ (by decide), k, hk, rset5 hw3.old hg _ _ _ _ _⟩
            · have key : decide (1 < (D : Int)) = false ∨ decide (1 < (D : Int)) = true ∧ ((s[k1].toNat : Int) == 48) = false := by
                by_cases h1 : 1 < D
                · right
                  have : ¬ s[k1].toNat = 48 := fun e => hB ⟨h1, e⟩
                  constructor <;> (simp; omega)
                · left; simp; omega
              have hnB : ¬ (1 < D ∧ (sfx s k1).head? = some 48) := by
                rintro ⟨h1, h2⟩
                rw [sfx_cons hks] at h2
                simp at h2
                exact hB ⟨h1, by rw [h2]; rfl⟩
              have HNB := Lib.hid hnB
              have HD1 := Lib.hid (And.intro hD0 hD13)
              clear hB hk48 hnB hD0 hD13
              cases neg
              · have HN := Lib.hid (show numberR (sfx s k) = some (leaf 2 ((m : Int)) ⟨#[]⟩, sfx s j) by
                  rw [HR.out _ _ _ HF.out, if_neg]
                  · rfl
                  · rintro (e | e | e | e)
                    · have := HD1.out.1; omega
                    · exact HD1.out.2 e
                    · exact HNB.out e
                    · cases e.1)
                rcases key with b2 | ⟨b2, b3⟩
                all_goals
                  go_wp2_with fail
                  refine (refInt_any _ _).mono ?_
                  rintro e w3 ⟨rfl, h3⟩
                  obtain ⟨hc3, hf3, hw3⟩ := num_good hg HW.out h3
                  unfold numV
                  go_wp2_with fail
                  refine bodyPost_ret (v := cellsOf (leaf 2 ((m : Int)) ⟨#[]⟩) none 0 none 0) (by simp [results, Tryz.results129, go_sem, cellsOf, leaf, V.kind, V.int, V.text, V.items, V.keys, hc3]) rfl ?_
                  rw [HN.out]
                  exact ⟨none, 0, none, 0, rfl, lies_leaf _ _ _ _ _ (by decide), j, HJ.out.2, rfl, rset5 hw3.old hg _ _ _ _ _⟩
              · by_cases hm0 : m = 0
                · have b4 : ((m : Int) == 0) = true := by simp; omega
                  have HN := Lib.hid (show numberR (sfx s k) = none by rw [HR.out _ _ _ HF.out, if_pos (.inr (.inr (.inr ⟨rfl, hm0⟩)))])
                  clear hm0
                  rcases key with b2 | ⟨b2, b3⟩
                  all_goals
                    go_wp2_with fail
                    refine (refInt_any _ _).mono ?_
                    rintro e w3 ⟨rfl, h3⟩
                    obtain ⟨hc3, hf3, hw3⟩ := num_done hg HW.out k h3
                    unfold numV
                    go_wp2_with fail
                    refine bodyPost_ret (v := cellsOf (leaf 2 (-(m : Int)) ⟨#[]⟩) none 0 none 0) (by simp [results, Tryz.results129, go_sem, cellsOf, leaf, V.kind, V.int, V.text, V.items, V.keys, hc3]) rfl ?_
                    rw [HN.out]
                    exact ⟨leaf 2 _ ⟨#[]⟩, none, 0, none, 0, rfl, lies_leaf _ _ _ _ _ (by decide), k, hk, rset5 hw3.old hg _ _ _ _ _⟩
                · have b4 : ((m : Int) == 0) = false := by simp; omega
                  have HN := Lib.hid (show numberR (sfx s k) = some (leaf 2 (-(m : Int)) ⟨#[]⟩, sfx s j) by
                    rw [HR.out _ _ _ HF.out, if_neg]
                    · rfl
                    · rintro (e | e | e | e)
                      · have := HD1.out.1; omega
                      · exact HD1.out.2 e
                      · exact HNB.out e
                      · exact hm0 e.2)
                  clear hm0
                  rcases key with b2 | ⟨b2, b3⟩
                  all_goals
                    go_wp2_with fail
                    refine (refInt_any _ _).mono ?_
                    rintro e w3 ⟨rfl, h3⟩
                    obtain ⟨hc3, hf3, hw3⟩ := num_good hg HW.out h3
                    unfold numV
                    go_wp2_with fail
                    refine bodyPost_ret (v := cellsOf (leaf 2 (-(m : Int)) ⟨#[]⟩) none 0 none 0) (by simp [results, Tryz.results129, go_sem, cellsOf, leaf, V.kind, V.int, V.text, V.items, V.keys, hc3]) rfl ?_
                    rw [HN.out]
                    exact ⟨none, 0, none, 0, rfl, lies_leaf _ _ _ _ _ (by decide), j, HJ.out.2, rfl, rset5 hw3.old hg _ _ _ _ _⟩
      · go_wp2_with fail
        have hdd : decide (j < s.size) = true := by simpa using hlt
        go_quiet (fail)
        clear c0 c1 c2 c3 f1 f3
        obtain ⟨⟨c0, c1, c2, c3⟩, f1, f3⟩ := HW.out.2.cells
        rcases Nat.eq_zero_or_pos D with hD0 | hD0
        · have b0 : ((D : Int) == 0) = true := by simp; omega
          have HN := Lib.hid (show numberR (sfx s k) = none by rw [HR.out _ _ _ HF.out, if_pos (.inl hD0)])
          clear hD0
          cases neg
          · go_wp2_with fail
            refine (refInt_any _ _).mono ?_
            rintro e w3 ⟨rfl, h3⟩
            obtain ⟨hc3, hf3, hw3⟩ := num_done hg HW.out k h3
            unfold numV
            go_wp2_with fail
            refine bodyPost_ret (v := cellsOf (leaf 2 ((m : Int)) ⟨#[]⟩) none 0 none 0) (by simp [results, Tryz.results129, go_sem, cellsOf, leaf, V.kind, V.int, V.text, V.items, V.keys, hc3]) rfl ?_
            rw [HN.out]
            exact ⟨leaf 2 _ ⟨#[]⟩, none, 0, none, 0, rfl, lies_leaf _ _ _ _ _ (by decide), k, hk, rset5 hw3.old hg _ _ _ _ _⟩
          · go_wp2_with fail
            refine (refInt_any _ _).mono ?_
            rintro e w3 ⟨rfl, h3⟩
            obtain ⟨hc3, hf3, hw3⟩ := num_done hg HW.out k h3
            unfold numV
            go_wp2_with fail
            refine bodyPost_ret (v := cellsOf (leaf 2 (-(m : Int)) ⟨#[]⟩) none 0 none 0) (by simp [results, Tryz.results129, go_sem, cellsOf, leaf, V.kind, V.int, V.text, V.items, V.keys, hc3]) rfl ?_
            rw [HN.out]
            exact ⟨leaf 2 _ ⟨#[]⟩, none, 0, none, 0, rfl, lies_leaf _ _ _ _ _ (by decide), k, hk, rset5 hw3.old hg _ _ _ _ _⟩
        · have b0 : ((D : Int) == 0) = false := by simp; omega
          have hks : k1 < s.size := by have := HJ.out; omega
          by_cases hD13 : 13 < D
          · have b1 : decide (13 < (D : Int)) = true := by simp; omega
            have HN := Lib.hid (show numberR (sfx s k) = none by rw [HR.out _ _ _ HF.out, if_pos (.inr (.inl hD13))])
            clear hD0 hD13
            cases neg
            · go_wp2_with fail
              refine (refInt_any _ _).mono ?_
              rintro e w3 ⟨rfl, h3⟩
              obtain ⟨hc3, hf3, hw3⟩ := num_done hg HW.out k h3
              unfold numV
              go_wp2_with fail
              refine bodyPost_ret (v := cellsOf (leaf 2 ((m : Int)) ⟨#[]⟩) none 0 none 0) (by simp [results, Tryz.results129, go_sem, cellsOf, leaf, V.kind, V.int, V.text, V.items, V.keys, hc3]) rfl ?_
              rw [HN.out]
              exact ⟨leaf 2 _ ⟨#[]⟩, none, 0, none, 0, rfl, lies_leaf _ _ _ _ _ (by decide), k, hk, rset5 hw3.old hg _ _ _ _ _⟩
            · go_wp2_with fail
              refine (refInt_any _ _).mono ?_
              rintro e w3 ⟨rfl, h3⟩
              obtain ⟨hc3, hf3, hw3⟩ := num_done hg HW.out k h3
              unfold numV
              go_wp2_with fail
              refine bodyPost_ret (v := cellsOf (leaf 2 (-(m : Int)) ⟨#[]⟩) none 0 none 0) (by simp [results, Tryz.results129, go_sem, cellsOf, leaf, V.kind, V.int, V.text, V.items, V.keys, hc3]) rfl ?_
              rw [HN.out]
              exact ⟨leaf 2 _ ⟨#[]⟩, none, 0, none, 0, rfl, lies_leaf _ _ _ _ _ (by decide), k, hk, rset5 hw3.old hg _ _ _ _ _⟩
          · have b1 : decide (13 < (D : Int)) = false := by simp; omega
            have hk48 : s[k1].toNat = 48 ∨ ¬ s[k1].toNat = 48 := Classical.em _
            by_cases hB : 1 < D ∧ s[k1].toNat = 48
            · have b2 : decide (1 < (D : Int)) = true := by simp; omega
              have b3 : ((s[k1].toNat : Int) == 48) = true := by simp; omega
              have HN := Lib.hid (show numberR (sfx s k) = none by rw [HR.out _ _ _ HF.out, if_pos (.inr (.inr (.inl ⟨hB.1, by rw [sfx_cons hks]; simp; exact UInt8.toNat_inj.1 hB.2⟩)))])
              clear hD0 hD13 hB hk48
              cases neg
              · go_wp2_with fail
                refine (refInt_any _ _).mono ?_
                rintro e w3 ⟨rfl, h3⟩
                obtain ⟨hc3, hf3, hw3⟩ := num_done hg HW.out k h3
                unfold numV
                go_wp2_with fail
                refine bodyPost_ret (v := cellsOf (leaf 2 ((m : Int)) ⟨#[]⟩) none 0 none 0) (by simp [results, Tryz.results129, go_sem, cellsOf, leaf, V.kind, V.int, V.text, V.items, V.keys, hc3]) rfl ?_
                rw [HN.out]
                exact ⟨leaf 2 _ ⟨#[]⟩, none, 0, none, 0, rfl, lies_leaf _ _ _ _ _ (by decide), k, hk, rset5 hw3.old hg _ _ _ _ _⟩
              · go_wp2_with fail
                refine (refInt_any _ _).mono ?_
                rintro e w3 ⟨rfl, h3⟩
                obtain ⟨hc3, hf3, hw3⟩ := num_done hg HW.out k h3
                unfold numV
                go_wp2_with fail
                refine bodyPost_ret (v := cellsOf (leaf 2 (-(m : Int)) ⟨#[]⟩) none 0 none 0) (by simp [results, Tryz.results129, go_sem, cellsOf, leaf, V.kind, V.int, V.text, V.items, V.keys, hc3]) rfl ?_
                rw [HN.out]
                exact ⟨leaf 2 _ ⟨#[]⟩, none, 0, none, 0, rfl, lies_leaf _ _ _ _ _ (by decide), k, hk, rset5 hw3.old hg _ _ _ _ _⟩
            · have key : decide (1 < (D : Int)) = false ∨ decide (1 < (D : Int)) = true ∧ ((s[k1].toNat : Int) == 48) = false := by
                by_cases h1 : 1 < D
                · right
                  have : ¬ s[k1].toNat = 48 := fun e => hB ⟨h1, e⟩
                  constructor <;> (simp; omega)
                · left; simp; omega
              have hnB : ¬ (1 < D ∧ (sfx s k1).head? = some 48) := by
                rintro ⟨h1, h2⟩
                rw [sfx_cons hks] at h2
                simp at h2
                exact hB ⟨h1, by rw [h2]; rfl⟩
              have HNB := Lib.hid hnB
              have HD1 := Lib.hid (And.intro hD0 hD13)
              clear hB hk48 hnB hD0 hD13
              cases neg
              · have HN := Lib.hid (show numberR (sfx s k) = some (leaf 2 ((m : Int)) ⟨#[]⟩, sfx s j) by
                  rw [HR.out _ _ _ HF.out, if_neg]
                  · rfl
                  · rintro (e | e | e | e)
                    · have := HD1.out.1; omega
                    · exact HD1.out.2 e
                    · exact HNB.out e
                    · cases e.1)
                rcases key with b2 | ⟨b2, b3⟩
                all_goals
                  go_wp2_with fail
                  refine (refInt_any _ _).mono ?_
                  rintro e w3 ⟨rfl, h3⟩
                  obtain ⟨hc3, hf3, hw3⟩ := num_good hg HW.out h3
                  unfold numV
                  go_wp2_with fail
                  refine bodyPost_ret (v := cellsOf (leaf 2 ((m : Int)) ⟨#[]⟩) none 0 none 0) (by simp [results, Tryz.results129, go_sem, cellsOf, leaf, V.kind, V.int, V.text, V.items, V.keys, hc3]) rfl ?_
                  rw [HN.out]
                  exact ⟨none, 0, none, 0, rfl, lies_leaf _ _ _ _ _ (by decide), j, HJ.out.2, rfl, rset5 hw3.old hg _ _ _ _ _⟩
              · by_cases hm0 : m = 0
                · have b4 : ((m : Int) == 0) = true := by simp; omega
                  have HN := Lib.hid (show numberR (sfx s k) = none by rw [HR.out _ _ _ HF.out, if_pos (.inr (.inr (.inr ⟨rfl, hm0⟩)))])
                  clear hm0
                  rcases key with b2 | ⟨b2, b3⟩
                  all_goals
                    go_wp2_with fail
                    refine (refInt_any _ _).mono ?_
                    rintro e w3 ⟨rfl, h3⟩
                    obtain ⟨hc3, hf3, hw3⟩ := num_done hg HW.out k h3
                    unfold numV
                    go_wp2_with fail
                    refine bodyPost_ret (v := cellsOf (leaf 2 (-(m : Int)) ⟨#[]⟩) none 0 none 0) (by simp [results, Tryz.results129, go_sem, cellsOf, leaf, V.kind, V.int, V.text, V.items, V.keys, hc3]) rfl ?_
                    rw [HN.out]
                    exact ⟨leaf 2 _ ⟨#[]⟩, none, 0, none, 0, rfl, lies_leaf _ _ _ _ _ (by decide), k, hk, rset5 hw3.old hg _ _ _ _ _⟩
                · have b4 : ((m : Int) == 0) = false := by simp; omega
                  have HN := Lib.hid (show numberR (sfx s k) = some (leaf 2 (-(m : Int)) ⟨#[]⟩, sfx s j) by
                    rw [HR.out _ _ _ HF.out, if_neg]
                    · rfl
                    · rintro (e | e | e | e)
                      · have := HD1.out.1; omega
                      · exact HD1.out.2 e
                      · exact HNB.out e
                      · exact hm0 e.2)
                  clear hm0
                  rcases key with b2 | ⟨b2, b3⟩
                  all_goals
                    go_wp2_with fail
                    refine (refInt_any _ _).mono ?_
                    rintro e w3 ⟨rfl, h3⟩
                    obtain ⟨hc3, hf3, hw3⟩ := num_good hg HW.out h3
                    unfold numV
                    go_wp2_with fail
                    refine bodyPost_ret (v := cellsOf (leaf 2 (-(m : Int)) ⟨#[]⟩) none 0 none 0) (by simp [results, Tryz.results129, go_sem, cellsOf, leaf, V.kind, V.int, V.text, V.items, V.keys, hc3]) rfl ?_
                    rw [HN.out]
                    exact ⟨none, 0, none, 0, rfl, lies_leaf _ _ _ _ _ (by decide), j, HJ.out.2, rfl, rset5 hw3.old hg _ _ _ _ _⟩
      · go_wp2_with fail
        have hdd : decide (j < s.size) = true := by simpa using hlt
        go_quiet (fail)
        clear c0 c1 c2 c3 f1 f3
        obtain ⟨⟨c0, c1, c2, c3⟩, f1, f3⟩ := HW.out.2.cells
        rcases Nat.eq_zero_or_pos D with hD0 | hD0
        · have b0 : ((D : Int) == 0) = true := by simp; omega
          have HN := Lib.hid (show numberR (sfx s k) = none by rw [HR.out _ _ _ HF.out, if_pos (.inl hD0)])
          clear hD0
          cases neg
          · go_wp2_with fail
            refine (refInt_any _ _).mono ?_
            rintro e w3 ⟨rfl, h3⟩
            obtain ⟨hc3, hf3, hw3⟩ := num_done hg HW.out k h3
            unfold numV
            go_wp2_with fail
            refine bodyPost_ret (v := cellsOf (leaf 2 ((m : Int)) ⟨#[]⟩) none 0 none 0) (by simp [results, Tryz.results129, go_sem, cellsOf, leaf, V.kind, V.int, V.text, V.items, V.keys, hc3]) rfl ?_
            rw [HN.out]
            exact ⟨leaf 2 _ ⟨#[]⟩, none, 0, none, 0, rfl, lies_leaf _ _ _ _ _ (by decide), k, hk, rset5 hw3.old hg _ _ _ _ _⟩
          · go_wp2_with fail
            refine (refInt_any _ _).mono ?_
            rintro e w3 ⟨rfl, h3⟩
            obtain ⟨hc3, hf3, hw3⟩ := num_done hg HW.out k h3
            unfold numV
            go_wp2_with fail
            refine bodyPost_ret (v := cellsOf (leaf 2 (-(m : Int)) ⟨#[]⟩) none 0 none 0) (by simp [results, Tryz.results129, go_sem, cellsOf, leaf, V.kind, V.int, V.text, V.items, V.keys, hc3]) rfl ?_
            rw [HN.out]
            exact ⟨leaf 2 _ ⟨#[]⟩, none, 0, none, 0, rfl, lies_leaf _ _ _ _ _ (by decide), k, hk, rset5 hw3.old hg _ _ _ _ _⟩
        · have b0 : ((D : Int) == 0) = false := by simp; omega
          have hks : k1 < s.size := by have := HJ.out; omega
          by_cases hD13 : 13 < D
          · have b1 : decide (13 < (D : Int)) = true := by simp; omega
            have HN := Lib.hid (show numberR (sfx s k) = none by rw [HR.out _ _ _ HF.out, if_pos (.inr (.inl hD13))])
            clear hD0 hD13
            cases neg
            · go_wp2_with fail
              refine (refInt_any _ _).mono ?_
              rintro e w3 ⟨rfl, h3⟩
              obtain ⟨hc3, hf3, hw3⟩ := num_done hg HW.out k h3
              unfold numV
              go_wp2_with fail
              refine bodyPost_ret (v := cellsOf (leaf 2 ((m : Int)) ⟨#[]⟩) none 0 none 0) (by simp [results, Tryz.results129, go_sem, cellsOf, leaf, V.kind, V.int, V.text, V.items, V.keys, hc3]) rfl ?_
              rw [HN.out]
              exact ⟨leaf 2 _ ⟨#[]⟩, none, 0, none, 0, rfl, lies_leaf _ _ _ _ _ (by decide), k, hk, rset5 hw3.old hg _ _ _ _ _⟩
            · go_wp2_with fail
              refine (refInt_any _ _).mono ?_
              rintro e w3 ⟨rfl, h3⟩
              obtain ⟨hc3, hf3, hw3⟩ := num_done hg HW.out k h3
              unfold numV
              go_wp2_with fail
              refine bodyPost_ret (v := cellsOf (leaf 2 (-(m : Int)) ⟨#[]⟩) none 0 none 0) (by simp [results, Tryz.results129, go_sem, cellsOf, leaf, V.kind, V.int, V.text, V.items, V.keys, hc3]) rfl ?_
              rw [HN.out]
              exact ⟨leaf 2 _ ⟨#[]⟩, none, 0, none, 0, rfl, lies_leaf _ _ _ _ _ (by decide), k, hk, rset5 hw3.old hg _ _ _ _ _⟩
          · have b1 : decide (13 < (D : Int)) = false := by simp; omega
            have hk48 : s[k1].toNat = 48 ∨ ¬ s[k1].toNat = 48 := Classical.em _
            by_cases hB : 1 < D ∧ s[k1].toNat = 48
            · have b2 : decide (1 < (D : Int)) = true := by simp; omega
              have b3 : ((s[k1].toNat : Int) == 48) = true := by simp; omega
              have HN := Lib.hid (show numberR (sfx s k) = none by rw [HR.out _ _ _ HF.out, if_pos (.inr (.inr (.inl ⟨hB.1, by rw [sfx_cons hks]; simp; exact UInt8.toNat_inj.1 hB.2⟩)))])
              clear hD0 hD13 hB hk48
              cases neg
              · go_wp2_with fail
                refine (refInt_any _ _).mono ?_
                rintro e w3 ⟨rfl, h3⟩
                obtain ⟨hc3, hf3, hw3⟩ := num_done hg HW.out k h3
                unfold numV
                go_wp2_with fail
                refine bodyPost_ret (v := cellsOf (leaf 2 ((m : Int)) ⟨#[]⟩) none 0 none 0) (by simp [results, Tryz.results129, go_sem, cellsOf, leaf, V.kind, V.int, V.text, V.items, V.keys, hc3]) rfl ?_
                rw [HN.out]
                exact ⟨leaf 2 _ ⟨#[]⟩, none, 0, none, 0, rfl, lies_leaf _ _ _ _ _ (by decide), k, hk, rset5 hw3.old hg _ _ _ _ _⟩
              · go_wp2_with fail
                refine (refInt_any _ _).mono ?_
                rintro e w3 ⟨rfl, h3⟩
                obtain ⟨hc3, hf3, hw3⟩ := num_done hg HW.out k h3
                unfold numV
                go_wp2_with fail
                refine bodyPost_ret (v := cellsOf (leaf 2 (-(m : Int)) ⟨#[]⟩) none 0 none 0) (by simp [results, Tryz.results129, go_sem, cellsOf, leaf, V.kind, V.int, V.text, V.items, V.keys, hc3]) rfl ?_
                rw [HN.out]
                exact ⟨leaf 2 _ ⟨#[]⟩, none, 0, none, 0, rfl, lies_leaf _ _ _ _ _ (by decide), k, hk, rset5 hw3.old hg _ _ _ _ _⟩
            · have key : decide (1 < (D : Int)) = false ∨ decide (1 < (D : Int)) = true ∧ ((s[k1].toNat : Int) == 48) = false := by
                by_cases h1 : 1 < D
                · right
                  have : ¬ s[k1].toNat = 48 := fun e => hB ⟨h1, e⟩
                  constructor <;> (simp; omega)
                · left; simp; omega
              have hnB : ¬ (1 < D ∧ (sfx s k1).head? = some 48) := by
                rintro ⟨h1, h2⟩
                rw [sfx_cons hks] at h2
                simp at h2
                exact hB ⟨h1, by rw [h2]; rfl⟩
              have HNB := Lib.hid hnB
              have HD1 := Lib.hid (And.intro hD0 hD13)
              clear hB hk48 hnB hD0 hD13
              cases neg
              · have HN := Lib.hid (show numberR (sfx s k) = some (leaf 2 ((m : Int)) ⟨#[]⟩, sfx s j) by
                  rw [HR.out _ _ _ HF.out, if_neg]
                  · rfl
                  · rintro (e | e | e | e)
                    · have := HD1.out.1; omega
                    · exact HD1.out.2 e
                    · exact HNB.out e
                    · cases e.1)
                rcases key with b2 | ⟨b2, b3⟩
                all_goals
                  go_wp2_with fail
                  refine (refInt_any _ _).mono ?_
                  rintro e w3 ⟨rfl, h3⟩
                  obtain ⟨hc3, hf3, hw3⟩ := num_good hg HW.out h3
                  unfold numV
                  go_wp2_with fail
                  refine bodyPost_ret (v := cellsOf (leaf 2 ((m : Int)) ⟨#[]⟩) none 0 none 0) (by simp [results, Tryz.results129, go_sem, cellsOf, leaf, V.kind, V.int, V.text, V.items, V.keys, hc3]) rfl ?_
                  rw [HN.out]
                  exact ⟨none, 0, none, 0, rfl, lies_leaf _ _ _ _ _ (by decide), j, HJ.out.2, rfl, rset5 hw3.old hg _ _ _ _ _⟩
              · by_cases hm0 : m = 0
                · have b4 : ((m : Int) == 0) = true := by simp; omega
                  have HN := Lib.hid (show numberR (sfx s k) = none by rw [HR.out _ _ _ HF.out, if_pos (.inr (.inr (.inr ⟨rfl, hm0⟩)))])
                  clear hm0
                  rcases key with b2 | ⟨b2, b3⟩
                  all_goals
                    go_wp2_with fail
                    refine (refInt_any _ _).mono ?_
                    rintro e w3 ⟨rfl, h3⟩
                    obtain ⟨hc3, hf3, hw3⟩ := num_done hg HW.out k h3
                    unfold numV
                    go_wp2_with fail
                    refine bodyPost_ret (v := cellsOf (leaf 2 (-(m : Int)) ⟨#[]⟩) none 0 none 0) (by simp [results, Tryz.results129, go_sem, cellsOf, leaf, V.kind, V.int, V.text, V.items, V.keys, hc3]) rfl ?_
                    rw [HN.out]
                    exact ⟨leaf 2 _ ⟨#[]⟩, none, 0, none, 0, rfl, lies_leaf _ _ _ _ _ (by decide), k, hk, rset5 hw3.old hg _ _ _ _ _⟩
                · have b4 : ((m : Int) == 0) = false := by simp; omega
                  have HN := Lib.hid (show numberR (sfx s k) = some (leaf 2 (-(m : Int)) ⟨#[]⟩, sfx s j) by
                    rw [HR.out _ _ _ HF.out, if_neg]
                    · rfl
                    · rintro (e | e | e | e)
                      · have := HD1.out.1; omega
                      · exact HD1.out.2 e
                      · exact HNB.out e
                      · exact hm0 e.2)
                  clear hm0
                  rcases key with b2 | ⟨b2, b3⟩
                  all_goals
                    go_wp2_with fail
                    refine (refInt_any _ _).mono ?_
                    rintro e w3 ⟨rfl, h3⟩
                    obtain ⟨hc3, hf3, hw3⟩ := num_good hg HW.out h3
                    unfold numV
                    go_wp2_with fail
                    refine bodyPost_ret (v := cellsOf (leaf 2 (-(m : Int)) ⟨#[]⟩) none 0 none 0) (by simp [results, Tryz.results129, go_sem, cellsOf, leaf, V.kind, V.int, V.text, V.items, V.keys, hc3]) rfl ?_
                    rw [HN.out]
                    exact ⟨none, 0, none, 0, rfl, lies_leaf _ _ _ _ _ (by decide), j, HJ.out.2, rfl, rset5 hw3.old hg _ _ _ _ _⟩
theorem number_reads (g : Nat) (s : ByteArray) (k : Nat) (bl bd : Bool) (w : World) (h : RAt w g s k bl bd) (hk : k ≤ s.size) (hs : s.size ≤ 1000000) :
    Calls Tryz.prog 129 #[.pointer (some ⟨g, 0, none⟩)] w (RPost g s bl bd w (numberR (sfx s k))) := by
  obtain ⟨neg, hn⟩ : ∃ neg, takesP 45 (sfx s k) = neg := ⟨_, rfl⟩
  have hlt : neg = true → k < s.size := by
    intro e
    rw [e] at hn
    by_cases h : k < s.size
    · exact h
    · rw [sfx_nil h] at hn; cases hn
  have ht : tailP 45 (sfx s k) = sfx s (if neg then k + 1 else k) := by
    cases neg
    · rw [tailP_not hn]; rfl
    · rw [sfx_cons (hlt rfl)] at hn ⊢
      simp [takesP] at hn
      rw [tailP, if_pos hn]; rfl
  refine number_walkR g s k bl bd neg (if neg then k + 1 else k) w h hs hk (by cases neg; exact hk; exact hlt rfl) (Lib.hid fun W hW => ?_) (Lib.hid fun N D l' hd => number_R hn ht N D hd)
  exact word_takes g s ⟨#[45]⟩ k bl bd neg W hW hk hs (by decide) (by rw [← hn]; exact minus_is _)
open Go.RowKit
structure LS (w : World) (G g : Nat) (s : ByteArray) (bl : Bool) (k : Nat) (bd : Bool) (acc : List V) (rI : Value) (css : List (List Value)) (W : World) : Prop where
  went : RWent g s k bl bd w W
  far : w.heap.size + 1 ≤ G
  b0 : BlockIs W w.heap.size 38 zeroF
  bG : BlockIs W G 38 #[.int .i64 4, .int .i64 0, .string ⟨#[]⟩, rI, .slice none 0 0]
  items : W.ownsRow (G + 1) 38 5 rI acc.length css.flatten
  rows : RowsIn (Out (G + 1) [rI.ownBlock] W) W acc css
section
variable {w W W' w1 : World} {G g k k' : Nat} {s : ByteArray} {bl bd bd' : Bool} {acc : List V} {rI : Value} {css : List (List Value)}
theorem LS.step (h : LS w G g s bl k bd acc rI css W) (hg : g < w.heap.size) (hw : RWent g s k' bl bd' W W') : LS w G g s bl k' bd' acc rI css W' := by
  obtain ⟨h1, h2, h3, h4, h5, h6⟩ := h
  have hf := @out_far (G + 1) g [rI.ownBlock] W W' (by omega) hw.1
  exact ⟨h1.trans hw, h2, h3.grown hw.1 (by simp; omega), h4.grown hw.1 (by simp; omega), own_far h5 (by omega) hw.1, h6.keep hf.1 hf.2⟩
theorem LS.item {x : V} {A K : Option Addr} {c q g' cap : Nat} {W2 : World} (h : LS w G g s bl k bd acc rI css W) (hg : g < w.heap.size) (hw : RWent g s k' bl bd' W W') (hx : LiesIn (Fresh W W') W' x A c K q)
    (hal : W'.grownBy W2 none) (hgrow : W2.grownBy w1 rI.ownBlock) (hat : rI.ownBlock = some g' ∨ g' = W2.heap.size)
    (hown : w1.ownsRow (G + 1) 38 5 (.slice (some ⟨g', 0, none⟩) (acc.length + 1) cap) (acc.length + 1) (css.flatten ++ fieldsL x A c K q)) :
    LS w G g s bl k' bd' (acc ++ [x]) (.slice (some ⟨g', 0, none⟩) (acc.length + 1) cap) (css ++ [fieldsL x A c K q]) (w1.setCell ⟨G, 3, none⟩ (.slice (some ⟨g', 0, none⟩) (acc.length + 1) cap)) := by
  have hr0 := fun b hb => World.ownsRow.lt h.items b hb
  have hGW : G < W.heap.size := h.bG.lt
  have h2 := h.step hg hw
  obtain ⟨e1, e2, e3, e4, e5, e6⟩ := h2
  have hsz := hw.1.size
  have hs1 := hgrow.size
  have hs2 : W'.heap.size ≤ W2.heap.size := hal.size
  have hGr : some G ≠ rI.ownBlock := fun e => by have := (hr0 G e.symm).1; omega
  have hGg : ¬ G = g' := row_apart hat hGr (by omega)
  have hold : ∀ b, b < W'.heap.size → b ≠ G → some b ≠ rI.ownBlock → (w1.setCell ⟨G, 3, none⟩ (.slice (some ⟨g', 0, none⟩) (acc.length + 1) cap)).heap[b]? = W'.heap[b]? := by
    intro b hb h1 h2
    rw [Below.heap_setCell _ _ _ _ h1, hgrow.block b (by omega) h2, hal.block b hb (by simp)]
  have hsz3 : (w1.setCell ⟨G, 3, none⟩ (.slice (some ⟨g', 0, none⟩) (acc.length + 1) cap)).heap.size = w1.heap.size := by simp [World.setCell]
  have hlow : ∀ b, b < G + 1 → some b ≠ rI.ownBlock := fun b hb e => by have := (hr0 _ e.symm).1; omega
  have hkeep : ∀ b, G + 1 ≤ b → b < W'.heap.size → some b ≠ rI.ownBlock → Out (G + 1) [(Value.slice (some ⟨g', 0, none⟩) (acc.length + 1) cap).ownBlock] (w1.setCell ⟨G, 3, none⟩ (.slice (some ⟨g', 0, none⟩) (acc.length + 1) cap)) b ∧ ∀ o, (w1.setCell ⟨G, 3, none⟩ (.slice (some ⟨g', 0, none⟩) (acc.length + 1) cap)).cell? ⟨b, o, none⟩ = W'.cell? ⟨b, o, none⟩ := by
    intro b h1 h2 h3
    refine ⟨⟨h1, by rw [hsz3]; omega, fun f hf => ?_⟩, fun o => World.cell?_of_block (hold b h2 (by omega) h3)⟩
    rw [List.mem_singleton.1 hf]
    have := row_apart hat h3 (show b < W2.heap.size by omega)
    simpa [Value.ownBlock] using this
  have hfr : ∀ b, Fresh W W' b → G + 1 ≤ b ∧ b < W'.heap.size ∧ some b ≠ rI.ownBlock := fun b hb => ⟨by have := hb.1; omega, hb.2, fun e => by have := (hr0 b e.symm).2; have := hb.1; omega⟩
  have hR1 := e6.keep (P' := Out (G + 1) [(Value.slice (some ⟨g', 0, none⟩) (acc.length + 1) cap).ownBlock] (w1.setCell ⟨G, 3, none⟩ (.slice (some ⟨g', 0, none⟩) (acc.length + 1) cap))) (w' := w1.setCell ⟨G, 3, none⟩ (.slice (some ⟨g', 0, none⟩) (acc.length + 1) cap))
    (fun b o hb => (hkeep b hb.1 hb.2.1 (hb.2.2 _ (List.mem_singleton.2 rfl))).2 o) (fun b hb => (hkeep b hb.1 hb.2.1 (hb.2.2 _ (List.mem_singleton.2 rfl))).1)
  have hL' := LiesIn.keep (P' := Out (G + 1) [(Value.slice (some ⟨g', 0, none⟩) (acc.length + 1) cap).ownBlock] (w1.setCell ⟨G, 3, none⟩ (.slice (some ⟨g', 0, none⟩) (acc.length + 1) cap))) (w' := w1.setCell ⟨G, 3, none⟩ (.slice (some ⟨g', 0, none⟩) (acc.length + 1) cap))
    (fun b o hb => (hkeep b (hfr b hb).1 (hfr b hb).2.1 (hfr b hb).2.2).2 o) (fun b hb => (hkeep b (hfr b hb).1 (hfr b hb).2.1 (hfr b hb).2.2).1) x hx
  have hsw := e1.1.size
  refine ⟨⟨⟨?_, ?_, ?_, by rw [hsz3]; omega, fun b hb hne => ?_⟩, ?_⟩, e2, ?_, ?_, ?_, ?_⟩
  · exact (show (w1.setCell ⟨G, 3, none⟩ (.slice (some ⟨g', 0, none⟩) (acc.length + 1) cap)).os = w1.os by simp [World.setCell]).trans (hgrow.os.trans (hal.os.trans e1.1.os))
  · exact (show (w1.setCell ⟨G, 3, none⟩ (.slice (some ⟨g', 0, none⟩) (acc.length + 1) cap)).tape = w1.tape by simp [World.setCell]).trans (hgrow.tape.trans (hal.tape.trans e1.1.tape))
  · exact (show (w1.setCell ⟨G, 3, none⟩ (.slice (some ⟨g', 0, none⟩) (acc.length + 1) cap)).output = w1.output by simp [World.setCell]).trans (hgrow.output.trans (hal.output.trans e1.1.output))
  · rw [hold b (by omega) (by omega) (hlow b (by omega))]
    exact e1.1.block b hb hne
  · exact (hold g (by omega) (by omega) (hlow g (by omega))).trans e1.2
  · exact (hold _ (by omega) (by omega) (hlow _ (by omega))).trans e3
  · have h5 : BlockIs w1 G 38 #[.int .i64 4, .int .i64 0, .string ⟨#[]⟩, rI, .slice none 0 0] := (e4.grown hal (by simp)).grown hgrow hGr
    simpa using h5.set_ 3 (.slice (some ⟨g', 0, none⟩) (acc.length + 1) cap)
  · have := own_set_far hown ⟨G, 3, none⟩ (.slice (some ⟨g', 0, none⟩) (acc.length + 1) cap) (by simpa [Value.ownBlock] using hGg)
    rw [List.length_append, List.flatten_append]; simpa [fieldsL] using this
  · exact RowsIn.append (ys := [x]) (dss := [fieldsL x A c K q]) ⟨⟨A, c, K, q, rfl, hL'⟩, trivial⟩ hR1
theorem LS.done (h : LS w G g s bl k bd acc rI css W) (hg : g < w.heap.size) : ∃ A c, rI = .slice A acc.length c ∧ ∀ u0 u1 u2 u3 u4, LiesIn (Fresh w (put5 W w.heap.size 0 u0 u1 u2 u3 u4)) (put5 W w.heap.size 0 u0 u1 u2 u3 u4) (V.mk 4 0 ⟨#[]⟩ acc []) A c none 0 ∧ RWent g s k bl bd w (put5 W w.heap.size 0 u0 u1 u2 u3 u4) := by
  obtain ⟨h1, h2, h3, h4, h5, h6⟩ := h
  have hr : RowsIn (fun b => G + 1 ≤ b ∧ b < W.heap.size) W acc css := h6.keep (fun _ _ _ => rfl) (fun b hb => ⟨hb.1, hb.2.1⟩)
  obtain ⟨A, c, rfl, hc1, hc2, hA⟩ := rows_lie hr h5 (fun b hb => World.ownsRow.lt h5 b hb)
  have hL : LiesIn (fun b => G + 1 ≤ b ∧ b < W.heap.size) W (V.mk 4 0 ⟨#[]⟩ acc []) A c none 0 := by
    rw [LiesIn]
    exact ⟨by decide, hc1, hc2, ⟨Nat.le_refl _, by simp [maxLen], .inl rfl⟩, hA⟩
  refine ⟨A, c, rfl, fun u0 u1 u2 u3 u4 => ⟨?_, ?_⟩⟩
  · have hs := put5_size W w.heap.size 0 u0 u1 u2 u3 u4
    exact LiesIn.keep (fun b o hb => World.cell?_of_block (put5_heap W w.heap.size 0 u0 u1 u2 u3 u4 (by have := hb.1; show b ≠ w.heap.size; omega))) (fun b hb => ⟨by have := hb.1; omega, by rw [hs]; exact hb.2⟩) _ hL
  · exact ((((h1.set hg _ _ (by simp)).set hg _ _ (by simp)).set hg _ _ (by simp)).set hg _ _ (by simp)).set hg _ _ (by simp)
end
open Go.RowKit
def leftOf (g : Nat) (n : Nat) (w : World) : Nat := match w.cell? ⟨g, 3, none⟩ with | some (.bool true) => 0 | _ => n + 1 - posOf g w
theorem RAt.left {w : World} {g : Nat} {s : ByteArray} {k : Nat} {bl bd : Bool} (h : RAt w g s k bl bd) : leftOf g s.size w = if bd = true then 0 else s.size + 1 - k := by
  have h3 := h.cells.1.2.2.2
  unfold leftOf
  rw [h3, h.pos]
  cases bd <;> rfl
def LrAt (w : World) (G g : Nat) (s : ByteArray) (bl : Bool) (f : List UInt8 → Option (V × List UInt8)) (R : Option (List V × List UInt8)) (W : World) : Prop :=
  ∃ k bd acc rI css, k ≤ s.size ∧ LS w G g s bl k bd acc rI css W ∧ (bd = false → acc.length ≤ k ∧ ∃ F, itemsR f bl F acc (sfx s k) = R ∧ (sfx s k).length < F) ∧ (bd = true → R = none)
section
variable {f : List UInt8 → Option (V × List UInt8)} {bl : Bool} {F : Nat} {acc : List V} {l : List UInt8} {R : Option (List V × List UInt8)} {x : V} {r : List UInt8}
theorem lr_none (h : itemsR f bl F acc l = R) (hF : l.length < F) (hf : f l = none) : R = none := by
  cases F with
  | zero => omega
  | succ F => rw [itemsR, hf] at h; exact h.symm
theorem lr_end (h : itemsR f bl F acc l = R) (hF : l.length < F) (hf : f l = some (x, r)) (ht : takesP 93 (skipB bl r) = true) : R = some (acc ++ [x], tailP 93 (skipB bl r)) := by
  cases F with
  | zero => omega
  | succ F => rw [itemsR, hf] at h; simp only [ht, if_true] at h; exact h.symm
theorem lr_more (h : itemsR f bl F acc l = R) (hF : l.length < F) (hf : f l = some (x, r)) (hr : r.length < l.length) (ht : takesP 93 (skipB bl r) = false) (ht2 : takesP 44 (skipB bl r) = true) : ∃ F', itemsR f bl F' (acc ++ [x]) (tailP 44 (skipB bl r)) = R ∧ (tailP 44 (skipB bl r)).length < F' := by
  cases F with
  | zero => omega
  | succ F =>
    rw [itemsR, hf] at h
    simp only [ht, ht2, if_true, Bool.false_eq_true, if_false] at h
    refine ⟨F, h, ?_⟩
    have h1 := skipB_len bl r
    have h2 : (tailP 44 (skipB bl r)).length ≤ (skipB bl r).length := by
      cases skipB bl r with
      | nil => simp [tailP]
      | cons a t => simp only [tailP]; split <;> simp
    omega
theorem lr_bad (h : itemsR f bl F acc l = R) (hF : l.length < F) (hf : f l = some (x, r)) (ht : takesP 93 (skipB bl r) = false) (ht2 : takesP 44 (skipB bl r) = false) : R = none := by
  cases F with
  | zero => omega
  | succ F => rw [itemsR, hf] at h; simp only [ht, ht2, Bool.false_eq_true, if_false] at h; exact h.symm
end
set_option maxRecDepth 100000 in
set_option maxHeartbeats 16000000 in
theorem list_walkR (g : Nat) (s : ByteArray) (hs : s.size ≤ 1000000) (bl bd0 : Bool) (L : Nat) (hL6 : L ≤ 6) (f : List UInt8 → Option (V × List UInt8)) (heat : Eats f)
    (hval : ∀ (k : Nat) (W : World), RAt W g s k bl false → k ≤ s.size → Calls Tryz.prog 96 #[.pointer (some ⟨g, 0, none⟩), .int .i64 L] W (RPost g s bl false W (f (sfx s k))))
    (k : Nat) (w : World) (h : RAt w g s k bl bd0) (hk : k ≤ s.size) :
    Calls Tryz.prog 127 #[.pointer (some ⟨g, 0, none⟩), .int .i64 ((L : Int) + 1)] w (RPost g s bl false w (if bd0 = true then none else listR f bl (sfx s k))) := by
  have hg := h.lt
  obtain ⟨iv0, hiv, hzv0, hzv1, hzv2⟩ := info_parts (P := Tryz.prog) (e := 38) (z := .agg zeroF) (size := 5) (bytes := 80) (by kernel_rfl)
  have HV := Lib.hid hval
  have HE := Lib.hid heat
  have HP := Lib.hid h
  obtain ⟨RR, hRR⟩ : ∃ RR, RR = if bd0 = true then none else listR f bl (sfx s k) := ⟨_, rfl⟩
  rw [← hRR]
  have HRR := Lib.hid hRR
  clear hval heat h hRR
  go_enter Tryz.func127, Tryz.ntmps127
  go_wp2_with fail
  refine (refList_any none 0 0 _).mono ?_
  rintro e w2 ⟨rfl, h2⟩
  have hz2 : w.heap.size + 1 ≤ w2.heap.size := by have := h2.size; simpa using this
  obtain ⟨W0, hW0⟩ : ∃ W0, W0 = w2.alloc (.cells #[.int .i64 4, .int .i64 0, .string ⟨#[]⟩, .slice none 0 0, .slice none 0 0] 38) := ⟨_, rfl⟩
  have HL0 := Lib.hid (show LS w w2.heap.size g s bl k bd0 [] (.slice none 0 0) [] W0 by
    rw [hW0]
    exact ⟨(((RWent.refl HP.out).alloc _).below h2).alloc _, hz2, ((BlockIs.new w _ _).below h2 (by simp)).alloc _, BlockIs.new w2 _ _, World.ownsRow_nil _ _ _ _, trivial⟩)
  clear h2 HP
  go_wp2_with fail
  rw [← hW0]
  refine (next_sign g s k bl bd0 93 93 rfl W0 HL0.out.went.2 hk hs).mono ?_
  rintro e w4 ⟨rfl, k1, hk1, hsk1, hW⟩
  have HL1 := Lib.hid (HL0.out.step hg hW)
  have HS1 := Lib.hid hsk1
  clear hW hsk1 HL0 hW0 W0
  cases ht : takesP 93 (skipB bl (sfx s k))
  · obtain ⟨R, hR⟩ : ∃ R, R = if bd0 = true then none else itemsR f bl ((sfx s k).length + 1) [] (skipB bl (sfx s k)) := ⟨_, rfl⟩
    have HR := Lib.hid (show RR = R.map fun q => (V.mk 4 0 ⟨#[]⟩ q.1 [], q.2) by
      rw [HRR.out, hR]
      cases bd0
      · simp only [Bool.false_eq_true, if_false]
        rw [listR, if_neg (by rw [ht]; simp)]
      · rfl)
    have H0 := Lib.hid (show LrAt w w2.heap.size g s bl f R w4 from ⟨k1, bd0, [], _, _, hk1, HL1.out, fun e => ⟨Nat.zero_le _, (sfx s k).length + 1, by rw [HS1.out, tailP_not ht, hR, e]; simp, by rw [HS1.out, tailP_not ht]; have := skipB_len bl (sfx s k); omega⟩, fun e => by rw [hR, e]; rfl⟩)
    clear HL1 HS1 ht hR
    go_wp2_with fail
    go_loopw [] (fun wr => Hid (LrAt w w2.heap.size g s bl f R wr)) (fun wr => leftOf g s.size wr)
    case atStart => exact H0
    case round =>
      clear H0
      obtain ⟨j, bd, acc, rI, css, hj, hLS, hgood, hbad⟩ := hrel.out
      have HLS := Lib.hid hLS
      have HG := Lib.hid hgood
      have HBD := Lib.hid hbad
      clear hLS hgood hbad hrel
      obtain ⟨⟨c0, c1, c2, c3⟩, f1, f3⟩ := HLS.out.went.2.cells
      have hM := Lib.hid HLS.out.went.2.left
      cases bd
      · obtain ⟨hacc, F, hF, hFl⟩ := HG.out rfl
        have HF0 := Lib.hid (And.intro hF hFl)
        clear HBD HG hF hFl
        have hal : acc.length ≤ 1000000 := by omega
        go_wp2_with fail
        refine (HV.out j wr HLS.out.went.2 hj).mono ?_
        intro e w5 hp
        obtain ⟨x, A, c, K, q, k2, bd2, rfl, hx, hk2, hW, hor⟩ : ∃ x A c K q k2 bd2, e = .returned (cellsOf x A c K q) ∧ LiesIn (Fresh wr w5) w5 x A c K q ∧ k2 ≤ s.size ∧ RWent g s k2 bl bd2 wr w5 ∧ ((bd2 = true ∧ f (sfx s j) = none) ∨ (bd2 = false ∧ f (sfx s j) = some (x, sfx s k2))) := by
          rcases hst : f (sfx s j) with _ | ⟨x, r⟩
          · rw [hst] at hp
            obtain ⟨x, A, c, K, q, he, hx, k2, hk2, hW⟩ := hp
            exact ⟨x, A, c, K, q, k2, true, he, hx, hk2, hW, .inl ⟨rfl, rfl⟩⟩
          · rw [hst] at hp
            obtain ⟨A, c, K, q, he, hx, k2, hk2, hr, hW⟩ := hp
            exact ⟨x, A, c, K, q, k2, false, he, hx, hk2, hW, .inr ⟨rfl, by rw [hr]⟩⟩
        have HX := Lib.hid hx
        have HW := Lib.hid hW
        have HOR := Lib.hid hor
        obtain ⟨RA, rc, rfl⟩ := own_form HLS.out.items
        have HL2 := Lib.hid (HLS.out.step hg HW.out)
        have g3 : w5.cell? ⟨w2.heap.size, 3, none⟩ = some (.slice RA acc.length rc) := HL2.out.bG.cell 3
        have gf : w5.frozen? ⟨w2.heap.size, 3, none⟩ = false := HL2.out.bG.frozen 3
        have gl : w2.heap.size < w5.heap.size := HL2.out.bG.lt
        clear hx hW hor hp c0 c1 c2 c3 f1 f3
        unfold cellsOf
        go_upto_region 6 with (fail)
        obtain ⟨W6, hW6⟩ : ∃ W6, W6 = w5.alloc (.cells #[.int .i64 x.kind, .int .i64 x.int, .string x.text, .slice A x.items.length c, .slice K x.keys.length q] 38) := ⟨_, rfl⟩
        have hal6 : w5.grownBy W6 none := by rw [hW6]; exact World.grownBy_alloc _ _ _
        obtain ⟨y0, y1, y2, y3, y4⟩ := five_cells (show BlockIs W6 w5.heap.size 38 #[.int .i64 x.kind, .int .i64 x.int, .string x.text, .slice A x.items.length c, .slice K x.keys.length q] by rw [hW6]; exact BlockIs.new _ _ _)
        have HB6 := Lib.hid (HL2.out.bG.grown hal6 (by simp))
        have HO6 := Lib.hid (show W6.ownsRow (w2.heap.size + 1) 38 5 (.slice RA acc.length rc) acc.length css.flatten by rw [hW6]; exact World.ownsRow.alloc HL2.out.items _)
        have g3 : W6.cell? ⟨w2.heap.size, 3, none⟩ = some (.slice RA acc.length rc) := HB6.out.cell 3
        have gf : W6.frozen? ⟨w2.heap.size, 3, none⟩ = false := HB6.out.frozen 3
        have gl : w2.heap.size < W6.heap.size := HB6.out.lt
        rw [← hW6]
        clear hW6
        have HAL := Lib.hid hal6
        clear hal6
        go_wp2_with (at_builtin; refine wpList_append_lies _ rfl _ _ 35 rfl (w2.heap.size + 1) 38 iv0 (.agg zeroF) 5 80 Tryz.underlying35 hiv hzv0 hzv1 hzv2 rfl (by decide) _ _ _ rfl (World.ownsRow.alloc HO6.out _) _ 1 1 (fieldsL x A c K q) rfl rfl ?n1 ?n2 ?n3 ?n4 ?n5 ?n6 _ rfl ?_)
        case n1 =>
          intro i u hj
          match i, hj with
          | 0, hj => simp [fieldsL] at hj; subst hj; simp [Addr.add]
          | 1, hj => simp [fieldsL] at hj; subst hj; simp [Addr.add]
          | 2, hj => simp [fieldsL] at hj; subst hj; simp [Addr.add]
          | 3, hj => simp [fieldsL] at hj; subst hj; simp [Addr.add]
          | 4, hj => simp [fieldsL] at hj; subst hj; simp [Addr.add]
          | i + 5, hj => simp [fieldsL] at hj
        case n2 => intro u hu; simp [fieldsL] at hu; rcases hu with rfl | rfl | rfl | rfl | rfl <;> rfl
        case n3 => omega
        case n4 => unfold maxLen; omega
        case n5 => omega
        case n6 => simp; omega
        intro g' cap w6 hown hgrow hat _
        have hb6 := (HB6.out.alloc _).grown hgrow (own_ge HLS.out.items (by omega))
        have gc : w6.cell? ⟨w2.heap.size, 3, none⟩ = some _ := BlockIs.cell hb6 3
        have gf' : w6.frozen? ⟨w2.heap.size, 3, none⟩ = false := BlockIs.frozen hb6 3
        have gl' : w2.heap.size < w6.heap.size := BlockIs.lt hb6
        have HL3 := Lib.hid (HLS.out.item hg HW.out HX.out (grow_alloc HAL.out _) hgrow (by simpa using hat) hown)
        clear hown hgrow hat hb6 y0 y1 y2 y3 y4 g3 gf gl HB6 HO6 HAL HLS HL2 HX
        go_upto_region 7 with (fail)
        obtain ⟨W7, hW7⟩ : ∃ W7, W7 = w6.setCell ⟨w2.heap.size, 3, none⟩ (.slice (some ⟨g', 0, none⟩) (acc.length + 1) cap) := ⟨_, rfl⟩
        rw [← hW7] at HL3 ⊢
        clear hW7 gc gf' gl'
        go_wp2_with fail
        refine (next_sign g s k2 bl bd2 93 93 rfl W7 HL3.out.went.2 hk2 hs).mono ?_
        rintro e w8 ⟨rfl, k3, hk3, hsk3, hW3⟩
        have HL4 := Lib.hid (HL3.out.step hg hW3)
        have HS3 := Lib.hid hsk3
        clear HL3 hW3 hsk3 HW
        cases ht : takesP 93 (skipB bl (sfx s k2))
        · have HT := Lib.hid ht
          have HSK := Lib.hid (show skipB bl (sfx s k3) = skipB bl (sfx s k2) by rw [HS3.out, tailP_not ht, skipB_skip])
          clear ht
          go_wp2_with fail
          refine (next_sign g s k3 bl bd2 44 44 rfl w8 HL4.out.went.2 hk3 hs).mono ?_
          rintro e w9 ⟨rfl, k4, hk4, hsk4, hW4⟩
          have HL5 := Lib.hid (HL4.out.step hg hW4)
          have HS4 := Lib.hid hsk4
          clear HL4 hW4 hsk4
          cases ht2 : takesP 44 (skipB bl (sfx s k3))
          · have HRN := Lib.hid (show R = none by
              rcases HOR.out with ⟨_, hn⟩ | ⟨_, hn⟩
              · exact lr_none HF0.out.1 HF0.out.2 hn
              · exact lr_bad HF0.out.1 HF0.out.2 hn HT.out (by rw [← HSK.out]; exact ht2))
            have HL6 := Lib.hid (HL5.out.step hg (RWent.refl HL5.out.went.2).wrong)
            obtain ⟨⟨c0, c1, c2, c3⟩, f1, f3⟩ := HL5.out.went.2.cells
            have gz : g < w9.heap.size := HL5.out.went.2.lt
            clear HL5 ht2
            go_wp2_with fail
            go_roundw
            case rel => exact Lib.hid ⟨k4, true, acc ++ [x], _, _, hk4, HL6.out, fun e => (by cases e), fun _ => HRN.out⟩
            case measure => rw [HL6.out.went.2.left, hM.out]; simp; omega
          · have HT2 := Lib.hid (show takesP 44 (skipB bl (sfx s k2)) = true by rw [← HSK.out]; exact ht2)
            clear ht2
            have HN := Lib.hid (show LrAt w w2.heap.size g s bl f R w9 ∧ leftOf g s.size w9 < leftOf g s.size wr by
              rw [hM.out, HL5.out.went.2.left]
              rcases HOR.out with ⟨rfl, hn⟩ | ⟨rfl, hn⟩
              · exact ⟨⟨k4, true, acc ++ [x], _, _, hk4, HL5.out, fun e => (by cases e), fun _ => lr_none HF0.out.1 HF0.out.2 hn⟩, by simp; omega⟩
              · have h1 := HE.out _ _ _ hn
                obtain ⟨F', h2, h3⟩ := lr_more HF0.out.1 HF0.out.2 hn h1 HT.out HT2.out
                have h4 : (sfx s k4).length ≤ (sfx s k2).length := by
                  rw [HS4.out, HSK.out]
                  have := skipB_len bl (sfx s k2)
                  have h5 : (tailP 44 (skipB bl (sfx s k2))).length ≤ (skipB bl (sfx s k2)).length := by
                    cases skipB bl (sfx s k2) with
                    | nil => simp [tailP]
                    | cons a t => simp only [tailP]; split <;> simp
                  omega
                rw [sfx_length, sfx_length] at h1 h4
                exact ⟨⟨k4, false, acc ++ [x], _, _, hk4, HL5.out, fun _ => ⟨by simp; omega, F', by rw [HS4.out, HSK.out]; exact h2, by rw [HS4.out, HSK.out]; exact h3⟩, fun e => by cases e⟩, by simp; omega⟩)
            clear HL5
            go_wp2_with fail
            go_roundw
            case rel => exact Lib.hid HN.out.1
            case measure => exact HN.out.2
        · have HT := Lib.hid ht
          clear ht
          obtain ⟨o0, o1, o2, o3, o4⟩ := five_cells HL4.out.bG
          obtain ⟨z0, z1, z2, z3, z4⟩ := five_cells (show BlockIs w8 w.heap.size 38 #[.int .i64 0, .int .i64 0, .string ⟨#[]⟩, .slice none 0 0, .slice none 0 0] from HL4.out.b0)
          have x0 := HL4.out.b0.frozen 0
          have x1 := HL4.out.b0.frozen 1
          have x2 := HL4.out.b0.frozen 2
          have x3 := HL4.out.b0.frozen 3
          have x4 := HL4.out.b0.frozen 4
          obtain ⟨A9, c9, e1, hF⟩ := HL4.out.done hg
          rw [e1] at o3
          have HF := Lib.hid hF
          clear HL4 e1 hF
          go_wp2_with fail
          refine bodyPost_ret (v := cellsOf (V.mk 4 0 ⟨#[]⟩ (acc ++ [x]) []) A9 c9 none 0) (by simp [results, Tryz.results127, go_sem, cellsOf, V.kind, V.int, V.text, V.items, V.keys, z0, z1, z2, z3, z4]) rfl ?_
          rw [HR.out]
          rcases HOR.out with ⟨rfl, hn⟩ | ⟨rfl, hn⟩
          · rw [lr_none HF0.out.1 HF0.out.2 hn]
            exact ⟨_, _, _, _, _, rfl, (HF.out _ _ _ _ _).1, k3, hk3, (HF.out _ _ _ _ _).2⟩
          · rw [lr_end HF0.out.1 HF0.out.2 hn HT.out]
            exact ⟨A9, c9, none, 0, rfl, (HF.out _ _ _ _ _).1, k3, hk3, HS3.out, (HF.out _ _ _ _ _).2⟩
      · have HRN := Lib.hid (HBD.out rfl)
        clear HG HBD
        obtain ⟨o0, o1, o2, o3, o4⟩ := five_cells HLS.out.bG
        obtain ⟨z0, z1, z2, z3, z4⟩ := five_cells (show BlockIs wr w.heap.size 38 #[.int .i64 0, .int .i64 0, .string ⟨#[]⟩, .slice none 0 0, .slice none 0 0] from HLS.out.b0)
        have x0 := HLS.out.b0.frozen 0
        have x1 := HLS.out.b0.frozen 1
        have x2 := HLS.out.b0.frozen 2
        have x3 := HLS.out.b0.frozen 3
        have x4 := HLS.out.b0.frozen 4
        obtain ⟨A9, c9, e1, hF⟩ := HLS.out.done hg
        rw [e1] at o3
        have HF := Lib.hid hF
        clear HLS e1 hF
        go_wp2_with fail
        refine bodyPost_ret (v := cellsOf (V.mk 4 0 ⟨#[]⟩ acc []) A9 c9 none 0) (by simp [results, Tryz.results127, go_sem, cellsOf, V.kind, V.int, V.text, V.items, V.keys, z0, z1, z2, z3, z4]) rfl ?_
        rw [HR.out, HRN.out]
        exact ⟨_, _, _, _, _, rfl, (HF.out _ _ _ _ _).1, j, hj, (HF.out _ _ _ _ _).2⟩
  · obtain ⟨o0, o1, o2, o3, o4⟩ := five_cells HL1.out.bG
    obtain ⟨z0, z1, z2, z3, z4⟩ := five_cells (show BlockIs w4 w.heap.size 38 #[.int .i64 0, .int .i64 0, .string ⟨#[]⟩, .slice none 0 0, .slice none 0 0] from HL1.out.b0)
    have x0 := HL1.out.b0.frozen 0
    have x1 := HL1.out.b0.frozen 1
    have x2 := HL1.out.b0.frozen 2
    have x3 := HL1.out.b0.frozen 3
    have x4 := HL1.out.b0.frozen 4
    obtain ⟨A9, c9, e1, hF⟩ := HL1.out.done hg
    rw [e1] at o3
    have HF := Lib.hid hF
    clear HL1 e1 hF
    go_wp2_with fail
    refine bodyPost_ret (v := cellsOf (V.mk 4 0 ⟨#[]⟩ [] []) A9 c9 none 0) (by simp [results, Tryz.results127, go_sem, cellsOf, V.kind, V.int, V.text, V.items, V.keys, z0, z1, z2, z3, z4]) rfl ?_
    rw [HRR.out]
    cases bd0
    · simp only [Bool.false_eq_true, if_false]
      rw [listR, if_pos ht]
      exact ⟨A9, c9, none, 0, rfl, (HF.out _ _ _ _ _).1, k1, hk1, HS1.out, (HF.out _ _ _ _ _).2⟩
    · exact ⟨_, A9, c9, none, 0, rfl, (HF.out _ _ _ _ _).1, k1, hk1, (HF.out _ _ _ _ _).2⟩
open Go.RowKit
structure OS (w : World) (G g : Nat) (s : ByteArray) (bl : Bool) (k : Nat) (bd : Bool) (st : List ByteArray × List V) (A : Option Addr) (c : Nat) (K : Option Addr) (d : Nat) (W : World) : Prop where
  went : RWent g s k bl bd w W
  far : w.heap.size + 1 ≤ G
  b0 : BlockIs W w.heap.size 38 zeroF
  bG : BlockIs W G 38 #[.int .i64 5, .int .i64 0, .string ⟨#[]⟩, .slice A st.2.length c, .slice K st.1.length d]
  lies : LiesIn (fun b => G + 1 ≤ b ∧ b < W.heap.size) W (V.mk 5 0 ⟨#[]⟩ st.2 st.1) A c K d
section
variable {w W W' W2 : World} {G g k k' : Nat} {s : ByteArray} {bl bd bd' : Bool} {st st' : List ByteArray × List V} {A A' K K' : Option Addr} {c d c' d' : Nat}
theorem OS.step (h : OS w G g s bl k bd st A c K d W) (hg : g < w.heap.size) (hw : RWent g s k' bl bd' W W') : OS w G g s bl k' bd' st A c K d W' := by
  obtain ⟨h1, h2, h3, h4, h5⟩ := h
  have hs := hw.1.size
  exact ⟨h1.trans hw, h2, h3.grown hw.1 (by simp; omega), h4.grown hw.1 (by simp; omega), LiesIn.keep (fun b o hb => hw.1.cell_far ⟨b, o, none⟩ hb.2 (by have := hb.1; simp; omega)) (fun b hb => ⟨hb.1, by have := hb.2; omega⟩) _ h5⟩
theorem OS.entry (h : OS w G g s bl k bd st A c K d W) (hg : g < w.heap.size) (hB : Below W.heap.size W W2) (hl : LiesIn (fun b => (G + 1 ≤ b ∧ b < W.heap.size) ∨ Fresh W W2 b) W2 (V.mk 5 0 ⟨#[]⟩ st'.2 st'.1) A' c' K' d') :
    OS w G g s bl k bd st' A' c' K' d' (put5 W2 G 0 (.int .i64 5) (.int .i64 0) (.string ⟨#[]⟩) (.slice A' st'.2.length c') (.slice K' st'.1.length d')) := by
  obtain ⟨h1, h2, h3, h4, h5⟩ := h
  have hG := h4.lt
  have hs := hB.size
  have hs5 := put5_size W2 G 0 (.int .i64 5) (.int .i64 0) (.string ⟨#[]⟩) (.slice A' st'.2.length c') (.slice K' st'.1.length d')
  have h4' : BlockIs W2 G 38 #[.int .i64 5, .int .i64 0, .string ⟨#[]⟩, .slice A st.2.length c, .slice K st.1.length d] := h4.below hB hG
  have hw := h1.1.size
  refine ⟨((((((h1.below hB).set hg _ _ (by simp; omega)).set hg _ _ (by simp; omega)).set hg _ _ (by simp; omega)).set hg _ _ (by simp; omega)).set hg _ _ (by simp; omega)), h2, ?_, ?_, ?_⟩
  · exact (put5_heap W2 G 0 _ _ _ _ _ (by omega)).trans (h3.below hB (by omega))
  · have := ((((h4'.set_ 0 (.int .i64 5)).set_ 1 (.int .i64 0)).set_ 2 (.string ⟨#[]⟩)).set_ 3 (.slice A' st'.2.length c')).set_ 4 (.slice K' st'.1.length d')
    simpa [put5] using this
  · have hb2 : ∀ b, ((G + 1 ≤ b ∧ b < W.heap.size) ∨ Fresh W W2 b) → G + 1 ≤ b ∧ b < W2.heap.size := by
      rintro b (hb | hb)
      · exact ⟨hb.1, by have := hb.2; omega⟩
      · exact ⟨by have := hb.1; omega, hb.2⟩
    exact LiesIn.keep (fun b o hb => World.cell?_of_block (put5_heap W2 G 0 _ _ _ _ _ (by have := (hb2 b hb).1; show b ≠ G; omega))) (fun b hb => ⟨(hb2 b hb).1, by rw [hs5]; exact (hb2 b hb).2⟩) _ hl
theorem OS.done (h : OS w G g s bl k bd st A c K d W) (hg : g < w.heap.size) : ∀ u0 u1 u2 u3 u4, LiesIn (Fresh w (put5 W w.heap.size 0 u0 u1 u2 u3 u4)) (put5 W w.heap.size 0 u0 u1 u2 u3 u4) (V.mk 5 0 ⟨#[]⟩ st.2 st.1) A c K d ∧ RWent g s k bl bd w (put5 W w.heap.size 0 u0 u1 u2 u3 u4) := by
  obtain ⟨h1, h2, h3, h4, h5⟩ := h
  refine fun u0 u1 u2 u3 u4 => ⟨?_, ?_⟩
  · have hs := put5_size W w.heap.size 0 u0 u1 u2 u3 u4
    exact LiesIn.keep (fun b o hb => World.cell?_of_block (put5_heap W w.heap.size 0 u0 u1 u2 u3 u4 (by have := hb.1; show b ≠ w.heap.size; omega))) (fun b hb => ⟨by have := hb.1; omega, by rw [hs]; exact hb.2⟩) _ h5
  · exact ((((h1.set hg _ _ (by simp)).set hg _ _ (by simp)).set hg _ _ (by simp)).set hg _ _ (by simp)).set hg _ _ (by simp)
end
section
variable {f : List UInt8 → Option (V × List UInt8)} {bl : Bool} {F : Nat} {st : List ByteArray × List V} {l l1 l2 t : List UInt8} {R : Option ((List ByteArray × List V) × List UInt8)} {x : V}
theorem er_quote (h : entriesR f bl F st l = R) (hF : l.length < F) (h1 : takesP 34 (skipB bl l) = false) : R = none := by
  cases F with
  | zero => omega
  | succ F => rw [entriesR, if_neg (by rw [h1]; simp)] at h; exact h.symm
theorem er_text (h : entriesR f bl F st l = R) (hF : l.length < F) (h1 : takesP 34 (skipB bl l) = true) (h2 : strR (tailP 34 (skipB bl l)) [] = none) : R = none := by
  cases F with
  | zero => omega
  | succ F => rw [entriesR, if_pos h1, h2] at h; exact h.symm
theorem er_colon (h : entriesR f bl F st l = R) (hF : l.length < F) (h1 : takesP 34 (skipB bl l) = true) (h2 : strR (tailP 34 (skipB bl l)) [] = some (t, l1)) (h3 : takesP 58 (skipB bl l1) = false) : R = none := by
  cases F with
  | zero => omega
  | succ F => rw [entriesR, if_pos h1, h2] at h; simp only [h3, Bool.false_eq_true, if_false] at h; exact h.symm
theorem er_value (h : entriesR f bl F st l = R) (hF : l.length < F) (h1 : takesP 34 (skipB bl l) = true) (h2 : strR (tailP 34 (skipB bl l)) [] = some (t, l1)) (h3 : takesP 58 (skipB bl l1) = true) (h4 : f (tailP 58 (skipB bl l1)) = none) : R = none := by
  cases F with
  | zero => omega
  | succ F => rw [entriesR, if_pos h1, h2] at h; simp only [h3, if_true, h4] at h; exact h.symm
theorem er_twice (h : entriesR f bl F st l = R) (hF : l.length < F) (h1 : takesP 34 (skipB bl l) = true) (h2 : strR (tailP 34 (skipB bl l)) [] = some (t, l1)) (h3 : takesP 58 (skipB bl l1) = true) (h4 : f (tailP 58 (skipB bl l1)) = some (x, l2)) (h5 : hasK ⟨t.toArray⟩ st.1 = true) : R = none := by
  cases F with
  | zero => omega
  | succ F => rw [entriesR, if_pos h1, h2] at h; simp only [h3, if_true, h4, h5] at h; exact h.symm
theorem er_end (h : entriesR f bl F st l = R) (hF : l.length < F) (h1 : takesP 34 (skipB bl l) = true) (h2 : strR (tailP 34 (skipB bl l)) [] = some (t, l1)) (h3 : takesP 58 (skipB bl l1) = true) (h4 : f (tailP 58 (skipB bl l1)) = some (x, l2)) (h5 : hasK ⟨t.toArray⟩ st.1 = false) (h6 : takesP 125 (skipB bl l2) = true) :
    R = some (insK st ⟨t.toArray⟩ x, tailP 125 (skipB bl l2)) := by
  cases F with
  | zero => omega
  | succ F => rw [entriesR, if_pos h1, h2] at h; simp only [h3, if_true, h4, h5, Bool.false_eq_true, if_false, h6] at h; exact h.symm
theorem er_more (h : entriesR f bl F st l = R) (hF : l.length < F) (h1 : takesP 34 (skipB bl l) = true) (h2 : strR (tailP 34 (skipB bl l)) [] = some (t, l1)) (h3 : takesP 58 (skipB bl l1) = true) (h4 : f (tailP 58 (skipB bl l1)) = some (x, l2)) (h5 : hasK ⟨t.toArray⟩ st.1 = false) (h6 : takesP 125 (skipB bl l2) = false) (h7 : takesP 44 (skipB bl l2) = true) (hlen : (tailP 44 (skipB bl l2)).length < l.length) :
    ∃ F', entriesR f bl F' (insK st ⟨t.toArray⟩ x) (tailP 44 (skipB bl l2)) = R ∧ (tailP 44 (skipB bl l2)).length < F' := by
  cases F with
  | zero => omega
  | succ F => rw [entriesR, if_pos h1, h2] at h; simp only [h3, if_true, h4, h5, Bool.false_eq_true, if_false, h6, h7] at h; exact ⟨F, h, by omega⟩
theorem er_comma (h : entriesR f bl F st l = R) (hF : l.length < F) (h1 : takesP 34 (skipB bl l) = true) (h2 : strR (tailP 34 (skipB bl l)) [] = some (t, l1)) (h3 : takesP 58 (skipB bl l1) = true) (h4 : f (tailP 58 (skipB bl l1)) = some (x, l2)) (h5 : hasK ⟨t.toArray⟩ st.1 = false) (h6 : takesP 125 (skipB bl l2) = false) (h7 : takesP 44 (skipB bl l2) = false) : R = none := by
  cases F with
  | zero => omega
  | succ F => rw [entriesR, if_pos h1, h2] at h; simp only [h3, if_true, h4, h5, Bool.false_eq_true, if_false, h6, h7] at h; exact h.symm
end
open Go.RowKit
theorem strR_size : ∀ (f : Nat) {l acc t r : List UInt8}, l.length ≤ f → strR l acc = some (t, r) → t.length ≤ acc.length + l.length
  | f, [], acc, t, r, _, h => by rw [strR] at h; cases h
  | 0, c :: l, acc, t, r, hf, h => by simp at hf
  | f + 1, c :: l, acc, t, r, hf, h => by
    rw [strR_cons] at h
    simp only [List.length_cons] at hf ⊢
    split at h
    · cases h; omega
    · split at h
      · split at h
        · cases h
        · split at h
          · have := strR_size f (by simp only [List.length_cons] at hf; omega) h
            simp only [List.length_append, List.length_cons, List.length_nil] at this ⊢
            omega
          · cases h
      · have := strR_size f (by omega) h
        simp only [List.length_append, List.length_cons, List.length_nil] at this
        omega
def OrAt (w : World) (G g : Nat) (s : ByteArray) (bl : Bool) (f : List UInt8 → Option (V × List UInt8)) (R : Option ((List ByteArray × List V) × List UInt8)) (W : World) : Prop :=
  ∃ k bd st A c K d, k ≤ s.size ∧ OS w G g s bl k bd st A c K d W ∧ st.1.length = st.2.length ∧ (bd = false → st.2.length ≤ k ∧ ∃ F, entriesR f bl F st (sfx s k) = R ∧ (sfx s k).length < F) ∧ (bd = true → R = none)
theorem str_form (g : Nat) (s : ByteArray) (hs : s.size ≤ 1000000) (bl bd : Bool) (k : Nat) (w : World) (h : RAt w g s k bl bd) (hk : k ≤ s.size) :
    Calls Tryz.prog 126 #[.pointer (some ⟨g, 0, none⟩)] w fun e w' => ∃ (t : ByteArray) (k2 : Nat) (bd2 : Bool), e = .returned (.string t) ∧ t.size ≤ maxLen ∧ k2 ≤ s.size ∧ RWent g s k2 bl bd2 w w' ∧
      Hid ((bd2 = true ∧ strR (sfx s k) [] = none) ∨ (bd2 = bd ∧ ∃ T, t = ⟨T.toArray⟩ ∧ strR (sfx s k) [] = some (T, sfx s k2))) := by
  refine (str_any g s k bl bd w h hk hs).mono ?_
  intro e w' hp
  rcases hst : strR (sfx s k) [] with _ | ⟨T, l⟩
  · rw [hst] at hp
    obtain ⟨rfl, k2, hk2, hW⟩ := hp
    exact ⟨⟨#[]⟩, k2, true, rfl, by simp [ByteArray.size], hk2, hW, Lib.hid (.inl ⟨rfl, rfl⟩)⟩
  · rw [hst] at hp
    obtain ⟨rfl, k2, hk2, rfl, hW⟩ := hp
    have := strR_size _ (Nat.le_refl _) hst
    rw [sfx_length] at this
    have h1 : (⟨T.toArray⟩ : ByteArray).size = T.length := rfl
    simp only [List.length_nil] at this
    have h2 : (⟨T.toArray⟩ : ByteArray).size ≤ maxLen := by rw [h1]; unfold maxLen; omega
    exact ⟨⟨T.toArray⟩, k2, bd, rfl, h2, hk2, hW, Lib.hid (.inr ⟨rfl, T, rfl, rfl⟩)⟩
theorem value_form (g : Nat) (s : ByteArray) (bl bd : Bool) (n : Int) (f : List UInt8 → Option (V × List UInt8)) (k : Nat) (w : World)
    (h : Calls Tryz.prog 96 #[.pointer (some ⟨g, 0, none⟩), .int .i64 n] w (RPost g s bl false w (if bd = true then none else f (sfx s k)))) :
    Calls Tryz.prog 96 #[.pointer (some ⟨g, 0, none⟩), .int .i64 n] w fun e w' => ∃ x A c K q k2 bd2, e = .returned (cellsOf x A c K q) ∧ LiesIn (Fresh w w') w' x A c K q ∧ k2 ≤ s.size ∧ RWent g s k2 bl bd2 w w' ∧
      Hid ((bd2 = true ∧ (bd = true ∨ f (sfx s k) = none)) ∨ (bd2 = false ∧ bd = false ∧ f (sfx s k) = some (x, sfx s k2))) := by
  refine h.mono ?_
  intro e w' hp
  cases bd
  · simp only [Bool.false_eq_true, if_false] at hp
    rcases hst : f (sfx s k) with _ | ⟨x, r⟩
    · rw [hst] at hp
      obtain ⟨x, A, c, K, q, he, hx, k2, hk2, hW⟩ := hp
      exact ⟨x, A, c, K, q, k2, true, he, hx, hk2, hW, Lib.hid (.inl ⟨rfl, .inr rfl⟩)⟩
    · rw [hst] at hp
      obtain ⟨A, c, K, q, he, hx, k2, hk2, hr, hW⟩ := hp
      exact ⟨x, A, c, K, q, k2, false, he, hx, hk2, hW, Lib.hid (.inr ⟨rfl, rfl, by rw [hr]⟩)⟩
  · obtain ⟨x, A, c, K, q, he, hx, k2, hk2, hW⟩ := hp
    exact ⟨x, A, c, K, q, k2, true, he, hx, hk2, hW, Lib.hid (.inl ⟨rfl, .inl rfl⟩)⟩
set_option maxHeartbeats 1000000 in
theorem refStr_any (t : ByteArray) (w : World) :
    Calls Tryz.prog 125 #[.string t] w fun e w' => e = .returned (.agg #[.int .i64 3, .int .i64 0, .string t, .slice none 0 0, .slice none 0 0]) ∧ Below w.heap.size w w' := by
  go_enter Tryz.func125, Tryz.ntmps125
  go_wp2_with fail
  refine bodyPost_ret (v := .agg #[.int .i64 3, .int .i64 0, .string t, .slice none 0 0, .slice none 0 0]) (by simp [results, Tryz.results125, go_sem]) rfl ?_
  exact ⟨rfl, (Below.refl _ _).alloc (Nat.le_refl _) _⟩
set_option maxHeartbeats 1000000 in
theorem refTruth_any (b : Bool) (w : World) :
    Calls Tryz.prog 124 #[.bool b] w fun e w' => e = .returned (.agg #[.int .i64 1, .int .i64 (if b = true then 1 else 0), .string ⟨#[]⟩, .slice none 0 0, .slice none 0 0]) ∧ Below w.heap.size w w' := by
  cases b
  · go_enter Tryz.func124, Tryz.ntmps124
    go_wp2_with fail
    refine bodyPost_ret (v := .agg #[.int .i64 1, .int .i64 0, .string ⟨#[]⟩, .slice none 0 0, .slice none 0 0]) (by simp [results, Tryz.results124, go_sem]) rfl ?_
    exact ⟨rfl, (Below.refl _ _).alloc (Nat.le_refl _) _⟩
  · go_enter Tryz.func124, Tryz.ntmps124
    go_wp2_with fail
    refine bodyPost_ret (v := .agg #[.int .i64 1, .int .i64 1, .string ⟨#[]⟩, .slice none 0 0, .slice none 0 0]) (by simp [results, Tryz.results124, go_sem]) rfl ?_
    exact ⟨rfl, (Below.refl _ _).alloc (Nat.le_refl _) _⟩
open Go.RowKit
theorem LiesIn.keys_cells {P : Nat → Prop} {w : World} {kd i : Int} {t : ByteArray} {l : List V} {ks : List ByteArray} {A K : Option Addr} {c d : Nat} (h : LiesIn P w (.mk kd i t l ks) A c K d) :
    ks = [] ∨ ∃ b o, K = some ⟨b, o, none⟩ ∧ ∀ j v, ks[j]? = some v → w.cell? ⟨b, o + j, none⟩ = some (.string v) := by
  rw [LiesIn] at h
  rcases h.2.2.2.1.2.2 with h | ⟨b, o, hK, _, hf⟩
  · exact .inl h
  · exact .inr ⟨b, o, hK, fun j v hv => (hf.at_ hv).1⟩
theorem RWent.as {g k : Nat} {s : ByteArray} {bl bd b : Bool} {w w' : World} (h : RWent g s k bl bd w w') (e : bd = b) : RWent g s k bl b w w' := e ▸ h
def XIn (G : Nat) (W : World) (x : V) (A : Option Addr) (c : Nat) (K : Option Addr) (d : Nat) : Prop := LiesIn (fun b => G + 1 ≤ b ∧ b < W.heap.size) W x A c K d
theorem XIn.step {G g : Nat} {W W' : World} {x : V} {A K : Option Addr} {c d : Nat} (h : XIn G W x A c K d) (hg : g ≤ G) (hw : W.grownBy W' (some g)) : XIn G W' x A c K d :=
  LiesIn.keep (fun b o hb => hw.cell_far ⟨b, o, none⟩ hb.2 (by have := hb.1; simp; omega)) (fun b hb => ⟨hb.1, by have := hb.2; have := hw.size; omega⟩) x h
theorem XIn.new {G : Nat} {W W' : World} {x : V} {A K : Option Addr} {c d : Nat} (h : LiesIn (Fresh W W') W' x A c K d) (hg : G < W.heap.size) : XIn G W' x A c K d :=
  LiesIn.keep (fun _ _ _ => rfl) (fun b hb => ⟨by have := hb.1; omega, hb.2⟩) x h
theorem insK_len (st : List ByteArray × List V) (h : st.1.length = st.2.length) (k : ByteArray) (x : V) : (insK st k x).2.length = st.2.length + 1 := by
  have := posK_le k st.1
  simp only [insK, List.length_append, List.length_take, List.length_cons, List.length_drop]
  omega
section
variable {f : List UInt8 → Option (V × List UInt8)} {bl bd2 bd4 : Bool} {F : Nat} {st : List ByteArray × List V} {l l1 l2 l3 l4 : List UInt8} {R : Option ((List ByteArray × List V) × List UInt8)} {x : V} {t : ByteArray}
def EntryWays (f : List UInt8 → Option (V × List UInt8)) (bl bad : Bool) (st st2 : List ByteArray × List V) (l l4 : List UInt8) (R : Option ((List ByteArray × List V) × List UInt8)) : Prop :=
  (bad = true ∧ R = none) ∨ (bad = false ∧ l4.length < l.length ∧ st2.2.length = st.2.length + 1 ∧
      (takesP 125 (skipB bl l4) = true → R = some (st2, tailP 125 (skipB bl l4))) ∧
      (takesP 125 (skipB bl l4) = false → takesP 44 (skipB bl l4) = false → R = none) ∧
      (takesP 125 (skipB bl l4) = false → takesP 44 (skipB bl l4) = true → ∃ F', entriesR f bl F' st2 (tailP 44 (skipB bl l4)) = R ∧ (tailP 44 (skipB bl l4)).length < F'))
theorem entry_ways (h : entriesR f bl F st l = R) (hF : l.length < F) (h1 : takesP 34 (skipB bl l) = true) (e1 : l1 = tailP 34 (skipB bl l)) (h3 : takesP 58 (skipB bl l2) = true) (e3 : l3 = tailP 58 (skipB bl l2))
    (HT : (bd2 = true ∧ strR l1 [] = none) ∨ (bd2 = false ∧ ∃ T : List UInt8, t = ⟨T.toArray⟩ ∧ strR l1 [] = some (T, l2)))
    (HX : (bd4 = true ∧ (bd2 = true ∨ f l3 = none)) ∨ (bd4 = false ∧ bd2 = false ∧ f l3 = some (x, l4)))
    (he : Eats f) (hl : st.1.length = st.2.length) :
    EntryWays f bl (bd4 || hasK t st.1) st (withK t x false st.1 st.2) l l4 R := by
  rcases HX with ⟨rfl, hn⟩ | ⟨rfl, rfl, hn⟩
  · refine .inl ⟨rfl, ?_⟩
    rcases HT with ⟨-, ht⟩ | ⟨rfl, T, rfl, ht⟩
    · exact er_text h hF h1 (by rw [← e1]; exact ht)
    · rcases hn with hn | hn
      · cases hn
      · exact er_value h hF h1 (by rw [← e1]; exact ht) h3 (by rw [← e3]; exact hn)
  · rcases HT with ⟨e, -⟩ | ⟨-, T, rfl, ht⟩
    · cases e
    · have hx := he _ _ _ hn
      have hs := (strR_pre _ (Nat.le_refl _) ht).2
      rw [e1] at ht hs
      rw [e3] at hn hx
      cases hh : hasK ⟨T.toArray⟩ st.1
      · have hm : ¬ (⟨T.toArray⟩ : ByteArray) ∈ st.1 := fun e => by rw [(hasK_iff _ _).2 e] at hh; cases hh
        have hw : withK ⟨T.toArray⟩ x false st.1 st.2 = insK st ⟨T.toArray⟩ x := withK_ins ⟨T.toArray⟩ x st.1 st.2 hl hm
        have q1 := tailP_less h1
        have q2 := skipB_len bl l
        have q3 := tailP_len 58 (skipB bl l2)
        have q4 := skipB_len bl l2
        have q5 := tailP_len 44 (skipB bl l4)
        have q6 := skipB_len bl l4
        have hlt : l4.length < l.length := by omega
        rw [hw]
        refine .inr ⟨rfl, hlt, insK_len st hl _ _, fun h6 => er_end h hF h1 ht h3 hn hh h6, fun h6 h7 => er_comma h hF h1 ht h3 hn hh h6 h7, fun h6 h7 => er_more h hF h1 ht h3 hn hh h6 h7 (by omega)⟩
      · exact .inl ⟨rfl, er_twice h hF h1 ht h3 hn hh⟩
end
end Go.Proofs.YthlmnhelmhnpfaaGreatDoor
