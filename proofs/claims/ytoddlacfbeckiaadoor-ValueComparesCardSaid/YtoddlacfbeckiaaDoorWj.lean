/- Reading: words. -/
import Derived.Test.YtoddlacfbeckiaaDoorWi
import Derived.Test.YtoddlacfbeckiaaDoorMc
import Derived.Test.YtoddlacfbeckiaaDoorShelf
namespace Go.Proofs.YtoddlacfbeckiaaDoor
open Go.RowKit

theorem hasPrefix_le {l p : List UInt8} (h : Lib.hasPrefix l p = true) : p.length ≤ l.length := by
  unfold Lib.hasPrefix at h
  exact (List.isPrefixOf_iff_prefix.1 h).length_le

set_option maxRecDepth 100000 in
set_option maxHeartbeats 2000000 in
theorem acceptName_any (g : Nat) (s p : ByteArray) (k n : Nat) (b : Bool) (w : World) (h : PAt w g s k n) (hk : k ≤ s.size) (hs : s.size ≤ 1000000) (hp : p.size ≤ 1000000) (hb : Lib.hasPrefix (sfx s k) p.data.toList = b) :
    Calls Tryd.prog 95 #[.pointer (some ⟨g, 0, none⟩), .string p] w fun e w' =>
      e = .returned (.bool b) ∧ Went g s (if b then k + p.size else k) n w w' := by
  have H0 := Lib.hid h
  have HC := Lib.hid fun W => show Calls Tryd.prog 109 #[.string (s.extract k s.size), .string p] W fun e w' => e = .returned (.bool b) ∧ w' = W from
    (Tryd.strings_HasPrefix (s.extract k s.size) p W).mono fun e w' he => by rw [sfx_extract, hb] at he; exact he
  have c0 := h.c0
  have c1 := h.c1
  have f1 := h.fro 1
  have hz := h.lt
  have hq : (0 : Int) ≤ (k : Int) ∧ (k : Int) ≤ (s.size : Int) := by omega
  clear h hb
  cases b
  all_goals go_enter Tryd.func95, Tryd.ntmps95
  all_goals go_wp2_with fail
  all_goals go_quiet ((go_at_call 109; exact Calls.quiet_of_same (HC.out _)))
  all_goals go_wp2_with fail
  all_goals go_ret
  · exact ⟨rfl, H0.out |> Went.refl |>.drewN _⟩
  · exact ⟨rfl, ((Went.refl H0.out).drewN _).move (k + p.size)⟩

def cellsOf (x : V) (A : Option Addr) (c : Nat) (K : Option Addr) (d : Nat) : Value := .agg #[.int .i64 x.kind, .int .i64 x.int, .string x.text, .slice A x.items.length c, .slice K x.keys.length d]
/-- What a reader of values leaves. -/
def VPost (g : Nat) (s : ByteArray) (w : World) : Option (V × List UInt8 × Nat) → Ending → World → Prop
  | none, e, w' => e = .panicked boom ∧ w.grownBy w' (some g)
  | some (x, l, n), e, w' => ∃ A c K d k, e = .returned (cellsOf x A c K d) ∧ LiesIn (Fresh w w') w' x A c K d ∧ k ≤ s.size ∧ sfx s k = l ∧ Went g s k n w w'
theorem lies_leaf (P : Nat → Prop) (w : World) (k i : Int) (t : ByteArray) (ht : t.size ≤ maxLen) : LiesIn P w (leaf k i t) none 0 none 0 := by
  unfold maxLen at ht
  simp [leaf, LiesIn, StrsIn, maxLen, ht]
theorem grow_refl (w : World) (r : Option Nat) : w.grownBy w r := ⟨rfl, rfl, rfl, Nat.le_refl _, fun _ _ _ => rfl⟩
theorem Went.alloc {g : Nat} {s : ByteArray} {k n : Nat} {a b : World} (h : Went g s k n a b) (o : Obj) : Went g s k n a (b.alloc o) := ⟨grow_alloc h.1 o, Blk.alloc h.2 o⟩
theorem Went.set {g : Nat} {s : ByteArray} {k n : Nat} {a b : World} (h : Went g s k n a b) (hg : g < a.heap.size) (p : Addr) (v : Value) (hp : a.heap.size ≤ p.block) : Went g s k n a (b.setCell p v) := ⟨grow_set_new h.1 p v hp, Blk.far h.2 (by omega) v⟩

/-- Behind a reader's call, in a function with a result of its own. -/
theorem after_new {g : Nat} {s : ByteArray} {w w1 : World} (k n : Nat) (hg : g < w.heap.size) (cs : Array Value) (t : TypeId) (h : Went g s k n (w.alloc (.cells cs t)) w1) :
    Hid (Went g s k n (w.alloc (.cells cs t)) w1) ∧ (∀ i, w1.cell? ⟨w.heap.size, i, none⟩ = cs[i]?) ∧ (∀ i, w1.frozen? ⟨w.heap.size, i, none⟩ = false) ∧ w.heap.size + 1 ≤ w1.heap.size := by
  have hb := (Blk.new w t cs).grown h.1 (by simp; omega)
  exact ⟨Lib.hid h, hb.cell, hb.frozen, by simpa using h.1.size⟩
theorem Went.old {g : Nat} {s : ByteArray} {k n : Nat} {w w1 : World} {o : Obj} (h : Went g s k n (w.alloc o) w1) (hg : g < w.heap.size) : Went g s k n w w1 := ⟨grow_trans (World.grownBy_alloc w o _) h.1, h.2⟩
theorem set5 {g : Nat} {s : ByteArray} {k n : Nat} {w w1 : World} (h : Went g s k n w w1) (hg : g < w.heap.size) (a b c d e : Value) :
    Went g s k n w (((((w1.setCell ⟨w.heap.size, 0, none⟩ a).setCell ⟨w.heap.size, 1, none⟩ b).setCell ⟨w.heap.size, 2, none⟩ c).setCell ⟨w.heap.size, 3, none⟩ d).setCell ⟨w.heap.size, 4, none⟩ e) :=
  ((((h.set hg _ _ (Nat.le_refl _)).set hg _ _ (Nat.le_refl _)).set hg _ _ (Nat.le_refl _)).set hg _ _ (Nat.le_refl _)).set hg _ _ (Nat.le_refl _)

set_option maxRecDepth 100000 in
set_option maxHeartbeats 2000000 in
theorem name_any (g : Nat) (s : ByteArray) (k n : Nat) (w : World) (h : PAt w g s k n) (hk : k ≤ s.size) (hs : s.size ≤ 1000000) :
    Calls Tryd.prog 71 #[.pointer (some ⟨g, 0, none⟩)] w (VPost g s w ((nameP (sfx s k)).map fun r => (r.1, r.2, n))) := by
  have hg := h.lt
  have H0 := Lib.hid h
  have HA := Lib.hid fun (W : World) (p : ByteArray) (b : Bool) (hW : PAt W g s k n) (hp : p.size ≤ 1000000) (hb : Lib.hasPrefix (sfx s k) p.data.toList = b) => acceptName_any g s p k n b W hW hk hs hp hb
  clear h
  have hl : ∀ p : ByteArray, Lib.hasPrefix (sfx s k) p.data.toList = true → k + p.size ≤ s.size := by
    intro p hp
    have := hasPrefix_le hp
    rw [sfx_length] at this
    simp at this
    omega
  have HL := Lib.hid hl
  clear hl
  by_cases h1 : Lib.hasPrefix (sfx s k) nullW.data.toList = true
  · have HX := Lib.hid h1
    have HN := Lib.hid (show nameP (sfx s k) = some (leaf 0 0 ⟨#[]⟩, (sfx s k).drop 4) by unfold nameP; rw [if_pos h1])
    clear h1
    go_enter Tryd.func71, Tryd.ntmps71
    go_wp2_with fail
    refine (HA.out _ nullW true (Blk.alloc H0.out _) (by decide) HX.out).mono ?_
    rintro e w1 ⟨rfl, hw1⟩
    obtain ⟨HW, hc, hf, hz⟩ := after_new (if true then k + nullW.size else k) n hg _ _ hw1
    clear hw1
    go_wp2_with fail
    refine bodyPost_ret (v := cellsOf (leaf 0 0 ⟨#[]⟩) none 0 none 0) (by simp [results, Tryd.results71, go_sem, cellsOf, leaf, V.kind, V.int, V.text, V.items, V.keys, hc, hz]) rfl ?_
    rw [HN.out]
    exact ⟨none, 0, none, 0, k + 4, rfl, lies_leaf _ _ _ _ _ (by decide), HL.out nullW HX.out, (sfx_drop s k 4).symm, set5 (HW.out.old hg) hg _ _ _ _ _⟩
  by_cases h2 : Lib.hasPrefix (sfx s k) falseW.data.toList = true
  · have HX := Lib.hid h2
    have HX1 := Lib.hid (show Lib.hasPrefix (sfx s k) nullW.data.toList = false by simpa using h1)
    have HN := Lib.hid (show nameP (sfx s k) = some (leaf 1 0 ⟨#[]⟩, (sfx s k).drop 5) by unfold nameP; rw [if_neg h1, if_pos h2])
    clear h1 h2
    go_enter Tryd.func71, Tryd.ntmps71
    go_wp2_with fail
    refine (HA.out _ nullW false (Blk.alloc H0.out _) (by decide) HX1.out).mono ?_
    rintro e w1 ⟨rfl, hw1⟩
    obtain ⟨HW1, hc1, hf1, hz1⟩ := after_new (if false then k + nullW.size else k) n hg _ _ hw1
    clear hw1
    go_wp2_with fail
    refine (HA.out _ falseW true HW1.out.2 (by decide) HX.out).mono ?_
    rintro e w2 ⟨rfl, hw2⟩
    obtain ⟨HW, hc, hf, hz⟩ := after_new (if true then k + falseW.size else k) n hg _ _ (HW1.out.trans hw2)
    clear hw2 hc1 hf1 hz1
    go_wp2_with fail
    refine bodyPost_ret (v := cellsOf (leaf 1 0 ⟨#[]⟩) none 0 none 0) (by simp [results, Tryd.results71, go_sem, cellsOf, leaf, V.kind, V.int, V.text, V.items, V.keys, hc, hz]) rfl ?_
    rw [HN.out]
    exact ⟨none, 0, none, 0, k + 5, rfl, lies_leaf _ _ _ _ _ (by decide), HL.out falseW HX.out, (sfx_drop s k 5).symm, set5 (HW.out.old hg) hg _ _ _ _ _⟩
  by_cases h3 : Lib.hasPrefix (sfx s k) trueW.data.toList = true
  · have HX := Lib.hid h3
    have HX1 := Lib.hid (show Lib.hasPrefix (sfx s k) nullW.data.toList = false by simpa using h1)
    have HX2 := Lib.hid (show Lib.hasPrefix (sfx s k) falseW.data.toList = false by simpa using h2)
    have HN := Lib.hid (show nameP (sfx s k) = some (leaf 1 1 ⟨#[]⟩, (sfx s k).drop 4) by unfold nameP; rw [if_neg h1, if_neg h2, if_pos h3])
    clear h1 h2 h3
    go_enter Tryd.func71, Tryd.ntmps71
    go_wp2_with fail
    refine (HA.out _ nullW false (Blk.alloc H0.out _) (by decide) HX1.out).mono ?_
    rintro e w1 ⟨rfl, hw1⟩
    obtain ⟨HW1, hc1, hf1, hz1⟩ := after_new (if false then k + nullW.size else k) n hg _ _ hw1
    clear hw1
    go_wp2_with fail
    refine (HA.out _ falseW false HW1.out.2 (by decide) HX2.out).mono ?_
    rintro e w2 ⟨rfl, hw2⟩
    obtain ⟨HW2, hc2, hf2, hz2⟩ := after_new (if false then k + falseW.size else k) n hg _ _ (HW1.out.trans hw2)
    clear hw2 hc1 hf1 hz1
    go_wp2_with fail
    refine (HA.out _ trueW true HW2.out.2 (by decide) HX.out).mono ?_
    rintro e w3 ⟨rfl, hw3⟩
    obtain ⟨HW, hc, hf, hz⟩ := after_new (if true then k + trueW.size else k) n hg _ _ (HW2.out.trans hw3)
    clear hw3 hc2 hf2 hz2
    go_wp2_with (go_at_call 50; refine (must_yes _ _).mono ?_; rintro e w' ⟨rfl, rfl⟩)
    refine bodyPost_ret (v := cellsOf (leaf 1 1 ⟨#[]⟩) none 0 none 0) (by simp [results, Tryd.results71, go_sem, cellsOf, leaf, V.kind, V.int, V.text, V.items, V.keys, hc, hz]) rfl ?_
    rw [HN.out]
    exact ⟨none, 0, none, 0, k + 4, rfl, lies_leaf _ _ _ _ _ (by decide), HL.out trueW HX.out, (sfx_drop s k 4).symm, set5 (HW.out.old hg) hg _ _ _ _ _⟩
  have HX1 := Lib.hid (show Lib.hasPrefix (sfx s k) nullW.data.toList = false by simpa using h1)
  have HX2 := Lib.hid (show Lib.hasPrefix (sfx s k) falseW.data.toList = false by simpa using h2)
  have HX3 := Lib.hid (show Lib.hasPrefix (sfx s k) trueW.data.toList = false by simpa using h3)
  have HN := Lib.hid (show nameP (sfx s k) = none by unfold nameP; rw [if_neg h1, if_neg h2, if_neg h3])
  clear h1 h2 h3
  go_enter Tryd.func71, Tryd.ntmps71
  go_wp2_with fail
  refine (HA.out _ nullW false (Blk.alloc H0.out _) (by decide) HX1.out).mono ?_
  rintro e w1 ⟨rfl, hw1⟩
  obtain ⟨HW1, hc1, hf1, hz1⟩ := after_new (if false then k + nullW.size else k) n hg _ _ hw1
  clear hw1
  go_wp2_with fail
  refine (HA.out _ falseW false HW1.out.2 (by decide) HX2.out).mono ?_
  rintro e w2 ⟨rfl, hw2⟩
  obtain ⟨HW2, hc2, hf2, hz2⟩ := after_new (if false then k + falseW.size else k) n hg _ _ (HW1.out.trans hw2)
  clear hw2 hc1 hf1 hz1
  go_wp2_with fail
  refine (HA.out _ trueW false HW2.out.2 (by decide) HX3.out).mono ?_
  rintro e w3 ⟨rfl, hw3⟩
  obtain ⟨HW, hc, hf, hz⟩ := after_new (if false then k + trueW.size else k) n hg _ _ (HW2.out.trans hw3)
  clear hw3 hc2 hf2 hz2
  go_wp2_with (go_at_call 50; refine (must_no _ _).mono ?_; rintro e w' ⟨rfl, rfl⟩)
  refine ⟨rfl, ?_⟩
  rw [HN.out]
  exact ⟨rfl, (HW.out.old hg).1⟩
end Go.Proofs.YtoddlacfbeckiaaDoor
