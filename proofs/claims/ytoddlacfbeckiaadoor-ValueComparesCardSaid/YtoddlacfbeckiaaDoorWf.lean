/- Writing into a Builder. -/
import Derived.Test.YtoddlacfbeckiaaDoorSb
import Derived.Test.YtoddlacfbeckiaaDoorWa
import Derived.Deep.LoopGhost
import Derived.Lib.BufferKept
import Derived.Lib.LaidTab
namespace Go.Proofs.YtoddlacfbeckiaaDoor
open Go.RowKit

/-- A Builder of the call's own that holds l. -/
def Bld (B b : Nat) (l : List UInt8) (w : World) : Prop := Lib.IsBuilderF 59 5 B b (Lib.byteCells l) w

theorem owns_keep {w w' : World} {B e n : Nat} {v : Value} {xs : List Value} (h : w.ownsRowF B e 1 v n xs) (hb : ∀ k, k < w.heap.size → w'.heap[k]? = w.heap[k]?) : w'.ownsRowF B e 1 v n xs := by
  refine ⟨h.1, h.2.imp id ?_⟩
  rintro ⟨g, cap, cur, fz, e1, e2, e3, r⟩
  have hg : g < w.heap.size := by
    rcases Nat.lt_or_ge g w.heap.size with hlt | hge
    · exact hlt
    · rw [Array.getElem?_eq_none hge] at e3; cases e3
  exact ⟨g, cap, cur, fz, e1, e2, (hb g hg).trans e3, r⟩
theorem bldAt_keep {w w' : World} {T e B b : Nat} {p : Value} {bs : List Value} (h : Lib.BuilderAtF T e B b p bs w) (hb : Below w.heap.size w w') : Lib.BuilderAtF T e B b p bs w' := by
  have hlt := h.lt
  obtain ⟨h1, v, h2, h3, h4⟩ := h
  exact ⟨h1, v, (hb.block b hlt).trans h2, owns_keep h3 hb.block, h4⟩
theorem Bld.keep {w w' : World} {B b : Nat} {l : List UInt8} (h : Bld B b l w) (hb : Below w.heap.size w w') : Bld B b l w' := h.imp (bldAt_keep · hb) (bldAt_keep · hb)
theorem Bld.lt {w : World} {B b : Nat} {l : List UInt8} (h : Bld B b l w) : b < w.heap.size := by rcases h with h | h <;> exact h.lt
theorem Bld.le {w : World} {B b : Nat} {l : List UInt8} (h : Bld B b l w) : B ≤ b := by rcases h with h | h <;> exact h.1

/-- What a writer leaves. -/
structure Wrote (B b : Nat) (l : List UInt8) (w w' : World) : Prop where
  bld : Bld B b l w'
  below : Below B w w'
  kept : Lib.OthersKept 5 (some b) w w'
theorem Wrote.refl {w : World} {B b : Nat} {l : List UInt8} (h : Bld B b l w) : Wrote B b l w w := ⟨h, Below.refl _ _, Lib.OthersKept.refl _ _ _⟩
theorem Wrote.trans {w w1 w2 : World} {B b : Nat} {l l' : List UInt8} (h : Wrote B b l w w1) (k : Wrote B b l' w1 w2) : Wrote B b l' w w2 :=
  ⟨k.bld, h.below.trans k.below, h.kept.trans k.kept⟩
theorem Wrote.after {w w1 w2 : World} {B b : Nat} {l : List UInt8} (hb : Below w.heap.size w w1) (h : Wrote B b l w1 w2) (hB : B ≤ w.heap.size) : Wrote B b l w w2 :=
  ⟨h.bld, (hb.mono hB).trans h.below, ((Lib.OthersKept.refl _ _ w).below hb).trans h.kept⟩
theorem Wrote.then_ {w w1 w2 : World} {B b : Nat} {l : List UInt8} (h : Wrote B b l w w1) (hb : Below w1.heap.size w1 w2) (hB : B ≤ w1.heap.size) : Wrote B b l w w2 :=
  ⟨h.bld.keep hb, h.below.trans (hb.mono hB), h.kept.trans ((Lib.OthersKept.refl _ _ w1).below hb)⟩
theorem Wrote.size {w w1 : World} {B b : Nat} {l : List UInt8} (h : Wrote B b l w w1) : w.heap.size ≤ w1.heap.size := h.below.size
/-- A boxed value stays. -/
theorem Wrote.block {w w1 : World} {B b g : Nat} {l : List UInt8} {cs : Array Value} {t : TypeId} (h : Wrote B b l w w1) (hg : Blk w g t cs) (hne : g ≠ b) (ht : t ≠ 5) : Blk w1 g t cs := by
  refine h.kept g _ hg (by simpa using hne) ?_
  intro c fz e
  cases e
  exact ht rfl

theorem wbyte (B b : Nat) (l : List UInt8) (c : UInt8) (q : Int) (hq : q = c.toNat) (w : World) (h : Bld B b l w) (hl : l.length + 1 ≤ 1000000) (hB : B ≤ w.heap.size) :
    Calls Tryd.prog 64 #[.pointer (some ⟨b, 0, none⟩), .int .u8 q] w fun e w' => e = .returned .nilIface ∧ Wrote B b (l ++ [c]) w w' := by
  subst hq
  refine (bld_byte B b (Lib.byteCells l) c.toNat w h (by rw [Lib.byteCells_length]; omega) hB).mono ?_
  rintro e w' ⟨he, h1, h2, h3⟩
  exact ⟨he, .inr (by rw [Lib.byteCells_append]; exact h1), h2, h3⟩
theorem wstr (B b : Nat) (l : List UInt8) (s : ByteArray) (w : World) (h : Bld B b l w) (hl : l.length + s.size ≤ 1000000) (hB : B ≤ w.heap.size) :
    Calls Tryd.prog 60 #[.pointer (some ⟨b, 0, none⟩), .string s] w fun e w' => e = .returned (.tuple #[.int .i64 s.size, .nilIface]) ∧ Wrote B b (l ++ s.data.toList) w w' := by
  refine (bld_string B b (Lib.byteCells l) s w h (by rw [Lib.byteCells_length]; omega) hB).mono ?_
  rintro e w' ⟨he, h1, h2, h3⟩
  exact ⟨he, .inr (by rw [Lib.byteCells_append]; exact h1), h2, h3⟩

theorem flat_take (s : ByteArray) (k : Nat) (h : k < s.size) : (s.data.toList.take (k + 1)).flatMap escB = (s.data.toList.take k).flatMap escB ++ escB s[k] := by
  rw [take_snoc s k h]; simp

set_option maxRecDepth 100000 in
set_option maxHeartbeats 1000000 in
theorem writeQuoted_any (B b : Nat) (l : List UInt8) (s : ByteArray) (w : World) (h : Bld B b l w) (hl : l.length + (2 * s.size + 2) ≤ 1000000) (hB : B ≤ w.heap.size) :
    Calls Tryd.prog 63 #[.pointer (some ⟨b, 0, none⟩), .string s] w fun e w' => e = .returned (.tuple #[]) ∧ Wrote B b (l ++ quoteB s.data.toList) w w' := by
  have HL := Lib.hid (show s.data.toList.length = s.size by simp)
  have H0 := Lib.hid h
  clear h
  go_enter Tryd.func63, Tryd.ntmps63
  go_wp2_with fail
  refine (wbyte B b l 34 _ (by rfl) _ H0.out (by omega) hB).mono ?_
  rintro e w0 ⟨rfl, hw0⟩
  have HW0 := Lib.hid (show Wrote B b (l ++ 34 :: (s.data.toList.take 0).flatMap escB) w w0 from hw0)
  clear hw0
  go_wp2_with fail
  go_loopw [9] (fun j wr => ∃ k : Nat, k ≤ s.size ∧ j = .int .i64 k ∧ Hid (Wrote B b (l ++ 34 :: (s.data.toList.take k).flatMap escB) w wr)) (fun j _ => s.size - (intOf j).toNat)
  case atStart => exact ⟨0, Nat.zero_le _, rfl, HW0⟩
  case round =>
    obtain ⟨k, hk, rfl, HA⟩ := hrel
    have hz := HA.out.size
    have hn : (l ++ 34 :: (s.data.toList.take k).flatMap escB).length + 1 ≤ 1000000 := by
      have := esc_len (s.data.toList.take k)
      rw [List.length_append, List.length_cons]
      rw [List.length_take, HL.out] at this
      by_cases hlt : k < s.size <;> omega
    by_cases hlt : k < s.size
    · have HF := Lib.hid (flat_take s k hlt)
      have hn' : (l ++ 34 :: (s.data.toList.take k).flatMap escB).length + 2 ≤ 999999 := by
        have := esc_len (s.data.toList.take k)
        rw [List.length_append, List.length_cons]
        rw [List.length_take, HL.out] at this
        omega
      have HN := Lib.hid hn'
      clear hn hn'
      by_cases hc : s[k].toNat = 34 ∨ s[k].toNat = 92
      · have HE := Lib.hid (show escB s[k] = [92, s[k]] by unfold escB; rw [if_pos (by rcases hc with h | h; exact .inl (UInt8.toNat_inj.1 h); exact .inr (UInt8.toNat_inj.1 h))])
        rcases hc with hc | hc
        all_goals have HC := Lib.hid hc
        · have e1 : ((s[k].toNat : Int) == 34) = true := by simp; omega
          clear hc
          go_wp2_with fail
          refine (wbyte B b _ 92 _ (by rfl) _ HA.out.bld (by have := HN.out; omega) (by omega)).mono ?_
          rintro e w1 ⟨rfl, hw1⟩
          have HW1 := Lib.hid (HA.out.trans hw1)
          clear hw1
          go_wp2_with fail
          refine (wbyte B b _ s[k] _ (by rfl) _ HW1.out.bld (by have := HN.out; rw [List.length_append]; simp; simp at this; omega) (by have := HW1.out.size; omega)).mono ?_
          rintro e w2 ⟨rfl, hw2⟩
          have HW2 := Lib.hid (HW1.out.trans hw2)
          clear hw2
          go_wp2_with fail
          go_roundw
          case rel => exact ⟨k + 1, by omega, by go_num, Lib.hid (by rw [HF.out, HE.out]; have := HW2.out; simpa [List.append_assoc] using this)⟩
          case measure => simp [intOf]; omega
        · have e0 : ((s[k].toNat : Int) == 34) = false := by simp; omega
          have e1 : ((s[k].toNat : Int) == 92) = true := by simp; omega
          clear hc
          go_wp2_with fail
          refine (wbyte B b _ 92 _ (by rfl) _ HA.out.bld (by have := HN.out; omega) (by omega)).mono ?_
          rintro e w1 ⟨rfl, hw1⟩
          have HW1 := Lib.hid (HA.out.trans hw1)
          clear hw1
          go_wp2_with fail
          refine (wbyte B b _ s[k] _ (by rfl) _ HW1.out.bld (by have := HN.out; rw [List.length_append]; simp; simp at this; omega) (by have := HW1.out.size; omega)).mono ?_
          rintro e w2 ⟨rfl, hw2⟩
          have HW2 := Lib.hid (HW1.out.trans hw2)
          clear hw2
          go_wp2_with fail
          go_roundw
          case rel => exact ⟨k + 1, by omega, by go_num, Lib.hid (by rw [HF.out, HE.out]; have := HW2.out; simpa [List.append_assoc] using this)⟩
          case measure => simp [intOf]; omega
      · have HE := Lib.hid (show escB s[k] = [s[k]] by unfold escB; rw [if_neg (by rintro (h | h); exact hc (.inl (by rw [h]; rfl)); exact hc (.inr (by rw [h]; rfl)))])
        have e0 : ((s[k].toNat : Int) == 34) = false := by simp; omega
        have e1 : ((s[k].toNat : Int) == 92) = false := by simp; omega
        clear hc
        go_wp2_with fail
        refine (wbyte B b _ s[k] _ (by rfl) _ HA.out.bld (by have := HN.out; omega) (by omega)).mono ?_
        rintro e w1 ⟨rfl, hw1⟩
        have HW1 := Lib.hid (HA.out.trans hw1)
        clear hw1
        go_wp2_with fail
        go_roundw
        case rel => exact ⟨k + 1, by omega, by go_num, Lib.hid (by rw [HF.out, HE.out]; have := HW1.out; simpa [List.append_assoc] using this)⟩
        case measure => simp [intOf]; omega
    · have HN := Lib.hid hn
      clear hn
      go_wp2_with fail
      refine (wbyte B b _ 34 _ (by rfl) _ HA.out.bld (by have := HN.out; omega) (by omega)).mono ?_
      rintro e w1 ⟨rfl, hw1⟩
      have HW1 := Lib.hid (HA.out.trans hw1)
      clear hw1
      go_wp2_with fail
      refine bodyPost_end (v := .tuple #[]) (by simp [results, Tryd.results63, go_sem]) rfl ⟨rfl, ?_⟩
      have := HW1.out
      rw [List.take_of_length_le (by rw [HL.out]; omega)] at this
      simpa [quoteB, List.append_assoc] using this
end Go.Proofs.YtoddlacfbeckiaaDoor
