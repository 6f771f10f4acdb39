/- The specification's look for an item, walked: what it answers hangs on what the value hangs on. -/
import Derived.Test.YtebmjefimbcefaaGreatDoorVc
import Derived.Test.YtebmjefimbcefaaGreatDoorRy
import Derived.Test.YtebmjefimbcefaaGreatDoorJc
namespace Go.Proofs.YtebmjefimbcefaaGreatDoor
open Go.RowKit
theorem inn_items {P : Nat → Prop} {w : World} : ∀ {x : V} {A c K d}, LiesIn P w x A c K d → x.items.length ≤ c ∧ c ≤ maxLen ∧ (x.items = [] ∨ ∃ b o, A = some ⟨b, o, none⟩ ∧ P b ∧ LiesFromIn P w x.items b o)
  | .mk _ _ _ _ _, _, _, _, _, h => by rw [LiesIn] at h; exact ⟨h.2.1, h.2.2.1, h.2.2.2.2⟩
theorem inn_keys {P : Nat → Prop} {w : World} : ∀ {x : V} {A c K d}, LiesIn P w x A c K d → x.keys.length ≤ d ∧ d ≤ maxLen ∧ (x.keys = [] ∨ ∃ b o, K = some ⟨b, o, none⟩ ∧ P b ∧ StrsFrom w x.keys b o)
  | .mk _ _ _ _ _, _, _, _, _, h => by rw [LiesIn] at h; exact h.2.2.2.1
/-- What the look answers. -/
def InPost (P : Nat → Prop) (r : Option V) (w : World) (e : Ending) (w' : World) : Prop :=
  Below w.heap.size w w' ∧ match r with
    | none => e = .returned (.tuple #[aggOf (leaf 0 0 ⟨#[]⟩) none 0 none 0, .bool false])
    | some y => ∃ A c K d, e = .returned (.tuple #[aggOf y A c K d, .bool true]) ∧ LiesIn P w' y A c K d
/-- The three boxes of that look. -/
structure JBox (w : World) (P : Nat → Prop) (x : V) (A : Option Addr) (c : Nat) (K : Option Addr) (d : Nat) (i : Int) (t : ByteArray) (W : World) : Prop where
  old : Below w.heap.size w W
  bx : BlockIs W w.heap.size 27 #[.int .i64 x.kind, .int .i64 x.int, .string x.text, .slice A x.items.length c, .slice K x.keys.length d]
  bs : BlockIs W (w.heap.size + 1) 35 #[.int .i64 i, .string t]
  br : BlockIs W (w.heap.size + 2) 27 zeroF
  lies : LiesIn P W x A c K d
theorem JBox.start (w : World) (P : Nat → Prop) (hB : ∀ b, P b → b < w.heap.size) (x : V) (A : Option Addr) (c : Nat) (K : Option Addr) (d : Nat) (i : Int) (t : ByteArray) (h : LiesIn P w x A c K d) :
    JBox w P x A c K d i t (((w.alloc (.cells #[.int .i64 x.kind, .int .i64 x.int, .string x.text, .slice A x.items.length c, .slice K x.keys.length d] 27)).alloc (.cells #[.int .i64 i, .string t] 35)).alloc (.cells zeroF 27)) := by
  have hb : Below w.heap.size w (((w.alloc (.cells #[.int .i64 x.kind, .int .i64 x.int, .string x.text, .slice A x.items.length c, .slice K x.keys.length d] 27)).alloc (.cells #[.int .i64 i, .string t] 35)).alloc (.cells zeroF 27)) := below_al (below_al (below_al (Below.refl _ w) _) _) _
  exact ⟨hb, ((BlockIs.new w _ _).alloc _).alloc _, (BlockIs.newAt _ _ _ (by simp)).alloc _, BlockIs.newAt _ _ _ (by simp), LiesIn.keep (fun b o hb' => bcell hb b o (hB b hb')) (fun _ h => h) _ h⟩
theorem JBox.drewN {w W : World} {P : Nat → Prop} {x : V} {A K : Option Addr} {c d : Nat} {i : Int} {t : ByteArray} (h : JBox w P x A c K d i t W) (q : Nat) : JBox w P x A c K d i t (W.drewN q) :=
  ⟨below_drewN h.old q, h.bx, h.bs, h.br, LiesIn.keep (w := W) (w' := W.drewN q) (fun _ _ _ => rfl) (fun _ h => h) _ h.lies⟩
theorem JBox.put5 {w W : World} {P : Nat → Prop} {x : V} {A K : Option Addr} {c d : Nat} {i : Int} {t : ByteArray} (h : JBox w P x A c K d i t W) {u0 u1 u2 u3 u4 : Value} : Below w.heap.size w (Go.Proofs.YtebmjefimbcefaaGreatDoor.put5 W (w.heap.size + 2) 0 u0 u1 u2 u3 u4) :=
  ((((h.old.setCell (by simp) _).setCell (by simp) _).setCell (by simp) _).setCell (by simp) _).setCell (by simp) _
theorem JBox.item {w W : World} {P : Nat → Prop} {x y : V} {A K Ay Ky : Option Addr} {c d cy dy : Nat} {i : Int} {t : ByteArray} (_h : JBox w P x A c K d i t W) {u0 u1 u2 u3 u4 : Value} (hB : ∀ b, P b → b < w.heap.size) (hy : LiesIn P W y Ay cy Ky dy) :
    LiesIn P (Go.Proofs.YtebmjefimbcefaaGreatDoor.put5 W (w.heap.size + 2) 0 u0 u1 u2 u3 u4) y Ay cy Ky dy := by
  exact LiesIn.keep (fun b o hb => World.cell?_of_block (put5_heap W (w.heap.size + 2) 0 u0 u1 u2 u3 u4 (show b ≠ w.heap.size + 2 by have := hB b hb; omega))) (fun _ h => h) _ hy
set_option maxRecDepth 100000 in
set_option maxHeartbeats 8000000 in
theorem item_in (P : Nat → Prop) (x : V) (s : Stp) (w : World) (A K : Option Addr) (c d : Nat) (hBw : ∀ b, P b → b < w.heap.size) (h : LiesIn P w x A c K d) (hok : x.ok = true) :
    Calls Tryz.prog 47 #[aggOf x A c K d, stepV s] w (InPost P (itemV x s) w) := by
  obtain ⟨i, t⟩ := s
  unfold stepV aggOf
  simp only
  obtain ⟨hr, hk1, hk2⟩ := okk hok
  have hlen : x.items.length ≤ maxLen := by have := (inn_items h).1; have := (inn_items h).2.1; omega
  have hklen : x.keys.length ≤ maxLen := by have := (inn_keys h).1; have := (inn_keys h).2.1; omega
  unfold maxLen at hlen hklen
  obtain ⟨R, hR⟩ : ∃ R, R = itemV x (i, t) := ⟨_, rfl⟩
  rw [← hR]
  have HR := Lib.hid hR
  obtain ⟨W, hW⟩ : ∃ W, W = ((w.alloc (.cells #[.int .i64 x.kind, .int .i64 x.int, .string x.text, .slice A x.items.length c, .slice K x.keys.length d] 27)).alloc (.cells #[.int .i64 i, .string t] 35)).alloc (.cells #[.int .i64 0, .int .i64 0, .string ⟨#[]⟩, .slice none 0 0, .slice none 0 0] 27) := ⟨_, rfl⟩
  have hB : JBox w P x A c K d i t W := by rw [hW]; exact JBox.start w P hBw x A c K d i t h
  have HB := Lib.hid hB
  have HW := Lib.hid hW
  have HRK := Lib.hid hr
  have HK2 := Lib.hid hk2
  have HK1 := Lib.hid hk1
  clear hB hW h hok hr hk1 hk2 hR
  obtain ⟨z0, z1, z2, z3, z4⟩ := five_of (show BlockIs W (w.heap.size + 1 + 1) 27 #[.int .i64 0, .int .i64 0, .string ⟨#[]⟩, .slice none 0 0, .slice none 0 0] from HB.out.br)
  obtain ⟨b0, b1, b2, b3, b4⟩ := five_of (show BlockIs W w.heap.size 27 #[.int .i64 x.kind, .int .i64 x.int, .string x.text, .slice A x.items.length c, .slice K x.keys.length d] from HB.out.bx)
  obtain ⟨s0, s1⟩ : (W).cell? ⟨w.heap.size + 1, 0, none⟩ = Option.some (.int .i64 i) ∧ (W).cell? ⟨w.heap.size + 1, 1, none⟩ = Option.some (.string t) := ⟨HB.out.bs.cell 0, HB.out.bs.cell 1⟩
  have x0 : (W).frozen? ⟨w.heap.size + 1 + 1, 0, none⟩ = false := HB.out.br.frozen 0
  have x1 : (W).frozen? ⟨w.heap.size + 1 + 1, 1, none⟩ = false := HB.out.br.frozen 1
  have x2 : (W).frozen? ⟨w.heap.size + 1 + 1, 2, none⟩ = false := HB.out.br.frozen 2
  have x3 : (W).frozen? ⟨w.heap.size + 1 + 1, 3, none⟩ = false := HB.out.br.frozen 3
  have x4 : (W).frozen? ⟨w.heap.size + 1 + 1, 4, none⟩ = false := HB.out.br.frozen 4
  have zl : w.heap.size + 1 + 1 < (W).heap.size := HB.out.br.lt
  by_cases h0 : 0 ≤ i
  · by_cases h4 : x.kind = 4
    · have hd : (x.kind == 4) = true := by simp [h4]
      have H4 := Lib.hid h4
      clear h4
      obtain ⟨k, rfl⟩ : ∃ k : Nat, i = k := ⟨i.toNat, by omega⟩
      by_cases hl : (x.items.length : Int) ≤ k
      · have HN := Lib.hid (show R = none by rw [HR.out]; simp [itemV, H4.out, List.getElem?_eq_none (show x.items.length ≤ k by omega)])
        go_enter Tryz.func47, Tryz.ntmps47
        go_upto_region 1 with (fail)
        rw [← HW.out]
        go_wp2_with fail
        refine bodyPost_ret (v := .tuple #[aggOf (leaf 0 0 ⟨#[]⟩) none 0 none 0, .bool false]) (by simp [results, Tryz.results47, go_sem, aggOf, leaf, V.kind, V.int, V.text, V.items, V.keys, z0, z1, z2, z3, z4]) rfl ?_
        rw [HN.out]
        exact ⟨HB.out.put5, rfl⟩
      · obtain ⟨y, hy1, hy2⟩ := step_list (t := t) h0 H4.out hl
        have HY := Lib.hid (show R = Option.some y by rw [HR.out]; exact hy1)
        rcases (inn_items HB.out.lies).2.2 with hn | ⟨b, o, rfl, hbB, hf⟩
        · rw [hn] at hl; simp at hl
        · obtain ⟨Ay, cy, Ky, dy, ⟨e0, e1, e2, e3, e4⟩, hly⟩ := hf.at_ (show x.items[k]? = Option.some y from hy2)
          have HLY := Lib.hid hly
          clear hy1 hy2 hf hly
          go_enter Tryz.func47, Tryz.ntmps47
          go_upto_region 1 with (fail)
          rw [← HW.out]
          go_wp2_with fail
          refine bodyPost_ret (v := .tuple #[aggOf y Ay cy Ky dy, .bool true]) (by simp [results, Tryz.results47, go_sem, aggOf, z0, z1, z2, z3, z4]) rfl ?_
          rw [HY.out]
          exact ⟨HB.out.put5, _, _, _, _, rfl, HB.out.item hBw HLY.out⟩
    · have hd : (x.kind == 4) = false := by simp [h4]
      have HN := Lib.hid (show R = none by rw [HR.out]; simp [itemV, h0, h4])
      go_enter Tryz.func47, Tryz.ntmps47
      go_upto_region 1 with (fail)
      rw [← HW.out]
      go_wp2_with fail
      refine bodyPost_ret (v := .tuple #[aggOf (leaf 0 0 ⟨#[]⟩) none 0 none 0, .bool false]) (by simp [results, Tryz.results47, go_sem, aggOf, leaf, V.kind, V.int, V.text, V.items, V.keys, z0, z1, z2, z3, z4]) rfl ?_
      rw [HN.out]
      exact ⟨HB.out.put5, rfl⟩
  · by_cases h5 : x.kind = 5
    · have hd : (x.kind == 5) = true := by simp [h5]
      have H0 := Lib.hid h0
      have HL5 := Lib.hid (HK2.out h5)
      clear h5
      obtain ⟨n, hn⟩ : ∃ n, n = x.keys.length := ⟨_, rfl⟩
      have HNN := Lib.hid hn
      rw [← hn] at b4 hklen
      clear hn
      go_enter Tryz.func47, Tryz.ntmps47
      go_upto_region 1 with (fail)
      rw [← HW.out]
      go_wp2_with fail
      go_loopw [6] (fun iv wr => ∃ j : Nat, iv = .int .i64 j ∧ j ≤ n ∧ Hid (JBox w P x A c K d i t wr ∧ ∀ t', t' < j → x.keys[t']? ≠ Option.some t)) (fun iv _ => n - (intOf iv).toNat)
      case atStart => exact ⟨0, rfl, Nat.zero_le _, Lib.hid ⟨HB.out, fun t' h => absurd h (Nat.not_lt_zero t')⟩⟩
      case round =>
        obtain ⟨j, rfl, hj, hI⟩ := hrel
        have HBI := Lib.hid hI.out.1
        have HNO := Lib.hid hI.out.2
        clear hI z0 z1 z2 z3 z4 b0 b1 b2 b3 b4 s0 s1 x0 x1 x2 x3 x4 zl
        obtain ⟨z0, z1, z2, z3, z4⟩ := five_of (show BlockIs wr (w.heap.size + 1 + 1) 27 #[.int .i64 0, .int .i64 0, .string ⟨#[]⟩, .slice none 0 0, .slice none 0 0] from HBI.out.br)
        obtain ⟨b0, b1, b2, b3, b4⟩ := five_of (show BlockIs wr w.heap.size 27 #[.int .i64 x.kind, .int .i64 x.int, .string x.text, .slice A x.items.length c, .slice K x.keys.length d] from HBI.out.bx)
        obtain ⟨s0, s1⟩ : (wr).cell? ⟨w.heap.size + 1, 0, none⟩ = Option.some (.int .i64 i) ∧ (wr).cell? ⟨w.heap.size + 1, 1, none⟩ = Option.some (.string t) := ⟨HBI.out.bs.cell 0, HBI.out.bs.cell 1⟩
        have x0 : (wr).frozen? ⟨w.heap.size + 1 + 1, 0, none⟩ = false := HBI.out.br.frozen 0
        have x1 : (wr).frozen? ⟨w.heap.size + 1 + 1, 1, none⟩ = false := HBI.out.br.frozen 1
        have x2 : (wr).frozen? ⟨w.heap.size + 1 + 1, 2, none⟩ = false := HBI.out.br.frozen 2
        have x3 : (wr).frozen? ⟨w.heap.size + 1 + 1, 3, none⟩ = false := HBI.out.br.frozen 3
        have x4 : (wr).frozen? ⟨w.heap.size + 1 + 1, 4, none⟩ = false := HBI.out.br.frozen 4
        have zl : w.heap.size + 1 + 1 < (wr).heap.size := HBI.out.br.lt
        rw [← HNN.out] at b4
        by_cases hlt : j < n
        · have hj2 : j < x.keys.length := by rw [← HNN.out]; exact hlt
          obtain ⟨kk, hkk⟩ : ∃ kk, x.keys[j]? = Option.some kk := ⟨_, List.getElem?_eq_getElem hj2⟩
          rcases (inn_keys HBI.out.lies).2.2 with hn | ⟨b, o, rfl, hbB, hf⟩
          · rw [hn] at hj2; simp at hj2
          · have hv := (hf.at_ hkk).1
            have HC := Lib.hid hkk
            clear hf hkk hj2
            cases hkeq : (kk.toList == t.toList)
            · have HKQ := Lib.hid (neT hkeq)
              go_wp2_with fail
              go_quiet (fail)
              go_wp2_with fail
              go_roundw
              case rel =>
                refine ⟨j + 1, by go_num, by omega, Lib.hid ⟨HBI.out.drewN _, fun t' ht => ?_⟩⟩
                by_cases e : t' = j
                · rw [e, HC.out]; exact fun e => HKQ.out (Option.some.inj e)
                · exact HNO.out t' (by omega)
              case measure => simp [intOf]; omega
            · have hkt := eqT hkeq
              obtain ⟨y, hy1, hy2⟩ := step_key (show ¬ 0 ≤ i by have := H0.out; omega) HRK.out HL5.out (show x.keys[j]? = Option.some t by rw [HC.out, hkt])
              have HY := Lib.hid (show R = Option.some y by rw [HR.out]; exact hy1)
              clear hkt
              rcases (inn_items HBI.out.lies).2.2 with hn | ⟨b', o', rfl, hbB', hf⟩
              · rw [hn] at hy2; simp at hy2
              · obtain ⟨Ay, cy, Ky, dy, ⟨e0, e1, e2, e3, e4⟩, hly⟩ := hf.at_ hy2
                have HLY := Lib.hid hly
                have hjl : j < x.items.length := (List.getElem?_eq_some_iff.1 hy2).1
                clear hy1 hy2 hf hly
                go_wp2_with fail
                go_quiet (fail)
                have HQ := Lib.hid (HBI.out.drewN nq)
                have HLY := Lib.hid (show LiesIn P (wr.drewN nq) y Ay cy Ky dy from LiesIn.keep (w := wr) (w' := wr.drewN nq) (fun _ _ _ => rfl) (fun _ h => h) _ HLY.out)
                go_wp2_with fail
                refine bodyPost_ret (v := .tuple #[aggOf y Ay cy Ky dy, .bool true]) (by simp [results, Tryz.results47, go_sem, aggOf, z0, z1, z2, z3, z4]) rfl ?_
                rw [HY.out]
                exact ⟨HQ.out.put5, _, _, _, _, rfl, HQ.out.item hBw HLY.out⟩
        · have HN := Lib.hid (show R = none by
            rw [HR.out]
            exact step_nokey (show ¬ 0 ≤ i by have := H0.out; omega) (fun t' ht => HNO.out t' (by have := HNN.out; omega)))
          go_wp2_with fail
          refine bodyPost_ret (v := .tuple #[aggOf (leaf 0 0 ⟨#[]⟩) none 0 none 0, .bool false]) (by simp [results, Tryz.results47, go_sem, aggOf, leaf, V.kind, V.int, V.text, V.items, V.keys, z0, z1, z2, z3, z4]) rfl ?_
          rw [HN.out]
          exact ⟨HBI.out.put5, rfl⟩
    · have hd : (x.kind == 5) = false := by simp [h5]
      have HN := Lib.hid (show R = none by
        rw [HR.out]
        have := HK1.out h5
        unfold itemV
        rw [if_neg h0, this]
        rfl)
      go_enter Tryz.func47, Tryz.ntmps47
      go_upto_region 1 with (fail)
      rw [← HW.out]
      go_wp2_with fail
      refine bodyPost_ret (v := .tuple #[aggOf (leaf 0 0 ⟨#[]⟩) none 0 none 0, .bool false]) (by simp [results, Tryz.results47, go_sem, aggOf, leaf, V.kind, V.int, V.text, V.items, V.keys, z0, z1, z2, z3, z4]) rfl ?_
      rw [HN.out]
      exact ⟨HB.out.put5, rfl⟩
open Go.RowKit
/-- The blocks that what was collected hangs on: elder ones, and the call's own, but the rows'. -/
def PQ (w : World) (P : Nat → Prop) (rI rK : Value) (W : World) (b : Nat) : Prop := P b ∨ (w.heap.size + 3 ≤ b ∧ b < W.heap.size ∧ some b ≠ rI.ownBlock ∧ some b ≠ rK.ownBlock)
/-- How far a value is copied. -/
structure WQ (w : World) (P : Nat → Prop) (vc : Array Value) (kd : Int) (accI : List V) (accK : List ByteArray) (rI rK : Value) (css : List (List Value)) (W : World) : Prop where
  old : Below w.heap.size w W
  bv : BlockIs W w.heap.size 27 vc
  br : BlockIs W (w.heap.size + 1) 27 zeroF
  bo : BlockIs W (w.heap.size + 2) 27 #[.int .i64 kd, .int .i64 0, .string ⟨#[]⟩, rI, rK]
  items : W.ownsRow (w.heap.size + 3) 27 5 rI accI.length css.flatten
  keys : W.ownsRow (w.heap.size + 3) 9 1 rK accK.length (accK.map Value.string)
  rows : RowsIn (PQ w P rI rK W) W accI css
  sizes : ∀ k ∈ accK, k.size ≤ maxLen
section
variable {w W W' w1 : World} {P : Nat → Prop} {vc : Array Value} {kd : Int} {accI : List V} {accK : List ByteArray} {rI rK v' : Value} {css : List (List Value)} {y : V} {A K : Option Addr} {c d : Nat} {u0 u1 u2 u3 u4 : Value}
theorem WQ.start (w : World) (P : Nat → Prop) (vc : Array Value) (kd : Int) : WQ w P vc kd [] [] (.slice none 0 0) (.slice none 0 0) [] (((w.alloc (.cells vc 27)).alloc (.cells zeroF 27)).alloc (.cells #[.int .i64 kd, .int .i64 0, .string ⟨#[]⟩, .slice none 0 0, .slice none 0 0] 27)) :=
  ⟨below_al (below_al (below_al (Below.refl _ w) _) _) _, ((BlockIs.new w _ _).alloc _).alloc _, (BlockIs.newAt _ _ _ (by simp)).alloc _, BlockIs.newAt _ _ _ (by simp), World.ownsRow_nil _ _ _ _, World.ownsRow_nil _ _ _ _, trivial, by simp⟩
theorem WQ.lt (h : WQ w P vc kd accI accK rI rK css W) : w.heap.size + 3 ≤ W.heap.size := by have := h.bo.lt; omega
theorem PQ.lt (h : WQ w P vc kd accI accK rI rK css W) (hB : ∀ b, P b → b < w.heap.size) {b : Nat} (hb : PQ w P rI rK W b) : b < W.heap.size := by
  have := h.lt
  rcases hb with h | h
  · have := hB b h; omega
  · exact h.2.1
theorem WQ.below (h : WQ w P vc kd accI accK rI rK css W) (hB : ∀ b, P b → b < w.heap.size) (hb : Below W.heap.size W W') : WQ w P vc kd accI accK rI rK css W' := by
  have hs := hb.size
  have hk : ∀ v : Value, v.ownBlock = none ∨ v.ownBlock ≠ (none : Option Nat) := fun v => by cases v.ownBlock <;> simp
  refine ⟨below_on h.old hb, h.bv.below hb h.bv.lt, h.br.below hb h.br.lt, h.bo.below hb h.bo.lt, h.items.kept (grown_none hb) (hk _), h.keys.kept (grown_none hb) (hk _), h.rows.keep (fun b o hx => bcell hb b o (PQ.lt h hB hx)) (fun b hx => hx.imp id fun hx => ⟨hx.1, by omega, hx.2.2⟩), h.sizes⟩
/-- An item more. -/
theorem WQ.item (h : WQ w P vc kd accI accK rI rK css W) (hB : ∀ b, P b → b < w.heap.size) (hy : LiesIn (PQ w P rI rK W) W y A c K d) (hlen : accI.length ≤ 10000) :
    ∃ v' W1, (Builtin.append_ #[24, 24] 24 #[rI, .slice (some ⟨W.heap.size, 0, none⟩) 1 1]).run Tryz.prog (W.alloc (.cells #[.int .i64 y.kind, .int .i64 y.int, .string y.text, .slice A y.items.length c, .slice K y.keys.length d] 27)) = .ok v' W1 ∧
      (∃ A c, v' = .slice A (accI.length + 1) c) ∧ (∀ o, W1.cell? ⟨w.heap.size + 2, o, none⟩ = W.cell? ⟨w.heap.size + 2, o, none⟩) ∧ W1.frozen? ⟨w.heap.size + 2, 3, none⟩ = false ∧ w.heap.size + 2 < W1.heap.size ∧ WQ w P vc kd (accI ++ [y]) accK v' rK (css ++ [fieldsL y A c K d]) (W1.setCell ⟨w.heap.size + 2, 3, none⟩ v') := by
  have hlt := h.lt
  have hb1a := below_al (Below.refl _ W) (.cells #[.int .i64 y.kind, .int .i64 y.int, .string y.text, .slice A y.items.length c, .slice K y.keys.length d] 27)
  have ha := h.below hB hb1a
  have hnew := BlockIs.new W 27 #[.int .i64 y.kind, .int .i64 y.int, .string y.text, .slice A y.items.length c, .slice K y.keys.length d]
  have hz : (W.alloc (.cells #[.int .i64 y.kind, .int .i64 y.int, .string y.text, .slice A y.items.length c, .slice K y.keys.length d] 27)).heap.size = W.heap.size + 1 := by simp
  obtain ⟨v', W1, hr, ho, hg, hw⟩ := appendW 24 _ (w.heap.size + 3) rI accI.length _ ha.items ⟨W.heap.size, 0, none⟩ 1 1 (fieldsL y A c K d) rfl (fun j u hj => by
    rw [Addr.add_lit, Nat.zero_add, hnew.cell j, ← hj]
    simp [fieldsL]) (fun u hu => by simp only [fieldsL, List.mem_cons, List.not_mem_nil, or_false] at hu; rcases hu with rfl | rfl | rfl | rfl | rfl <;> rfl) (by omega) (by omega) (by omega)
  have hge : ∀ g, g < w.heap.size + 3 → some g ≠ rI.ownBlock := fun g hg => own_ge ha.items hg
  have hs1 := hg.size
  have hB1 : Below w.heap.size w W1 := ha.old.trans (below_grow hg ha.old.size (fun r e => by have := (World.ownsRow.lt ha.items r e).1; omega))
  have hB2 : Below w.heap.size w (W1.setCell ⟨w.heap.size + 2, 3, none⟩ v') := hB1.setCell (by simp) _
  have hapart : v'.ownBlock = none ∨ v'.ownBlock ≠ rK.ownBlock := two_apart ho (ha.keys.kept hg (two_apart ha.keys ha.items (by decide))) (by decide)
  have hold : ∀ b, b < W.heap.size → b ≠ w.heap.size + 2 → some b ≠ rI.ownBlock → (W1.setCell ⟨w.heap.size + 2, 3, none⟩ v').heap[b]? = W.heap[b]? := fun b h1 h2 h3 => by
    rw [Below.heap_setCell _ _ _ _ h2, hg.block b (by omega) h3, Below.heap_alloc _ _ _ h1]
  have hP : ∀ b, PQ w P rI rK W b → PQ w P v' rK (W1.setCell ⟨w.heap.size + 2, 3, none⟩ v') b := fun b hb => hb.imp id fun hb => ⟨hb.1, by simp; have := hb.2.1; omega, row_where hw hb.2.2.1 (by have := hb.2.1; omega), hb.2.2.2⟩
  have hcell : ∀ b o, PQ w P rI rK W b → (W1.setCell ⟨w.heap.size + 2, 3, none⟩ v').cell? ⟨b, o, none⟩ = W.cell? ⟨b, o, none⟩ := fun b o hb => World.cell?_of_block (by
    rcases hb with hb | hb
    · have := hB b hb
      exact hold b (by omega) (by omega) (hge b (by omega))
    · exact hold b hb.2.1 (by have := hb.1; omega) hb.2.2.1)
  refine ⟨v', W1, hr, own_form ho, fun o => ?_, ?_, by omega, hB2, (ha.bv.grown hg (hge _ (by omega))).far (by simp) _, (ha.br.grown hg (hge _ (by omega))).far (by simp) _, ?_, ?_, ?_, ?_, h.sizes⟩
  · exact World.cell?_of_block (show W1.heap[w.heap.size + 2]? = W.heap[w.heap.size + 2]? by rw [hg.block _ (by omega) (hge _ (by omega)), Below.heap_alloc _ _ _ (by omega)])
  · exact (ha.bo.grown hg (hge _ (by omega))).frozen 3
  · have := (ha.bo.grown hg (hge _ (by omega))).set_ 3 v'
    simpa using this
  · have := own_set_far ho ⟨w.heap.size + 2, 3, none⟩ v' (own_ge ho (by simp))
    simpa [List.flatten_append] using this
  · exact own_set_far (ha.keys.kept hg (two_apart ha.keys ha.items (by decide))) _ _ (own_ge ha.keys (by simp))
  · exact RowsIn.append (ys := [y]) (dss := [fieldsL y A c K d]) ⟨⟨A, c, K, d, rfl, LiesIn.keep hcell hP y hy⟩, trivial⟩ (h.rows.keep hcell hP)
/-- A key more. -/
theorem WQ.key (h : WQ w P vc kd accI accK rI rK css W) (hB : ∀ b, P b → b < w.heap.size) {k : ByteArray} (hks : k.size ≤ maxLen) (hlen : accK.length ≤ 10000) :
    ∃ v' W1, (Builtin.append_ #[25, 25] 25 #[rK, .slice (some ⟨W.heap.size, 0, none⟩) 1 1]).run Tryz.prog (W.alloc (.cells #[.string k] 9)) = .ok v' W1 ∧
      (∃ A c, v' = .slice A (accK.length + 1) c) ∧ W1.frozen? ⟨w.heap.size + 2, 4, none⟩ = false ∧ w.heap.size + 2 < W1.heap.size ∧ (∀ o, W1.cell? ⟨w.heap.size + 2, o, none⟩ = W.cell? ⟨w.heap.size + 2, o, none⟩) ∧ WQ w P vc kd accI (accK ++ [k]) rI v' css (W1.setCell ⟨w.heap.size + 2, 4, none⟩ v') := by
  have hlt := h.lt
  have hb1a := below_al (Below.refl _ W) (.cells #[.string k] 9)
  have ha := h.below hB hb1a
  have hnew := BlockIs.new W 9 #[.string k]
  have hz : (W.alloc (.cells #[.string k] 9)).heap.size = W.heap.size + 1 := by simp
  obtain ⟨v', W1, hr, ho, hg, hw⟩ := appendKW 25 _ (w.heap.size + 3) rK accK.length _ ha.keys ⟨W.heap.size, 0, none⟩ 1 1 [.string k] rfl (fun j u hj => by
    rw [Addr.add_lit, Nat.zero_add, hnew.cell j, ← hj]
    simp) (fun u hu => by simp only [List.mem_cons, List.not_mem_nil, or_false] at hu; rw [hu]; rfl) (by omega) (by omega) (by omega)
  have hge : ∀ g, g < w.heap.size + 3 → some g ≠ rK.ownBlock := fun g hg => own_ge ha.keys hg
  have hs1 := hg.size
  have hB1 : Below w.heap.size w W1 := ha.old.trans (below_grow hg ha.old.size (fun r e => by have := (World.ownsRow.lt ha.keys r e).1; omega))
  have hB2 : Below w.heap.size w (W1.setCell ⟨w.heap.size + 2, 4, none⟩ v') := hB1.setCell (by simp) _
  have hold : ∀ b, b < W.heap.size → b ≠ w.heap.size + 2 → some b ≠ rK.ownBlock → (W1.setCell ⟨w.heap.size + 2, 4, none⟩ v').heap[b]? = W.heap[b]? := fun b h1 h2 h3 => by
    rw [Below.heap_setCell _ _ _ _ h2, hg.block b (by omega) h3, Below.heap_alloc _ _ _ h1]
  have hP : ∀ b, PQ w P rI rK W b → PQ w P rI v' (W1.setCell ⟨w.heap.size + 2, 4, none⟩ v') b := fun b hb => hb.imp id fun hb => ⟨hb.1, by simp; have := hb.2.1; omega, hb.2.2.1, row_where hw hb.2.2.2 (by have := hb.2.1; omega)⟩
  have hcell : ∀ b o, PQ w P rI rK W b → (W1.setCell ⟨w.heap.size + 2, 4, none⟩ v').cell? ⟨b, o, none⟩ = W.cell? ⟨b, o, none⟩ := fun b o hb => World.cell?_of_block (by
    rcases hb with hb | hb
    · have := hB b hb
      exact hold b (by omega) (by omega) (hge b (by omega))
    · exact hold b hb.2.1 (by have := hb.1; omega) hb.2.2.2)
  refine ⟨v', W1, hr, own_form ho, (ha.bo.grown hg (hge _ (by omega))).frozen 4, by omega, fun o => ?_, hB2, (ha.bv.grown hg (hge _ (by omega))).far (by simp) _, (ha.br.grown hg (hge _ (by omega))).far (by simp) _, ?_, ?_, ?_, h.rows.keep hcell hP, ?_⟩
  · exact World.cell?_of_block (show W1.heap[w.heap.size + 2]? = W.heap[w.heap.size + 2]? by rw [hg.block _ (by omega) (hge _ (by omega)), Below.heap_alloc _ _ _ (by omega)])
  · have := (ha.bo.grown hg (hge _ (by omega))).set_ 4 v'
    simpa using this
  · exact own_set_far (ha.items.kept hg (two_apart ha.items ha.keys (by decide))) _ _ (own_ge ha.items (by simp))
  · have := own_set_far ho ⟨w.heap.size + 2, 4, none⟩ v' (own_ge ho (by simp))
    simpa using this
  · intro q hq
    rcases List.mem_append.1 hq with hq | hq
    · exact h.sizes q hq
    · rw [List.mem_singleton.1 hq]; exact hks
/-- What was collected, answered. -/
theorem WQ.done (h : WQ w P vc kd accI accK rI rK css W) (hB : ∀ b, P b → b < w.heap.size) :
    ∃ A c K d, rI = .slice A accI.length c ∧ rK = .slice K accK.length d ∧ LiesIn (fun b => P b ∨ Fresh w (put5 W (w.heap.size + 1) 0 u0 u1 u2 u3 u4) b) (put5 W (w.heap.size + 1) 0 u0 u1 u2 u3 u4) (.mk kd 0 ⟨#[]⟩ accI accK) A c K d ∧ Below w.heap.size w (put5 W (w.heap.size + 1) 0 u0 u1 u2 u3 u4) := by
  have hlt := h.lt
  have hr : RowsIn (fun b => P b ∨ (w.heap.size + 3 ≤ b ∧ b < W.heap.size)) W accI css := h.rows.keep (fun _ _ _ => rfl) (fun b hb => hb.imp id fun hb => ⟨hb.1, hb.2.1⟩)
  obtain ⟨A, c, rfl, hc1, hc2, hA⟩ := rows_lie hr h.items (fun b hb => .inr (World.ownsRow.lt h.items b hb))
  have hcK := fun g hg => World.ownsRow.cells h.keys (g := g) hg
  have h8 := h.keys
  obtain ⟨K, q, rfl, hq1, hq2, hK⟩ : ∃ K q, rK = .slice K accK.length q ∧ accK.length ≤ q ∧ q ≤ maxLen ∧ (accK = [] ∨ ∃ b, K = some ⟨b, 0, none⟩ ∧ (w.heap.size + 3 ≤ b ∧ b < W.heap.size) ∧ StrsFrom W accK b 0) := by
    have hlt := fun b hb => World.ownsRow.lt h8 b hb
    obtain ⟨hl, ⟨rfl, h0⟩ | ⟨g', cap, cur, rfl, hB, hb, hn, hm, hs, ht⟩⟩ := h8
    · exact ⟨none, 0, by rw [h0], by omega, by simp [maxLen], .inl (List.length_eq_zero_iff.1 h0)⟩
    · refine ⟨_, _, rfl, hn, hm, .inr ⟨g', rfl, hlt g' rfl, keys_from h.sizes fun j v hj => ?_⟩⟩
      have := hcK g' rfl j v hj
      rw [Addr.add_lit] at this
      exact this
  have hL : LiesIn (fun b => P b ∨ (w.heap.size + 3 ≤ b ∧ b < W.heap.size)) W (V.mk kd 0 ⟨#[]⟩ accI accK) A c K q := by
    rw [LiesIn]
    exact ⟨by decide, hc1, hc2, ⟨hq1, hq2, hK.imp id fun ⟨b, hKe, hb, hfr⟩ => ⟨b, 0, hKe, .inr hb, hfr⟩⟩, hA⟩
  have hs := put5_size W (w.heap.size + 1) 0 u0 u1 u2 u3 u4
  refine ⟨A, c, K, q, rfl, rfl, LiesIn.keep (fun b o hb => World.cell?_of_block (put5_heap W (w.heap.size + 1) 0 u0 u1 u2 u3 u4 ?_)) (fun b hb => hb.imp id fun hb => ⟨by have := hb.1; omega, by rw [hs]; exact hb.2⟩) _ hL, ((((h.old.setCell (by simp) _).setCell (by simp) _).setCell (by simp) _).setCell (by simp) _).setCell (by simp) _⟩
  show b ≠ w.heap.size + 1
  rcases (show P b ∨ (w.heap.size + 3 ≤ b ∧ b < W.heap.size) from hb) with hb | hb
  · have := hB b hb; omega
  · have := hb.1; omega
end
theorem inn_at {P : Nat → Prop} {w : World} {x : V} {A K : Option Addr} {c d j : Nat} (h : LiesIn P w x A c K d) (hj : j < x.items.length) : ∃ b o, A = some ⟨b, o, none⟩ ∧ P b ∧ LiesFromIn P w x.items b o :=
  (inn_items h).2.2.resolve_left fun e => by rw [e] at hj; simp at hj
theorem inn_key_at {P : Nat → Prop} {w : World} {x : V} {A K : Option Addr} {c d j : Nat} (h : LiesIn P w x A c K d) (hj : j < x.keys.length) : ∃ b o, K = some ⟨b, o, none⟩ ∧ P b ∧ ∀ j k, x.keys[j]? = some k → w.cell? ⟨b, o + j, none⟩ = some (.string k) ∧ k.size ≤ maxLen := by
  obtain ⟨b, o, e, hb, hf⟩ := (inn_keys h).2.2.resolve_left fun e => by rw [e] at hj; simp at hj
  exact ⟨b, o, e, hb, fun j k hk => hf.at_ hk⟩
open Go.RowKit
/-- What that taking out leaves. -/
def OutQ (P : Nat → Prop) (y : V) (w : World) (e : Ending) (w' : World) : Prop :=
  ∃ A c K d, e = .returned (aggOf y A c K d) ∧ LiesIn (fun b => P b ∨ Fresh w w' b) w' y A c K d ∧ Below w.heap.size w w'
theorem WQ.skip {w W : World} {P : Nat → Prop} {vc : Array Value} {kd : Int} {l : List V} {ks : List ByteArray} {r : List Stp} {n0 j : Nat} {yo y : V} {k : ByteArray} {rI rK : Value} {css : List (List Value)}
    (h : WQ w P vc kd (cutL (decide (r = [])) n0 yo (l.take j)) (keyCut kd (decide (r = [])) n0 k (ks.take j)) rI rK css W) (hr : r = []) (hj : j = n0) (hy : l[j]? = some y) (hk : kd = 5 → ks[j]? = some k) :
    WQ w P vc kd (cutL (decide (r = [])) n0 yo (l.take (j + 1))) (keyCut kd (decide (r = [])) n0 k (ks.take (j + 1))) rI rK css W := by
  subst hr hj
  have e1 : cutL (decide (([] : List Stp) = [])) j yo (l.take (j + 1)) = cutL (decide (([] : List Stp) = [])) j yo (l.take j) := cutL_skip hy
  have e2 : keyCut kd (decide (([] : List Stp) = [])) j k (ks.take (j + 1)) = keyCut kd (decide (([] : List Stp) = [])) j k (ks.take j) := by
    unfold keyCut
    by_cases h5 : kd = 5
    · rw [if_pos h5, if_pos h5]; exact cutL_skip (hk h5)
    · rw [if_neg h5, if_neg h5]
  rw [e1, e2]
  exact h
set_option maxRecDepth 100000 in
set_option maxHeartbeats 4000000 in
theorem out_in (P : Nat → Prop) (x : V) (i : Int) (k : ByteArray) (r : List Stp) (yo : V) (n0 : Nat) (w : World) (A K : Option Addr) (c d : Nat) (Ap : Option Addr) (cp : Nat)
    (hB : ∀ b, P b → b < w.heap.size) (hr0 : r = []) (hx : LiesIn P w x A c K d) (hp : PLies w w.heap.size Ap cp ((i, k) :: r)) (hok : x.ok = true) (hn : x.nodes ≤ 10000) (hs : stepB (i, k) = true)
    (hkind : x.kind = holderS (i, k)) (hn0 : n0 = whereV x (i, k)) (hlt : n0 < x.items.length) (hkey : x.kind = 5 → x.keys[n0]? = some k) :
    Calls Tryz.prog 54 #[.agg #[.int .i64 x.kind, .int .i64 x.int, .string x.text, .slice A x.items.length c, .slice K x.keys.length d], .slice Ap (r.length + 1) cp] w
      (OutQ P (.mk x.kind 0 ⟨#[]⟩ (cutL (decide (r = [])) n0 yo x.items) (keyCut x.kind (decide (r = [])) n0 k x.keys)) w) := by
  obtain ⟨R, hR⟩ : ∃ R, R = V.mk x.kind 0 ⟨#[]⟩ (cutL (decide (r = [])) n0 yo x.items) (keyCut x.kind (decide (r = [])) n0 k x.keys) := ⟨_, rfl⟩
  rw [← hR]
  have HR := Lib.hid hR
  clear hR
  obtain ⟨hp1, hp2, hp3⟩ := hp
  obtain ⟨b, o, rfl, hb, hf⟩ : ∃ b o, Ap = some ⟨b, o, none⟩ ∧ b < w.heap.size ∧ StepsFrom w ((i, k) :: r) b o := by
    rcases hp3 with h | h
    · simp at h
    · exact h
  have hcp : r.length + 1 ≤ cp := by simpa using hp1
  unfold maxLen at hp2
  obtain ⟨e0, e1, hks, hrest⟩ := hf
  have HP := Lib.hid fun W (hW : Below w.heap.size w W) => show PLies W W.heap.size (some ⟨b, o + 2, none⟩) (cp - 1) r from ⟨by omega, by unfold maxLen; omega, .inr ⟨b, o + 2, rfl, by have := hW.size; omega, hrest.keep fun o => bcell hW b o hb⟩⟩
  have HX := Lib.hid fun W (hW : Below w.heap.size w W) => show LiesIn P W x A c K d from LiesIn.keep (fun b o hb => bcell hW b o (hB b hb)) (fun _ h => h) x hx
  have HE := Lib.hid fun W (hW : Below w.heap.size w W) => (show W.cell? ⟨b, o, none⟩ = some (.int .i64 i) ∧ W.cell? ⟨b, o + 1, none⟩ = some (.string k) from ⟨(bcell hW b o hb).trans e0, (bcell hW b (o + 1) hb).trans e1⟩)
  have HB := Lib.hid hB
  have HRN := Lib.hid hr0
  obtain ⟨hr, hk1, hk2⟩ := okk hok
  have HLEN := Lib.hid (show x.items.length ≤ 10000 by have := nodes_items x; have := length_le_nodesL x.items; omega)
  obtain ⟨n, hnn⟩ : ∃ n, n = x.items.length := ⟨_, rfl⟩
  obtain ⟨m, hmm⟩ : ∃ m, m = x.keys.length := ⟨_, rfl⟩
  have HN := Lib.hid (And.intro hnn hmm)
  have HW0 := Lib.hid (WQ.start w P #[.int .i64 x.kind, .int .i64 x.int, .string x.text, .slice A n c, .slice K m d] x.kind)
  -- which item is meant
  have HSEL := Lib.hid (show ∀ j : Nat, j < n → (0 ≤ i → ((i = j) ↔ j = n0)) ∧ (i < 0 → ∀ kk, x.keys[j]? = some kk → (kk = k ↔ j = n0)) from fun j hj => ⟨fun h0 => by
    rw [hn0, show whereV x (i, k) = i.toNat by simp [whereV, findV, h0]]
    omega, fun h0 kk hkk => by
    have h5 : x.kind = 5 := by rw [hkind, holderS, if_pos h0]
    constructor
    · intro e
      subst e
      have := posK_at hr hkk
      rw [hn0, ← this]; simp [whereV, findV, show ¬ 0 ≤ i by omega]
    · intro e
      rw [e, hkey h5] at hkk
      exact (Option.some.inj hkk).symm⟩)
  have HKIND := Lib.hid (show (i < 0 → x.kind = 5) ∧ (¬ i < 0 → x.kind = 4) from ⟨fun h => by rw [hkind, holderS, if_pos h], fun h => by rw [hkind, holderS, if_neg h]⟩)
  have HI := Lib.hid (show i < 0 → i = -1 from fun h => by
    unfold stepB at hs
    by_cases e : i = -1
    · exact e
    · rw [if_neg (by simpa using e)] at hs; simp at hs; omega)
  have HKL := Lib.hid hk2
  have HN0 := Lib.hid (And.intro hlt hkey)
  have HKS := Lib.hid hks
  rw [← hnn, ← hmm]
  clear hx hr0 hp1 hp3 hok hn hs hkind hn0 hlt hkey hB hks hrest hr hk1 hk2 hnn hmm e0 e1
  have hr0 : (0 : Int) < (r.length : Int) + 1 := by omega
  have hr1 : (1 : Int) ≤ (r.length : Int) + 1 := by omega
  have hr2 : (r.length : Int) + 1 ≤ cp := by omega
  have hr3 : (1 : Int) ≤ cp := by omega
  go_enter Tryz.func54, Tryz.ntmps54
  go_upto_region 2 with (fail)
  obtain ⟨W0, hW0⟩ : ∃ W0, W0 = ((w.alloc (.cells #[.int .i64 x.kind, .int .i64 x.int, .string x.text, .slice A n c, .slice K m d] 27)).alloc (.cells zeroF 27)).alloc (.cells #[.int .i64 x.kind, .int .i64 0, .string ⟨#[]⟩, .slice none 0 0, .slice none 0 0] 27) := ⟨_, rfl⟩
  rw [← hW0] at HW0
  rw [show zeroF = #[.int .i64 0, .int .i64 0, .string ⟨#[]⟩, .slice none 0 0, .slice none 0 0] from rfl] at hW0
  rw [← hW0]
  clear hW0
  go_wp2_with fail
  go_loopw [6] (fun iv wr => ∃ (j : Nat) (rI rK : Value) (css : List (List Value)), iv = .int .i64 j ∧ j ≤ n ∧
      Hid (WQ w P #[.int .i64 x.kind, .int .i64 x.int, .string x.text, .slice A n c, .slice K m d] x.kind (cutL (decide (r = [])) n0 yo (x.items.take j)) (keyCut x.kind (decide (r = [])) n0 k (x.keys.take j)) rI rK css wr)) (fun iv _ => n - (intOf iv).toNat)
  case atStart => exact ⟨0, _, _, [], rfl, Nat.zero_le _, Lib.hid (by
    have := HW0.out
    simpa [cutL, keyCut] using this)⟩
  case round =>
    obtain ⟨j, rI, rK, css, rfl, hj, HW⟩ := hrel
    have hwl := HW.out.lt
    have hnb : n ≤ 10000 := by have := HLEN.out; have := HN.out.1; omega
    obtain ⟨v0, v1, v2, v3, v4⟩ := five_of HW.out.bv
    have vl := HW.out.bv.lt
    by_cases hlt : j < n
    · have hjn : (j : Int) < n := by omega
      have hj0 : (0 : Int) ≤ j := by omega
      have hji : j < x.items.length := by have := HN.out.1; omega
      obtain ⟨y, hy⟩ : ∃ y, x.items[j]? = some y := ⟨_, List.getElem?_eq_getElem hji⟩
      have hxw := HX.out wr HW.out.old
      obtain ⟨b2, o2, rfl, hb2, hfrom⟩ := inn_at hxw hji
      obtain ⟨Ay, cy, Ky, dy, ⟨y0, y1, y2, y3, y4⟩, hly⟩ := hfrom.at_ hy
      have HY := Lib.hid hy
      have HLY := Lib.hid hly
      clear hfrom hly hy hji
      go_upto_region 6 with (fail)
      obtain ⟨wb, hwb⟩ : ∃ wb, wb = wr.alloc (.cells #[.int .i64 y.kind, .int .i64 y.int, .string y.text, .slice Ay y.items.length cy, .slice Ky y.keys.length dy] 27) := ⟨_, rfl⟩
      have hbb : Below wr.heap.size wr wb := by rw [hwb]; exact below_al (Below.refl _ wr) _
      have HWb := Lib.hid (HW.out.below HB.out hbb)
      have HXb := Lib.hid (show BlockIs wb wr.heap.size 27 #[.int .i64 y.kind, .int .i64 y.int, .string y.text, .slice Ay y.items.length cy, .slice Ky y.keys.length dy] by rw [hwb]; exact BlockIs.new wr _ _)
      have HLb := Lib.hid (show LiesIn P wb y Ay cy Ky dy from LiesIn.keep (fun b o hb => bcell hbb b o (by have := HB.out b hb; have := HW.out.old.size; omega)) (fun _ h => h) y HLY.out)
      rw [← hwb]
      have HBB := Lib.hid hbb
      clear hwb hbb y0 y1 y2 y3 y4 v0 v1 v2 v3 v4 HLY
      go_cut [47] from 11 to 73 (fun bq wx => bq = .bool (decide (j = n0)) ∧ ∃ q, wx = wb.drewN q)
      case first =>
        obtain ⟨e0, e1⟩ := HE.out wb HWb.out.old
        have hbl : b < wb.heap.size := by have := HWb.out.old.size; omega
        obtain ⟨v0, v1, v2, v3, v4⟩ := five_of HWb.out.bv
        have vl := HWb.out.bv.lt
        have hjb : (j : Int) ≤ 9223372036854775807 := by have := HLEN.out; have := HN.out.1; omega
        by_cases hi : i < 0
        · have hi2 : decide (i < 0) = true := by simp [hi]
          have hij : (i == (j : Int)) = false := by rw [beq_eq_false_iff_ne]; omega
          have h5 := HKIND.out.1 hi
          have hm : j < x.keys.length := by have := HKL.out h5; have := HN.out.1; omega
          have hmi : (j : Int) < m := by have := HN.out.2; omega
          obtain ⟨kb, ko, rfl, hkb, hkf⟩ := inn_key_at (HX.out wb HWb.out.old) hm
          obtain ⟨kk, hkk⟩ : ∃ kk, x.keys[j]? = some kk := ⟨_, List.getElem?_eq_getElem hm⟩
          have hkc := (hkf j kk hkk).1
          have hsel := ((HSEL.out j hlt).2 hi kk hkk)
          clear hkf hkk hm h5 hxw
          by_cases hjn0 : j = n0
          · have hkq : (kk.toList == k.toList) = true := by rw [hsel.2 hjn0]; simp
            have HJ0 := Lib.hid (show decide (j = n0) = true by simp [hjn0])
            clear hjn0 hsel
            go_quiet (fail)
            go_wp2_with fail
            go_meet
            exact ⟨by rw [HJ0.out], nq, rfl⟩
          · have hkq : (kk.toList == k.toList) = false := by
              rw [beq_eq_false_iff_ne]
              intro e
              exact hjn0 (hsel.1 (eqT (by rw [e]; simp)))
            have HJ0 := Lib.hid (show decide (j = n0) = false by simp [hjn0])
            clear hjn0 hsel
            go_quiet (fail)
            go_wp2_with fail
            go_meet
            exact ⟨by rw [HJ0.out], nq, rfl⟩
        · have hi2 : decide (i < 0) = false := by simp; omega
          have hsel := (HSEL.out j hlt).1 (by omega)
          clear hxw
          by_cases hjn0 : j = n0
          · have hij : (i == (j : Int)) = true := by rw [beq_iff_eq]; exact hsel.2 hjn0
            have HJ0 := Lib.hid (show decide (j = n0) = true by simp [hjn0])
            clear hjn0 hsel
            go_quiet (fail)
            go_wp2_with fail
            go_meet
            exact ⟨by rw [HJ0.out], nq, rfl⟩
          · have hij : (i == (j : Int)) = false := by rw [beq_eq_false_iff_ne]; exact fun e => hjn0 (hsel.1 e)
            have HJ0 := Lib.hid (show decide (j = n0) = false by simp [hjn0])
            clear hjn0 hsel
            go_quiet (fail)
            go_wp2_with fail
            go_meet
            exact ⟨by rw [HJ0.out], nq, rfl⟩
      case rest =>
        obtain ⟨rfl, q, hwq⟩ := hcut
        have HKEY := Lib.hid (show j = n0 → x.kind = 5 → x.keys[j]? = some k from fun e h => by rw [e]; exact HN0.out.2 h)
        have HWc := Lib.hid (show WQ w P _ _ _ _ rI rK css wc by rw [hwq]; exact HWb.out.below HB.out (below_drewN (Below.refl _ wb) q))
        have HXc := Lib.hid (show BlockIs wc wr.heap.size 27 #[.int .i64 y.kind, .int .i64 y.int, .string y.text, .slice Ay y.items.length cy, .slice Ky y.keys.length dy] by rw [hwq]; exact HXb.out.drewN q)
        have HLc := Lib.hid (show LiesIn P wc y Ay cy Ky dy by rw [hwq]; exact LiesIn.keep (w := wb) (w' := wb.drewN q) (fun _ _ _ => rfl) (fun _ h => h) y HLb.out)
        have HBc := Lib.hid (show Below wr.heap.size wr wc by rw [hwq]; exact HBB.out.trans ((below_drewN (Below.refl _ wb) q).mono HBB.out.size))
        clear hwq HWb HXb HLb HSEL HKIND HI HN0 hxw HBB
        obtain ⟨bq, hbq⟩ : ∃ bq, decide (j = n0) = bq := ⟨_, rfl⟩
        rw [hbq]
        have HBQ := Lib.hid hbq
        clear hbq
        go_upto_if 47 with (fail)
        go_cut [] from 11 to 73 (fun wx => ∃ (y' : V) (A' K' : Option Addr) (c' d' : Nat), Hid (WQ w P #[.int .i64 x.kind, .int .i64 x.int, .string x.text, .slice (some ⟨b2, o2, none⟩) n c, .slice K m d] x.kind (cutL (decide (r = [])) n0 yo (x.items.take j)) (keyCut x.kind (decide (r = [])) n0 k (x.keys.take j)) rI rK css wx) ∧ Hid (BlockIs wx wr.heap.size 27 #[.int .i64 y'.kind, .int .i64 y'.int, .string y'.text, .slice A' y'.items.length c', .slice K' y'.keys.length d']) ∧ Hid (LiesIn (PQ w P rI rK wx) wx y' A' c' K' d') ∧ Hid (cutL (decide (r = [])) n0 yo (x.items.take (j + 1)) = cutL (decide (r = [])) n0 yo (x.items.take j) ++ [y'] ∧ (j = n0 → ¬ r = [])))
        case first =>
          cases bq
          case true =>
            have HJ0 := Lib.hid (of_decide_eq_true HBQ.out)
            clear HBQ
            by_cases hr : r = []
            · have hr4 : ((r.length : Int) + 1 == 1) = true := by rw [hr]; rfl
              have HR0 := Lib.hid hr
              clear hr
              go_wp2_with fail
              go_roundw
              case rel => exact ⟨j + 1, rI, rK, css, by go_num, by omega, Lib.hid (WQ.skip HWc.out HR0.out HJ0.out HY.out (HKEY.out HJ0.out))⟩
              case measure => simp [intOf]; omega
            · exact absurd HRN.out hr
          case false =>
            have HJN := Lib.hid (of_decide_eq_false HBQ.out)
            clear HBQ
            go_wp2_with fail
            go_meet
            exact ⟨y, _, _, _, _, HWc, HXc, Lib.hid (LiesIn.keep (fun _ _ _ => rfl) (fun b hb => .inl hb) y HLc.out), Lib.hid ⟨cutL_keep HY.out HJN.out, fun e => absurd e HJN.out⟩⟩
        case rest =>
          obtain ⟨y', A', K', c', d', HWd, HXd, HLd, HCUT⟩ := hcut
          have HKL2 := Lib.hid (show x.kind = 5 → ∀ kk, x.keys[j]? = some kk → keyCut x.kind (decide (r = [])) n0 k (x.keys.take (j + 1)) = keyCut x.kind (decide (r = [])) n0 k (x.keys.take j) ++ [kk] from fun h5 kk hkk => keyCut_more h5 hkk HKEY.out HCUT.out.2)
          have HKN := Lib.hid (show ¬ x.kind = 5 → keyCut x.kind (decide (r = [])) n0 k (x.keys.take (j + 1)) = keyCut x.kind (decide (r = [])) n0 k (x.keys.take j) from fun h5 => by unfold keyCut; rw [if_neg h5, if_neg h5])
          have HIN := Lib.hid HCUT.out.1
          have HLE := Lib.hid (And.intro (show (cutL (decide (r = [])) n0 yo (x.items.take j)).length ≤ 10000 from Nat.le_trans cutL_len (by rw [List.length_take]; omega)) (show (keyCut x.kind (decide (r = [])) n0 k (x.keys.take j)).length ≤ 10000 from Nat.le_trans keyCut_len (by rw [List.length_take]; omega)))
          obtain ⟨aI, haI⟩ : ∃ aI, aI = cutL (decide (r = [])) n0 yo (x.items.take j) := ⟨_, rfl⟩
          obtain ⟨aK, haK⟩ : ∃ aK, aK = keyCut x.kind (decide (r = [])) n0 k (x.keys.take j) := ⟨_, rfl⟩
          rw [← haI, ← haK] at HWd HLE
          rw [← haI] at HIN
          rw [← haK] at HKL2 HKN
          clear haI haK HCUT HKEY HXc HLc HWc HY HP HE HW
          obtain ⟨rA, rc, rfl⟩ := own_form HWd.out.items
          obtain ⟨rB, rd, rfl⟩ := own_form HWd.out.keys
          obtain ⟨va, Wa, hra, ⟨va1, va2, rfl⟩, hca, hfa, hla, hwa⟩ := WQ.item HWd.out HB.out HLd.out HLE.out.1
          have HRA := Lib.hid hra
          have HWA := Lib.hid hwa
          obtain ⟨p0, p1, p2, p3, p4⟩ := five_of HWd.out.bo
          obtain ⟨q0, q1, q2, q3, q4⟩ := five_of HXd.out
          have pl := HWd.out.bo.lt
          have ql := HXd.out.lt
          have hc3 := (hca 3).trans p3
          clear hra hwa hca
          go_upto_region 10 with (at_builtin; refine Lib.wpList_append_run _ rfl _ _ _ _ rfl _ _ rfl rfl _ _ HRA.out ?_)
          obtain ⟨W2, hW2⟩ : ∃ W2, W2 = Wa.setCell ⟨w.heap.size + 2, 3, none⟩ (.slice va1 (aI.length + 1) va2) := ⟨_, rfl⟩
          rw [← hW2] at HWA ⊢
          clear hW2 hc3 hfa hla p0 p1 p2 p3 p4 q0 q1 q2 q3 q4 pl ql HRA HWd HXd HLd
          obtain ⟨v0, v1, v2, v3, v4⟩ := five_of HWA.out.bv
          have vl := HWA.out.bv.lt
          by_cases h5 : x.kind = 5
          · have h5b : (x.kind == 5) = true := by rw [beq_iff_eq]; exact h5
            have hm : j < x.keys.length := by have := HKL.out h5; have := HN.out.1; omega
            have hmi : (j : Int) < m := by have := HN.out.2; omega
            obtain ⟨kb, ko, rfl, hkb, hkf⟩ := inn_key_at (HX.out W2 HWA.out.old) hm
            obtain ⟨kk, hkk⟩ : ∃ kk, x.keys[j]? = some kk := ⟨_, List.getElem?_eq_getElem hm⟩
            have hkc := (hkf j kk hkk).1
            have hkbl : kb < W2.heap.size := by have := HB.out kb hkb; have := HWA.out.lt; omega
            have HK5 := Lib.hid (HKL2.out h5 kk hkk)
            have HWD := Lib.hid (show WQ w P _ _ _ _ _ _ _ W2.drew from HWA.out.below HB.out (Below.refl _ W2).drew)
            obtain ⟨vb, Wb, hrb, ⟨vb1, vb2, rfl⟩, hfb, hlb, hcb, hwb2⟩ := WQ.key HWD.out HB.out (hkf j kk hkk).2 HLE.out.2
            have HRB := Lib.hid hrb
            have HWB := Lib.hid hwb2
            obtain ⟨p0, p1, p2, p3, p4⟩ := five_of HWA.out.bo
            have pl := HWA.out.bo.lt
            have hc4 := (hcb 4).trans p4
            clear hrb hwb2 hcb hkf hkk hm h5 HKN HKL2
            go_upto_region 11 with (fail)
            go_region_law (refine step_append_run (by rfl) _ _ _ _ (by rfl) _ _ (by rfl) (by rfl) _ _ HRB.out ?_)
            all_goals
              go_wp2_with fail
              go_roundw
              case rel => exact ⟨j + 1, _, _, _, by go_num, by omega, Lib.hid (by rw [HIN.out, HK5.out]; exact HWB.out)⟩
              case measure => simp [intOf]; omega
          · have h5b : (x.kind == 5) = false := by rw [beq_eq_false_iff_ne]; exact h5
            have HK5 := Lib.hid (HKN.out h5)
            clear h5
            go_wp2_with fail
            go_roundw
            case rel => exact ⟨j + 1, _, _, _, by go_num, by omega, Lib.hid (by rw [HIN.out, HK5.out]; exact HWA.out)⟩
            case measure => simp [intOf]; omega
    · have hjn : ¬ ((j : Int) < n) := by omega
      have HD := Lib.hid (show R = V.mk x.kind 0 ⟨#[]⟩ (cutL (decide (r = [])) n0 yo (x.items.take j)) (keyCut x.kind (decide (r = [])) n0 k (x.keys.take j)) by
        rw [HR.out]
        have h1 : x.items.take j = x.items := List.take_of_length_le (by have := HN.out.1; omega)
        rw [h1]
        congr 1
        unfold keyCut
        by_cases h5 : x.kind = 5
        · rw [if_pos h5, if_pos h5, List.take_of_length_le (by have := HKL.out h5; have := HN.out.1; omega)]
        · rw [if_neg h5, if_neg h5])
      obtain ⟨aI, haI⟩ : ∃ aI, aI = cutL (decide (r = [])) n0 yo (x.items.take j) := ⟨_, rfl⟩
      obtain ⟨aK, haK⟩ : ∃ aK, aK = keyCut x.kind (decide (r = [])) n0 k (x.keys.take j) := ⟨_, rfl⟩
      rw [← haI, ← haK] at HW HD
      clear haI haK HR HSEL HKIND HI HKL HN0 HP HE HX
      have hdone := fun u0 u1 u2 u3 u4 => WQ.done (u0 := u0) (u1 := u1) (u2 := u2) (u3 := u3) (u4 := u4) HW.out HB.out
      obtain ⟨rA, rc, rB, rd, rfl, rfl, -, -⟩ := hdone (.int .i64 0) (.int .i64 0) (.int .i64 0) (.int .i64 0) (.int .i64 0)
      have HDN := Lib.hid (show ∀ u0 u1 u2 u3 u4, OutQ P R w (.returned (aggOf R rA rc rB rd)) (put5 wr (w.heap.size + 1) 0 u0 u1 u2 u3 u4) from fun u0 u1 u2 u3 u4 => by
        obtain ⟨A, c, K, d, e1, e2, h1, h2⟩ := hdone u0 u1 u2 u3 u4
        cases e1
        cases e2
        rw [HD.out]
        exact ⟨_, _, _, _, rfl, h1, h2⟩)
      clear hdone
      obtain ⟨p0, p1, p2, p3, p4⟩ := five_of HW.out.bo
      obtain ⟨r0, r1, r2, r3, r4⟩ := five_of (show BlockIs wr (w.heap.size + 1) 27 #[.int .i64 0, .int .i64 0, .string ⟨#[]⟩, .slice none 0 0, .slice none 0 0] from HW.out.br)
      have f0 := HW.out.br.frozen 0
      have f1 := HW.out.br.frozen 1
      have f2 := HW.out.br.frozen 2
      have f3 := HW.out.br.frozen 3
      have f4 := HW.out.br.frozen 4
      have rl := HW.out.br.lt
      have pl := HW.out.bo.lt
      go_wp2_with fail
      refine bodyPost_ret (v := .agg #[.int .i64 x.kind, .int .i64 0, .string ⟨#[]⟩, .slice rA aI.length rc, .slice rB aK.length rd]) (by simp [results, Tryz.results54, go_sem, r0, r1, r2, r3, r4]) rfl ?_
      have hfin := HDN.out (.int .i64 x.kind) (.int .i64 0) (.string ⟨#[]⟩) (.slice rA aI.length rc) (.slice rB aK.length rd)
      rw [show aggOf R rA rc rB rd = .agg #[.int .i64 x.kind, .int .i64 0, .string ⟨#[]⟩, .slice rA aI.length rc, .slice rB aK.length rd] by rw [HD.out]; rfl] at hfin
      exact hfin
end Go.Proofs.YtebmjefimbcefaaGreatDoor
