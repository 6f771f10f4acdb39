/- The specification's look for an item, walked. -/
import Derived.Test.YtmhijdpahejaiaaDoorVc
namespace Go.Proofs.YtmhijdpahejaiaaDoor
open Go.RowKit

/-- The three boxes of that look. -/
structure IBox (w : World) (B : Nat) (x : V) (A : Option Addr) (c : Nat) (K : Option Addr) (d : Nat) (i : Int) (t : ByteArray) (W : World) : Prop where
  old : Below w.heap.size w W
  bx : BlockIs W w.heap.size 25 #[.int .i64 x.kind, .int .i64 x.int, .string x.text, .slice A x.items.length c, .slice K x.keys.length d]
  bs : BlockIs W (w.heap.size + 1) 51 #[.int .i64 i, .string t]
  br : BlockIs W (w.heap.size + 2) 25 zeroF
  lies : Lies W B x A c K d
theorem IBox.start (w : World) (B : Nat) (hB : B ≤ w.heap.size) (x : V) (A : Option Addr) (c : Nat) (K : Option Addr) (d : Nat) (i : Int) (t : ByteArray) (h : Lies w B x A c K d) :
    IBox w B x A c K d i t (((w.alloc (.cells #[.int .i64 x.kind, .int .i64 x.int, .string x.text, .slice A x.items.length c, .slice K x.keys.length d] 25)).alloc (.cells #[.int .i64 i, .string t] 51)).alloc (.cells zeroF 25)) := by
  have hb : Below w.heap.size w (((w.alloc (.cells #[.int .i64 x.kind, .int .i64 x.int, .string x.text, .slice A x.items.length c, .slice K x.keys.length d] 25)).alloc (.cells #[.int .i64 i, .string t] 51)).alloc (.cells zeroF 25)) := below_al (below_al (below_al (Below.refl _ w) _) _) _
  exact ⟨hb, ((BlockIs.new w _ _).alloc _).alloc _, (BlockIs.newAt _ _ _ (by simp)).alloc _, BlockIs.newAt _ _ _ (by simp), Lies.keep (fun b o hb' => bcell hb b o (by omega)) (Nat.le_refl _) _ h⟩
theorem IBox.drewN {w W : World} {B : Nat} {x : V} {A K : Option Addr} {c d : Nat} {i : Int} {t : ByteArray} (h : IBox w B x A c K d i t W) (q : Nat) : IBox w B x A c K d i t (W.drewN q) :=
  ⟨below_drewN h.old q, h.bx, h.bs, h.br, Lies.keep (w := W) (w' := W.drewN q) (fun _ _ _ => rfl) (Nat.le_refl _) _ h.lies⟩
theorem IBox.put5 {w W : World} {B : Nat} {x : V} {A K : Option Addr} {c d : Nat} {i : Int} {t : ByteArray} (h : IBox w B x A c K d i t W) {u0 u1 u2 u3 u4 : Value} : Below w.heap.size w (Go.Proofs.YtmhijdpahejaiaaDoor.put5 W (w.heap.size + 2) 0 u0 u1 u2 u3 u4) :=
  ((((h.old.setCell (by simp) _).setCell (by simp) _).setCell (by simp) _).setCell (by simp) _).setCell (by simp) _
theorem IBox.item {w W : World} {B : Nat} {x y : V} {A K Ay Ky : Option Addr} {c d cy dy : Nat} {i : Int} {t : ByteArray} (_h : IBox w B x A c K d i t W) {u0 u1 u2 u3 u4 : Value} (hB : B ≤ w.heap.size) (hy : Lies W B y Ay cy Ky dy) :
    Lies (Go.Proofs.YtmhijdpahejaiaaDoor.put5 W (w.heap.size + 2) 0 u0 u1 u2 u3 u4) B y Ay cy Ky dy := by
  exact Lies.keep (fun b o hb => World.cell?_of_block (put5_heap W (w.heap.size + 2) 0 u0 u1 u2 u3 u4 (show b ≠ w.heap.size + 2 by omega))) (Nat.le_refl _) _ hy

set_option maxRecDepth 100000 in
set_option maxHeartbeats 8000000 in
theorem item_any (B : Nat) (x : V) (s : Stp) (w : World) (A K : Option Addr) (c d : Nat) (hBw : B ≤ w.heap.size) (h : Lies w B x A c K d) (hok : x.ok = true) :
    Calls Tryd.prog 59 #[aggOf x A c K d, stepV s] w (ItemPost B (itemV x s) w) := by
  obtain ⟨i, t⟩ := s
  unfold stepV aggOf
  simp only
  obtain ⟨hr, hk1, hk2⟩ := okk hok
  have hlen : x.items.length ≤ maxLen := by have := (lies_items h).1; have := (lies_items h).2.1; omega
  have hklen : x.keys.length ≤ maxLen := by have := (lies_keys h).1; have := (lies_keys h).2.1; omega
  unfold maxLen at hlen hklen
  obtain ⟨R, hR⟩ : ∃ R, R = itemV x (i, t) := ⟨_, rfl⟩
  rw [← hR]
  have HR := Lib.hid hR
  obtain ⟨W, hW⟩ : ∃ W, W = ((w.alloc (.cells #[.int .i64 x.kind, .int .i64 x.int, .string x.text, .slice A x.items.length c, .slice K x.keys.length d] 25)).alloc (.cells #[.int .i64 i, .string t] 51)).alloc (.cells #[.int .i64 0, .int .i64 0, .string ⟨#[]⟩, .slice none 0 0, .slice none 0 0] 25) := ⟨_, rfl⟩
  have hB : IBox w B x A c K d i t W := by rw [hW]; exact IBox.start w B hBw x A c K d i t h
  have HB := Lib.hid hB
  have HW := Lib.hid hW
  have HRK := Lib.hid hr
  have HK2 := Lib.hid hk2
  have HK1 := Lib.hid hk1
  clear hB hW h hok hr hk1 hk2 hR
  obtain ⟨z0, z1, z2, z3, z4⟩ := five_of (show BlockIs W (w.heap.size + 1 + 1) 25 #[.int .i64 0, .int .i64 0, .string ⟨#[]⟩, .slice none 0 0, .slice none 0 0] from HB.out.br)
  obtain ⟨b0, b1, b2, b3, b4⟩ := five_of (show BlockIs W w.heap.size 25 #[.int .i64 x.kind, .int .i64 x.int, .string x.text, .slice A x.items.length c, .slice K x.keys.length d] from HB.out.bx)
  obtain ⟨s0, s1⟩ : (W).cell? ⟨w.heap.size + 1, 0, none⟩ = Option.some (.int .i64 i) ∧ (W).cell? ⟨w.heap.size + 1, 1, none⟩ = Option.some (.string t) := ⟨HB.out.bs.cell 0, HB.out.bs.cell 1⟩
  have x0 : (W).frozen? ⟨w.heap.size + 1 + 1, 0, none⟩ = false := HB.out.br.frozen 0
  have x1 : (W).frozen? ⟨w.heap.size + 1 + 1, 1, none⟩ = false := HB.out.br.frozen 1
  have x2 : (W).frozen? ⟨w.heap.size + 1 + 1, 2, none⟩ = false := HB.out.br.frozen 2
  have x3 : (W).frozen? ⟨w.heap.size + 1 + 1, 3, none⟩ = false := HB.out.br.frozen 3
  have x4 : (W).frozen? ⟨w.heap.size + 1 + 1, 4, none⟩ = false := HB.out.br.frozen 4
  have zl : w.heap.size + 1 + 1 < (W).heap.size := HB.out.br.lt
  by_cases h0 : 0 ≤ i
  · by_cases h4 : x.kind = 4
    · have hd : (x.kind == 4) = true := by simp [h4]
      have H4 := Lib.hid h4
      clear h4
      obtain ⟨k, rfl⟩ : ∃ k : Nat, i = k := ⟨i.toNat, by omega⟩
      by_cases hl : (x.items.length : Int) ≤ k
      · have HN := Lib.hid (show R = none by rw [HR.out]; simp [itemV, H4.out, List.getElem?_eq_none (show x.items.length ≤ k by omega)])
        go_enter Tryd.func59, Tryd.ntmps59
        go_upto_region 1 with (fail)
        rw [← HW.out]
        go_wp2_with fail
        refine bodyPost_ret (v := .tuple #[aggOf (leaf 0 0 ⟨#[]⟩) none 0 none 0, .bool false]) (by simp [results, Tryd.results59, go_sem, aggOf, leaf, V.kind, V.int, V.text, V.items, V.keys, z0, z1, z2, z3, z4]) rfl ?_
        rw [HN.out]
        exact ⟨HB.out.put5, rfl⟩
      · obtain ⟨y, hy1, hy2⟩ := step_list (t := t) h0 H4.out hl
        have HY := Lib.hid (show R = Option.some y by rw [HR.out]; exact hy1)
        rcases (lies_items HB.out.lies).2.2 with hn | ⟨b, o, rfl, hbB, hf⟩
        · rw [hn] at hl; simp at hl
        · obtain ⟨Ay, cy, Ky, dy, e0, e1, e2, e3, e4, hly⟩ := hf.at_ (show x.items[k]? = Option.some y from hy2)
          have HLY := Lib.hid hly
          clear hy1 hy2 hf hly
          go_enter Tryd.func59, Tryd.ntmps59
          go_upto_region 1 with (fail)
          rw [← HW.out]
          go_wp2_with fail
          refine bodyPost_ret (v := .tuple #[aggOf y Ay cy Ky dy, .bool true]) (by simp [results, Tryd.results59, go_sem, aggOf, z0, z1, z2, z3, z4]) rfl ?_
          rw [HY.out]
          exact ⟨HB.out.put5, _, _, _, _, rfl, HB.out.item hBw HLY.out⟩
    · have hd : (x.kind == 4) = false := by simp [h4]
      have HN := Lib.hid (show R = none by rw [HR.out]; simp [itemV, h0, h4])
      go_enter Tryd.func59, Tryd.ntmps59
      go_upto_region 1 with (fail)
      rw [← HW.out]
      go_wp2_with fail
      refine bodyPost_ret (v := .tuple #[aggOf (leaf 0 0 ⟨#[]⟩) none 0 none 0, .bool false]) (by simp [results, Tryd.results59, go_sem, aggOf, leaf, V.kind, V.int, V.text, V.items, V.keys, z0, z1, z2, z3, z4]) rfl ?_
      rw [HN.out]
      exact ⟨HB.out.put5, rfl⟩
  · by_cases h5 : x.kind = 5
    · have hd : (x.kind == 5) = true := by simp [h5]
      have H0 := Lib.hid h0
      have HL5 := Lib.hid (HK2.out h5)
      clear h5
      obtain ⟨n, hn⟩ : ∃ n, n = x.keys.length := ⟨_, rfl⟩
      have HNN := Lib.hid hn
      rw [← hn] at b4 hklen
      clear hn
      go_enter Tryd.func59, Tryd.ntmps59
      go_upto_region 1 with (fail)
      rw [← HW.out]
      go_wp2_with fail
      go_loopw [6] (fun iv wr => ∃ j : Nat, iv = .int .i64 j ∧ j ≤ n ∧ Hid (IBox w B x A c K d i t wr ∧ ∀ t', t' < j → x.keys[t']? ≠ Option.some t)) (fun iv _ => n - (intOf iv).toNat)
      case atStart => exact ⟨0, rfl, Nat.zero_le _, Lib.hid ⟨HB.out, fun t' h => absurd h (Nat.not_lt_zero t')⟩⟩
      case round =>
        obtain ⟨j, rfl, hj, hI⟩ := hrel
        have HBI := Lib.hid hI.out.1
        have HNO := Lib.hid hI.out.2
        clear hI z0 z1 z2 z3 z4 b0 b1 b2 b3 b4 s0 s1 x0 x1 x2 x3 x4 zl
        obtain ⟨z0, z1, z2, z3, z4⟩ := five_of (show BlockIs wr (w.heap.size + 1 + 1) 25 #[.int .i64 0, .int .i64 0, .string ⟨#[]⟩, .slice none 0 0, .slice none 0 0] from HBI.out.br)
        obtain ⟨b0, b1, b2, b3, b4⟩ := five_of (show BlockIs wr w.heap.size 25 #[.int .i64 x.kind, .int .i64 x.int, .string x.text, .slice A x.items.length c, .slice K x.keys.length d] from HBI.out.bx)
        obtain ⟨s0, s1⟩ : (wr).cell? ⟨w.heap.size + 1, 0, none⟩ = Option.some (.int .i64 i) ∧ (wr).cell? ⟨w.heap.size + 1, 1, none⟩ = Option.some (.string t) := ⟨HBI.out.bs.cell 0, HBI.out.bs.cell 1⟩
        have x0 : (wr).frozen? ⟨w.heap.size + 1 + 1, 0, none⟩ = false := HBI.out.br.frozen 0
        have x1 : (wr).frozen? ⟨w.heap.size + 1 + 1, 1, none⟩ = false := HBI.out.br.frozen 1
        have x2 : (wr).frozen? ⟨w.heap.size + 1 + 1, 2, none⟩ = false := HBI.out.br.frozen 2
        have x3 : (wr).frozen? ⟨w.heap.size + 1 + 1, 3, none⟩ = false := HBI.out.br.frozen 3
        have x4 : (wr).frozen? ⟨w.heap.size + 1 + 1, 4, none⟩ = false := HBI.out.br.frozen 4
        have zl : w.heap.size + 1 + 1 < (wr).heap.size := HBI.out.br.lt
        rw [← HNN.out] at b4
        by_cases hlt : j < n
        · have hj2 : j < x.keys.length := by rw [← HNN.out]; exact hlt
          obtain ⟨kk, hkk⟩ : ∃ kk, x.keys[j]? = Option.some kk := ⟨_, List.getElem?_eq_getElem hj2⟩
          rcases (lies_keys HBI.out.lies).2.2 with hn | ⟨b, o, rfl, hbB, hf⟩
          · rw [hn] at hj2; simp at hj2
          · have hv := (hf.at_ hkk).1
            have HC := Lib.hid hkk
            clear hf hkk hj2
            cases hkeq : (kk.toList == t.toList)
            · have HKQ := Lib.hid (neT hkeq)
              go_wp2_with fail
              go_quiet (fail)
              go_wp2_with fail
              go_roundw
              case rel =>
                refine ⟨j + 1, by go_num, by omega, Lib.hid ⟨HBI.out.drewN _, fun t' ht => ?_⟩⟩
                by_cases e : t' = j
                · rw [e, HC.out]; exact fun e => HKQ.out (Option.some.inj e)
                · exact HNO.out t' (by omega)
              case measure => simp [intOf]; omega
            · have hkt := eqT hkeq
              obtain ⟨y, hy1, hy2⟩ := step_key (show ¬ 0 ≤ i by have := H0.out; omega) HRK.out HL5.out (show x.keys[j]? = Option.some t by rw [HC.out, hkt])
              have HY := Lib.hid (show R = Option.some y by rw [HR.out]; exact hy1)
              clear hkt
              rcases (lies_items HBI.out.lies).2.2 with hn | ⟨b', o', rfl, hbB', hf⟩
              · rw [hn] at hy2; simp at hy2
              · obtain ⟨Ay, cy, Ky, dy, e0, e1, e2, e3, e4, hly⟩ := hf.at_ hy2
                have HLY := Lib.hid hly
                have hjl : j < x.items.length := (List.getElem?_eq_some_iff.1 hy2).1
                clear hy1 hy2 hf hly
                go_wp2_with fail
                go_quiet (fail)
                have HQ := Lib.hid (HBI.out.drewN nq)
                have HLY := Lib.hid (show Lies (wr.drewN nq) B y Ay cy Ky dy from Lies.keep (w := wr) (w' := wr.drewN nq) (fun _ _ _ => rfl) (Nat.le_refl _) _ HLY.out)
                go_wp2_with fail
                refine bodyPost_ret (v := .tuple #[aggOf y Ay cy Ky dy, .bool true]) (by simp [results, Tryd.results59, go_sem, aggOf, z0, z1, z2, z3, z4]) rfl ?_
                rw [HY.out]
                exact ⟨HQ.out.put5, _, _, _, _, rfl, HQ.out.item hBw HLY.out⟩
        · have HN := Lib.hid (show R = none by
            rw [HR.out]
            exact step_nokey (show ¬ 0 ≤ i by have := H0.out; omega) (fun t' ht => HNO.out t' (by have := HNN.out; omega)))
          go_wp2_with fail
          refine bodyPost_ret (v := .tuple #[aggOf (leaf 0 0 ⟨#[]⟩) none 0 none 0, .bool false]) (by simp [results, Tryd.results59, go_sem, aggOf, leaf, V.kind, V.int, V.text, V.items, V.keys, z0, z1, z2, z3, z4]) rfl ?_
          rw [HN.out]
          exact ⟨HBI.out.put5, rfl⟩
    · have hd : (x.kind == 5) = false := by simp [h5]
      have HN := Lib.hid (show R = none by
        rw [HR.out]
        have := HK1.out h5
        unfold itemV
        rw [if_neg h0, this]
        rfl)
      go_enter Tryd.func59, Tryd.ntmps59
      go_upto_region 1 with (fail)
      rw [← HW.out]
      go_wp2_with fail
      refine bodyPost_ret (v := .tuple #[aggOf (leaf 0 0 ⟨#[]⟩) none 0 none 0, .bool false]) (by simp [results, Tryd.results59, go_sem, aggOf, leaf, V.kind, V.int, V.text, V.items, V.keys, z0, z1, z2, z3, z4]) rfl ?_
      rw [HN.out]
      exact ⟨HB.out.put5, rfl⟩
end Go.Proofs.YtmhijdpahejaiaaDoor
