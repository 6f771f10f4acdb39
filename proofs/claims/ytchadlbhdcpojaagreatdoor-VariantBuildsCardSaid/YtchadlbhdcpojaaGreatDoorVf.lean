/- A value copied, walked. -/
import Derived.Test.YtchadlbhdcpojaaGreatDoorVe
import Derived.Deep.RegionLaw
namespace Go.Proofs.YtchadlbhdcpojaaGreatDoor
open Go.RowKit

theorem CS.start {w W1 : World} {x : V} {A K K1 : Option Addr} {c d d1 : Nat}
    (hb : Below ((w.alloc (.cells #[.int .i64 x.kind, .int .i64 x.int, .string x.text, .slice A x.items.length c, .slice K x.keys.length d] 27)).alloc (.cells zeroF 27)).heap.size ((w.alloc (.cells #[.int .i64 x.kind, .int .i64 x.int, .string x.text, .slice A x.items.length c, .slice K x.keys.length d] 27)).alloc (.cells zeroF 27)) W1)
    (hk : StrsIn (Fresh ((w.alloc (.cells #[.int .i64 x.kind, .int .i64 x.int, .string x.text, .slice A x.items.length c, .slice K x.keys.length d] 27)).alloc (.cells zeroF 27)) W1) W1 K1 d1 x.keys) :
    CS w x K1 d1 [] (.slice none 0 0) [] ((W1.setCell ⟨w.heap.size, 4, none⟩ (.slice K1 x.keys.length d1)).setCell ⟨w.heap.size, 3, none⟩ (.slice none 0 0)) := by
  have h1 := below_on (below_al (below_al (Below.refl _ w) (.cells #[.int .i64 x.kind, .int .i64 x.int, .string x.text, .slice A x.items.length c, .slice K x.keys.length d] 27)) (.cells zeroF 27)) hb
  have bv := ((BlockIs.new w 27 #[.int .i64 x.kind, .int .i64 x.int, .string x.text, .slice A x.items.length c, .slice K x.keys.length d]).alloc (.cells zeroF 27)).below hb (by simp; omega)
  have br : BlockIs W1 (w.heap.size + 1) 27 zeroF := (BlockIs.newAt _ _ _ (by simp)).below hb (by simp)
  have hz : ((W1.setCell ⟨w.heap.size, 4, none⟩ (.slice K1 x.keys.length d1)).setCell ⟨w.heap.size, 3, none⟩ (.slice none 0 0)).heap.size = W1.heap.size := by simp
  have hfar : ∀ b, w.heap.size + 2 ≤ b → ((W1.setCell ⟨w.heap.size, 4, none⟩ (.slice K1 x.keys.length d1)).setCell ⟨w.heap.size, 3, none⟩ (.slice none 0 0)).heap[b]? = W1.heap[b]? := fun b hb => by
    rw [Below.heap_setCell _ _ _ _ (show b ≠ w.heap.size by omega), Below.heap_setCell _ _ _ _ (show b ≠ w.heap.size by omega)]
  have hge : ∀ b, Fresh ((w.alloc (.cells #[.int .i64 x.kind, .int .i64 x.int, .string x.text, .slice A x.items.length c, .slice K x.keys.length d] 27)).alloc (.cells zeroF 27)) W1 b → w.heap.size + 2 ≤ b ∧ b < W1.heap.size := fun b hb => ⟨by have := hb.1; simp at this; omega, hb.2⟩
  refine ⟨(h1.setCell (by simp) _).setCell (by simp) _, ?_, (br.far (by simp) _).far (by simp) _, World.ownsRow_nil _ _ _ _, trivial, ?_⟩
  · have := (bv.set_ 4 (.slice K1 x.keys.length d1)).set_ 3 (.slice none 0 0)
    simpa using this
  · exact hk.keep (fun b o hb => World.cell?_of_block (hfar b (hge b hb).1)) (fun b hb => ⟨(hge b hb).1, by rw [hz]; exact (hge b hb).2, fun f hf => by rw [List.mem_singleton.1 hf]; simp [Value.ownBlock]⟩)

set_option maxRecDepth 100000 in
set_option maxHeartbeats 16000000 in
theorem copied_step (x : V) (w : World) (A K : Option Addr) (c d : Nat) (h60 : x.nodes ≤ 60) (hok : x.ok = true) (h : Lies w w.heap.size x A c K d)
    (ih : ∀ y ∈ x.items, ∀ (W : World) (A K : Option Addr) (c d : Nat), Lies W W.heap.size y A c K d → Calls Tryz.prog 19 #[.agg #[.int .i64 y.kind, .int .i64 y.int, .string y.text, .slice A y.items.length c, .slice K y.keys.length d]] W fun e w' => ∃ A' c' K' d', e = .returned (.agg #[.int .i64 y.kind, .int .i64 y.int, .string y.text, .slice A' y.items.length c', .slice K' y.keys.length d']) ∧ LiesIn (Fresh W w') w' y A' c' K' d' ∧ Below W.heap.size W w') :
    Calls Tryz.prog 19 #[.agg #[.int .i64 x.kind, .int .i64 x.int, .string x.text, .slice A x.items.length c, .slice K x.keys.length d]] w fun e w' => ∃ A' c' K' d', e = .returned (.agg #[.int .i64 x.kind, .int .i64 x.int, .string x.text, .slice A' x.items.length c', .slice K' x.keys.length d']) ∧ LiesIn (Fresh w w') w' x A' c' K' d' ∧ Below w.heap.size w w' := by
  obtain ⟨iv0, hiv, hzv0, hzv1, hzv2⟩ := info_parts (P := Tryz.prog) (e := 27) (z := .agg zeroF) (size := 5) (bytes := 80) (by kernel_rfl)
  have hn60 : x.items.length ≤ 60 := by have := nodes_items x; have := length_le_nodesL x.items; omega
  have hkl : x.keys.length ≤ 1000000 := by
    obtain ⟨-, h1, h2⟩ := okk hok
    by_cases h5 : x.kind = 5
    · rw [h2 h5]; omega
    · rw [h1 h5]; exact Nat.zero_le _
  have HT := Lib.hid (lies_text h)
  have HX := Lib.hid fun W (hW : Below w.heap.size w W) => lies_on h hW
  have HI := Lib.hid ih
  have hb0 := below_al (below_al (Below.refl _ w) (.cells #[.int .i64 x.kind, .int .i64 x.int, .string x.text, .slice A x.items.length c, .slice K x.keys.length d] 27)) (.cells zeroF 27)
  obtain ⟨K1, d1, W1, hrun, hK1, hb1⟩ := append_keys 25 _ K d x.keys (lies_keys (lies_on h hb0)) hkl
  have HRUN := Lib.hid hrun
  have HCS0 := Lib.hid (CS.start hb1 hK1)
  have hbv := ((BlockIs.new w 27 #[.int .i64 x.kind, .int .i64 x.int, .string x.text, .slice A x.items.length c, .slice K x.keys.length d]).alloc (.cells zeroF 27)).below hb1 (by simp; omega)
  have g3 : W1.cell? ⟨w.heap.size, 3, none⟩ = some (.slice A x.items.length c) := hbv.cell 3
  have g4 : W1.cell? ⟨w.heap.size, 4, none⟩ = some (.slice K x.keys.length d) := hbv.cell 4
  have f3 : W1.frozen? ⟨w.heap.size, 3, none⟩ = false := hbv.frozen 3
  have f4 : W1.frozen? ⟨w.heap.size, 4, none⟩ = false := hbv.frozen 4
  have gl : w.heap.size < W1.heap.size := hbv.lt
  obtain ⟨n, hn⟩ : ∃ n, n = x.items.length := ⟨_, rfl⟩
  have HN := Lib.hid hn
  clear hrun hK1 hb1 hb0 hbv h ih hok hn
  go_enter Tryz.func19, Tryz.ntmps19
  go_wp2_with (at_builtin; refine Lib.wpList_append_run _ rfl _ _ _ _ rfl _ _ rfl rfl _ _ HRUN.out ?_)
  clear g3 g4 f3 f4 gl
  go_loopw [15] (fun iv wr => ∃ j : Nat, iv = .int .i64 j ∧ j ≤ x.items.length ∧ Hid (∃ rI css acc, acc = x.items.take j ∧ acc.length = j ∧ CS w x K1 d1 acc rI css wr)) (fun iv _ => x.items.length - (intOf iv).toNat)
  case atStart => exact ⟨0, rfl, Nat.zero_le _, Lib.hid ⟨_, _, _, rfl, rfl, HCS0.out⟩⟩
  case round =>
    obtain ⟨j, rfl, hj, hI⟩ := hrel
    clear HCS0 HRUN
    obtain ⟨rI, css, acc, ha, hal, hC⟩ := hI.out
    have HAC := Lib.hid ha
    have HAL := Lib.hid hal
    have HC := Lib.hid hC
    obtain ⟨RA, rc, rfl⟩ := own_form hC.items
    clear hI ha hC
    by_cases hlt : j < x.items.length
    · obtain ⟨y, hy⟩ : ∃ y, x.items[j]? = some y := ⟨_, List.getElem?_eq_getElem hlt⟩
      rcases (lies_items (HX.out _ HC.out.old)).2.2 with hnil | ⟨b, o, rfl, hbB, hf⟩
      · rw [hnil] at hlt; simp at hlt
      · obtain ⟨Ay, cy, Ky, dy, e0, e1, e2, e3, e4, hly⟩ := hf.at_ hy
        have HY := Lib.hid hy
        have HLY := Lib.hid hly
        have hjn : (j : Int) < x.items.length := by omega
        have hj0 : 0 ≤ (j : Int) := by omega
        have hac60 : acc.length ≤ 60 := by omega
        have HBV := Lib.hid (show BlockIs (wr.alloc (.cells #[.int .i64 y.kind, .int .i64 y.int, .string y.text, .slice Ay y.items.length cy, .slice Ky y.keys.length dy] 27)).drew w.heap.size 27 #[.int .i64 x.kind, .int .i64 x.int, .string x.text, .slice RA acc.length rc, .slice K1 x.keys.length d1] from HC.out.bv.alloc _)
        have HCA := Lib.hid (HC.out.below (below_al (Below.refl _ wr) (.cells #[.int .i64 y.kind, .int .i64 y.int, .string y.text, .slice Ay y.items.length cy, .slice Ky y.keys.length dy] 27)).drew)
        have g3 : wr.cell? ⟨w.heap.size, 3, none⟩ = some (.slice RA acc.length rc) := HC.out.bv.cell 3
        have f3 : wr.frozen? ⟨w.heap.size, 3, none⟩ = false := HC.out.bv.frozen 3
        have gl : w.heap.size < wr.heap.size := HC.out.bv.lt
        have hac : (acc.length : Int) = j := by omega
        have HNE := Lib.hid (show some w.heap.size ≠ (Value.slice RA acc.length rc).ownBlock from fun e => by have := (World.ownsRow.lt HC.out.items _ e.symm).1; omega)
        have HZ2 := Lib.hid (show ∀ N : Nat, (wr.alloc (.cells #[.int .i64 y.kind, .int .i64 y.int, .string y.text, .slice Ay y.items.length cy, .slice Ky y.keys.length dy] 27)).drew.heap.size ≤ N → w.heap.size + 2 ≤ N from fun N h => by have := HC.out.br.lt; simp at h; omega)
        clear hy hly hf hal
        go_wp2_with fail
        go_region_law (first
          | (refine step_append_lies _ (by rfl) _ _ 24 (by rfl) (w.heap.size + 2) 27 iv0 (.agg zeroF) 5 80 Tryz.underlying24 hiv hzv0 hzv1 hzv2 (by rfl) (by omega) (.slice RA acc.length rc) acc.length css.flatten (by rfl) (own_heap (World.ownsRow.alloc (HCA.out.below hb2).items (.cells #[.int .i64 y.kind, .int .i64 y.int, .string y.text, .slice A2 y.items.length c2, .slice K2 y.keys.length q2] 27)) rfl) ⟨w1.heap.size, 0, none⟩ 1 1 (fieldsL y A2 c2 K2 q2) (by rfl) (by rfl) (World.news_of_block (fr := (0, 0)) (t := 27) (cs := #[.int .i64 y.kind, .int .i64 y.int, .string y.text, .slice A2 y.items.length c2, .slice K2 y.keys.length q2]) (BlockIs.new w1 _ _)) (by intro u hu; simp [fieldsL] at hu; rcases hu with rfl | rfl | rfl | rfl | rfl <;> rfl) (by omega) (by unfold maxLen; omega) (by omega) (by simp; omega) (w1.heap.size + 1) (by simp) ?_; intro g' cap w5 hown hgrow hat hlt'; have hbG := (hbv.alloc (.cells #[.int .i64 y.kind, .int .i64 y.int, .string y.text, .slice A2 y.items.length c2, .slice K2 y.keys.length q2] 27)).grown hgrow HNE.out; have gG : w.heap.size < w5.heap.size := BlockIs.lt hbG; have gc : w5.cell? ⟨w.heap.size, 3, none⟩ = some _ := BlockIs.cell hbG 3; have gf : w5.frozen? ⟨w.heap.size, 3, none⟩ = false := BlockIs.frozen hbG 3)
          | (go_simp; go_at_call 19; refine (HI.out y (List.mem_of_getElem? HY.out) _ Ay Ky cy dy (lies_drew (lies_alloc HLY.out _))).mono ?_; rintro e w1 ⟨A2, c2, K2, q2, rfl, hl2, hb2⟩; have hbv := HBV.out.below hb2 HBV.out.lt; have g3' : w1.cell? ⟨w.heap.size, 3, none⟩ = some (.slice RA acc.length rc) := BlockIs.cell hbv 3; have f3' : w1.frozen? ⟨w.heap.size, 3, none⟩ = false := BlockIs.frozen hbv 3; have gl' : w.heap.size < w1.heap.size := BlockIs.lt hbv; have gz : w.heap.size + 2 ≤ w1.heap.size := HZ2.out _ hb2.size))
        all_goals
          have HN := Lib.hid (HC.out.item (below_on (below_al (Below.refl _ wr) (.cells #[.int .i64 y.kind, .int .i64 y.int, .string y.text, .slice Ay y.items.length cy, .slice Ky y.keys.length dy] 27)).drew hb2) (LiesIn.keep (fun _ _ _ => rfl) (fun b hb => ⟨by have := hb.1; simp at this; omega, hb.2⟩) y hl2) (World.grownBy_alloc _ _ _) hgrow (by simpa using hat) hown)
          clear hbv g3' f3' gl' gz hown hgrow hat hlt' hbG gG gc gf hl2 hb2 g3 f3 gl HBV HCA HNE HC e0 e1 e2 e3 e4
          go_wp2_with fail
          go_roundw
          case rel =>
            refine ⟨j + 1, by go_num, by omega, Lib.hid ⟨_, _, acc ++ [y], ?_, by simp; omega, HN.out⟩⟩
            rw [List.take_add_one, HY.out, HAC.out]
            rfl
          case measure => simp [intOf]; omega
    · have hjn : ¬ ((j : Int) < x.items.length) := by omega
      have ha : acc = x.items := by
        rw [HAC.out, List.take_of_length_le (by omega)]
      obtain ⟨A9, c9, e1, hD⟩ := HC.out.done ha HT.out
      have HD := Lib.hid hD
      obtain ⟨b0, b1, b2, b3, b4⟩ := five_of HC.out.bv
      obtain ⟨z0, z1, z2, z3, z4⟩ := five_of (show BlockIs wr (w.heap.size + 1) 27 #[.int .i64 0, .int .i64 0, .string ⟨#[]⟩, .slice none 0 0, .slice none 0 0] from HC.out.br)
      have x0 := HC.out.br.frozen 0
      have x1 := HC.out.br.frozen 1
      have x2 := HC.out.br.frozen 2
      have x3 := HC.out.br.frozen 3
      have x4 := HC.out.br.frozen 4
      have zl := HC.out.br.lt
      rw [e1] at b3
      clear e1 hD ha HC
      go_wp2_with fail
      refine bodyPost_ret (v := .agg #[.int .i64 x.kind, .int .i64 x.int, .string x.text, .slice A9 x.items.length c9, .slice K1 x.keys.length d1]) (by simp [results, Tryz.results19, go_sem, z0, z1, z2, z3, z4]) rfl ?_
      exact ⟨_, _, _, _, rfl, (HD.out _ _ _ _ _).1, (HD.out _ _ _ _ _).2⟩
theorem copied_any : ∀ (N : Nat) (x : V) (w : World) (A K : Option Addr) (c d : Nat), x.nodes ≤ N → x.nodes ≤ 60 → x.ok = true → Lies w w.heap.size x A c K d →
    Calls Tryz.prog 19 #[.agg #[.int .i64 x.kind, .int .i64 x.int, .string x.text, .slice A x.items.length c, .slice K x.keys.length d]] w fun e w' => ∃ A' c' K' d', e = .returned (.agg #[.int .i64 x.kind, .int .i64 x.int, .string x.text, .slice A' x.items.length c', .slice K' x.keys.length d']) ∧ LiesIn (Fresh w w') w' x A' c' K' d' ∧ Below w.heap.size w w'
  | 0, x, _, _, _, _, _, hN, _, _, _ => by have := V.nodes_pos x; omega
  | N + 1, x, w, A, K, c, d, hN, h60, hok, h => copied_step x w A K c d h60 hok h fun y hy W A K c d hl =>
    copied_any N y W A K c d (by have := V.nodes_mem hy; have := nodes_items x; omega) (by have := V.nodes_mem hy; have := nodes_items x; omega) (okItems hok y hy) hl
end Go.Proofs.YtchadlbhdcpojaaGreatDoor
