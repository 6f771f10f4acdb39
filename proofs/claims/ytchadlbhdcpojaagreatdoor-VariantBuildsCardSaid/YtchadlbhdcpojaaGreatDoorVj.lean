/- Laying a value at a path of keys, where nothing is yet. -/
import Derived.Test.YtchadlbhdcpojaaGreatDoorVc
import Derived.Deep.RegionWith
namespace Go.Proofs.YtchadlbhdcpojaaGreatDoor
open Go.RowKit

/-- Five cells of a block, from its beginning; none of them is frozen. -/
structure Five (W : World) (g : Nat) (a b c d e : Value) : Prop where
  c0 : W.cell? ⟨g, 0, none⟩ = some a
  c1 : W.cell? ⟨g, 1, none⟩ = some b
  c2 : W.cell? ⟨g, 2, none⟩ = some c
  c3 : W.cell? ⟨g, 3, none⟩ = some d
  c4 : W.cell? ⟨g, 4, none⟩ = some e
  f0 : W.frozen? ⟨g, 0, none⟩ = false
  f1 : W.frozen? ⟨g, 1, none⟩ = false
  f2 : W.frozen? ⟨g, 2, none⟩ = false
  f3 : W.frozen? ⟨g, 3, none⟩ = false
  f4 : W.frozen? ⟨g, 4, none⟩ = false
  lt : g < W.heap.size
section
variable {W W' : World} {g : Nat} {a b c d e : Value}
theorem Five.to (h : Five W g a b c d e) (he : W'.heap[g]? = W.heap[g]?) (hs : W.heap.size ≤ W'.heap.size) : Five W' g a b c d e := by
  have hc : ∀ o, W'.cell? ⟨g, o, none⟩ = W.cell? ⟨g, o, none⟩ := fun o => World.cell?_of_block he
  have hf : ∀ o, W'.frozen? ⟨g, o, none⟩ = W.frozen? ⟨g, o, none⟩ := fun o => World.frozen?_of_block he
  obtain ⟨c0, c1, c2, c3, c4, f0, f1, f2, f3, f4, lt⟩ := h
  exact ⟨(hc _).trans c0, (hc _).trans c1, (hc _).trans c2, (hc _).trans c3, (hc _).trans c4, (hf _).trans f0, (hf _).trans f1, (hf _).trans f2, (hf _).trans f3, (hf _).trans f4, by omega⟩
theorem Five.below (h : Five W g a b c d e) (hb : Below W.heap.size W W') : Five W' g a b c d e := h.to (hb.block g h.lt) hb.size
theorem Five.grown {r : Option Nat} (h : Five W g a b c d e) (hw : W.grownBy W' r) (hr : some g ≠ r) : Five W' g a b c d e := h.to (hw.block g h.lt hr) hw.size
theorem Five.far (h : Five W g a b c d e) (p : Addr) (v : Value) (hp : g ≠ p.block) : Five (W.setCell p v) g a b c d e := h.to (Below.heap_setCell _ _ _ _ hp) (by simp [World.setCell])
theorem Five.set0 (h : Five W g a b c d e) (v : Value) : Five (W.setCell ⟨g, 0, none⟩ v) g v b c d e := by
  obtain ⟨c0, c1, c2, c3, c4, f0, f1, f2, f3, f4, lt⟩ := h
  exact ⟨World.cell?_setCell_same _ _ _ c0, (World.cell?_setCell_other _ _ _ _ (by simp)).trans c1, (World.cell?_setCell_other _ _ _ _ (by simp)).trans c2, (World.cell?_setCell_other _ _ _ _ (by simp)).trans c3, (World.cell?_setCell_other _ _ _ _ (by simp)).trans c4, by simpa using f0, by simpa using f1, by simpa using f2, by simpa using f3, by simpa using f4, by simpa using lt⟩
theorem Five.set3 (h : Five W g a b c d e) (v : Value) : Five (W.setCell ⟨g, 3, none⟩ v) g a b c v e := by
  obtain ⟨c0, c1, c2, c3, c4, f0, f1, f2, f3, f4, lt⟩ := h
  exact ⟨(World.cell?_setCell_other _ _ _ _ (by simp)).trans c0, (World.cell?_setCell_other _ _ _ _ (by simp)).trans c1, (World.cell?_setCell_other _ _ _ _ (by simp)).trans c2, World.cell?_setCell_same _ _ _ c3, (World.cell?_setCell_other _ _ _ _ (by simp)).trans c4, by simpa using f0, by simpa using f1, by simpa using f2, by simpa using f3, by simpa using f4, by simpa using lt⟩
theorem Five.set4 (h : Five W g a b c d e) (v : Value) : Five (W.setCell ⟨g, 4, none⟩ v) g a b c d v := by
  obtain ⟨c0, c1, c2, c3, c4, f0, f1, f2, f3, f4, lt⟩ := h
  exact ⟨(World.cell?_setCell_other _ _ _ _ (by simp)).trans c0, (World.cell?_setCell_other _ _ _ _ (by simp)).trans c1, (World.cell?_setCell_other _ _ _ _ (by simp)).trans c2, (World.cell?_setCell_other _ _ _ _ (by simp)).trans c3, World.cell?_setCell_same _ _ _ c4, by simpa using f0, by simpa using f1, by simpa using f2, by simpa using f3, by simpa using f4, by simpa using lt⟩
theorem Five.of {cs : Array Value} {t : TypeId} (h : BlockIs W g t cs) (hc : cs.toList.take 5 = [a, b, c, d, e]) : Five W g a b c d e := by
  have hi : ∀ i, i < 5 → cs[i]? = [a, b, c, d, e][i]? := fun i hi => by
    rw [← hc, List.getElem?_take_of_lt hi, Array.getElem?_toList]
  exact ⟨(h.cell 0).trans (hi 0 (by omega)), (h.cell 1).trans (hi 1 (by omega)), (h.cell 2).trans (hi 2 (by omega)), (h.cell 3).trans (hi 3 (by omega)), (h.cell 4).trans (hi 4 (by omega)), h.frozen 0, h.frozen 1, h.frozen 2, h.frozen 3, h.frozen 4, h.lt⟩
end
theorem below_none {W W' : World} (h : W.grownBy W' none) : Below W.heap.size W W' := ⟨h.os, h.tape, h.output, h.size, fun k hk => h.block k hk (by simp)⟩
/-- A row of one element that was laid. -/
theorem own_one {w : World} {base : Nat} {e : TypeId} {size : Nat} {v : Value} {xs : List Value} (h : w.ownsRow base e size v 1 xs) : ∃ (g c : Nat) (cur : Array Value), v = .slice (some ⟨g, 0, none⟩) 1 c ∧ base ≤ g ∧ BlockIs w g e cur ∧ 1 ≤ c ∧ c ≤ maxLen ∧ cur.toList.take size = xs := by
  obtain ⟨hl, ⟨rfl, h0⟩ | ⟨g, cap, cur, rfl, hbg, hb, hn, hm, hs, ht⟩⟩ := h
  · cases h0
  · exact ⟨g, cap, cur, rfl, hbg, hb, hn, hm, by simpa using ht⟩
/-- A value of one entry in another. -/
def nestV : List ByteArray → V → V
  | [], x => x
  | k :: r, x => .mk 5 0 ⟨#[]⟩ [nestV r x] [k]
def keysP (ks : List ByteArray) : List Stp := ks.map fun k => (-1, k)
set_option maxHeartbeats 1000000 in
theorem holder_key (t : ByteArray) (w : World) : Calls Tryz.prog 31 #[.agg #[.int .i64 (-1), .string t]] w fun e w' => e = .returned (.int .i64 5) ∧ Below w.heap.size w w' := by
  have HB := Lib.hid (below_al (Below.refl _ w) (.cells #[.int .i64 (-1), .string t] 34))
  go_enter Tryz.func31, Tryz.ntmps31
  go_wp2_with fail
  go_ret
  exact ⟨rfl, HB.out⟩
set_option maxHeartbeats 1000000 in
theorem holder_index (i : Int) (hi : 0 ≤ i) (t : ByteArray) (w : World) : Calls Tryz.prog 31 #[.agg #[.int .i64 i, .string t]] w fun e w' => e = .returned (.int .i64 4) ∧ Below w.heap.size w w' := by
  have HB := Lib.hid (below_al (Below.refl _ w) (.cells #[.int .i64 i, .string t] 34))
  have h0 : ¬ i < 0 := by omega
  go_enter Tryz.func31, Tryz.ntmps31
  go_wp2_with fail
  go_ret
  exact ⟨rfl, HB.out⟩
/-- Where nothing is yet, a key is not found. -/
theorem find_nothing (k : ByteArray) (w : World) : Calls Tryz.prog 27 #[.agg #[.int .i64 5, .int .i64 0, .string ⟨#[]⟩, .slice none 0 0, .slice none 0 0], .agg #[.int .i64 (-1), .string k]] w fun e w' => e = .returned (.tuple #[.int .i64 0, .bool false]) ∧ Below w.heap.size w w' := by
  refine (find_any (leaf 5 0 ⟨#[]⟩) (-1, k) w none none 0 0 (leaf_lies w _ 5 0 (by decide)) List.Pairwise.nil (Nat.zero_le _)).mono ?_
  rintro e w' ⟨rfl, hb⟩
  exact ⟨by simp [findV, leaf, V.keys, posK, hasK], hb⟩
/-- What room leaves where nothing was. -/
structure Roomed (g : Nat) (k : ByteArray) (W : World) (g1 c1 g2 c2 : Nat) (W' : World) : Prop where
  grown : W.grownBy W' (some g)
  five : Five W' g (.int .i64 5) (.int .i64 0) (.string ⟨#[]⟩) (.slice (some ⟨g1, 0, none⟩) 1 c1) (.slice (some ⟨g2, 0, none⟩) 1 c2)
  item : Five W' g1 (.int .i64 0) (.int .i64 0) (.string ⟨#[]⟩) (.slice none 0 0) (.slice none 0 0)
  key : W'.cell? ⟨g2, 0, none⟩ = some (.string k)
  far1 : W.heap.size ≤ g1
  far2 : W.heap.size ≤ g2
  apart : g1 ≠ g2
  lt2 : g2 < W'.heap.size
  cap1 : 1 ≤ c1 ∧ c1 ≤ maxLen
  cap2 : 1 ≤ c2 ∧ c2 ≤ maxLen

set_option maxRecDepth 100000 in
set_option maxHeartbeats 16000000 in
theorem room_null (g : Nat) (k : ByteArray) (W : World) (h : Five W g (.int .i64 5) (.int .i64 0) (.string ⟨#[]⟩) (.slice none 0 0) (.slice none 0 0)) :
    Calls Tryz.prog 32 #[.pointer (some ⟨g, 0, none⟩), .agg #[.int .i64 (-1), .string k]] W fun e W' => ∃ g1 c1 g2 c2, e = .returned (.pointer (some ⟨g1, 0, none⟩)) ∧ Roomed g k W g1 c1 g2 c2 W' := by
  have hgW := h.lt
  have HF := Lib.hid ((h.below ((Below.refl _ W).alloc (Nat.le_refl _) (.cells #[.int .i64 (-1), .string k] 34))))
  obtain ⟨c0, c1, c2, c3, c4, f0, f1, f2, f3, f4, -⟩ := h
  go_enter Tryz.func32, Tryz.ntmps32
  go_wp2_with fail
  go_region_with (go_at_call 27; refine (find_nothing k _).mono ?_; rintro e w1 ⟨rfl, h1⟩)
  all_goals
    have hb1 := below_on ((Below.refl _ (W.alloc (.cells #[.int .i64 (-1), .string k] 34))).drew) h1
    have HF1 := Lib.hid (HF.out.below hb1)
    have HS1 := Lib.hid ((BlockIs.new W 34 #[.int .i64 (-1), .string k]).below hb1 (by simp))
    have HB1 := Lib.hid (below_on (below_al (Below.refl _ W) (.cells #[.int .i64 (-1), .string k] 34)) hb1)
    have hz1 : W.heap.size + 1 ≤ w1.heap.size := by have := hb1.size; simpa using this
    clear c0 c1 c2 c3 c4 f0 f1 f2 f3 f4 HF h1 hb1
    obtain ⟨c0, c1, c2, c3, c4, f0, f1, f2, f3, f4, gl⟩ := HF1.out
    go_wp2_with fail
    refine (show Calls Tryz.prog 48 #[.slice none 0 0, .int .i64 0, .slice (some ⟨w1.heap.size, 0, none⟩) 1 1] (w1.alloc (.cells zeroF 27)) _ from
      insV (w1.alloc (.cells zeroF 27)) (W.heap.size + 1) (.slice none 0 0) 0 0 [] w1.heap.size zeroF (World.ownsRow_nil _ _ _ _) (Nat.le_refl _) (by omega) (by simp [Value.ownBlock]) (BlockIs.new w1 _ _) rfl (by decide) (by simp) (by simp; omega)).mono ?_
    rintro e w2 ⟨v', rfl, hown, hgrow, hwh⟩
    obtain ⟨g1, c1', cur, rfl, hg1, hbk, hc1, hc1', hcur⟩ := own_one hown
    have hg1' : w1.heap.size + 1 ≤ g1 := by
      rcases hwh with h | ⟨n, c, h⟩
      · simp [Value.ownBlock] at h
      · simp at h; omega
    have HI2 := Lib.hid (Five.of (a := .int .i64 0) (b := .int .i64 0) (c := .string ⟨#[]⟩) (d := .slice none 0 0) (e := .slice none 0 0) hbk (by simpa [zeroF] using hcur))
    have HW2 := Lib.hid (grow_trans (World.grownBy_alloc w1 (.cells zeroF 27) none) hgrow)
    have HF2 := Lib.hid (HF1.out.grown HW2.out (by simp))
    have HS2 := Lib.hid (HS1.out.grown HW2.out (by simp))
    have hz2 : g1 < w2.heap.size := HI2.out.lt
    clear c0 c1 c2 c3 c4 f0 f1 f2 f3 f4 gl hown hgrow hwh hbk hcur
    obtain ⟨c0, c1, c2, c3, c4, f0, f1, f2, f3, f4, gl⟩ := HF2.out
    have s1 : w2.cell? ⟨W.heap.size, 1, none⟩ = some (.string k) := HS2.out.cell 1
    go_wp2_with fail
    obtain ⟨W3, hW3⟩ : ∃ W3, W3 = w2.setCell ⟨g, 3, none⟩ (.slice (some ⟨g1, 0, none⟩) 1 c1') := ⟨_, rfl⟩
    have HF3 := Lib.hid (show Five W3 g (.int .i64 5) (.int .i64 0) (.string ⟨#[]⟩) (.slice (some ⟨g1, 0, none⟩) 1 c1') (.slice none 0 0) by rw [hW3]; exact HF2.out.set3 _)
    have HI3 := Lib.hid (show Five W3 g1 (.int .i64 0) (.int .i64 0) (.string ⟨#[]⟩) (.slice none 0 0) (.slice none 0 0) by rw [hW3]; exact HI2.out.far _ _ (by show g1 ≠ g; omega))
    have s1 : W3.cell? ⟨W.heap.size, 1, none⟩ = some (.string k) := by rw [hW3]; exact (World.cell?_setCell_other _ _ _ _ (by simp)).trans (HS2.out.cell 1)
    have HG3 := Lib.hid (show W.grownBy W3 (some g) by rw [hW3]; exact grow_set (grow_below (grow_below (grow_refl W (some g)) HB1.out) (below_none HW2.out)) _ _ rfl)
    have hz3 : W.heap.size + 1 ≤ W3.heap.size := by rw [hW3]; simp; omega
    have hg13 : g1 < W3.heap.size := HI3.out.lt
    rw [← hW3]
    clear c0 c1 c2 c3 c4 f0 f1 f2 f3 f4 gl HF1 HS1 HB1 HI2 HW2 HF2 HS2 hW3
    obtain ⟨c0, c1, c2, c3, c4, f0, f1, f2, f3, f4, gl⟩ := HF3.out
    go_region_with (go_at_call 49; refine (show Calls Tryz.prog 49 #[.slice none 0 0, .int .i64 0, .slice (some ⟨W3.heap.size, 0, none⟩) 1 1] (W3.drew.alloc (.cells #[.string k] 9)) _ from
      insS (W3.drew.alloc (.cells #[.string k] 9)) (W.heap.size + 1) (.slice none 0 0) 0 0 [] W3.heap.size #[.string k] (World.ownsRow_nil _ _ _ _) (Nat.le_refl _) (by omega) (by simp [Value.ownBlock]) (BlockIs.new W3.drew _ _) rfl (by intro u hu; simp at hu; subst hu; rfl) (by simp) (by simp; omega)).mono ?_; rintro e w5 ⟨v2, rfl, hown2, hgrow2, hwh2⟩; obtain ⟨g2, c2', cur2, rfl, hg2, hbk2, hc2, hc2', hcur2⟩ := own_one hown2; have hgr5 := grow_trans (grow_alloc (grow_drew (grow_refl W3 none)) (.cells #[.string k] 9)) hgrow2; have hf5 := HF3.out.grown hgr5 (by simp); have c3' := hf5.c3; have c4' := hf5.c4; have f4' := hf5.f4; have gl' := hf5.lt)
    all_goals
      have hg2' : W3.heap.size + 1 ≤ g2 := by
        rcases hwh2 with h | ⟨n, c, h⟩
        · simp [Value.ownBlock] at h
        · simp at h; omega
      have HI5 := Lib.hid (HI3.out.grown hgr5 (by simp))
      have HF5 := Lib.hid hf5
      have HG5 := Lib.hid (grow_set (grow_below HG3.out (below_none hgr5)) ⟨g, 4, none⟩ (.slice (some ⟨g2, 0, none⟩) 1 c2') rfl)
      have hk2 : w5.cell? ⟨g2, 0, none⟩ = some (.string k) := by
        have h0 : cur2[0]? = [Value.string k][0]? := by
          rw [show [Value.string k] = cur2.toList.take 1 by simpa using hcur2.symm, List.getElem?_take_of_lt (by omega), Array.getElem?_toList]
        exact (hbk2.cell 0).trans h0
      have hl2 := hbk2.lt
      clear c0 c1 c2 c3 c4 f0 f1 f2 f3 f4 gl s1 hown2 hgrow2 hwh2 hbk2 hcur2 hgr5 hf5
      go_wp2_with fail
      go_ret
      exact ⟨g1, c1', g2, c2', rfl, HG5.out, HF5.out.set4 _, HI5.out.far _ _ (by show g1 ≠ g; omega), (World.cell?_setCell_other _ _ _ _ (by simp)).trans hk2, by omega, by omega, by omega, by simpa using hl2, ⟨hc1, hc1'⟩, ⟨hc2, hc2'⟩⟩
end Go.Proofs.YtchadlbhdcpojaaGreatDoor
