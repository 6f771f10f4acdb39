/- Reading: a list, walked. -/
import Derived.Test.YtoddlacfbeckiaaDoorWr
import Derived.Deep.RegionHeld3
import Derived.Deep.DrawnRows
namespace Go.Proofs.YtoddlacfbeckiaaDoor
open Go.RowKit

theorem spost_some {St : Type} {Inv : St → Nat → World → Prop} {Bad : World → Prop} {g : Nat} {s : ByteArray} {st : St} {l : List UInt8} {n k : Nat} {W : World} (h : Inv st n W ∧ PAt W g s k n) (hk : k ≤ s.size) (hl : sfx s k = l) : SPost Inv Bad g s (some (st, l, n)) (.returned (.tuple #[])) W := ⟨rfl, h.1, k, hk, hl, h.2⟩
attribute [local go_sem ↓] Go.wp_at_zero Go.wp_at_succ
set_option maxRecDepth 100000 in
set_option maxHeartbeats 4000000 in
theorem item_list (g : Nat) (s : ByteArray) (d : Nat) (hd : d ≤ 6) (f : Nat → List UInt8 → Option (V × List UInt8 × Nat)) (w : World) (hg : g < w.heap.size) (hmore : ∀ n l x l' n', f n l = some (x, l', n') → n < n')
    (hval : ∀ (k n : Nat) (W : World), PAt W g s k n → k ≤ s.size → n ≤ 60 → Calls Tryd.prog 48 #[.pointer (some ⟨g, 0, none⟩), .int .i64 ((d : Int) + 1)] W (VPost g s W (f n (sfx s k))))
    (acc : List V) (k n : Nat) (W : World) (hI : LInv w g d acc n W) (hP : PAt W g s k n) (hk : k ≤ s.size) (hn : n ≤ 60) :
    Calls Tryd.prog 87 #[.pointer (some ⟨w.heap.size, 0, none⟩), .pointer (some ⟨w.heap.size + 1, 0, none⟩), .pointer (some ⟨w.heap.size + 3, 0, none⟩)] W (SPost (LInv w g d) (fun W' => w.grownBy W' (some g)) g s (stepL f acc n (sfx s k))) := by
  have HV := Lib.hid hval
  have HM := Lib.hid hmore
  have HP := Lib.hid hP
  obtain ⟨row, css, hI⟩ := hI
  have HI := Lib.hid hI
  have p0 : W.cell? ⟨w.heap.size, 0, none⟩ = some (.pointer (some ⟨g, 0, none⟩)) := by simpa using hI.2.2.1.cell 0
  have p1 : W.cell? ⟨w.heap.size + 1, 0, none⟩ = some (.int .i64 d) := by simpa using hI.2.2.2.1.cell 0
  clear hval hmore hI hP
  go_enter Tryd.func87, Tryd.ntmps87
  go_wp2_with fail
  refine (HV.out k n _ HP.out hk hn).mono ?_
  intro e w2 hp
  rcases hst : f n (sfx s k) with _ | ⟨x, l, n'⟩
  · rw [hst] at hp
    obtain ⟨rfl, hp⟩ := hp
    refine ⟨rfl, ?_⟩
    rw [stepL, hst]
    exact ⟨rfl, grow_trans HI.out.1 hp⟩
  rw [hst] at hp
  obtain ⟨A, c, K, q, k', rfl, hL, hk', hsk, hW⟩ := hp
  have hn' := HM.out _ _ _ _ _ hst
  have HL := Lib.hid hL
  have HW := Lib.hid hW
  have HI2 := Lib.hid (HI.out.keep hg hW.1 (Nat.le_of_lt hn'))
  clear hL hW p0 p1
  obtain ⟨hI1, hI2, hI3, hI4, hI5, hI6, hI7, hI8, hI9⟩ := HI2.out
  obtain ⟨RA, rc, rfl⟩ : ∃ RA rc, row = .slice RA acc.length rc := own_form hI8
  have q0 : w2.cell? ⟨w.heap.size + 3, 3, none⟩ = some (.slice RA acc.length rc) := by simpa using hI7.cell 3
  have hlt3 : w.heap.size + 3 < w2.heap.size := by omega
  have HO := Lib.hid hI8
  have HR := Lib.hid hI9
  have hlen : acc.length ≤ 60 := by have := HI.out.2.2.2.2.2.1; omega
  have hne3 : some (w.heap.size + 3) ≠ (Value.slice RA acc.length rc).ownBlock := fun e => by have := (World.ownsRow.lt hI8 _ e.symm).1; omega
  have hneT : some w2.heap.size ≠ (Value.slice RA acc.length rc).ownBlock := fun e => by have := (World.ownsRow.lt hI8 _ e.symm).2; omega
  have HE := Lib.hid (And.intro hne3 hneT)
  have HF := hI9.flat
  have hb0 : (0 : Int) ≤ (acc.length : Int) := by omega
  have hb1 : (acc.length : Int) < (acc.length : Int) + 1 := by omega
  have f3 : w2.frozen? ⟨w.heap.size + 3, 3, none⟩ = false := hI7.frozen 3
  obtain ⟨i0, hi0, hz0, hz1, hz2⟩ := info_parts (P := Tryd.prog) (e := 25) (z := .agg zeroF) (size := 5) (bytes := 80) (by kernel_rfl)
  obtain ⟨W3, hW3⟩ : ∃ W3, W3 = (w2.alloc (.cells #[.int .i64 x.kind, .int .i64 x.int, .string x.text, .slice A x.items.length c, .slice K x.keys.length q] 25)).alloc (.cells zeroF 25) := ⟨_, rfl⟩
  have HZ := Lib.hid (show W3.heap[w2.heap.size + 1]? = some (.cells zeroF 25 (0, 0)) by rw [hW3]; exact Blk.newAt _ _ _ (by simp))
  have HO3 := Lib.hid (show W3.ownsRow (w.heap.size + 4) 25 5 (.slice RA acc.length rc) acc.length css.flatten by rw [hW3]; exact World.ownsRow.alloc (World.ownsRow.alloc HO.out _) _)
  have HQ := Lib.hid (show W3.cell? ⟨w.heap.size + 3, 3, none⟩ = some (.slice RA acc.length rc) ∧ W3.frozen? ⟨w.heap.size + 3, 3, none⟩ = false ∧ w.heap.size + 3 < W3.heap.size by rw [hW3]; exact ⟨((hI7.alloc _).alloc _).cell 3, ((hI7.alloc _).alloc _).frozen 3, by simp; omega⟩)
  subst hW3
  clear hI1 hI2 hI3 hI4 hI5 hI6 hI7 hI8 hI9 hne3 hneT
  unfold cellsOf
  go_wp2_with fail
  go_region_law (refine step_append_lies _ (by rfl) _ _ 22 (by rfl) (w.heap.size + 4) 25 i0 (.agg zeroF) 5 80 Tryd.underlying22 hi0 hz0 hz1 hz2 (by rfl) (by omega) (.slice RA acc.length rc) acc.length css.flatten (by rfl) (own_heap HO3.out rfl) ⟨w2.heap.size + 1, 0, none⟩ 1 1 zeroF.toList (by rfl) (by rfl) (World.news_of_block (fr := (0, 0)) (t := 25) (cs := zeroF) HZ.out) (by decide) (by omega) (by unfold maxLen; omega) (by omega) (by simp; omega) (w2.heap.size + 2) (by simp) ?_; intro g' cap w1 hown1 hgrow hat hlt; have ha3 := row_apart hat HE.out.1 (by omega); have ha3' := fun e => ha3 (Eq.symm e); have q1 := (hgrow.cell_far ⟨w.heap.size + 3, 3, none⟩ HQ.out.2.2 HE.out.1).trans HQ.out.1; have f31 := (hgrow.frozen_far ⟨w.heap.size + 3, 3, none⟩ HQ.out.2.2 HE.out.1).trans HQ.out.2.1; obtain ⟨l0, l1, l2, l3, l4, f0, f1, f2, f3, f4⟩ := own_last5 hown1 HF)
  all_goals
    have hE := fun We h => list_end (We := We) hg HI.out hn' HW.out HL.out (grow_drew (grow_alloc (grow_alloc (grow_refl w2 none) _) _)) (by simp) hgrow hat hown1 h
    clear l0 l1 l2 l3 l4 f0 f1 f2 f3 f4 q1 f31 ha3 ha3' hlt hown1 hgrow hat HQ HO3 HZ HE HF HR HO HI2
    refine bodyPost_end (v := .tuple #[]) (by simp [results, Tryd.results87, go_sem]) rfl ?_
    rw [stepL, hst]
    refine spost_some (hE _ ?_) hk' hsk
    unfold put5
    first | (left; with_reducible rfl) | (right; with_reducible rfl)
end Go.Proofs.YtoddlacfbeckiaaDoor
