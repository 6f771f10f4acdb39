/- A list in another order, as the law turns it, walked. -/
import Derived.Test.YtfiiaeomlmckfaaGreatDoorNm
import Derived.Test.YtfiiaeomlmckfaaGreatDoorZu
import Derived.IntWalk
namespace Go.Proofs.YtfiiaeomlmckfaaGreatDoor
open Go.RowKit

def lenOf : Value → Nat | .slice _ n _ => n | _ => 0
/-- How far a list is turned: what is left, what is out. -/
structure TI (w : World) (left out : List V) (lv ov : Value) (W : World) : Prop where
  old : Below w.heap.size w W
  left : Row w.heap.size lv left W
  out : Row w.heap.size ov out W
  apart : ∀ k, ov.ownBlock = some k → lv.ownBlock ≠ some k
theorem row_src {N g n c : Nat} {l : List V} {W : World} (h : Row N (.slice (some ⟨g, 0, none⟩) n c) l W) (k : Nat) : SrcRow N (some ⟨g, 0, none⟩) (l.take k) W ∧ SrcRow N (some ⟨g, k * 5, none⟩) (l.drop k) W := by
  obtain ⟨A, c', he, _, _, h3⟩ := h.form
  rcases h3 with rfl | ⟨g', hA, hg, css, hr, hc⟩
  · exact ⟨⟨[], by simp [RowsIn], .inl (by simp)⟩, ⟨[], by simp [RowsIn], .inl (by simp)⟩⟩
  · subst hA
    cases he
    exact src_part hr hg hc k
theorem row_empty (N : Nat) (W : World) (hN : N ≤ W.heap.size) : Row N (.slice (some ⟨W.heap.size, 0, none⟩) 0 0) [] (W.alloc (.cells #[] 35)) :=
  ⟨[], World.ownsRow_made (e := 35) (size := 5) W #[] 0 hN (by simp [maxLen]) (by simp), trivial⟩
theorem turn_start {w W1 : World} {l : List V} {v1 : Value} (h1 : Row w.heap.size v1 ([] ++ l) W1) (hg : (w.alloc (.cells #[] 35)).grownBy W1 (some w.heap.size)) : TI w l [] v1 (.slice none 0 0) W1 :=
  ⟨(below_al (Below.refl _ w) _).trans (below_grow hg (by simp) (fun r hr => by cases hr; exact Nat.le_refl _)), by simpa using h1, ⟨[], World.ownsRow_nil _ _ _ _, trivial⟩, fun k hk => by simp [Value.ownBlock] at hk⟩
/-- One value out. -/
theorem TI.out_one {w W : World} {left out : List V} {lv ov : Value} {y : V} {A K : Option Addr} {c d : Nat} (h : TI w left out lv ov W) (hy : LiesIn (fun b => b < w.heap.size) W y A c K d) (hl : out.length ≤ 900) (ty : TypeId) :
    ∃ v2 W2, (Builtin.append_ #[22, 22] ty #[ov, .slice (some ⟨W.heap.size, 0, none⟩) 1 1]).run Tryz.prog (W.alloc (.cells #[.int .i64 y.kind, .int .i64 y.int, .string y.text, .slice A y.items.length c, .slice K y.keys.length d] 35)) = .ok v2 W2 ∧ TI w left (out ++ [y]) lv v2 W2 ∧ W.heap.size < W2.heap.size := by
  have hz := h.old.size
  have hs : SrcRow w.heap.size (some ⟨W.heap.size, 0, none⟩) [y] (W.alloc (.cells #[.int .i64 y.kind, .int .i64 y.int, .string y.text, .slice A y.items.length c, .slice K y.keys.length d] 35)) := by
    refine ⟨[fieldsL y A c K d], ⟨⟨_, _, _, _, rfl, LiesIn.keep (fun b o hb => World.cell?_of_block (Below.heap_alloc _ _ _ (show b < W.heap.size by omega))) (fun _ h => h) y hy⟩, trivial⟩, .inr ⟨_, 0, rfl, by simp, fun j u hj => ?_⟩⟩
    rw [Nat.zero_add]
    refine (World.cell?_alloc_new W _ _ j).trans ?_
    simpa [fieldsL] using hj
  obtain ⟨v2, W2, hr, h1, h2, h3⟩ := append_row w.heap.size _ ov out [y] (some ⟨W.heap.size, 0, none⟩) 1 (by simp; omega) (h.out.alloc hz _) hs (by simp; omega) ty
  have hs2 := h2.size
  simp at hs2
  have hoo := h.out.own
  refine ⟨v2, W2, hr, ⟨?_, ?_, h1, ?_⟩, by omega⟩
  · exact (below_al h.old _).trans (below_grow h2 (by simp; omega) (fun r hr => (hoo r hr).1))
  · exact (h.left.alloc hz _).kept h2 (by simp; omega) (fun k hk => (hoo k hk).1) (fun k hk e => h.apart k e hk)
  · intro k hk e
    rcases h3 with h3 | h3
    · rw [h3] at hk; exact h.apart k hk e
    · rw [h3] at hk
      simp at hk
      have := (h.left.own k e).2
      omega
/-- The rest put together anew. -/
theorem TI.rest {w W : World} {left out : List V} {g n c : Nat} {ov : Value} (h : TI w left out (.slice (some ⟨g, 0, none⟩) n c) ov W) (k : Nat) (hk : k < left.length) (hl : left.length ≤ 60) (A : Option Addr) (hA : left.drop (k + 1) = [] ∨ A = some ⟨g, (k + 1) * 5, none⟩) (ca : Nat) (ty ty' : TypeId) :
    ∃ v4 W4 v5 W5, (Builtin.append_ #[22, 22] ty #[.slice (some ⟨W.heap.size, 0, none⟩) 0 0, .slice (some ⟨g, 0, none⟩) k c]).run Tryz.prog (W.alloc (.cells #[] 35)) = .ok v4 W4 ∧
      (Builtin.append_ #[22, 22] ty' #[v4, .slice A (left.length - (k + 1)) ca]).run Tryz.prog W4 = .ok v5 W5 ∧ TI w (left.take k ++ left.drop (k + 1)) out v5 ov W5 := by
  have hz := h.old.size
  have hz1 : w.heap.size ≤ (W.alloc (.cells #[] 35)).heap.size := by simp; omega
  have hL1 := h.left.alloc hz (.cells #[] 35)
  have hO1 := h.out.alloc hz (.cells #[] 35)
  obtain ⟨v4, W4, hr4, h41, h42, h43⟩ := append_row w.heap.size _ _ [] (left.take k) (some ⟨g, 0, none⟩) c hz1 (row_empty _ W hz) (row_src hL1 k).1 (by simp; omega) ty
  rw [List.length_take, Nat.min_eq_left (by omega)] at hr4
  have hs4 := h42.size
  simp at hs4
  have hg := h.left.own g rfl
  have hL4 := hL1.kept h42 hz1 (fun k hk => by cases hk; exact hz) (fun k hk e => by cases hk; simp [Value.ownBlock] at e; omega)
  have hO4 := hO1.kept h42 hz1 (fun k hk => by cases hk; exact hz) (fun k hk e => by simp [Value.ownBlock] at e; have := (h.out.own k hk).2; omega)
  have hsrc : SrcRow w.heap.size A (left.drop (k + 1)) W4 := by
    rcases hA with hA | rfl
    · exact ⟨[], by rw [hA]; trivial, .inl hA⟩
    · exact (row_src hL4 (k + 1)).2
  obtain ⟨v5, W5, hr5, h51, h52, h53⟩ := append_row w.heap.size W4 v4 (left.take k) (left.drop (k + 1)) A ca (by omega) (by simpa using h41) hsrc (by simp; omega) ty'
  rw [List.length_drop] at hr5
  have hv4 : ∀ q, v4.ownBlock = some q → W.heap.size ≤ q := fun q hq => by
    rcases h43 with h43 | h43
    · rw [h43] at hq; simp [Value.ownBlock] at hq; omega
    · rw [h43] at hq; simp at hq; omega
  refine ⟨v4, W4, v5, W5, hr4, hr5, ⟨?_, by simpa using h51, ?_, ?_⟩⟩
  · exact ((below_al h.old _).trans (below_grow h42 hz1 (fun r hr => by cases hr; exact hz))).trans (below_grow h52 (by omega) (fun r hr => by have := hv4 r hr; omega))
  · exact hO4.kept h52 (by omega) (fun q hq => by have := hv4 q hq; omega) (fun q hq e => by have := hv4 q e; have := (h.out.own q hq).2; omega)
  · intro q hq e
    have hq2 := (h.out.own q hq).2
    rcases h53 with h53 | h53
    · rw [h53] at e; have := hv4 q e; omega
    · rw [h53] at e; simp at e; omega
theorem perm_next {l out left : List V} {k : Nat} {y : V} (h : (out ++ left).Perm l) (hy : left[k]? = some y) : ((out ++ [y]) ++ (left.take k ++ left.drop (k + 1))).Perm l := by
  refine List.Perm.trans ?_ h
  have e : left = left.take k ++ y :: left.drop (k + 1) := by rw [← drop_at hy, List.take_append_drop]
  rw [List.append_assoc]
  refine List.Perm.append_left out ?_
  conv => rhs; rw [e]
  rw [List.singleton_append]
  exact (List.perm_middle (a := y)).symm
set_option maxRecDepth 100000 in
set_option maxHeartbeats 8000000 in
theorem turned_any (l : List V) (bs : List Nat) (w : World) (A : Option Addr) (c : Nat) (A' : Option Addr) (c' : Nat) (hl : l.length ≤ 60) (h : LiesL w w.heap.size A c l) (hb : BLies w w.heap.size A' c' bs) :
    Calls Tryz.prog 12 #[.slice A l.length c, .slice A' bs.length c'] w fun e w' => ∃ m, m.Perm l ∧ ListPost m w e w' := by
  obtain ⟨v1, W1, hr1, h11, h12, -⟩ := append_row w.heap.size _ _ [] l A c (by simp) (row_empty _ w (Nat.le_refl _)) ((h.src (Nat.le_refl _)).alloc (Nat.le_refl _) _) (by simp; omega) 22
  have HT := Lib.hid (turn_start h11 h12)
  have HR1 := Lib.hid hr1
  have HB := Lib.hid hb
  obtain ⟨n, hn⟩ : ∃ n, n = l.length := ⟨_, rfl⟩
  have HN := Lib.hid hn
  have hnb : n ≤ 60 := by omega
  obtain ⟨nb, hnb1⟩ : ∃ nb, nb = bs.length := ⟨_, rfl⟩
  have HNB := Lib.hid hnb1
  have hnbm : nb ≤ 9223372036854775807 := by have h1 := hb.1; have h2 := hb.2.1; unfold maxLen at h2; omega
  rw [← hn] at HR1 ⊢
  rw [← hnb1]
  clear hr1 h11 h12 h hb hn hnb1 hl
  go_enter Tryz.func12, Tryz.ntmps12
  go_wp2_with (at_builtin; refine Lib.wpList_append_run _ rfl _ _ _ _ rfl _ _ rfl rfl _ _ HR1.out ?_)
  go_loopw [5, 6, 7] (fun lv ov iv wr => ∃ (i : Nat) (left out : List V), iv = .int .i64 i ∧ i + left.length = n ∧ Hid ((out ++ left).Perm l) ∧ Hid (TI w left out lv ov wr)) (fun lv _ _ _ => lenOf lv)
  case atStart => exact ⟨0, l, [], rfl, by have := HN.out; omega, Lib.hid (List.Perm.refl _), HT⟩
  case round =>
    clear HT HR1
    obtain ⟨i, left, out, rfl, hil, HP, HT⟩ := hrel
    obtain ⟨AL, cL, hlv, hlc, hcm, hfl⟩ := HT.out.left.form
    subst hlv
    unfold maxLen at hcm
    obtain ⟨nl, hnl⟩ : ∃ nl, nl = left.length := ⟨_, rfl⟩
    have HNL := Lib.hid hnl
    rw [← hnl] at hil hlc ⊢
    have hi0 : 0 ≤ (i : Int) := by omega
    by_cases hpos : 0 < nl
    · have hp1 : 0 < (nl : Int) := by omega
      rcases hfl with hnil | ⟨g, rfl, hg, css, hrw, hcl⟩
      · rw [hnil] at hnl; simp at hnl; omega
      have HT2 := Lib.hid (show TI w left out (.slice (some ⟨g, 0, none⟩) nl cL) _ wr by rw [hnl]; exact HT.out)
      have HRW := Lib.hid hrw
      have HCL := Lib.hid hcl
      have hout : out.length ≤ 60 := by
        have h1 := HP.out.length_eq
        rw [List.length_append] at h1
        have := HN.out
        omega
      have hcLi : (cL : Int) ≤ 9223372036854775807 := by omega
      have hlci : (nl : Int) ≤ cL := by omega
      clear hnl hrw hcl HT
      by_cases hib : i < nb
      · have hib1 : (i : Int) < nb := by omega
        rcases HB.out.2.2.2 with hnil | ⟨b2, o2, rfl, hb2, hcb⟩
        · have := HNB.out; rw [hnil] at this; simp at this; omega
        obtain ⟨x, hx⟩ : ∃ x, bs[i]? = some x := ⟨_, List.getElem?_eq_getElem (by have := HNB.out; omega)⟩
        have hx2 := HB.out.2.2.1 x (List.mem_of_getElem? hx)
        have x0 : wr.cell? ⟨b2, o2 + i, none⟩ = some (.int .u8 x) := (bcell HT2.out.old _ _ hb2).trans (hcb i x hx)
        obtain ⟨k, hkx⟩ : ∃ k, k = x % nl := ⟨_, rfl⟩
        have hk : k < nl := by rw [hkx]; exact Nat.mod_lt _ hpos
        have hx0 : 0 ≤ (x : Int) := by omega
        have hx3 : (x : Int) ≤ 255 := by omega
        have hmod : (x : Int) % (nl : Int) = (k : Int) := by rw [hkx]; omega
        clear hkx hx hcb hx2
        have HKL := Lib.hid hk
        obtain ⟨y, hy⟩ : ∃ y, left[k]? = some y := ⟨_, List.getElem?_eq_getElem (by have := HNL.out; omega)⟩
        have HY := Lib.hid hy
        obtain ⟨cs, hcs, Ay, cy, Ky, dy, rfl, hly⟩ := HRW.out.get hy
        have hcell : ∀ j, j < 5 → wr.cell? ⟨g, k * 5 + j, none⟩ = (fieldsL y Ay cy Ky dy)[j]? := fun j hj => by
          have h1 := flat_row HRW.out.five hcs j hj
          have h2 : ∃ u, (fieldsL y Ay cy Ky dy)[j]? = some u := ⟨_, List.getElem?_eq_getElem (by simpa [fieldsL] using hj)⟩
          obtain ⟨u, hu⟩ := h2
          rw [hu] at h1 ⊢
          exact HCL.out _ u h1
        have y0 : wr.cell? ⟨g, k * 5, none⟩ = some (.int .i64 y.kind) := hcell 0 (by omega)
        have y1 : wr.cell? ⟨g, k * 5 + 1, none⟩ = some (.int .i64 y.int) := hcell 1 (by omega)
        have y2 : wr.cell? ⟨g, k * 5 + 2, none⟩ = some (.string y.text) := hcell 2 (by omega)
        have y3 : wr.cell? ⟨g, k * 5 + 3, none⟩ = some (.slice Ay y.items.length cy) := hcell 3 (by omega)
        have y4 : wr.cell? ⟨g, k * 5 + 4, none⟩ = some (.slice Ky y.keys.length dy) := hcell 4 (by omega)
        obtain ⟨v2, W2, hr2, hT2, hz2⟩ := HT2.out.out_one hly (by omega) 22
        have HR2 := Lib.hid hr2
        have hk0 : 0 ≤ (k : Int) := by omega
        have hk1 : (k : Int) < nl := by omega
        have hk2 : (k : Int) + 1 ≤ nl := by omega
        have hk3 : (k : Int) ≤ cL := by omega
        have hk4 : (k : Int) + 1 ≤ cL := by omega
        have hk5 : (k : Int) ≤ nl := by omega
        by_cases hkc : k + 1 = cL
        · obtain ⟨v4, W4, v5, W5, hr4, hr5, hT5⟩ := hT2.rest k (by have := HNL.out; omega) (by have := HNL.out; omega) (some ⟨g, 0, none⟩) (.inl (List.drop_eq_nil_of_le (by have := HNL.out; omega))) (cL - (k + 1)) 22 22
          rw [← HNL.out] at hr5
          have HR4 := Lib.hid hr4
          have HR5 := Lib.hid hr5
          have HT5 := Lib.hid hT5
          have hlen : i + 1 + (left.take k ++ left.drop (k + 1)).length = n ∧ lenOf v5 < nl := by
            have hnl := HNL.out
            have h1 : (left.take k ++ left.drop (k + 1)).length = nl - 1 := by rw [List.length_append, List.length_take, List.length_drop, Nat.min_eq_left (by omega)]; omega
            obtain ⟨a5, c5, e5, -⟩ := hT5.left.form
            rw [h1] at e5 ⊢
            exact ⟨by omega, by rw [e5, lenOf]; omega⟩
          have HLEN := Lib.hid hlen
          have HKK := Lib.hid hkc
          have hkd2 : cL - (k + 1) = 0 := by omega
          clear hr4 hr5 hT5 hlen hkc hr2 hT2 hy hcs hly hcell
          go_wp2_with (first | (at_builtin; refine Lib.wpList_append_run _ rfl _ _ _ _ rfl _ _ rfl rfl _ _ HR2.out ?_) | (at_builtin; refine Lib.wpList_append_run _ rfl _ _ _ _ rfl _ _ rfl rfl _ _ HR4.out ?_) | (at_builtin; refine Lib.wpList_append_run _ rfl _ _ _ _ rfl _ _ rfl rfl _ _ HR5.out ?_))
          go_roundw
          case rel => exact ⟨i + 1, _, _, by go_num, HLEN.out.1, Lib.hid (perm_next HP.out HY.out), HT5⟩
          case measure => exact HLEN.out.2
        · obtain ⟨v4, W4, v5, W5, hr4, hr5, hT5⟩ := hT2.rest k (by have := HNL.out; omega) (by have := HNL.out; omega) (some ⟨g, (k + 1) * 5, none⟩) (.inr rfl) (cL - (k + 1)) 22 22
          rw [← HNL.out] at hr5
          have HR4 := Lib.hid hr4
          have HR5 := Lib.hid hr5
          have HT5 := Lib.hid hT5
          have hlen : i + 1 + (left.take k ++ left.drop (k + 1)).length = n ∧ lenOf v5 < nl := by
            have hnl := HNL.out
            have h1 : (left.take k ++ left.drop (k + 1)).length = nl - 1 := by rw [List.length_append, List.length_take, List.length_drop, Nat.min_eq_left (by omega)]; omega
            obtain ⟨a5, c5, e5, -⟩ := hT5.left.form
            rw [h1] at e5 ⊢
            exact ⟨by omega, by rw [e5, lenOf]; omega⟩
          have HLEN := Lib.hid hlen
          have HKK := Lib.hid hkc
          have hkd : ¬ cL = k + 1 := by omega
          have hkd2 : ¬ cL - (k + 1) = 0 := by omega
          clear hr4 hr5 hT5 hlen hkc hr2 hT2 hy hcs hly hcell
          go_wp2_with (first | (at_builtin; refine Lib.wpList_append_run _ rfl _ _ _ _ rfl _ _ rfl rfl _ _ HR2.out ?_) | (at_builtin; refine Lib.wpList_append_run _ rfl _ _ _ _ rfl _ _ rfl rfl _ _ HR4.out ?_) | (at_builtin; refine Lib.wpList_append_run _ rfl _ _ _ _ rfl _ _ rfl rfl _ _ HR5.out ?_))
          go_roundw
          case rel => exact ⟨i + 1, _, _, by go_num, HLEN.out.1, Lib.hid (perm_next HP.out HY.out), HT5⟩
          case measure => exact HLEN.out.2
      · have hib1 : ¬ ((i : Int) < nb) := by omega
        have hk : 0 < nl := hpos
        have HKL := Lib.hid hk
        obtain ⟨y, hy⟩ : ∃ y, left[0]? = some y := ⟨_, List.getElem?_eq_getElem (by have := HNL.out; omega)⟩
        have HY := Lib.hid hy
        obtain ⟨cs, hcs, Ay, cy, Ky, dy, rfl, hly⟩ := HRW.out.get hy
        have hcell : ∀ j, j < 5 → wr.cell? ⟨g, 0 * 5 + j, none⟩ = (fieldsL y Ay cy Ky dy)[j]? := fun j hj => by
          have h1 := flat_row HRW.out.five hcs j hj
          have h2 : ∃ u, (fieldsL y Ay cy Ky dy)[j]? = some u := ⟨_, List.getElem?_eq_getElem (by simpa [fieldsL] using hj)⟩
          obtain ⟨u, hu⟩ := h2
          rw [hu] at h1 ⊢
          exact HCL.out _ u h1
        have y0 : wr.cell? ⟨g, 0, none⟩ = some (.int .i64 y.kind) := by simpa [fieldsL] using hcell 0 (by omega)
        have y1 : wr.cell? ⟨g, 1, none⟩ = some (.int .i64 y.int) := by simpa [fieldsL] using hcell 1 (by omega)
        have y2 : wr.cell? ⟨g, 2, none⟩ = some (.string y.text) := by simpa [fieldsL] using hcell 2 (by omega)
        have y3 : wr.cell? ⟨g, 3, none⟩ = some (.slice Ay y.items.length cy) := by simpa [fieldsL] using hcell 3 (by omega)
        have y4 : wr.cell? ⟨g, 4, none⟩ = some (.slice Ky y.keys.length dy) := by simpa [fieldsL] using hcell 4 (by omega)
        obtain ⟨v2, W2, hr2, hT2, hz2⟩ := HT2.out.out_one hly (by omega) 22
        have HR2 := Lib.hid hr2
        have hk2 : (1 : Int) ≤ nl := by omega
        have hk4 : (1 : Int) ≤ cL := by omega
        have hk3 : 0 ≤ (cL : Int) := by omega
        by_cases hkc : 0 + 1 = cL
        · obtain ⟨v4, W4, v5, W5, hr4, hr5, hT5⟩ := hT2.rest 0 (by have := HNL.out; omega) (by have := HNL.out; omega) (some ⟨g, 0, none⟩) (.inl (List.drop_eq_nil_of_le (by have := HNL.out; omega))) (cL - (0 + 1)) 22 22
          rw [← HNL.out] at hr5
          simp only [Nat.zero_add] at hr5
          have HR4 := Lib.hid hr4
          have HR5 := Lib.hid hr5
          have HT5 := Lib.hid hT5
          have hlen : i + 1 + (left.take 0 ++ left.drop (0 + 1)).length = n ∧ lenOf v5 < nl := by
            have hnl := HNL.out
            have h1 : (left.take 0 ++ left.drop (0 + 1)).length = nl - 1 := by rw [List.length_append, List.length_take, List.length_drop, Nat.min_eq_left (by omega)]; omega
            obtain ⟨a5, c5, e5, -⟩ := hT5.left.form
            rw [h1] at e5 ⊢
            exact ⟨by omega, by rw [e5, lenOf]; omega⟩
          have HLEN := Lib.hid hlen
          have HKK := Lib.hid hkc
          have hkd2 : cL - 1 = 0 := by omega
          clear hr4 hr5 hT5 hlen hkc hr2 hT2 hy hcs hly hcell
          go_wp2_with (first | (at_builtin; refine Lib.wpList_append_run _ rfl _ _ _ _ rfl _ _ rfl rfl _ _ HR2.out ?_) | (at_builtin; refine Lib.wpList_append_run _ rfl _ _ _ _ rfl _ _ rfl rfl _ _ HR4.out ?_) | (at_builtin; refine Lib.wpList_append_run _ rfl _ _ _ _ rfl _ _ rfl rfl _ _ HR5.out ?_))
          go_roundw
          case rel => exact ⟨i + 1, _, _, by go_num, HLEN.out.1, Lib.hid (perm_next HP.out HY.out), HT5⟩
          case measure => exact HLEN.out.2
        · obtain ⟨v4, W4, v5, W5, hr4, hr5, hT5⟩ := hT2.rest 0 (by have := HNL.out; omega) (by have := HNL.out; omega) (some ⟨g, (0 + 1) * 5, none⟩) (.inr rfl) (cL - (0 + 1)) 22 22
          rw [← HNL.out] at hr5
          simp only [Nat.zero_add, Nat.one_mul] at hr5
          have HR4 := Lib.hid hr4
          have HR5 := Lib.hid hr5
          have HT5 := Lib.hid hT5
          have hlen : i + 1 + (left.take 0 ++ left.drop (0 + 1)).length = n ∧ lenOf v5 < nl := by
            have hnl := HNL.out
            have h1 : (left.take 0 ++ left.drop (0 + 1)).length = nl - 1 := by rw [List.length_append, List.length_take, List.length_drop, Nat.min_eq_left (by omega)]; omega
            obtain ⟨a5, c5, e5, -⟩ := hT5.left.form
            rw [h1] at e5 ⊢
            exact ⟨by omega, by rw [e5, lenOf]; omega⟩
          have HLEN := Lib.hid hlen
          have HKK := Lib.hid hkc
          have hkd : ¬ cL = 1 := by omega
          have hkd2 : ¬ cL - 1 = 0 := by omega
          clear hr4 hr5 hT5 hlen hkc hr2 hT2 hy hcs hly hcell
          go_wp2_with (first | (at_builtin; refine Lib.wpList_append_run _ rfl _ _ _ _ rfl _ _ rfl rfl _ _ HR2.out ?_) | (at_builtin; refine Lib.wpList_append_run _ rfl _ _ _ _ rfl _ _ rfl rfl _ _ HR4.out ?_) | (at_builtin; refine Lib.wpList_append_run _ rfl _ _ _ _ rfl _ _ rfl rfl _ _ HR5.out ?_))
          go_roundw
          case rel => exact ⟨i + 1, _, _, by go_num, HLEN.out.1, Lib.hid (perm_next HP.out HY.out), HT5⟩
          case measure => exact HLEN.out.2
    · have hp1 : ¬ 0 < (nl : Int) := by omega
      have HTT := HT
      have hl0 : left = [] := List.length_eq_zero_iff.1 (by omega)
      have HL0 := Lib.hid hl0
      clear hl0 hfl hnl
      go_wp2_with fail
      go_ret
      obtain ⟨A9, c9, he9, hl9⟩ := HTT.out.out.lies HTT.out.old.size
      refine ⟨out, ?_, A9, c9, congrArg Ending.returned he9, hl9, HTT.out.old⟩
      have := HP.out
      rw [HL0.out, List.append_nil] at this
      exact this
end Go.Proofs.YtfiiaeomlmckfaaGreatDoor
