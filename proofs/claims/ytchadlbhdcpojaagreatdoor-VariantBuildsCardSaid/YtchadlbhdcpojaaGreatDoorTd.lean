/- Room for an item, walked: in a value that is owned behind a pointer. -/
import Derived.Test.YtchadlbhdcpojaaGreatDoorTc
import Derived.Test.YtchadlbhdcpojaaGreatDoorVl
namespace Go.Proofs.YtchadlbhdcpojaaGreatDoor
open Go.RowKit

theorem where_int {x : V} {s : Stp} : (findV x s).1 = (whereV x s : Nat) := by
  obtain ⟨i, k⟩ := s
  by_cases h0 : 0 ≤ i
  · simp [whereV, findV, h0]; omega
  · simp [whereV, findV, h0]
theorem where_le {x : V} {s : Stp} (hf : Fit x) (hk : x.kind = holderS s) (hl : ¬ s.1 > x.items.length) : whereV x s ≤ x.items.length := by
  obtain ⟨i, k⟩ := s
  by_cases h0 : 0 ≤ i
  · simp [whereV, findV, h0]; simp only at hl; omega
  · have h5 : x.kind = 5 := by rw [hk, holderS, if_pos (by simp only; omega)]
    rw [← hf.five h5]
    simp [whereV, findV, h0]; exact posK_le k x.keys
theorem where_lt {x : V} {s : Stp} (hf : Fit x) (hk : x.kind = holderS s) (h : (findV x s).2 = true) : whereV x s < x.items.length := by
  obtain ⟨i, k⟩ := s
  by_cases h0 : 0 ≤ i
  · simp [findV, h0] at h
    simp [whereV, findV, h0]; omega
  · have h5 : x.kind = 5 := by rw [hk, holderS, if_pos (by simp only; omega)]
    rw [← hf.five h5]
    simp [findV, h0] at h
    simp [whereV, findV, h0]
    exact (List.getElem?_eq_some_iff.1 ((posK_here k hf.rise).1 ((hasK_iff _ _).1 h))).1
theorem insN_len {l : List V} {n : Nat} (h : n ≤ l.length) : (l.take n ++ nullV :: l.drop n).length = l.length + 1 := by
  rw [List.length_append, List.length_cons, List.length_take, List.length_drop]; omega
theorem cells_five {W : World} {g : Nat} {t : TypeId} {pre post : List Value} {x : V} {vI vK : Value} (h : BlockIs W g t (pre ++ (five x vI vK ++ post)).toArray) :
    (W.cell? ⟨g, pre.length, none⟩ = some (.int .i64 x.kind) ∧ W.cell? ⟨g, pre.length + 1, none⟩ = some (.int .i64 x.int) ∧ W.cell? ⟨g, pre.length + 2, none⟩ = some (.string x.text) ∧ W.cell? ⟨g, pre.length + 3, none⟩ = some vI ∧ W.cell? ⟨g, pre.length + 4, none⟩ = some vK) ∧
    W.frozen? ⟨g, pre.length, none⟩ = false ∧ W.frozen? ⟨g, pre.length + 1, none⟩ = false ∧ W.frozen? ⟨g, pre.length + 2, none⟩ = false ∧ W.frozen? ⟨g, pre.length + 3, none⟩ = false ∧ W.frozen? ⟨g, pre.length + 4, none⟩ = false ∧ g < W.heap.size :=
  ⟨⟨block_at h (i := 0) rfl, block_at h (i := 1) rfl, block_at h (i := 2) rfl, block_at h (i := 3) rfl, block_at h (i := 4) rfl⟩, h.frozen _, h.frozen _, h.frozen _, h.frozen _, h.frozen _, h.lt⟩
theorem Tree.forms {w : World} {N : Nat} : ∀ {x : V} {vI vK : Value} {D : Nat → Prop}, Tree w N x vI vK D → (∃ A c, vI = .slice A x.items.length c) ∧ ∃ K d, vK = .slice K x.keys.length d
  | .mk _ _ _ _ _, _, _, _, h => by
    obtain ⟨h1, h2, h3, h4, h5, css, h6, h7⟩ := h
    exact ⟨own_form h6, own_form h3⟩
theorem Trees.one {w : World} {N : Nat} : ∀ {l : List V} {css : List (List Value)} {D : Nat → Prop}, Trees w N l css D → ∀ u ∈ css.flatten, u.oneCell' = true
  | [], [], _, _, u, hu => by cases hu
  | x :: r, cs :: t, _, h, u, hu => by
    obtain ⟨D1, D2, h1, h2, ⟨vI, vK, rfl, ht⟩, hr⟩ := h
    rw [List.flatten_cons, List.mem_append] at hu
    rcases hu with hu | hu
    · obtain ⟨⟨A, c, rfl⟩, K, d, rfl⟩ := ht.forms
      simp at hu
      rcases hu with rfl | rfl | rfl | rfl | rfl <;> rfl
    · exact Trees.one hr u hu
  | [], _ :: _, _, h, _, _ => h.elim
  | _ :: _, [], _, h, _, _ => h.elim
section
variable {W W' : World} {N g i : Nat} {t : TypeId} {pre post : List Value} {x : V} {vI vK : Value} {D : Nat → Prop}
/-- Where the items of a node are. -/
theorem Node.slot (h : Node W N g t pre post x vI vK D) (hi : i < x.items.length) : ∃ gI c, vI = .slice (some ⟨gI, 0, none⟩) x.items.length c := by
  obtain ⟨css, hcs, -⟩ := h.rows
  obtain ⟨hl, ⟨rfl, h0⟩ | ⟨gI, c, cur, rfl, hB, hb, hn, hm, hs, htk⟩⟩ := hcs
  · omega
  · exact ⟨gI, c, rfl⟩
end
/-- What room leaves. -/
def RoomPost (y : V) (n N g : Nat) (t : TypeId) (pre post : List Value) (D : Nat → Prop) (W : World) (e : Ending) (W' : World) : Prop :=
  ∃ gI c vK' D', e = .returned (.pointer (some ⟨gI, n * 5, none⟩)) ∧ Node W' N g t pre post y (.slice (some ⟨gI, 0, none⟩) y.items.length c) vK' D' ∧ (∀ b, D' b → D b ∨ W.heap.size ≤ b) ∧ Fr W W' g D

set_option maxRecDepth 100000 in
set_option maxHeartbeats 8000000 in
theorem room_any (x : V) (i : Int) (k : ByteArray) (N g : Nat) (t : TypeId) (pre post : List Value) (vI vK : Value) (D : Nat → Prop) (W : World)
    (h : Node W N g t pre post x vI vK D) (hf : Fit x) (h60 : x.items.length ≤ 9999) (hk : x.kind = holderS (i, k)) (hl : ¬ i > x.items.length) (hks : k.size ≤ maxLen) :
    Calls Tryz.prog 32 #[.pointer (some ⟨g, pre.length, none⟩), .agg #[.int .i64 i, .string k]] W (RoomPost (roomV x (i, k)) (whereV x (i, k)) N g t pre post D W) := by
  obtain ⟨A, c, K, d, rfl, rfl, hlie⟩ := h.lies
  have hgW := h.row.lt
  have hkl : x.keys.length ≤ 10000 := by
    by_cases h5 : x.kind = 5
    · rw [hf.five h5]; omega
    · rw [hf.none h5]; simp
  have hb0 := (below_al (Below.refl _ W) (.cells #[.int .i64 i, .string k] 34)).drew
  have hfind := find_any x (i, k) (W.alloc (.cells #[.int .i64 i, .string k] 34)).drew A K c d (lies_on hlie hb0) hf.rise hkl
  rw [where_int] at hfind
  have HFIND := Lib.hid hfind
  have HN0 := Lib.hid (h.on hb0)
  have HS0 := Lib.hid (show BlockIs (W.alloc (.cells #[.int .i64 i, .string k] 34)).drew W.heap.size 34 #[.int .i64 i, .string k] from BlockIs.new W 34 #[.int .i64 i, .string k])
  have HB0 := Lib.hid hb0
  have HDW := Lib.hid (show ∀ b, D b → b < W.heap.size from fun b hb => (h.low b hb).2)
  have HBASE := Lib.hid h.base
  obtain ⟨c0, c1, c2, c3, c4⟩ := h.cells
  obtain ⟨f0, f1, f2, f3, f4, -⟩ := h.frozen
  have HWL := Lib.hid (where_le hf hk hl)
  have HWT := Lib.hid (where_lt hf hk)
  have HF := Lib.hid hf
  have HK := Lib.hid hk
  have HKS := Lib.hid hks
  have HRV := Lib.hid (show (findV x (i, k)).2 = true → roomV x (i, k) = x from fun e => by rw [roomV, if_pos e])
  have HRI := Lib.hid (show (findV x (i, k)).2 = false → roomV x (i, k) = .mk x.kind x.int x.text (x.items.take (whereV x (i, k)) ++ nullV :: x.items.drop (whereV x (i, k))) (if x.kind = 5 then x.keys.take (whereV x (i, k)) ++ k :: x.keys.drop (whereV x (i, k)) else x.keys) from fun e => by rw [roomV, if_neg (by simp [e])])
  obtain ⟨y, hy⟩ : ∃ y, y = roomV x (i, k) := ⟨_, rfl⟩
  obtain ⟨n, hn⟩ : ∃ n, n = whereV x (i, k) := ⟨_, rfl⟩
  rw [← hn] at HFIND HWL HWT HRI ⊢
  rw [← hy] at HRV HRI ⊢
  have hn0 : 0 ≤ (n : Int) := by omega
  have hnn : n ≤ x.items.length := HWL.out
  clear h hlie hb0 hf hk hl hkl hks hn hy hfind
  go_enter Tryz.func32, Tryz.ntmps32
  go_wp2_with fail
  go_region_with (go_at_call 27; refine HFIND.out.mono ?_; rintro e w1 ⟨rfl, h1⟩)
  all_goals
    have HN1 := Lib.hid (HN0.out.on h1)
    have HS1 := Lib.hid (HS0.out.below h1 HS0.out.lt)
    have HB1 := Lib.hid (below_on HB0.out h1)
    have hz1 : W.heap.size + 1 ≤ w1.heap.size := by have := h1.size; simpa using this
    clear c0 c1 c2 c3 c4 f0 f1 f2 f3 f4 HN0 HS0 HB0 HFIND h1
    cases hth : (findV x (i, k)).2
    · obtain ⟨c0, c1, c2, c3, c4⟩ := HN1.out.cells
      obtain ⟨f0, f1, f2, f3, f4, gl⟩ := HN1.out.frozen
      have hfar : ∀ b, D b → b < w1.heap.size := fun b hb => (HN1.out.low b hb).2
      have HN2 := Lib.hid (HN1.out.on (below_al (Below.refl _ w1) (.cells zeroF 27)))
      have HS2 := Lib.hid (HS1.out.alloc (.cells zeroF 27))
      have HB2 := Lib.hid (below_al HB1.out (.cells zeroF 27))
      obtain ⟨css, hcs, htr, hkr, hI, hKk, -, -⟩ := HN2.out.rows
      have HCS := Lib.hid hcs
      have HTR := Lib.hid htr
      have hne : some w1.heap.size ≠ (Value.slice A x.items.length c).ownBlock := fun e => by have := hfar _ (hI _ e.symm); omega
      have hbase : N ≤ (w1.alloc (.cells zeroF 27)).heap.size := by have := HBASE.out; simp; omega
      have HINS := Lib.hid (insV (w1.alloc (.cells zeroF 27)) N (.slice A x.items.length c) x.items.length n css.flatten w1.heap.size zeroF hcs hnn (by omega) hne (BlockIs.new w1 _ _) rfl (by decide) htr.one hbase)
      have HI := Lib.hid (show ∀ b, (Value.slice A x.items.length c).ownBlock = some b → D b from hI)
      clear HN1 HS1 HB1 hcs htr hkr hI hKk hne hbase hfar HWT HRV
      go_wp2_with fail
      refine HINS.out.mono ?_
      rintro e w2 ⟨v', rfl, hown, hgrow, hwh⟩
      obtain ⟨hNI, hFI⟩ := HN2.out.insI hnn HCS.out HTR.out hown hgrow hwh
      obtain ⟨gI, c', e1⟩ := hNI.slot (i := n) (by show n < (x.items.take n ++ nullV :: x.items.drop n).length; rw [insN_len hnn]; omega)
      rw [show (V.mk x.kind x.int x.text (x.items.take n ++ nullV :: x.items.drop n) x.keys).items.length = x.items.length + 1 from insN_len hnn] at e1
      subst e1
      clear c0 c1 c2 c3 c4 f0 f1 f2 f3 f4 gl
      obtain ⟨⟨c0, c1, c2, c3, c4⟩, f0, f1, f2, f3, f4, gl⟩ := cells_five (HN2.out.row.grown hgrow (fun e => HN2.out.far (HI.out g e.symm)))
      have hsz := hgrow.size
      have hsz' : W.heap.size + 2 ≤ w2.heap.size := by simp at hsz; omega
      obtain ⟨W3, hW3⟩ : ∃ W3, W3 = w2.setCell ⟨g, pre.length + 3, none⟩ (.slice (some ⟨gI, 0, none⟩) (x.items.length + 1) c') := ⟨_, rfl⟩
      have HW3 := Lib.hid hW3
      rw [← hW3] at hNI hFI
      have HS3 := Lib.hid (show BlockIs W3 W.heap.size 34 #[.int .i64 i, .string k] from HS2.out.to (hFI.block W.heap.size (by simp; omega) (by omega) (fun e => by have := HDW.out _ e; omega)))
      have HN3 := Lib.hid hNI
      have HF3 := Lib.hid ((Fr.of_below HB2.out g D).trans hFI (fun b h => .inl h))
      have hz3 : W3.heap.size = w2.heap.size := by rw [hW3]; simp
      have hni : (n : Int) < ((x.items.length + 1 : Nat) : Int) := by omega
      clear hNI hFI hW3 hown hgrow hwh HN2 HS2 HB2 HCS HTR HINS HI hsz
      by_cases h5 : x.kind = 5
      · rw [h5] at c0
        go_wp2_with fail
        rw [← HW3.out]
        have HN4 := Lib.hid (HN3.out.on (below_al (Below.refl _ W3).drew (.cells #[.string k] 9)))
        obtain ⟨-, -, -, hkr, -, hKk, -, -⟩ := HN4.out.rows
        have hkl : x.keys.length = x.items.length := HF.out.five h5
        have hne : some W3.heap.size ≠ (Value.slice K x.keys.length d).ownBlock := fun e => by have := (HN3.out.low _ (hKk _ e.symm).1).2; omega
        have hbase : N ≤ (W3.drew.alloc (.cells #[.string k] 9)).heap.size := by have := HBASE.out; simp; omega
        have HINS := Lib.hid (insS (W3.drew.alloc (.cells #[.string k] 9)) N (.slice K x.keys.length d) x.keys.length n (x.keys.map Value.string) W3.heap.size #[.string k] hkr (by omega) (by omega) hne (BlockIs.new W3.drew _ _) rfl (by intro u hu; simp at hu; subst hu; rfl) (by intro u hu; obtain ⟨q, -, rfl⟩ := List.mem_map.1 hu; rfl) hbase)
        have HKK := Lib.hid (show (Value.slice K x.keys.length d).ownBlock = some g → False from fun e => HN4.out.far (hKk g e).1)
        have s1 : W3.cell? ⟨W.heap.size, 1, none⟩ = some (.string k) := HS3.out.cell 1
        have slt : W.heap.size < W3.heap.size := by omega
        have hnk : (n : Int) ≤ x.keys.length := by omega
        have hnk2 : n ≤ x.keys.length := by omega
        have hz4 : W.heap.size + 2 ≤ W3.heap.size := by omega
        clear hkl hz3 c0 c1 c2 c3 c4 f0 f1 f2 f3 f4 gl hkr hKk hne hbase
        obtain ⟨c0, c1, c2, c3, c4⟩ := HN3.out.cells
        obtain ⟨f0, f1, f2, f3, f4, gl⟩ := HN3.out.frozen
        rw [show (V.mk x.kind x.int x.text (x.items.take n ++ nullV :: x.items.drop n) x.keys).kind = x.kind from rfl] at c0
        go_region_with (go_at_call 49; refine HINS.out.mono ?_; rintro e w5 ⟨v2, rfl, hown2, hgrow2, hwh2⟩; obtain ⟨A2, d2', rfl⟩ := own_form hown2; obtain ⟨⟨d0, d1, d2, d3, d4⟩, q0, q1, q2, q3, q4, ql⟩ := cells_five (HN4.out.row.grown hgrow2 (fun e => HKK.out e.symm)))
        all_goals
          obtain ⟨hN5, hF5⟩ := HN4.out.insK HKS.out hnk2 hown2 hgrow2 hwh2
          have HN5 := Lib.hid hN5
          have HF5 := Lib.hid hF5
          clear hown2 hgrow2 hwh2 hN5 hF5 c0 c1 c2 c3 c4 f0 f1 f2 f3 f4 gl s1
          go_wp2_with fail
          go_ret
          have ey := HRI.out hth
          rw [if_pos h5] at ey
          subst ey
          have hN5 := HN5.out
          rw [show x.items.length + 1 = (V.mk x.kind x.int x.text (x.items.take n ++ nullV :: x.items.drop n) (x.keys.take n ++ k :: x.keys.drop n)).items.length from (insN_len hnn).symm] at hN5
          refine ⟨gI, c', _, _, rfl, hN5, fun b hb => ?_, (HF3.out.trans (Fr.of_below (below_al (Below.refl _ W3).drew (.cells #[.string k] 9)) g _) (fun b h => h)).trans HF5.out (fun b hb => ?_)⟩
          · rcases hb with (hb | hb) | hb
            · exact .inl hb
            · exact .inr (by have := hb.1; simp at this; omega)
            · exact .inr (by have := hb.1; simp at this; omega)
          · rcases hb with hb | hb
            · exact .inl hb
            · exact .inr (by have := hb.1; simp at this; omega)
      · have h4 : x.kind = 4 := by have := HK.out; unfold holderS at this; split at this <;> omega
        rw [h4] at c0
        go_wp2_with fail
        go_ret
        have ey := HRI.out hth
        rw [if_neg h5] at ey
        subst ey
        rw [← HW3.out]
        have hN3 := HN3.out
        rw [show x.items.length + 1 = (V.mk x.kind x.int x.text (x.items.take n ++ nullV :: x.items.drop n) x.keys).items.length from (insN_len hnn).symm] at hN3
        exact ⟨gI, c', _, _, rfl, hN3, fun b hb => hb.elim .inl (fun h => .inr (by have := h.1; simp at this; omega)), HF3.out⟩
    · have hlt := HWT.out hth
      obtain ⟨gI, c', e1⟩ := HN1.out.slot hlt
      have hlt' : (n : Int) < x.items.length := by omega
      have HN2 := HN1.out
      rw [e1] at HN2
      have HN2 := Lib.hid HN2
      obtain ⟨c0, c1, c2, c3, c4⟩ := HN2.out.cells
      obtain ⟨f0, f1, f2, f3, f4, gl⟩ := HN2.out.frozen
      clear HN1 e1
      go_wp2_with fail
      go_ret
      rw [HRV.out hth]
      exact ⟨gI, c', _, _, rfl, HN2.out, fun b hb => .inl hb, Fr.of_below HB1.out g D⟩
end Go.Proofs.YtchadlbhdcpojaaGreatDoor
