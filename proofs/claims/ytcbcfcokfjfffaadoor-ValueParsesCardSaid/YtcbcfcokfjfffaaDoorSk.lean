/- Parse of the specification, walked. -/
import Derived.Test.YtcbcfcokfjfffaaDoorSj
import Derived.Test.YtcbcfcokfjfffaaDoorZe
namespace Go.Proofs.YtcbcfcokfjfffaaDoor
open Go.RowKit

theorem rwent_below {g k : Nat} {s : ByteArray} {bl bd : Bool} {w w1 w2 : World} (hB : Below w.heap.size w w1) (h : RWent g s k bl bd w1 w2) (hg : w.heap.size ≤ g) : Below w.heap.size w w2 :=
  hB.trans (below_grow h.1 hB.size (fun r e => by have := Option.some.inj e; omega))
/-- Where the reading of a whole string stands, behind its value. -/
structure PS (w : World) (s : ByteArray) (k : Nat) (bd : Bool) (x : V) (A : Option Addr) (c : Nat) (K : Option Addr) (q : Nat) (W : World) : Prop where
  old : Below w.heap.size w W
  b0 : BlockIs W w.heap.size 25 zeroF
  at_ : RAt W (w.heap.size + 1) s k true bd
  lies : LiesIn (fun b => w.heap.size + 2 ≤ b ∧ b < W.heap.size) W x A c K q
theorem PS.step {w W W' : World} {s : ByteArray} {k k' : Nat} {bd bd' : Bool} {x : V} {A K : Option Addr} {c q : Nat} (h : PS w s k bd x A c K q W) (hw : RWent (w.heap.size + 1) s k' true bd' W W') : PS w s k' bd' x A c K q W' := by
  obtain ⟨h1, h2, h3, h4⟩ := h
  have hs := hw.1.size
  exact ⟨rwent_below h1 hw (by omega), h2.grown hw.1 (by simp), hw.2, LiesIn.keep (fun b o hb => hw.1.cell_far ⟨b, o, none⟩ hb.2 (by have := hb.1; simp; omega)) (fun b hb => ⟨hb.1, by have := hb.2; omega⟩) _ h4⟩
theorem PS.bad {w W : World} {s : ByteArray} {k : Nat} {bd : Bool} {x : V} {A K : Option Addr} {c q : Nat} (h : PS w s k bd x A c K q W) (u0 u1 u2 u3 u4 : Value) : Below w.heap.size w (put5 W w.heap.size 0 u0 u1 u2 u3 u4) :=
  ((((h.old.setCell (by simp) _).setCell (by simp) _).setCell (by simp) _).setCell (by simp) _).setCell (by simp) _
theorem PS.good {w W : World} {s : ByteArray} {k : Nat} {bd : Bool} {x : V} {A K : Option Addr} {c q : Nat} (h : PS w s k bd x A c K q W) (u0 u1 u2 u3 u4 : Value) :
    LiesIn (Fresh w (put5 W w.heap.size 0 u0 u1 u2 u3 u4)) (put5 W w.heap.size 0 u0 u1 u2 u3 u4) x A c K q ∧ Below w.heap.size w (put5 W w.heap.size 0 u0 u1 u2 u3 u4) := by
  have hs := put5_size W w.heap.size 0 u0 u1 u2 u3 u4
  exact ⟨LiesIn.keep (fun b o hb => World.cell?_of_block (put5_heap W w.heap.size 0 u0 u1 u2 u3 u4 (by have := hb.1; show b ≠ w.heap.size; omega))) (fun b hb => ⟨by have := hb.1; omega, by rw [hs]; exact hb.2⟩) _ h.lies, h.bad _ _ _ _ _⟩
theorem parse_good {s : ByteArray} {x : V} {k2 k3 : Nat} {l : List UInt8} (hf : valueR true 6 l = some (x, sfx s k2)) (h3 : sfx s k3 = skipB true (sfx s k2)) :
    (match valueR true 6 l with | none => none | some (x, r) => if skipP r = [] ∧ x.valid = true then some x else none) = if ¬ k3 < s.size ∧ x.valid = true then some x else none := by
  rw [hf]
  have : skipP (sfx s k2) = [] ↔ ¬ k3 < s.size := by
    rw [show skipP (sfx s k2) = sfx s k3 from h3.symm]
    constructor
    · intro e hlt; rw [sfx_cons hlt] at e; cases e
    · exact sfx_nil
  simp only [this]

set_option maxRecDepth 100000 in
set_option maxHeartbeats 8000000 in
theorem refParse_any (s : ByteArray) (hs : s.size ≤ 1000000) (w : World) : Calls Tryd.prog 29 #[.string s] w (PPost w (parseP s.data.toList)) := by
  obtain ⟨R, hR⟩ : ∃ R, R = parseP s.data.toList := ⟨_, rfl⟩
  rw [← hR]
  have HPA := Lib.hid (hR.trans (parse_agree s.data.toList))
  have HVW := Lib.hid fun g W (h : RAt W g s 0 true false) => value_form g s true false 6 (valueR true 6) 0 W (value_walkR g s hs true 6 (Nat.le_refl _) false 0 W h (Nat.zero_le _))
  have H0 := Lib.hid (show Below w.heap.size w ((w.alloc (.cells zeroF 25)).alloc (.cells #[.string s, .int .i64 0, .bool true, .bool false] 73)) ∧ BlockIs ((w.alloc (.cells zeroF 25)).alloc (.cells #[.string s, .int .i64 0, .bool true, .bool false] 73)) w.heap.size 25 zeroF from
    ⟨below_al (below_al (Below.refl _ w) _) _, (BlockIs.new w _ _).alloc _⟩)
  clear hR
  go_enter Tryd.func29, Tryd.ntmps29
  go_wp2_with fail
  refine (HVW.out (w.heap.size + 1) _ (BlockIs.newAt _ _ _ (by simp))).mono ?_
  rintro e w1 ⟨x, A, c, K, q, k2, bd2, rfl, hx, hk2, hW, HX⟩
  have HP1 := Lib.hid (show PS w s k2 bd2 x A c K q w1 from ⟨rwent_below H0.out.1 hW (by omega), H0.out.2.grown hW.1 (by simp), hW.2, LiesIn.keep (fun _ _ _ => rfl) (fun b hb => ⟨by have := hb.1; simp at this; omega, hb.2⟩) _ hx⟩)
  clear hx hW H0 HVW
  unfold cellsOf
  go_wp2_with fail
  obtain ⟨W2, hW2⟩ : ∃ W2, W2 = w1.alloc (.cells #[.int .i64 x.kind, .int .i64 x.int, .string x.text, .slice A x.items.length c, .slice K x.keys.length q] 25) := ⟨_, rfl⟩
  have hR2 : RWent (w.heap.size + 1) s k2 true bd2 w1 W2 := by rw [hW2]; exact (RWent.refl HP1.out.at_).alloc _
  have HP2 := Lib.hid (HP1.out.step hR2)
  have HY2 := Lib.hid (show BlockIs W2 w1.heap.size 25 #[.int .i64 x.kind, .int .i64 x.int, .string x.text, .slice A x.items.length c, .slice K x.keys.length q] by rw [hW2]; exact BlockIs.new _ _ _)
  have hz1 : w.heap.size + 1 < w1.heap.size := HP1.out.at_.lt
  rw [← hW2]
  clear hW2 hR2 HP1
  refine (skip_any (w.heap.size + 1) s k2 true bd2 W2 HP2.out.at_ hk2 hs).mono ?_
  rintro e w3 ⟨rfl, k3, hk3, hsk3, hW3⟩
  have HP := Lib.hid (HP2.out.step hW3)
  have HY := Lib.hid (HY2.out.grown hW3.1 (by simp; omega))
  have HS3 := Lib.hid hsk3
  clear hW3 hsk3 HP2 HY2
  obtain ⟨⟨c0, c1', c2, c3⟩, f1, f3⟩ := HP.out.at_.cells
  have gz := HP.out.at_.lt
  obtain ⟨y0, y1, y2, y3, y4⟩ := five_cells HY.out
  obtain ⟨z0, z1, z2, z3, z4⟩ := five_cells (show BlockIs w3 w.heap.size 25 #[.int .i64 0, .int .i64 0, .string ⟨#[]⟩, .slice none 0 0, .slice none 0 0] from HP.out.b0)
  have x0 := HP.out.b0.frozen 0
  have x1 := HP.out.b0.frozen 1
  have x2 := HP.out.b0.frozen 2
  have x3 := HP.out.b0.frozen 3
  have x4 := HP.out.b0.frozen 4
  have e0 : sfx s 0 = s.data.toList := rfl
  rcases HX.out with ⟨rfl, hn⟩ | ⟨rfl, -, hf⟩
  · have HN := Lib.hid (show R = none by
      rw [HPA.out]
      rcases hn with hn | hn
      · cases hn
      · rw [← e0, hn])
    clear hn HX
    go_wp2_with fail
    refine bodyPost_ret (v := .tuple #[cellsOf (leaf 0 0 ⟨#[]⟩) none 0 none 0, .int .i64 14]) (by simp [results, Tryd.results29, go_sem, cellsOf, leaf, V.kind, V.int, V.text, V.items, V.keys, z0, z1, z2, z3, z4]) rfl ?_
    rw [HN.out]
    exact ⟨rfl, HP.out.bad _ _ _ _ _⟩
  · have HG := Lib.hid (HPA.out.trans (parse_good (by rw [← e0]; exact hf) HS3.out))
    clear hf HX
    by_cases hlt : k3 < s.size
    · have HN := Lib.hid (show R = none by rw [HG.out]; simp [hlt])
      go_wp2_with fail
      refine bodyPost_ret (v := .tuple #[cellsOf (leaf 0 0 ⟨#[]⟩) none 0 none 0, .int .i64 14]) (by simp [results, Tryd.results29, go_sem, cellsOf, leaf, V.kind, V.int, V.text, V.items, V.keys, z0, z1, z2, z3, z4]) rfl ?_
      rw [HN.out]
      exact ⟨rfl, HP.out.bad _ _ _ _ _⟩
    · obtain ⟨vb, hv⟩ : ∃ vb, x.valid = vb := ⟨_, rfl⟩
      have HV := Lib.hid hv
      clear hv
      go_wp2_with fail
      refine (valid_is x w3 A K c q (LiesIn.lies (fun b hb => hb.2) x HP.out.lies) HV.out).mono ?_
      rintro e w4 ⟨rfl, h4⟩
      have HP4 := Lib.hid (HP.out.step ((RWent.refl HP.out.at_).below h4))
      have HY4 := Lib.hid (HY.out.below h4 HY.out.lt)
      clear c0 c1' c2 c3 f1 f3 gz y0 y1 y2 y3 y4 z0 z1 z2 z3 z4 x0 x1 x2 x3 x4 h4 HP HY
      have HP := HP4
      have HY := HY4
      clear HP4 HY4
      obtain ⟨⟨c0, c1', c2, c3⟩, f1, f3⟩ := HP.out.at_.cells
      have gz := HP.out.at_.lt
      obtain ⟨y0, y1, y2, y3, y4⟩ := five_cells HY.out
      obtain ⟨z0, z1, z2, z3, z4⟩ := five_cells (show BlockIs w4 w.heap.size 25 #[.int .i64 0, .int .i64 0, .string ⟨#[]⟩, .slice none 0 0, .slice none 0 0] from HP.out.b0)
      have x0 := HP.out.b0.frozen 0
      have x1 := HP.out.b0.frozen 1
      have x2 := HP.out.b0.frozen 2
      have x3 := HP.out.b0.frozen 3
      have x4 := HP.out.b0.frozen 4
      cases vb
      · have HN := Lib.hid (show R = none by rw [HG.out]; simp [HV.out])
        go_wp2_with fail
        refine bodyPost_ret (v := .tuple #[cellsOf (leaf 0 0 ⟨#[]⟩) none 0 none 0, .int .i64 14]) (by simp [results, Tryd.results29, go_sem, cellsOf, leaf, V.kind, V.int, V.text, V.items, V.keys, z0, z1, z2, z3, z4]) rfl ?_
        rw [HN.out]
        exact ⟨rfl, HP.out.bad _ _ _ _ _⟩
      · have HN := Lib.hid (show R = some x by rw [HG.out]; simp [HV.out, hlt])
        go_wp2_with fail
        refine bodyPost_ret (v := .tuple #[cellsOf x A c K q, .int .i64 0]) (by simp [results, Tryd.results29, go_sem, cellsOf, z0, z1, z2, z3, z4]) rfl ?_
        rw [HN.out]
        exact ⟨_, _, _, _, rfl, (HP.out.good _ _ _ _ _).1, (HP.out.good _ _ _ _ _).2⟩
end Go.Proofs.YtcbcfcokfjfffaaDoor
