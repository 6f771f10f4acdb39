/- The specification's look for an item, walked. -/
import Derived.Test.YtchadlbhdcpojaaGreatDoorVc
import Derived.Test.YtchadlbhdcpojaaGreatDoorVf
import Derived.Deep.RegionWith
import Derived.Deep.RegionHeld3
import Derived.Deep.DrawnRows
namespace Go.Proofs.YtchadlbhdcpojaaGreatDoor
open Go.RowKit
/-- The three boxes of that look. -/
structure IBox (w : World) (B : Nat) (x : V) (A : Option Addr) (c : Nat) (K : Option Addr) (d : Nat) (i : Int) (t : ByteArray) (W : World) : Prop where
  old : Below w.heap.size w W
  bx : BlockIs W w.heap.size 27 #[.int .i64 x.kind, .int .i64 x.int, .string x.text, .slice A x.items.length c, .slice K x.keys.length d]
  bs : BlockIs W (w.heap.size + 1) 34 #[.int .i64 i, .string t]
  br : BlockIs W (w.heap.size + 2) 27 zeroF
  lies : Lies W B x A c K d
theorem IBox.start (w : World) (B : Nat) (hB : B ≤ w.heap.size) (x : V) (A : Option Addr) (c : Nat) (K : Option Addr) (d : Nat) (i : Int) (t : ByteArray) (h : Lies w B x A c K d) :
    IBox w B x A c K d i t (((w.alloc (.cells #[.int .i64 x.kind, .int .i64 x.int, .string x.text, .slice A x.items.length c, .slice K x.keys.length d] 27)).alloc (.cells #[.int .i64 i, .string t] 34)).alloc (.cells zeroF 27)) := by
  have hb : Below w.heap.size w (((w.alloc (.cells #[.int .i64 x.kind, .int .i64 x.int, .string x.text, .slice A x.items.length c, .slice K x.keys.length d] 27)).alloc (.cells #[.int .i64 i, .string t] 34)).alloc (.cells zeroF 27)) := below_al (below_al (below_al (Below.refl _ w) _) _) _
  exact ⟨hb, ((BlockIs.new w _ _).alloc _).alloc _, (BlockIs.newAt _ _ _ (by simp)).alloc _, BlockIs.newAt _ _ _ (by simp), Lies.keep (fun b o hb' => bcell hb b o (by omega)) (Nat.le_refl _) _ h⟩
theorem IBox.drewN {w W : World} {B : Nat} {x : V} {A K : Option Addr} {c d : Nat} {i : Int} {t : ByteArray} (h : IBox w B x A c K d i t W) (q : Nat) : IBox w B x A c K d i t (W.drewN q) :=
  ⟨below_drewN h.old q, h.bx, h.bs, h.br, Lies.keep (w := W) (w' := W.drewN q) (fun _ _ _ => rfl) (Nat.le_refl _) _ h.lies⟩
theorem IBox.put5 {w W : World} {B : Nat} {x : V} {A K : Option Addr} {c d : Nat} {i : Int} {t : ByteArray} (h : IBox w B x A c K d i t W) {u0 u1 u2 u3 u4 : Value} : Below w.heap.size w (Go.Proofs.YtchadlbhdcpojaaGreatDoor.put5 W (w.heap.size + 2) 0 u0 u1 u2 u3 u4) :=
  ((((h.old.setCell (by simp) _).setCell (by simp) _).setCell (by simp) _).setCell (by simp) _).setCell (by simp) _
theorem IBox.item {w W : World} {B : Nat} {x y : V} {A K Ay Ky : Option Addr} {c d cy dy : Nat} {i : Int} {t : ByteArray} (_h : IBox w B x A c K d i t W) {u0 u1 u2 u3 u4 : Value} (hB : B ≤ w.heap.size) (hy : Lies W B y Ay cy Ky dy) :
    Lies (Go.Proofs.YtchadlbhdcpojaaGreatDoor.put5 W (w.heap.size + 2) 0 u0 u1 u2 u3 u4) B y Ay cy Ky dy := by
  exact Lies.keep (fun b o hb => World.cell?_of_block (put5_heap W (w.heap.size + 2) 0 u0 u1 u2 u3 u4 (show b ≠ w.heap.size + 2 by omega))) (Nat.le_refl _) _ hy
open Go.RowKit
/-- Where a look along a path stands: the box of the part, the box of what is answered. -/
structure GS (w : World) (B : Nat) (x : V) (p : List Stp) (j : Nat) (y : V) (A : Option Addr) (c : Nat) (K : Option Addr) (d : Nat) (W : World) : Prop where
  old : Below w.heap.size w W
  bv : BlockIs W w.heap.size 27 #[.int .i64 y.kind, .int .i64 y.int, .string y.text, .slice A y.items.length c, .slice K y.keys.length d]
  br : BlockIs W (w.heap.size + 1) 27 zeroF
  lies : Lies W B y A c K d
  le : B ≤ w.heap.size
  ok : y.ok = true ∧ y.nodes ≤ 60
  at_ : atV y (p.drop j) = atV x p
section
variable {w W W' : World} {B : Nat} {x y z : V} {p : List Stp} {j : Nat} {s : Stp} {A K A' K' : Option Addr} {c d c' d' : Nat}
theorem GS.start (hB : B ≤ w.heap.size) (h : Lies w B x A c K d) (hok : x.ok = true) (hn : x.nodes ≤ 60) (p : List Stp) :
    GS w B x p 0 x A c K d ((w.alloc (.cells #[.int .i64 x.kind, .int .i64 x.int, .string x.text, .slice A x.items.length c, .slice K x.keys.length d] 27)).alloc (.cells zeroF 27)) := by
  have hb := below_al (below_al (Below.refl _ w) (.cells #[.int .i64 x.kind, .int .i64 x.int, .string x.text, .slice A x.items.length c, .slice K x.keys.length d] 27)) (.cells zeroF 27)
  exact ⟨hb, (BlockIs.new w _ _).alloc _, BlockIs.newAt _ _ _ (by simp), Lies.keep (fun b o hb' => bcell hb b o (by omega)) (Nat.le_refl _) _ h, hB, ⟨hok, hn⟩, rfl⟩
theorem GS.below (h : GS w B x p j y A c K d W) (hb : Below W.heap.size W W') : GS w B x p j y A c K d W' := by
  obtain ⟨h1, h2, h3, h4, hle, h5, h6⟩ := h
  have hz := h1.size
  exact ⟨below_on h1 hb, h2.below hb h2.lt, h3.below hb h3.lt, Lies.keep (fun b o hb' => bcell hb b o (by omega)) (Nat.le_refl _) _ h4, hle, h5, h6⟩
theorem GS.next (h : GS w B x p j y A c K d W) (hs : p[j]? = some s) (hi : itemV y s = some z) (hz : Lies W B z A' c' K' d') :
    GS w B x p (j + 1) z A' c' K' d' (put5 W w.heap.size 0 (.int .i64 z.kind) (.int .i64 z.int) (.string z.text) (.slice A' z.items.length c') (.slice K' z.keys.length d')) := by
  obtain ⟨h1, h2, h3, h4, hle, h5, h6⟩ := h
  have hm := item_mem hi
  refine ⟨((((h1.setCell (by simp) _).setCell (by simp) _).setCell (by simp) _).setCell (by simp) _).setCell (by simp) _, ?_, (put5_heap W w.heap.size 0 _ _ _ _ _ (by omega)).trans h3,
    Lies.keep (fun b o hb => World.cell?_of_block (put5_heap W w.heap.size 0 _ _ _ _ _ (show b ≠ w.heap.size by omega))) (Nat.le_refl _) _ hz, hle, ⟨okItems h5.1 z hm, ?_⟩, ?_⟩
  · have := ((((h2.set_ 0 (.int .i64 z.kind)).set_ 1 (.int .i64 z.int)).set_ 2 (.string z.text)).set_ 3 (.slice A' z.items.length c')).set_ 4 (.slice K' z.keys.length d')
    simpa [put5] using this
  · have := V.nodes_mem hm; have := nodes_items y; omega
  · rw [at_step hs, hi] at h6; exact h6
theorem GS.none (h : GS w B x p j y A c K d W) (hs : p[j]? = some s) (hi : itemV y s = none) : atV x p = none := by
  have := h.at_
  rw [at_step hs, hi] at this
  exact this.symm
theorem GS.over (h : GS w B x p j y A c K d W) {n : Nat} (hn : n = p.length) (hj : ¬ j < n) : atV x p = some y := h.at_.symm.trans (at_end hn hj)
end
/-- What both say of a path. -/
def getV (x : V) (p : List Stp) : V × Bool × Int := if (x.valid && pathB p) = true then (match atV x p with | none => (leaf 0 0 ⟨#[]⟩, false, 0) | some y => (y, true, 0)) else (leaf 0 0 ⟨#[]⟩, false, 1)
def GetPost (x : V) (p : List Stp) (w : World) (e : Ending) (w' : World) : Prop :=
  ∃ A c K d, e = .returned (.tuple #[aggOf (getV x p).1 A c K d, .bool (getV x p).2.1, .int .i64 (getV x p).2.2]) ∧ Lies w' w'.heap.size (getV x p).1 A c K d ∧ Below w.heap.size w w'
open Go.RowKit
section
variable {w W : World} {B : Nat} {x y : V} {p : List Stp} {j : Nat} {A K : Option Addr} {c d : Nat} {u0 u1 u2 u3 u4 : Value}
theorem GS.ends (h : GS w B x p j y A c K d W) : Below w.heap.size w (put5 W (w.heap.size + 1) 0 u0 u1 u2 u3 u4) :=
  ((((h.old.setCell (by simp) _).setCell (by simp) _).setCell (by simp) _).setCell (by simp) _).setCell (by simp) _
theorem GS.boxed {wr w1 : World} (h : GS w B x p j y A c K d wr) (hb : Below wr.heap.size wr w1) : GS w B x p j y A c K d (put5 w1 wr.heap.size 0 u0 u1 u2 u3 u4) :=
  h.below (((((hb.setCell (Nat.le_refl _) _).setCell (Nat.le_refl _) _).setCell (Nat.le_refl _) _).setCell (Nat.le_refl _) _).setCell (Nat.le_refl _) _)
theorem GS.there (h : GS w B x p j y A c K d W) : Lies (put5 W (w.heap.size + 1) 0 u0 u1 u2 u3 u4) B y A c K d :=
  Lies.keep (fun b o hb => World.cell?_of_block (put5_heap W (w.heap.size + 1) 0 _ _ _ _ _ (show b ≠ w.heap.size + 1 by have := h.le; omega))) (Nat.le_refl _) _ h.lies
end
attribute [local go_sem ↓] Go.wp_at_zero Go.wp_at_succ
open Go.RowKit
/-- The two boxes of a look along a path. -/
structure GB (w : World) (x : V) (A : Option Addr) (c : Nat) (K : Option Addr) (d : Nat) (W : World) : Prop where
  old : Below w.heap.size w W
  bv : BlockIs W w.heap.size 27 #[.int .i64 x.kind, .int .i64 x.int, .string x.text, .slice A x.items.length c, .slice K x.keys.length d]
  br : BlockIs W (w.heap.size + 1) 27 zeroF
section
variable {w W W' : World} {x : V} {A K : Option Addr} {c d : Nat} {u0 u1 u2 u3 u4 : Value}
theorem GB.start (w : World) (x : V) (A : Option Addr) (c : Nat) (K : Option Addr) (d : Nat) : GB w x A c K d ((w.alloc (.cells #[.int .i64 x.kind, .int .i64 x.int, .string x.text, .slice A x.items.length c, .slice K x.keys.length d] 27)).alloc (.cells zeroF 27)) :=
  ⟨below_al (below_al (Below.refl _ w) _) _, (BlockIs.new w _ _).alloc _, BlockIs.newAt _ _ _ (by simp)⟩
theorem GB.below (h : GB w x A c K d W) (hb : Below W.heap.size W W') : GB w x A c K d W' := ⟨below_on h.old hb, h.bv.below hb h.bv.lt, h.br.below hb h.br.lt⟩
theorem GB.ends (h : GB w x A c K d W) : Below w.heap.size w (put5 W (w.heap.size + 1) 0 u0 u1 u2 u3 u4) :=
  ((((h.old.setCell (by simp) _).setCell (by simp) _).setCell (by simp) _).setCell (by simp) _).setCell (by simp) _
end
theorem zero_post {x : V} {p : List Stp} {w w' : World} {n : Int} (h : getV x p = (leaf 0 0 ⟨#[]⟩, false, n)) (hb : Below w.heap.size w w') : GetPost x p w (.returned (.tuple #[aggOf (leaf 0 0 ⟨#[]⟩) none 0 none 0, .bool false, .int .i64 n])) w' := by
  unfold GetPost
  rw [h]
  exact ⟨none, 0, none, 0, rfl, leaf_lies _ _ 0 0 (by decide), hb⟩
theorem some_post {x y : V} {p : List Stp} {w w' : World} {A K : Option Addr} {c d : Nat} (h : getV x p = (y, true, 0)) (hl : Lies w' w'.heap.size y A c K d) (hb : Below w.heap.size w w') : GetPost x p w (.returned (.tuple #[aggOf y A c K d, .bool true, .int .i64 0])) w' := by
  unfold GetPost
  rw [h]
  exact ⟨A, c, K, d, rfl, hl, hb⟩
theorem liesPutNew {W0 W : World} {g : Nat} {y : V} {A K : Option Addr} {c d : Nat} {u0 u1 u2 u3 u4 : Value} (h : LiesIn (Fresh W0 W) W y A c K d) (hg : g < W0.heap.size) : Lies (put5 W g 0 u0 u1 u2 u3 u4) (put5 W g 0 u0 u1 u2 u3 u4).heap.size y A c K d := by
  have hsz := put5_size W g 0 u0 u1 u2 u3 u4
  refine LiesIn.lies (P := Fresh W0 W) (fun b hb => by rw [hsz]; exact hb.2) _ (LiesIn.keep (fun b o hb => World.cell?_of_block (put5_heap W g 0 u0 u1 u2 u3 u4 (show b ≠ g by have := hb.1; omega))) (fun b hb => hb) _ h)
theorem valid_yes (x : V) (w : World) (A K : Option Addr) (c d : Nat) (h : Lies w w.heap.size x A c K d) {r : Bool} (hx : x.valid = r) :
    Calls Tryz.prog 17 #[.agg #[.int .i64 x.kind, .int .i64 x.int, .string x.text, .slice A x.items.length c, .slice K x.keys.length d]] w fun e w' => e = .returned (.bool r) ∧ Below w.heap.size w w' := by
  subst hx; exact valid_any x w A K c d h
theorem valid_nodes {x : V} (h : x.valid = true) : x.ok = true ∧ x.nodes ≤ 60 := by
  unfold V.valid V.fits at h
  simp only [Bool.and_eq_true, decide_eq_true_eq] at h
  exact ⟨h.1.1, h.1.2⟩
set_option maxRecDepth 100000 in
set_option maxHeartbeats 16000000 in
theorem get_any (x : V) (p : List Stp) (w : World) (A K : Option Addr) (c d : Nat) (Ap : Option Addr) (cp : Nat) (h : Lies w w.heap.size x A c K d) (hp : PLies w w.heap.size Ap cp p) :
    Calls Tryz.prog 12 #[.agg #[.int .i64 x.kind, .int .i64 x.int, .string x.text, .slice A x.items.length c, .slice K x.keys.length d], .slice Ap p.length cp] w (GetPost x p w) := by
  have HB0 := Lib.hid (GB.start w x A c K d)
  have HX := Lib.hid fun W (hW : Below w.heap.size w W) => lies_on h hW
  have HXB := Lib.hid fun W (hW : Below w.heap.size w W) => show Lies W w.heap.size x A c K d from Lies.keep (bcell hW) (Nat.le_refl _) _ h
  have HP := Lib.hid fun W (hW : Below w.heap.size w W) => hp.on hW
  have HGV := Lib.hid (rfl : getV x p = getV x p)
  obtain ⟨vb, hv⟩ : ∃ vb, x.valid = vb := ⟨_, rfl⟩
  obtain ⟨pb, hpb⟩ : ∃ pb, pathB p = pb := ⟨_, rfl⟩
  have HV := Lib.hid hv
  have HPB := Lib.hid hpb
  obtain ⟨n, hn⟩ : ∃ n, n = p.length := ⟨_, rfl⟩
  have HN := Lib.hid hn
  have hnl : n ≤ maxLen := by have := hp.1; have := hp.2.1; omega
  unfold maxLen at hnl
  rw [← hn]
  clear h hp hv hpb HGV hn
  cases vb
  · have HG := Lib.hid (show getV x p = (leaf 0 0 ⟨#[]⟩, false, 1) by simp [getV, HV.out])
    go_enter Tryz.func12, Tryz.ntmps12
    go_wp2_with fail
    refine (valid_yes x _ A K c d (HX.out _ HB0.out.old) HV.out).mono ?_
    rintro e w1 ⟨rfl, h1⟩
    have HB1 := Lib.hid (HB0.out.below h1)
    clear h1
    obtain ⟨b0, b1, b2, b3, b4⟩ := five_of HB1.out.bv
    obtain ⟨z0, z1, z2, z3, z4⟩ := five_of (show BlockIs w1 (w.heap.size + 1) 27 #[.int .i64 0, .int .i64 0, .string ⟨#[]⟩, .slice none 0 0, .slice none 0 0] from HB1.out.br)
    have x0 := HB1.out.br.frozen 0
    have v0 := HB1.out.bv.frozen 0
    have x1 := HB1.out.br.frozen 1
    have v1 := HB1.out.bv.frozen 1
    have x2 := HB1.out.br.frozen 2
    have v2 := HB1.out.bv.frozen 2
    have x3 := HB1.out.br.frozen 3
    have v3 := HB1.out.bv.frozen 3
    have x4 := HB1.out.br.frozen 4
    have v4 := HB1.out.bv.frozen 4
    have bl := HB1.out.bv.lt
    have zl := HB1.out.br.lt
    go_wp2_with fail
    refine bodyPost_ret (v := .tuple #[aggOf (leaf 0 0 ⟨#[]⟩) none 0 none 0, .bool false, .int .i64 1]) (by simp [results, Tryz.results12, go_sem, aggOf, leaf, V.kind, V.int, V.text, V.items, V.keys, z0, z1, z2, z3, z4]) rfl ?_
    exact zero_post HG.out HB1.out.ends
  · cases pb
    · have HG := Lib.hid (show getV x p = (leaf 0 0 ⟨#[]⟩, false, 1) by simp [getV, HV.out, HPB.out])
      go_enter Tryz.func12, Tryz.ntmps12
      go_wp2_with fail
      refine (valid_yes x _ A K c d (HX.out _ HB0.out.old) HV.out).mono ?_
      rintro e w1 ⟨rfl, h1⟩
      have HB1 := Lib.hid (HB0.out.below h1)
      clear h1
      go_wp2_with fail
      refine (show Calls Tryz.prog 16 #[.slice Ap n cp] w1 fun e w' => e = .returned (.bool false) ∧ Below w1.heap.size w1 w' from by
        have := pathValid_any p w1 Ap cp (HP.out _ HB1.out.old)
        rw [HPB.out, ← HN.out] at this
        exact this).mono ?_
      rintro e w2 ⟨rfl, h2⟩
      have HB2 := Lib.hid (HB1.out.below h2)
      clear h2
      obtain ⟨b0, b1, b2, b3, b4⟩ := five_of HB2.out.bv
      obtain ⟨z0, z1, z2, z3, z4⟩ := five_of (show BlockIs w2 (w.heap.size + 1) 27 #[.int .i64 0, .int .i64 0, .string ⟨#[]⟩, .slice none 0 0, .slice none 0 0] from HB2.out.br)
      have x0 := HB2.out.br.frozen 0
      have v0 := HB2.out.bv.frozen 0
      have x1 := HB2.out.br.frozen 1
      have v1 := HB2.out.bv.frozen 1
      have x2 := HB2.out.br.frozen 2
      have v2 := HB2.out.bv.frozen 2
      have x3 := HB2.out.br.frozen 3
      have v3 := HB2.out.bv.frozen 3
      have x4 := HB2.out.br.frozen 4
      have v4 := HB2.out.bv.frozen 4
      have bl := HB2.out.bv.lt
      have zl := HB2.out.br.lt
      go_wp2_with fail
      refine bodyPost_ret (v := .tuple #[aggOf (leaf 0 0 ⟨#[]⟩) none 0 none 0, .bool false, .int .i64 1]) (by simp [results, Tryz.results12, go_sem, aggOf, leaf, V.kind, V.int, V.text, V.items, V.keys, z0, z1, z2, z3, z4]) rfl ?_
      exact zero_post HG.out HB2.out.ends
    · go_enter Tryz.func12, Tryz.ntmps12
      go_wp2_with fail
      refine (valid_yes x _ A K c d (HX.out _ HB0.out.old) HV.out).mono ?_
      rintro e w1 ⟨rfl, h1⟩
      have HB1 := Lib.hid (HB0.out.below h1)
      clear h1
      go_wp2_with fail
      refine (show Calls Tryz.prog 16 #[.slice Ap n cp] w1 fun e w' => e = .returned (.bool true) ∧ Below w1.heap.size w1 w' from by
        have := pathValid_any p w1 Ap cp (HP.out _ HB1.out.old)
        rw [HPB.out, ← HN.out] at this
        exact this).mono ?_
      rintro e w2 ⟨rfl, h2⟩
      have HB2 := Lib.hid (HB1.out.below h2)
      clear h2
      obtain ⟨hok, h60⟩ := valid_nodes HV.out
      have HG0 := Lib.hid (show GS w w.heap.size x p 0 x A c K d w2 from ⟨HB2.out.old, HB2.out.bv, HB2.out.br, HXB.out _ HB2.out.old, Nat.le_refl _, ⟨hok, h60⟩, rfl⟩)
      clear hok h60
      go_wp2_with fail
      go_loopw [22] (fun iv wr => ∃ j : Nat, iv = .int .i64 j ∧ j ≤ n ∧ Hid (∃ y A c K d, GS w w.heap.size x p j y A c K d wr)) (fun iv _ => n - (intOf iv).toNat)
      case atStart => exact ⟨0, rfl, Nat.zero_le _, Lib.hid ⟨_, _, _, _, _, HG0.out⟩⟩
      case round =>
        obtain ⟨j, rfl, hj, hI⟩ := hrel
        clear HB0 HB1 HB2 HG0
        obtain ⟨y, A, c, K, d, hG⟩ := hI.out
        have HS := Lib.hid hG
        clear hI hG
        obtain ⟨b0, b1, b2, b3, b4⟩ := five_of HS.out.bv
        obtain ⟨z0, z1, z2, z3, z4⟩ := five_of (show BlockIs wr (w.heap.size + 1) 27 #[.int .i64 0, .int .i64 0, .string ⟨#[]⟩, .slice none 0 0, .slice none 0 0] from HS.out.br)
        have x0 := HS.out.br.frozen 0
        have v0 := HS.out.bv.frozen 0
        have x1 := HS.out.br.frozen 1
        have v1 := HS.out.bv.frozen 1
        have x2 := HS.out.br.frozen 2
        have v2 := HS.out.bv.frozen 2
        have x3 := HS.out.br.frozen 3
        have v3 := HS.out.bv.frozen 3
        have x4 := HS.out.br.frozen 4
        have v4 := HS.out.bv.frozen 4
        have bl := HS.out.bv.lt
        have zl := HS.out.br.lt
        by_cases hlt : j < n
        · obtain ⟨s, hs⟩ : ∃ s, p[j]? = some s := ⟨_, List.getElem?_eq_getElem (by rw [← HN.out]; exact hlt)⟩
          obtain ⟨b, o, rfl, hbB, e0, e1, hsz⟩ := (HP.out _ HS.out.old).at_ hs
          have HSJ := Lib.hid hs
          have hjn : (j : Int) < n := by omega
          have hj0 : 0 ≤ (j : Int) := by omega
          have HC := Lib.hid fun W (hW : Below wr.heap.size wr W) => find_any y s W A K c d (Lies.keep (fun b o hb => bcell hW b o (by have := HS.out.old.size; omega)) (by have := HS.out.old.size; have := hW.size; omega) _ HS.out.lies) (okk HS.out.ok.1).1 (by
            obtain ⟨-, h1, h2⟩ := okk HS.out.ok.1
            have h3 := HS.out.ok.2
            have h4 := nodes_items y
            have h5 := length_le_nodesL y.items
            by_cases h5 : y.kind = 5
            · rw [h2 h5]; omega
            · rw [h1 h5]; exact Nat.zero_le _)
          obtain ⟨fi, fb, hf⟩ : ∃ fi fb, findV y s = (fi, fb) := ⟨_, _, rfl⟩
          rw [hf] at HC
          have HF := Lib.hid hf
          obtain ⟨i, t⟩ := s
          unfold stepV aggOf at HC
          simp only at e0 e1 hsz HC
          clear hs hf
          cases fb
          · have HG := Lib.hid (show getV x p = (leaf 0 0 ⟨#[]⟩, false, 0) by
              have := HS.out.none HSJ.out (find_none (by rw [HF.out]))
              simp [getV, HV.out, HPB.out, this])
            go_wp2_with fail
            refine (HC.out _ (below_al (Below.refl _ wr) _)).mono ?_
            rintro e w3 ⟨rfl, h3⟩
            have HB3 := Lib.hid (HS.out.below (below_on (below_al (Below.refl _ wr) _) h3))
            clear z0 z1 z2 z3 z4 x0 x1 x2 x3 x4 b0 b1 b2 b3 b4 v0 v1 v2 v3 v4 zl bl e0 e1 hsz h3
            obtain ⟨b0, b1, b2, b3, b4⟩ := five_of HB3.out.bv
            obtain ⟨z0, z1, z2, z3, z4⟩ := five_of (show BlockIs w3 (w.heap.size + 1) 27 #[.int .i64 0, .int .i64 0, .string ⟨#[]⟩, .slice none 0 0, .slice none 0 0] from HB3.out.br)
            have x0 := HB3.out.br.frozen 0
            have v0 := HB3.out.bv.frozen 0
            have x1 := HB3.out.br.frozen 1
            have v1 := HB3.out.bv.frozen 1
            have x2 := HB3.out.br.frozen 2
            have v2 := HB3.out.bv.frozen 2
            have x3 := HB3.out.br.frozen 3
            have v3 := HB3.out.bv.frozen 3
            have x4 := HB3.out.br.frozen 4
            have v4 := HB3.out.bv.frozen 4
            have bl := HB3.out.bv.lt
            have zl := HB3.out.br.lt
            go_wp2_with fail
            refine bodyPost_ret (v := .tuple #[aggOf (leaf 0 0 ⟨#[]⟩) none 0 none 0, .bool false, .int .i64 0]) (by simp [results, Tryz.results12, go_sem, aggOf, leaf, V.kind, V.int, V.text, V.items, V.keys, z0, z1, z2, z3, z4]) rfl ?_
            exact zero_post HG.out HB3.out.ends
          · obtain ⟨q, z, hq1, hq2, hq3⟩ := find_item HS.out.ok.1 (show (findV y (i, t)).2 = true by rw [HF.out])
            rw [HF.out] at hq1
            simp only at hq1
            subst hq1
            have HQ3 := Lib.hid hq3
            have HQ2 := Lib.hid hq2
            have hql : q < y.items.length := (List.getElem?_eq_some_iff.1 hq2).1
            clear hq2 hq3
            go_wp2_with fail
            refine (HC.out _ (below_al (Below.refl _ wr) _)).mono ?_
            rintro e w3 ⟨rfl, h3⟩
            have HB3 := Lib.hid (HS.out.below (below_on (below_al (Below.refl _ wr) _) h3))
            clear z0 z1 z2 z3 z4 x0 x1 x2 x3 x4 b0 b1 b2 b3 b4 v0 v1 v2 v3 v4 zl bl e0 e1 hsz h3 HC
            obtain ⟨b0, b1, b2, b3, b4⟩ := five_of HB3.out.bv
            obtain ⟨z0, z1, z2, z3, z4⟩ := five_of (show BlockIs w3 (w.heap.size + 1) 27 #[.int .i64 0, .int .i64 0, .string ⟨#[]⟩, .slice none 0 0, .slice none 0 0] from HB3.out.br)
            have x0 := HB3.out.br.frozen 0
            have v0 := HB3.out.bv.frozen 0
            have x1 := HB3.out.br.frozen 1
            have v1 := HB3.out.bv.frozen 1
            have x2 := HB3.out.br.frozen 2
            have v2 := HB3.out.bv.frozen 2
            have x3 := HB3.out.br.frozen 3
            have v3 := HB3.out.bv.frozen 3
            have x4 := HB3.out.br.frozen 4
            have v4 := HB3.out.bv.frozen 4
            have bl := HB3.out.bv.lt
            have zl := HB3.out.br.lt
            rcases (lies_items HB3.out.lies).2.2 with hn | ⟨b', o', rfl, hbB', hf⟩
            · rw [hn] at hql; simp at hql
            · obtain ⟨Az, cz, Kz, dz, e0, e1, e2, e3, e4, hlz⟩ := hf.at_ HQ2.out
              have HLZ := Lib.hid hlz
              clear hlz hf
              have hq0 : 0 ≤ (q : Int) := by omega
              have hqn : (q : Int) < y.items.length := by omega
              go_wp2_with fail
              go_roundw
              case rel => exact ⟨j + 1, by go_num, by omega, Lib.hid ⟨_, _, _, _, _, HB3.out.next HSJ.out HQ3.out HLZ.out⟩⟩
              case measure => simp [intOf]; omega
        · have hjn : ¬ ((j : Int) < n) := by omega
          have HG := Lib.hid (show getV x p = (y, true, 0) by
            have := HS.out.over HN.out hlt
            simp [getV, HV.out, HPB.out, this])
          go_wp2_with fail
          refine (copied_any y.nodes y wr A K c d (Nat.le_refl _) HS.out.ok.2 HS.out.ok.1 (Lies.keep (fun _ _ _ => rfl) (by have := HS.out.old.size; omega) _ HS.out.lies)).mono ?_
          rintro e w3 ⟨A1, c1, K1, d1, rfl, hl, h3⟩
          have HB3 := Lib.hid (HS.out.below h3)
          have HL := Lib.hid hl
          have hzz : w.heap.size + 1 < wr.heap.size := zl
          clear z0 z1 z2 z3 z4 x0 x1 x2 x3 x4 b0 b1 b2 b3 b4 v0 v1 v2 v3 v4 zl bl hl h3
          obtain ⟨b0, b1, b2, b3, b4⟩ := five_of HB3.out.bv
          obtain ⟨z0, z1, z2, z3, z4⟩ := five_of (show BlockIs w3 (w.heap.size + 1) 27 #[.int .i64 0, .int .i64 0, .string ⟨#[]⟩, .slice none 0 0, .slice none 0 0] from HB3.out.br)
          have x0 := HB3.out.br.frozen 0
          have v0 := HB3.out.bv.frozen 0
          have x1 := HB3.out.br.frozen 1
          have v1 := HB3.out.bv.frozen 1
          have x2 := HB3.out.br.frozen 2
          have v2 := HB3.out.bv.frozen 2
          have x3 := HB3.out.br.frozen 3
          have v3 := HB3.out.bv.frozen 3
          have x4 := HB3.out.br.frozen 4
          have v4 := HB3.out.bv.frozen 4
          have bl := HB3.out.bv.lt
          have zl := HB3.out.br.lt
          go_wp2_with fail
          refine bodyPost_ret (v := .tuple #[aggOf y A1 c1 K1 d1, .bool true, .int .i64 0]) (by simp [results, Tryz.results12, go_sem, aggOf, V.kind, V.int, V.text, V.items, V.keys, z0, z1, z2, z3, z4]) rfl ?_
          exact some_post HG.out (liesPutNew HL.out hzz) HB3.out.ends
end Go.Proofs.YtchadlbhdcpojaaGreatDoor
