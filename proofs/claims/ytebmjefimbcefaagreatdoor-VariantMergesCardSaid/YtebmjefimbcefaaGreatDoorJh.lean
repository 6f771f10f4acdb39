/- What makes one value of another: plain. -/
import Derived.Test.YtebmjefimbcefaaGreatDoorJf
import Derived.Test.YtebmjefimbcefaaGreatDoorJg
namespace Go.Proofs.YtebmjefimbcefaaGreatDoor
open Go.RowKit
/-- Whether two values are valid and equal. -/
def eqV (x y : V) : Bool := x.valid && y.valid && decide (x.cmp y = 0)
/-- The item at a key, or null; whether there is one. -/
def gotK (a : V) (k : ByteArray) : V := (itemV a (kst k)).getD nullV
def hasI (a : V) (k : ByteArray) : Bool := (findV a (kst k)).2
/-- The keys of one value that another has not, each with null. -/
def patchA (b : V) : List ByteArray → V → V
  | [], p => p
  | k :: ks, p => patchA b ks (if hasI b k = true then p else roomV p (kst k))
mutual
def patchV (a : V) : V → V
  | .mk k i t l ks => if a.kind = 5 ∧ k = 5 then patchL a (patchA (.mk k i t l ks) a.keys emptyO) ks l else .mk k i t l ks
def patchL (a : V) (p : V) : List ByteArray → List V → V
  | [], _ => p
  | _ :: _, [] => p
  | k :: ks, c :: l => patchL a (if (hasI a k && eqV (gotK a k) c) = true then p else setK p k (patchV (gotK a k) c)) ks l
end
theorem patchV_obj {a b : V} (ha : a.kind = 5) (hb : b.kind = 5) : patchV a b = patchL a (patchA b a.keys emptyO) b.keys b.items := by
  obtain ⟨k, i, t, l, ks⟩ := b
  simp only [V.kind] at hb
  rw [patchV, if_pos ⟨ha, hb⟩]; rfl
theorem patchV_not {a b : V} (h : ¬ (a.kind = 5 ∧ b.kind = 5)) : patchV a b = b := by
  obtain ⟨k, i, t, l, ks⟩ := b
  change ¬ (a.kind = 5 ∧ k = 5) at h
  rw [patchV, if_neg h]
theorem room_is {m : V} (h : Ob m) {k : ByteArray} (hk : textB k.data.toList = true) : roomV m (kst k) = setK m k (oldK m k) := by
  have h4 := (room_items (fit_of h.ok) (s := kst k) (by rw [h.kind]; rfl) (step_kst hk) (not_over m k) nullV).2.2.2.1
  unfold setK setIt oldK
  rw [List.getD_eq_getElem?_getD, List.getElem?_eq_getElem h4]
  simp only [Option.getD_some]
  rw [List.set_getElem_self]
  exact (mk_eta _).symm
theorem room_ob {m : V} (h : Ob m) {k : ByteArray} (hk : textB k.data.toList = true) : Ob (roomV m (kst k)) ∧ (roomV m (kst k)).nodes ≤ m.nodes + 1 := by
  rw [room_is h hk]
  exact setK_ob h hk (oldK_ok h hk).1 (Nat.le_refl _) (Nat.le_refl _)
theorem gotK_ok {a : V} (h : a.ok = true) (k : ByteArray) : (gotK a k).ok = true ∧ (gotK a k).nodes ≤ a.nodes := by
  unfold gotK
  cases hi : itemV a (kst k) with
  | none =>
    have hp := V.nodes_pos a
    have e : nullV.nodes = 1 := by decide
    exact ⟨(by decide : nullV.ok = true), by simp only [Option.getD_none]; omega⟩
  | some y => exact ⟨okItems h y (item_mem hi), by have := V.nodes_mem (item_mem hi); have := nodes_items a; simp only [Option.getD_some]; omega⟩
theorem patchA_ob (b : V) : ∀ (ks : List ByteArray) (p : V), Ob p → ks.all (fun k => textB k.data.toList) = true → Ob (patchA b ks p) ∧ (patchA b ks p).nodes ≤ p.nodes + ks.length
  | [], p, h, _ => by rw [patchA]; exact ⟨h, by simp⟩
  | k :: ks, p, h, hk => by
    rw [List.all_cons, Bool.and_eq_true] at hk
    rw [patchA]
    split
    · have := patchA_ob b ks p h hk.2
      exact ⟨this.1, by have := this.2; simp only [List.length_cons]; omega⟩
    · obtain ⟨h1, h2⟩ := room_ob h hk.1
      have := patchA_ob b ks _ h1 hk.2
      exact ⟨this.1, by have := this.2; simp only [List.length_cons]; omega⟩
mutual
theorem patchV_ok : ∀ (a b : V), a.ok = true → b.ok = true → (patchV a b).ok = true ∧ (patchV a b).nodes ≤ (1 + a.nodes) * b.nodes
  | a, .mk k i t l ks, ha, hb => by
    have hap := V.nodes_pos a
    have hbig : V.nodesL l + 1 ≤ (1 + a.nodes) * (V.nodesL l + 1) := Nat.le_mul_of_pos_left _ (by omega)
    rw [patchV]
    split
    · rename_i h
      obtain ⟨h5, rfl⟩ := h
      obtain ⟨-, -, hok, hks, -⟩ := ob_parts (m := .mk 5 i t l ks) ⟨hb, rfl⟩
      obtain ⟨-, hla, -, hka, -⟩ := ob_parts (m := a) ⟨ha, h5⟩
      obtain ⟨h1, h2⟩ := patchA_ob (.mk 5 i t l ks) a.keys emptyO empty_ob hka
      obtain ⟨h3, h4⟩ := patchL_ok a ha l ks _ h1 hok hks
      refine ⟨h3.ok, ?_⟩
      have e : emptyO.nodes = 1 := by decide
      have h6 := length_le_nodesL a.items
      have h7 := nodes_items a
      show _ ≤ (1 + a.nodes) * (V.nodesL l + 1)
      rw [Nat.mul_add]
      omega
    · exact ⟨hb, hbig⟩
theorem patchL_ok (a : V) (ha : a.ok = true) : ∀ (l : List V) (ks : List ByteArray) (p : V), Ob p → V.okL l = true → ks.all (fun k => textB k.data.toList) = true → Ob (patchL a p ks l) ∧ (patchL a p ks l).nodes ≤ p.nodes + (1 + a.nodes) * V.nodesL l
  | [], [], p, h, _, _ => by rw [patchL]; exact ⟨h, by omega⟩
  | [], _ :: _, p, h, _, _ => by rw [patchL]; exact ⟨h, by omega⟩
  | c :: l, [], p, h, _, _ => by rw [patchL]; exact ⟨h, by omega⟩
  | c :: l, k :: ks, p, h, hl, hks => by
    rw [V.okL, Bool.and_eq_true] at hl
    rw [List.all_cons, Bool.and_eq_true] at hks
    have e : (1 + a.nodes) * V.nodesL (c :: l) = (1 + a.nodes) * c.nodes + (1 + a.nodes) * V.nodesL l := by rw [V.nodesL, Nat.mul_add]
    rw [patchL, e]
    split
    · obtain ⟨h1, h2⟩ := patchL_ok a ha l ks p h hl.2 hks.2
      exact ⟨h1, by omega⟩
    · obtain ⟨h1, h2⟩ := gotK_ok ha k
      obtain ⟨h3, h4⟩ := patchV_ok (gotK a k) c h1 hl.1
      obtain ⟨h5, h6⟩ := setK_ob (n := (patchV (gotK a k) c).nodes) h hks.1 h3 (by have := V.nodes_pos (oldK p k); omega) (V.nodes_pos _)
      obtain ⟨h7, h8⟩ := patchL_ok a ha l ks _ h5 hl.2 hks.2
      have h9 : (1 + (gotK a k).nodes) * c.nodes ≤ (1 + a.nodes) * c.nodes := Nat.mul_le_mul_right _ (by omega)
      exact ⟨h7, by omega⟩
end
open Go.RowKit
set_option maxRecDepth 100000 in
set_option maxHeartbeats 1000000 in
theorem equal_any (x y : V) (w : World) (A K : Option Addr) (c d : Nat) (A' K' : Option Addr) (c' d' : Nat) (h : Lies w w.heap.size x A c K d) (h' : Lies w w.heap.size y A' c' K' d') :
    Calls Tryz.prog 35 #[.agg #[.int .i64 x.kind, .int .i64 x.int, .string x.text, .slice A x.items.length c, .slice K x.keys.length d], .agg #[.int .i64 y.kind, .int .i64 y.int, .string y.text, .slice A' y.items.length c', .slice K' y.keys.length d']] w fun e w' => e = .returned (.bool (eqV x y)) ∧ Below w.heap.size w w' := by
  have HB := Lib.hid (below_al (below_al (Below.refl _ w) (.cells #[.int .i64 x.kind, .int .i64 x.int, .string x.text, .slice A x.items.length c, .slice K x.keys.length d] 27)) (.cells #[.int .i64 y.kind, .int .i64 y.int, .string y.text, .slice A' y.items.length c', .slice K' y.keys.length d'] 27))
  have HC := Lib.hid fun W (hW : Below w.heap.size w W) => compare_any x y W A K c d A' K' c' d' (lies_on h hW) (lies_on h' hW)
  obtain ⟨q, hq⟩ : ∃ q, q = eqV x y := ⟨_, rfl⟩
  rw [← hq]
  have HQ := Lib.hid (show q = (x.valid && y.valid && decide (x.cmp y = 0)) from hq)
  clear h h' hq
  go_enter Tryz.func35, Tryz.ntmps35
  go_wp2_with fail
  refine (HC.out _ HB.out).mono ?_
  intro e w1 hcp
  unfold CmpPost at hcp
  cases hv : (x.valid && y.valid)
  · rw [hv] at hcp HQ
    obtain ⟨rfl, h1⟩ := hcp
    have HA := Lib.hid (show q = false by rw [HQ.out]; rfl)
    have HB1 := Lib.hid (below_on HB.out h1)
    clear hv h1 HQ
    go_wp2_with fail
    go_ret
    exact ⟨by rw [HA.out]; rfl, HB1.out⟩
  · rw [hv] at hcp HQ
    obtain ⟨rfl, h1⟩ := hcp
    have HB1 := Lib.hid (below_on HB.out h1)
    clear hv h1
    by_cases h0 : x.cmp y = 0
    · have HA := Lib.hid (show q = true by rw [HQ.out]; simp [h0])
      have h0b : (x.cmp y == 0) = true := by simp [h0]
      clear h0 HQ
      go_wp2_with fail
      go_ret
      exact ⟨by rw [HA.out]; rfl, HB1.out⟩
    · have HA := Lib.hid (show q = false by rw [HQ.out]; simp [h0])
      have h0b : (x.cmp y == 0) = false := by simp [h0]
      clear h0 HQ
      go_wp2_with fail
      go_ret
      exact ⟨by rw [HA.out]; rfl, HB1.out⟩
/-- The boxes of a look for an item: the value, the step, what is answered. -/
structure IA (w : World) (cv cs : Array Value) (W : World) : Prop where
  old : Below w.heap.size w W
  bv : BlockIs W w.heap.size 27 cv
  bs : BlockIs W (w.heap.size + 1) 35 cs
  br : BlockIs W (w.heap.size + 2) 27 zeroF
theorem IA.start (w : World) (cv cs : Array Value) : IA w cv cs (((w.alloc (.cells cv 27)).alloc (.cells cs 35)).alloc (.cells zeroF 27)) :=
  ⟨below_al (below_al (below_al (Below.refl _ w) _) _) _, ((BlockIs.new w _ _).alloc _).alloc _, (BlockIs.newAt _ _ _ (by simp)).alloc _, BlockIs.newAt _ _ _ (by simp)⟩
theorem IA.on {w W W' : World} {cv cs : Array Value} (h : IA w cv cs W) (hb : Below W.heap.size W W') : IA w cv cs W' := ⟨below_on h.old hb, h.bv.below hb h.bv.lt, h.bs.below hb h.bs.lt, h.br.below hb h.br.lt⟩
theorem IA.ends {w W : World} {cv cs : Array Value} {u0 u1 u2 u3 u4 : Value} (h : IA w cv cs W) : Below w.heap.size w (put5 W (w.heap.size + 2) 0 u0 u1 u2 u3 u4) :=
  ((((h.old.setCell (by simp) _).setCell (by simp) _).setCell (by simp) _).setCell (by simp) _).setCell (by simp) _
set_option maxRecDepth 100000 in
set_option maxHeartbeats 2000000 in
/-- The item at a key; it lies where it lay. -/
theorem itemAt_any (B : Nat) (x : V) (k : ByteArray) (w : World) (A K : Option Addr) (c d : Nat) (hB : B ≤ w.heap.size) (h : Lies w B x A c K d) (hok : x.ok = true) (hn : x.nodes ≤ 5000) :
    Calls Tryz.prog 56 #[.agg #[.int .i64 x.kind, .int .i64 x.int, .string x.text, .slice A x.items.length c, .slice K x.keys.length d], .agg #[.int .i64 (-1), .string k]] w fun e w' =>
      ∃ A c K d, e = .returned (.tuple #[.agg #[.int .i64 (gotK x k).kind, .int .i64 (gotK x k).int, .string (gotK x k).text, .slice A (gotK x k).items.length c, .slice K (gotK x k).keys.length d], .bool (hasI x k)]) ∧ Lies w' B (gotK x k) A c K d ∧ Below w.heap.size w w' := by
  obtain ⟨hr, hk1, hk2⟩ := okk hok
  have hkl : x.keys.length ≤ 10000 := by
    have := nodes_items x; have := length_le_nodesL x.items
    by_cases h5 : x.kind = 5
    · rw [hk2 h5]; omega
    · rw [hk1 h5]; exact Nat.zero_le _
  have HX := Lib.hid fun W (hW : Below w.heap.size w W) => show Lies W B x A c K d from h.keep (fun b o hlt => bcell hW b o (by omega)) (Nat.le_refl _) x
  have HB := Lib.hid hB
  have HB0 := Lib.hid (IA.start w #[.int .i64 x.kind, .int .i64 x.int, .string x.text, .slice A x.items.length c, .slice K x.keys.length d] #[.int .i64 (-1), .string k])
  have HF := Lib.hid fun W (hW : Below w.heap.size w W) => show Calls Tryz.prog 37 #[.agg #[.int .i64 x.kind, .int .i64 x.int, .string x.text, .slice A x.items.length c, .slice K x.keys.length d], .agg #[.int .i64 (-1), .string k]] W fun e w' => e = .returned (.tuple #[.int .i64 (whereV x (kst k) : Nat), .bool (hasI x k)]) ∧ Below W.heap.size W w' from by
    have := find_any x (kst k) W A K c d ((HX.out W hW).keep (fun _ _ _ => rfl) (by have := hW.size; omega) x) hr hkl
    rw [where_int] at this
    exact this
  obtain ⟨fb, hfb⟩ : ∃ fb, fb = hasI x k := ⟨_, rfl⟩
  obtain ⟨n, hnn⟩ : ∃ n, n = whereV x (kst k) := ⟨_, rfl⟩
  obtain ⟨y, hy⟩ : ∃ y, y = gotK x k := ⟨_, rfl⟩
  have HY := Lib.hid (show fb = true → x.items[n]? = some y from fun e => by
    obtain ⟨i, u, h1, h2, h3⟩ := find_item hok (s := kst k) (by rw [hfb] at e; exact e)
    have hi : i = n := by have := where_int (x := x) (s := kst k); omega
    rw [hy, gotK, h3, ← hi, h2]; rfl)
  have HNY := Lib.hid (show fb = false → y = nullV from fun e => by rw [hy, gotK, find_none (by rw [hfb] at e; exact e)]; rfl)
  rw [← hfb, ← hnn] at HF
  rw [← hfb, ← hy]
  clear hr hk1 hk2 hkl h hok hn hB hfb hnn hy
  go_enter Tryz.func56, Tryz.ntmps56
  go_wp2_with fail
  refine (HF.out _ HB0.out.old).mono ?_
  rintro e w1 ⟨rfl, h1⟩
  have HB1 := Lib.hid (HB0.out.on h1)
  clear h1 HB0 HF
  obtain ⟨z0, z1, z2, z3, z4⟩ := five_of (show BlockIs w1 (w.heap.size + 2) 27 #[.int .i64 0, .int .i64 0, .string ⟨#[]⟩, .slice none 0 0, .slice none 0 0] from HB1.out.br)
  have y0 := HB1.out.br.frozen 0
  have y1 := HB1.out.br.frozen 1
  have y2 := HB1.out.br.frozen 2
  have y3 := HB1.out.br.frozen 3
  have y4 := HB1.out.br.frozen 4
  have zl := HB1.out.br.lt
  cases fb
  · have HE := Lib.hid (HNY.out (by trivial))
    clear HY HNY
    go_wp2_with fail
    refine bodyPost_ret (v := .tuple #[.agg #[.int .i64 0, .int .i64 0, .string ⟨#[]⟩, .slice none 0 0, .slice none 0 0], .bool false]) (by simp [results, Tryz.results56, go_sem, z0, z1, z2, z3, z4]) rfl ?_
    rw [HE.out]
    exact ⟨none, 0, none, 0, rfl, leaf_lies _ _ 0 0 (by decide), HB1.out.ends⟩
  · have hy := HY.out (by trivial)
    have hni : n < x.items.length := (List.getElem?_eq_some_iff.1 hy).1
    have hx1 := HX.out w1 HB1.out.old
    obtain ⟨b2, o2, rfl, hb2, hfrom⟩ := (lies_items hx1).at_ hni
    obtain ⟨Ay, cy, Ky, dy, q0, q1, q2, q3, q4, hly⟩ := hfrom.at_ hy
    have HL := Lib.hid hly
    have hn1 : (n : Int) < x.items.length := by omega
    have hn0 : (0 : Int) ≤ n := by omega
    have hlen := (lies_items hx1).2.1
    unfold maxLen at hlen
    obtain ⟨v0, v1, v2, v3, v4⟩ := five_of HB1.out.bv
    have vl := HB1.out.bv.lt
    clear hy hni hx1 hfrom hly HY HNY
    go_wp2_with fail
    refine bodyPost_ret (v := .tuple #[.agg #[.int .i64 y.kind, .int .i64 y.int, .string y.text, .slice Ay y.items.length cy, .slice Ky y.keys.length dy], .bool true]) (by simp [results, Tryz.results56, go_sem, z0, z1, z2, z3, z4]) rfl ?_
    exact ⟨Ay, cy, Ky, dy, rfl, Lies.keep (fun b o hb => World.cell?_of_block (put5_heap _ _ _ _ _ _ _ _ (by show b ≠ w.heap.size + 2; have := HB.out; omega))) (Nat.le_refl _) y HL.out, HB1.out.ends⟩
open Go.RowKit
/-- Where the making of a patch stands. -/
structure PK (w : World) (ca cb : Array Value) (F : V → Prop) (m : V) (vI vK : Value) (D : Nat → Prop) (W : World) : Prop where
  box : MB w ca cb W
  node : Node W (w.heap.size + 3) (w.heap.size + 3) 27 [] [] m vI vK D
  ob : Ob m
  st : F m
theorem hfb_is {b : V} {kk : ByteArray} {fb : Bool} (h : fb = hasI b kk) : fb = (findV b (kst kk)).2 := h
/-- While the one's keys are looked at. -/
def InA (a b R : V) (j : Nat) (m : V) : Prop := m.nodes + (a.keys.length - j) + (1 + a.nodes) * V.nodesL b.items ≤ 5000 ∧ patchL a (patchA b (a.keys.drop j) m) b.keys b.items = R
/-- While the other's items are. -/
def InB (a b R : V) (j : Nat) (m : V) : Prop := m.nodes + (1 + a.nodes) * V.nodesL (b.items.drop j) ≤ 5000 ∧ patchL a m (b.keys.drop j) (b.items.drop j) = R
section
variable {w W W' : World} {ca cb : Array Value} {a b R m : V} {F : V → Prop} {j : Nat} {vI vK vI' vK' : Value} {D D' : Nat → Prop} {k : ByteArray} {c : V}
theorem PK.on (h : PK w ca cb F m vI vK D W) (hb : Below W.heap.size W W') : PK w ca cb F m vI vK D W' := ⟨h.box.on hb, h.node.on hb, h.ob, h.st⟩
theorem InA.skip (h : InA a b R j m) (hk : a.keys[j]? = some k) (hh : hasI b k = true) : InA a b R (j + 1) m := by
  obtain ⟨h1, h2⟩ := h
  rw [drop_at hk, patchA, if_pos hh] at h2
  exact ⟨by omega, h2⟩
theorem InA.room (h : InA a b R j m) (ho : Ob m) (hk : a.keys[j]? = some k) (hkt : textB k.data.toList = true) (hh : hasI b k = false) : InA a b R (j + 1) (roomV m (kst k)) := by
  obtain ⟨h1, h2⟩ := h
  rw [drop_at hk, patchA, if_neg (by simp [hh])] at h2
  have := (room_ob ho hkt).2
  have := (List.getElem?_eq_some_iff.1 hk).1
  exact ⟨by omega, h2⟩
theorem InA.over (h : InA a b R j m) (hj : a.keys.length ≤ j) : InB a b R 0 m := by
  obtain ⟨h1, h2⟩ := h
  rw [List.drop_eq_nil_of_le hj, patchA] at h2
  exact ⟨by simp only [List.drop_zero]; omega, by simpa using h2⟩
theorem InB.entry (h : InB a b R j m) (hk : b.keys[j]? = some k) (hc : b.items[j]? = some c) :
    patchL a (if (hasI a k && eqV (gotK a k) c) = true then m else setK m k (patchV (gotK a k) c)) (b.keys.drop (j + 1)) (b.items.drop (j + 1)) = R ∧ m.nodes + ((1 + a.nodes) * c.nodes + (1 + a.nodes) * V.nodesL (b.items.drop (j + 1))) ≤ 5000 := by
  obtain ⟨h1, h2⟩ := h
  rw [drop_at hk, drop_at hc, patchL] at h2
  rw [drop_at hc, V.nodesL, Nat.mul_add] at h1
  exact ⟨h2, h1⟩
theorem InB.skip (h : InB a b R j m) (hk : b.keys[j]? = some k) (hc : b.items[j]? = some c) (hh : (hasI a k && eqV (gotK a k) c) = true) : InB a b R (j + 1) m := by
  obtain ⟨h1, h2⟩ := h.entry hk hc
  rw [if_pos hh] at h1
  exact ⟨by omega, h1⟩
theorem InB.laid (h : InB a b R j m) (ha : a.ok = true) (ho : Ob m) (hk : b.keys[j]? = some k) (hc : b.items[j]? = some c) (hkt : textB k.data.toList = true) (hco : c.ok = true) (hh : (hasI a k && eqV (gotK a k) c) = false) :
    Ob (setK m k (patchV (gotK a k) c)) ∧ InB a b R (j + 1) (setK m k (patchV (gotK a k) c)) := by
  obtain ⟨h1, h2⟩ := h.entry hk hc
  rw [if_neg (by simp [hh])] at h1
  obtain ⟨g1, g2⟩ := gotK_ok ha k
  obtain ⟨h3, h4⟩ := patchV_ok (gotK a k) c g1 hco
  obtain ⟨h5, h6⟩ := setK_ob (n := (patchV (gotK a k) c).nodes) ho hkt h3 (by have := V.nodes_pos (oldK m k); omega) (V.nodes_pos _)
  have h9 : (1 + (gotK a k).nodes) * c.nodes ≤ (1 + a.nodes) * c.nodes := Nat.mul_le_mul_right _ (by omega)
  exact ⟨h5, by omega, h1⟩
theorem PK.turned (h : PK w ca cb F m vI vK D W) (hF : Fr W W' (w.heap.size + 3) D) {m' : V} {F' : V → Prop} (hN : Node W' (w.heap.size + 3) (w.heap.size + 3) 27 [] [] m' vI' vK' D') (ho : Ob m') (hs : F' m') : PK w ca cb F' m' vI' vK' D' W' :=
  ⟨h.box.fr hF (Nat.le_refl _) (fun b hb => (h.node.low b hb).1), hN, ho, hs⟩
end
set_option maxRecDepth 100000 in
set_option maxHeartbeats 4000000 in
theorem patch_not (a b : V) (w : World) (A K : Option Addr) (c d : Nat) (A' K' : Option Addr) (c' d' : Nat) (hb : Lies w w.heap.size b A' c' K' d') (hbo : b.ok = true) (hn : b.nodes ≤ 5000) (h5 : ¬ (a.kind = 5 ∧ b.kind = 5)) :
    Calls Tryz.prog 34 #[.agg #[.int .i64 a.kind, .int .i64 a.int, .string a.text, .slice A a.items.length c, .slice K a.keys.length d], .agg #[.int .i64 b.kind, .int .i64 b.int, .string b.text, .slice A' b.items.length c', .slice K' b.keys.length d']] w (MPost (patchV a b) w) := by
  have HB0 := Lib.hid (MB.start w #[.int .i64 a.kind, .int .i64 a.int, .string a.text, .slice A a.items.length c, .slice K a.keys.length d] #[.int .i64 b.kind, .int .i64 b.int, .string b.text, .slice A' b.items.length c', .slice K' b.keys.length d'])
  have HC := Lib.hid fun W (hW : Below w.heap.size w W) => copied_tree b.nodes b W A' K' c' d' (Nat.le_refl _) hn hbo (lies_on hb hW)
  rw [patchV_not h5]
  have hcase : (a.kind != 5) = true ∨ ((a.kind != 5) = false ∧ (b.kind != 5) = true) := by
    by_cases h : a.kind = 5
    · exact .inr ⟨by simp [h], by simp; exact fun e => h5 ⟨h, e⟩⟩
    · exact .inl (by simp [h])
  clear hb hbo hn h5
  go_enter Tryz.func34, Tryz.ntmps34
  rcases hcase with h5a | ⟨h5a, h5b⟩
  all_goals
    go_wp2_with fail
    refine (HC.out _ HB0.out.old).mono ?_
    rintro e w1 ⟨zI, zK, rfl, ht, h1⟩
    obtain ⟨⟨ZA, zc, rfl⟩, ZK, zd, rfl⟩ := ht.forms
    have hsz := HB0.out.lt
    have HB1 := Lib.hid (HB0.out.on h1)
    have HT := Lib.hid ht
    have HS := Lib.hid hsz
    have HS1 := Lib.hid h1.size
    clear h1 ht hsz HC
    obtain ⟨z0, z1, z2, z3, z4⟩ := five_of (show BlockIs w1 (w.heap.size + 2) 27 #[.int .i64 0, .int .i64 0, .string ⟨#[]⟩, .slice none 0 0, .slice none 0 0] from HB1.out.br)
    have y0 := HB1.out.br.frozen 0
    have y1 := HB1.out.br.frozen 1
    have y2 := HB1.out.br.frozen 2
    have y3 := HB1.out.br.frozen 3
    have y4 := HB1.out.br.frozen 4
    have zl := HB1.out.br.lt
    go_wp2_with fail
    refine bodyPost_ret (v := .agg #[.int .i64 b.kind, .int .i64 b.int, .string b.text, .slice ZA b.items.length zc, .slice ZK b.keys.length zd]) (by simp [results, Tryz.results34, go_sem, z0, z1, z2, z3, z4]) rfl ?_
    exact HB1.out.good HT.out (by have := HS.out; omega) (fun b hb => ⟨by have := hb.1; have := HS.out; omega, hb.2⟩)
set_option maxRecDepth 100000 in
set_option maxHeartbeats 8000000 in
theorem patch_step (a b : V) (w : World) (A K : Option Addr) (c d : Nat) (A' K' : Option Addr) (c' d' : Nat) (ha : Lies w w.heap.size a A c K d) (hb : Lies w w.heap.size b A' c' K' d') (hao : a.ok = true) (hbo : b.ok = true) (hn : (1 + a.nodes) * b.nodes ≤ 5000) (h5a : a.kind = 5) (h5 : b.kind = 5)
    (ih : ∀ x y : V, x.ok = true → y ∈ b.items → (1 + x.nodes) * y.nodes ≤ 5000 → ∀ (W : World) (A K : Option Addr) (c d : Nat) (A' K' : Option Addr) (c' d' : Nat), Lies W W.heap.size x A c K d → Lies W W.heap.size y A' c' K' d' →
      Calls Tryz.prog 34 #[.agg #[.int .i64 x.kind, .int .i64 x.int, .string x.text, .slice A x.items.length c, .slice K x.keys.length d], .agg #[.int .i64 y.kind, .int .i64 y.int, .string y.text, .slice A' y.items.length c', .slice K' y.keys.length d']] W (MPost (patchV x y) W)) :
    Calls Tryz.prog 34 #[.agg #[.int .i64 a.kind, .int .i64 a.int, .string a.text, .slice A a.items.length c, .slice K a.keys.length d], .agg #[.int .i64 b.kind, .int .i64 b.int, .string b.text, .slice A' b.items.length c', .slice K' b.keys.length d']] w (MPost (patchV a b) w) := by
  have HB0 := Lib.hid (MB.start w #[.int .i64 a.kind, .int .i64 a.int, .string a.text, .slice A a.items.length c, .slice K a.keys.length d] #[.int .i64 b.kind, .int .i64 b.int, .string b.text, .slice A' b.items.length c', .slice K' b.keys.length d'])
  have HLA := Lib.hid fun W (hW : Below w.heap.size w W) => show Lies W w.heap.size a A c K d from ha.below hW
  have HLB := Lib.hid fun W (hW : Below w.heap.size w W) => show Lies W w.heap.size b A' c' K' d' from hb.below hW
  obtain ⟨hr, hkl, hok, hks, -⟩ := ob_parts (m := b) ⟨hbo, h5⟩
  obtain ⟨hra, hkla, hoka, hksa, -⟩ := ob_parts (m := a) ⟨hao, h5a⟩
  have HKS := Lib.hid (And.intro hks hok)
  have HKSA := Lib.hid hksa
  have HKL := Lib.hid hkl
  obtain ⟨R, hR⟩ : ∃ R, R = patchV a b := ⟨_, rfl⟩
  have hbn := nodes_items b
  have han := nodes_items a
  have hal := length_le_nodesL a.items
  have hbl := length_le_nodesL b.items
  have hmul : (1 + a.nodes) * b.nodes = (1 + a.nodes) * V.nodesL b.items + (1 + a.nodes) := by rw [hbn, Nat.mul_add, Nat.mul_one]
  have hbig : b.nodes ≤ (1 + a.nodes) * b.nodes := Nat.le_mul_of_pos_left _ (by omega)
  have hbiga : 1 + a.nodes ≤ (1 + a.nodes) * b.nodes := Nat.le_mul_of_pos_right _ (V.nodes_pos b)
  have HIN := Lib.hid (show InA a b R 0 emptyO from ⟨by have : emptyO.nodes = 1 := (by decide); omega, by rw [hR, patchV_obj h5a h5]; rfl⟩)
  have HAO := Lib.hid (And.intro hao h5a)
  have HIH := Lib.hid ih
  have HBL := Lib.hid (And.intro hbo h5)
  have HNN := Lib.hid (And.intro (show a.nodes ≤ 5000 by omega) (And.intro (show b.nodes ≤ 5000 by omega) (show ∀ y ∈ b.items, (1 + a.nodes) * y.nodes ≤ 5000 from fun y hy => Nat.le_trans (Nat.mul_le_mul_left _ (by have := V.nodes_mem hy; omega)) hn)))
  obtain ⟨n, hnn⟩ : ∃ n, n = b.items.length := ⟨_, rfl⟩
  obtain ⟨na, hna⟩ : ∃ na, na = a.keys.length := ⟨_, rfl⟩
  have HN := Lib.hid (And.intro hnn hna)
  have hnb : n ≤ 5000 := by omega
  have hnab : na ≤ 5000 := by omega
  rw [← hR, ← hnn, ← hna]
  rw [← hnn, ← hna] at HB0
  have h5b : (b.kind != 5) = false := by simp [h5]
  have h5ab : (a.kind != 5) = false := by simp [h5a]
  clear ha hb hao hbo hn h5 h5a ih hr hkl hok hks hra hkla hoka hksa hR hbn han hal hbl hmul hbig hbiga hnn hna
  go_enter Tryz.func34, Tryz.ntmps34
  go_upto_region 4 with (fail)
  obtain ⟨W1, hW1⟩ : ∃ W1, W1 = (((w.alloc (.cells #[.int .i64 a.kind, .int .i64 a.int, .string a.text, .slice A a.items.length c, .slice K na d] 27)).alloc (.cells #[.int .i64 b.kind, .int .i64 b.int, .string b.text, .slice A' n c', .slice K' b.keys.length d'] 27)).alloc (.cells #[.int .i64 0, .int .i64 0, .string ⟨#[]⟩, .slice none 0 0, .slice none 0 0] 27)).alloc (.cells #[.int .i64 5, .int .i64 0, .string ⟨#[]⟩, .slice none 0 0, .slice none 0 0] 27) := ⟨_, rfl⟩
  obtain ⟨CA, hCA⟩ : ∃ CA : Array Value, CA = #[.int .i64 a.kind, .int .i64 a.int, .string a.text, .slice A a.items.length c, .slice K na d] := ⟨_, rfl⟩
  obtain ⟨CB, hCB⟩ : ∃ CB : Array Value, CB = #[.int .i64 b.kind, .int .i64 b.int, .string b.text, .slice A' n c', .slice K' b.keys.length d'] := ⟨_, rfl⟩
  have hm1 : BlockIs W1 (w.heap.size + 3) 27 #[.int .i64 5, .int .i64 0, .string ⟨#[]⟩, .slice none 0 0, .slice none 0 0] := by rw [hW1]; exact BlockIs.newAt _ _ _ (by simp)
  have HI1 := Lib.hid (show PK w CA CB (InA a b R 0) emptyO (.slice none 0 0) (.slice none 0 0) (fun _ => False) W1 from ⟨by rw [hW1, hCA, hCB]; exact HB0.out.on (below_al (Below.refl _ _) _), node_empty W1 _ _ (Nat.le_refl _) hm1, empty_ob, HIN.out⟩)
  have HCA := Lib.hid hCA
  have HCB := Lib.hid hCB
  rw [← hW1]
  clear HB0 hW1 hCA hCB hm1 HIN
  obtain ⟨v0, v1, v2, v3, v4⟩ := five_of (show BlockIs W1 w.heap.size 27 #[.int .i64 a.kind, .int .i64 a.int, .string a.text, .slice A a.items.length c, .slice K na d] by have := HI1.out.box.ba; rw [HCA.out] at this; exact this)
  go_wp2_with fail
  go_loopw [30] (fun iv wr => ∃ (j : Nat) (m : V) (vI vK : Value) (D : Nat → Prop), iv = .int .i64 j ∧ j ≤ na ∧ Hid (PK w CA CB (InA a b R j) m vI vK D wr)) (fun iv _ => na - (intOf iv).toNat)
  case atStart => exact ⟨0, _, _, _, _, rfl, Nat.zero_le _, HI1⟩
  case round =>
    clear v0 v1 v2 v3 v4 HI1
    obtain ⟨j, m, vI, vK, D, rfl, hj, HI⟩ := hrel
    by_cases hlt : j < na
    · have hjn : (j : Int) < na := by omega
      have hj0 : (0 : Int) ≤ j := by omega
      have hjk : j < a.keys.length := by have := HN.out.2; omega
      obtain ⟨kk, hkk⟩ : ∃ kk, a.keys[j]? = some kk := ⟨_, List.getElem?_eq_getElem hjk⟩
      have hla := HLA.out wr HI.out.box.old
      have hlk := (lies_keys hla).2.1
      unfold maxLen at hlk
      obtain ⟨b3, o3, rfl, hb3, hf3⟩ := (lies_keys hla).at_ hjk
      have hkc := (hf3 j kk hkk).1
      have hkt : textB kk.data.toList = true := by have := HKSA.out; rw [List.all_eq_true] at this; exact this kk (List.mem_of_getElem? hkk)
      have HE := Lib.hid (And.intro hkk (And.intro hkt (hf3 j kk hkk).2))
      have hwr := HI.out.box.old.size
      have hbl3 : b3 < wr.heap.size := by omega
      clear hkk hjk hla hf3 hkt
      go_upto_region 7 with (fail)
      obtain ⟨fb, hfb⟩ : ∃ fb, fb = hasI b kk := ⟨_, rfl⟩
      obtain ⟨hr, -, hbk⟩ := okk HBL.out.1
      have HFD := Lib.hid fun W (hW : Below w.heap.size w W) => show Calls Tryz.prog 37 #[.agg #[.int .i64 b.kind, .int .i64 b.int, .string b.text, .slice A' n c', .slice K' b.keys.length d'], .agg #[.int .i64 (-1), .string kk]] W fun e w' => e = .returned (.tuple #[.int .i64 (whereV b (kst kk) : Nat), .bool fb]) ∧ Below W.heap.size W w' from by
        have := find_any b (kst kk) W A' K' c' d' ((HLB.out W hW).keep (fun _ _ _ => rfl) hW.size b) hr (by rw [hbk HBL.out.2, ← HN.out.1]; omega)
        rw [where_int, ← hfb_is hfb, aggOf, ← HN.out.1] at this
        exact this
      have HFB := Lib.hid hfb
      have HBB := Lib.hid (show BlockIs wr (w.heap.size + 1) 27 #[.int .i64 b.kind, .int .i64 b.int, .string b.text, .slice A' n c', .slice K' b.keys.length d'] by have := HI.out.box.bb; rw [HCB.out] at this; exact this)
      obtain ⟨v0, v1, v2, v3, v4⟩ := five_of HBB.out
      have vl := HBB.out.lt
      have HDR := Lib.hid (below_on HI.out.box.old (Below.refl _ wr).drew)
      clear hr hbk hfb hkc
      go_region_with (first
        | (go_at_call 55; refine (stepOf_any kk _).mono ?_; rintro e w1 ⟨rfl, h1⟩; have hbb1 := (show BlockIs wr.drew (w.heap.size + 1) _ _ from HBB.out).below h1 HBB.out.lt; obtain ⟨y0, y1, y2, y3, y4⟩ := five_of hbb1; have yl := BlockIs.lt hbb1; have HD1 := Lib.hid (below_on HDR.out h1); have HW1 := Lib.hid h1; clear h1 hbb1)
        | (go_at_call 37; refine (HFD.out w1 HD1.out).mono ?_; rintro e w2 ⟨rfl, h2⟩; have HW2 := Lib.hid h2; clear h2))
      all_goals
        have HB2 := Lib.hid (show Below wr.heap.size wr w2 from (⟨HW1.out.os, HW1.out.tape, HW1.out.output, HW1.out.size, HW1.out.block⟩ : Below wr.heap.size wr w1).trans (HW2.out.mono HW1.out.size))
        have HI2 := Lib.hid (HI.out.on HB2.out)
        clear HI HFD HBB HDR HD1 HW1 HW2 v0 v1 v2 v3 v4 vl y0 y1 y2 y3 y4 yl
        cases fb
        · have HST := Lib.hid (HI2.out.st.room HI2.out.ob HE.out.1 HE.out.2.1 HFB.out.symm)
          go_wp2_with fail
          refine (stepOf_any kk _).mono ?_
          rintro e w3 ⟨rfl, h3⟩
          have HI3 := Lib.hid (HI2.out.on h3)
          clear h3
          have hfit := fit_of HI3.out.ob.ok
          have HRM := Lib.hid (show Calls Tryz.prog 42 #[.pointer (some ⟨w.heap.size + 1 + 1 + 1, 0, none⟩), .agg #[.int .i64 (-1), .string kk]] w3 (RoomPost (roomV m (kst kk)) (whereV m (kst kk)) (w.heap.size + 3) (w.heap.size + 3) 27 [] [] D w3) from
            room_any m (-1) kk (w.heap.size + 3) (w.heap.size + 3) _ [] [] vI vK D w3 HI3.out.node hfit (by have := nodes_items m; have := length_le_nodesL m.items; have := HI3.out.st.1; omega) (by rw [HI3.out.ob.kind]; rfl) (not_over m kk) HE.out.2.2)
          clear hfit
          go_wp2_with fail
          refine HRM.out.mono ?_
          rintro e w5 ⟨gI, c5, vK5, D5, rfl, hN5, hD5, hF5⟩
          have HI5 := Lib.hid (HI3.out.turned hF5 hN5 (room_ob HI3.out.ob HE.out.2.1).1 HST.out)
          clear hN5 hD5 hF5 HRM
          go_wp2_with fail
          go_roundw
          case rel => exact ⟨j + 1, _, _, _, _, by go_num, by omega, HI5⟩
          case measure => simp [intOf]; omega
        · have HI5 := Lib.hid (show PK w CA CB (InA a b R (j + 1)) m vI vK D w2 from ⟨HI2.out.box, HI2.out.node, HI2.out.ob, HI2.out.st.skip HE.out.1 HFB.out.symm⟩)
          go_wp2_with fail
          go_roundw
          case rel => exact ⟨j + 1, _, _, _, _, by go_num, by omega, HI5⟩
          case measure => simp [intOf]; omega
    · have hjn : ¬ ((j : Int) < na) := by omega
      have HI0 := Lib.hid (show PK w CA CB (InB a b R 0) m vI vK D wr from ⟨HI.out.box, HI.out.node, HI.out.ob, HI.out.st.over (by have := HN.out.2; omega)⟩)
      clear HI HKSA
      obtain ⟨v0, v1, v2, v3, v4⟩ := five_of (show BlockIs wr (w.heap.size + 1) 27 #[.int .i64 b.kind, .int .i64 b.int, .string b.text, .slice A' n c', .slice K' b.keys.length d'] by have := HI0.out.box.bb; rw [HCB.out] at this; exact this)
      go_wp2_with fail
      go_loopw [50] (fun iv wr => ∃ (j : Nat) (m : V) (vI vK : Value) (D : Nat → Prop), iv = .int .i64 j ∧ j ≤ n ∧ Hid (PK w CA CB (InB a b R j) m vI vK D wr)) (fun iv _ => n - (intOf iv).toNat)
      case atStart => exact ⟨0, _, _, _, _, rfl, Nat.zero_le _, HI0⟩
      case round =>
        clear v0 v1 v2 v3 v4 HI0 hlt hjn hj
        obtain ⟨j, m, vI, vK, D, rfl, hj, HI⟩ := hrel
        by_cases hlt : j < n
        · have hjn : (j : Int) < n := by omega
          have hj0 : (0 : Int) ≤ j := by omega
          have hji : j < b.items.length := by have := HN.out.1; omega
          have hjk : j < b.keys.length := by have := HKL.out; have := HN.out.1; omega
          obtain ⟨y, hy⟩ : ∃ y, b.items[j]? = some y := ⟨_, List.getElem?_eq_getElem hji⟩
          obtain ⟨kk, hkk⟩ : ∃ kk, b.keys[j]? = some kk := ⟨_, List.getElem?_eq_getElem hjk⟩
          have hlb := HLB.out wr HI.out.box.old
          obtain ⟨b2, o2, rfl, hb2, hfrom⟩ := (lies_items hlb).at_ hji
          obtain ⟨Ay, cy, Ky, dy, y0, y1, y2, y3, y4, hly⟩ := hfrom.at_ hy
          have hkt : textB kk.data.toList = true := by have := HKS.out.1; rw [List.all_eq_true] at this; exact this kk (List.mem_of_getElem? hkk)
          have hyo : y.ok = true := okItems HBL.out.1 y (List.mem_of_getElem? hy)
          have hksz : kk.size ≤ maxLen := by
            obtain ⟨b3, o3, -, -, hf3⟩ := (lies_keys hlb).at_ hjk
            exact (hf3 j kk hkk).2
          have HE := Lib.hid (And.intro hy (And.intro hkk (And.intro hkt (And.intro hyo hksz))))
          have HLY := Lib.hid fun W (hW : Below w.heap.size w W) => show Lies W W.heap.size y Ay cy Ky dy from hly.keep (fun b o hlt => (bcell hW b o hlt).trans (bcell HI.out.box.old b o hlt).symm) hW.size y
          have HDW := Lib.hid (And.intro HI.out.node.row.lt (fun b hb => (HI.out.node.low b hb).2))
          have hwr := HI.out.box.old.size
          have hwl := HI.out.box.lt
          clear hy hkk hkt hyo hksz hji hjk hlb hfrom hly
          go_upto_region 14 with (fail)
          obtain ⟨Wy, hWy⟩ : ∃ Wy, Wy = wr.alloc (.cells #[.int .i64 y.kind, .int .i64 y.int, .string y.text, .slice Ay y.items.length cy, .slice Ky y.keys.length dy] 27) := ⟨_, rfl⟩
          have hby : Below wr.heap.size wr Wy := by rw [hWy]; exact below_al (Below.refl _ wr) _
          have HXy := Lib.hid (show BlockIs Wy wr.heap.size 27 #[.int .i64 y.kind, .int .i64 y.int, .string y.text, .slice Ay y.items.length cy, .slice Ky y.keys.length dy] by rw [hWy]; exact BlockIs.new wr _ _)
          have HIy := Lib.hid (HI.out.on hby)
          have HBy := Lib.hid hby
          rw [← hWy]
          clear hWy hby y0 y1 y2 y3 y4 HI
          have HSC := Lib.hid (show Calls Tryz.prog 52 #[.agg #[.int .i64 b.kind, .int .i64 b.int, .string b.text, .slice (some ⟨b2, o2, none⟩) n c', .slice K' b.keys.length d'], .int .i64 j] Wy fun e w' => e = .returned (.agg #[.int .i64 (-1), .string kk]) ∧ Below Wy.heap.size Wy w' from by
            have := stepTo_key b Wy (some ⟨b2, o2, none⟩) K' c' d' j kk ((HLB.out Wy HIy.out.box.old).keep (fun _ _ _ => rfl) HIy.out.box.old.size b) HBL.out.2 HE.out.2.1
            rw [← HN.out.1] at this
            exact this)
          obtain ⟨v0, v1, v2, v3, v4⟩ := five_of (show BlockIs Wy (w.heap.size + 1) 27 #[.int .i64 b.kind, .int .i64 b.int, .string b.text, .slice (some ⟨b2, o2, none⟩) n c', .slice K' b.keys.length d'] by have := HIy.out.box.bb; rw [HCB.out] at this; exact this)
          go_wp2_with fail
          refine HSC.out.mono ?_
          rintro e w2 ⟨rfl, h2⟩
          clear v0 v1 v2 v3 v4 HSC
          go_upto_region 15 with (fail)
          obtain ⟨W3, hW3⟩ : ∃ W3, W3 = w2.alloc (.cells #[.int .i64 (-1), .string kk] 35) := ⟨_, rfl⟩
          have hb3 : Below Wy.heap.size Wy W3 := by rw [hW3]; exact below_al h2 _
          have HX3 := Lib.hid (HXy.out.below hb3 HXy.out.lt)
          have HS3 := Lib.hid (show BlockIs W3 w2.heap.size 35 #[.int .i64 (-1), .string kk] by rw [hW3]; exact BlockIs.new w2 _ _)
          have HI3 := Lib.hid (HIy.out.on hb3)
          have HWS := Lib.hid (show wr.heap.size ≤ w2.heap.size by have := HBy.out.size; have := h2.size; omega)
          rw [← hW3]
          clear hW3 hb3 h2 HXy HIy HBy
          obtain ⟨old, hold⟩ : ∃ old, old = gotK a kk := ⟨_, rfl⟩
          obtain ⟨fb, hfb⟩ : ∃ fb, fb = hasI a kk := ⟨_, rfl⟩
          have HIA := Lib.hid (show Calls Tryz.prog 56 #[.agg #[.int .i64 a.kind, .int .i64 a.int, .string a.text, .slice A a.items.length c, .slice K na d], .agg #[.int .i64 (-1), .string kk]] W3 fun e w' => ∃ A c K d, e = .returned (.tuple #[.agg #[.int .i64 old.kind, .int .i64 old.int, .string old.text, .slice A old.items.length c, .slice K old.keys.length d], .bool fb]) ∧ Lies w' w.heap.size old A c K d ∧ Below W3.heap.size W3 w' from by
            have := itemAt_any w.heap.size a kk W3 A K c d HI3.out.box.old.size (HLA.out W3 HI3.out.box.old) HAO.out.1 HNN.out.1
            rw [← hold, ← hfb, ← HN.out.2] at this
            exact this)
          have HOLD := Lib.hid (And.intro hold hfb)
          have hoo := gotK_ok HAO.out.1 kk
          rw [← hold] at hoo
          have HOO := Lib.hid (And.intro hoo.1 (show (1 + old.nodes) * y.nodes ≤ 5000 from Nat.le_trans (Nat.mul_le_mul_right _ (by have := hoo.2; omega)) (HNN.out.2.2 y (List.mem_of_getElem? HE.out.1))))
          clear hold hfb hoo
          obtain ⟨v0, v1, v2, v3, v4⟩ := five_of (show BlockIs W3 w.heap.size 27 #[.int .i64 a.kind, .int .i64 a.int, .string a.text, .slice A a.items.length c, .slice K na d] by have := HI3.out.box.ba; rw [HCA.out] at this; exact this)
          have vl := HI3.out.box.ba.lt
          obtain ⟨t0, t1⟩ : W3.cell? ⟨w2.heap.size, 0, none⟩ = some (.int .i64 (-1)) ∧ W3.cell? ⟨w2.heap.size, 1, none⟩ = some (.string kk) := ⟨HS3.out.cell 0, HS3.out.cell 1⟩
          have tl := HS3.out.lt
          go_wp2_with fail
          refine HIA.out.mono ?_
          rintro e w4 ⟨Ao, co, Ko, do', rfl, hlo, h4⟩
          clear v0 v1 v2 v3 v4 vl t0 t1 tl HIA
          go_upto_region 16 with (fail)
          obtain ⟨W5, hW5⟩ : ∃ W5, W5 = w4.alloc (.cells #[.int .i64 old.kind, .int .i64 old.int, .string old.text, .slice Ao old.items.length co, .slice Ko old.keys.length do'] 27) := ⟨_, rfl⟩
          have hb5 : Below W3.heap.size W3 W5 := by rw [hW5]; exact below_al h4 _
          have HX5 := Lib.hid (HX3.out.below hb5 HX3.out.lt)
          have HS5 := Lib.hid (HS3.out.below hb5 HS3.out.lt)
          have HO5 := Lib.hid (show BlockIs W5 w4.heap.size 27 #[.int .i64 old.kind, .int .i64 old.int, .string old.text, .slice Ao old.items.length co, .slice Ko old.keys.length do'] by rw [hW5]; exact BlockIs.new w4 _ _)
          have HI5 := Lib.hid (HI3.out.on hb5)
          have HLO := Lib.hid (show Lies W5 w.heap.size old Ao co Ko do' from hlo.keep (fun b o hlt => by rw [hW5]; exact bcell (below_al (Below.refl _ w4) _) b o (by have := h4.size; have := HI3.out.box.old.size; omega)) (Nat.le_refl _) old)
          have HWS4 := Lib.hid (show wr.heap.size ≤ w4.heap.size by have := HWS.out; have := h4.size; have := HS3.out.lt; omega)
          have HWS2 := Lib.hid (show w2.heap.size < w4.heap.size by have := h4.size; have := HS3.out.lt; omega)
          rw [← hW5]
          clear hW5 hb5 h4 hlo HX3 HS3 HI3
          obtain ⟨bq, hbq⟩ : ∃ bq, bq = (fb && eqV old y) := ⟨_, rfl⟩
          have HBQ := Lib.hid (show (hasI a kk && eqV (gotK a kk) y) = bq by rw [hbq, HOLD.out.1, HOLD.out.2])
          go_cut [50, 69] from 50 to 77 (fun iv q wx => iv = .int .i64 j ∧ q = .bool bq ∧ Hid (Below W5.heap.size W5 wx))
          case first =>
            obtain ⟨x0, x1, x2, x3, x4⟩ := five_of HX5.out
            have xl := HX5.out.lt
            obtain ⟨p0, p1, p2, p3, p4⟩ := five_of HO5.out
            have pl := HO5.out.lt
            cases fb
            · have HQ := Lib.hid (show bq = false by rw [hbq]; rfl)
              clear hbq
              go_wp2_with fail
              go_meet
              exact ⟨rfl, by rw [HQ.out], Lib.hid (Below.refl _ _)⟩
            · have HQ := Lib.hid (show eqV old y = bq by rw [hbq]; simp)
              clear hbq
              have HEQ := Lib.hid (equal_any old y W5 Ao Ko co do' Ay Ky cy dy (HLO.out.keep (fun _ _ _ => rfl) HI5.out.box.old.size old) (HLY.out W5 HI5.out.box.old))
              rw [HQ.out] at HEQ
              go_wp2_with fail
              refine HEQ.out.mono ?_
              rintro e w6 ⟨rfl, h6⟩
              have HB6 := Lib.hid h6
              clear h6
              go_wp2_with fail
              go_meet
              exact ⟨rfl, rfl, HB6⟩
          case rest =>
            obtain ⟨rfl, rfl, HB6⟩ := hcut
            have HI6 := Lib.hid (HI5.out.on HB6.out)
            have HX6 := Lib.hid (HX5.out.below HB6.out HX5.out.lt)
            have HS6 := Lib.hid (HS5.out.below HB6.out HS5.out.lt)
            have HO6 := Lib.hid (HO5.out.below HB6.out HO5.out.lt)
            have HLO6 := Lib.hid (HLO.out.keep (w' := wc) (fun b o hlt => bcell HB6.out b o (by have := HI5.out.box.old.size; omega)) (Nat.le_refl _) old)
            clear hbq HI5 HX5 HS5 HO5 HLO HB6
            cases bq
            · obtain ⟨hob, hst⟩ := HI6.out.st.laid HAO.out.1 HI6.out.ob HE.out.2.1 HE.out.1 HE.out.2.2.1 HE.out.2.2.2.1 HBQ.out
              have HST := Lib.hid (And.intro hob hst)
              have hmn : m.nodes ≤ 5000 := by have := HI6.out.st.1; omega
              have hfit := fit_of HI6.out.ob.ok
              have HRM := Lib.hid (show Calls Tryz.prog 42 #[.pointer (some ⟨w.heap.size + 1 + 1 + 1, 0, none⟩), .agg #[.int .i64 (-1), .string kk]] wc (RoomPost (roomV m (kst kk)) (whereV m (kst kk)) (w.heap.size + 3) (w.heap.size + 3) 27 [] [] D wc) from
                room_any m (-1) kk (w.heap.size + 3) (w.heap.size + 3) _ [] [] vI vK D wc HI6.out.node hfit (by have := nodes_items m; have := length_le_nodesL m.items; omega) (by rw [HI6.out.ob.kind]; rfl) (not_over m kk) HE.out.2.2.2.2)
              obtain ⟨t0, t1⟩ : wc.cell? ⟨w2.heap.size, 0, none⟩ = some (.int .i64 (-1)) ∧ wc.cell? ⟨w2.heap.size, 1, none⟩ = some (.string kk) := ⟨HS6.out.cell 0, HS6.out.cell 1⟩
              have tl := HS6.out.lt
              clear hfit hob hst hmn
              go_wp2_with fail
              refine HRM.out.mono ?_
              rintro e w7 ⟨gI, c5, vK5, D5, rfl, hN5, hD5, hF5⟩
              obtain ⟨nn, hnn⟩ : ∃ nn, nn = whereV m (kst kk) := ⟨_, rfl⟩
              obtain ⟨x2, hx2⟩ : ∃ x2, x2 = roomV m (kst kk) := ⟨_, rfl⟩
              have hit := room_item HI6.out.ob HE.out.2.2.1
              obtain ⟨z, hz⟩ : ∃ z, z = patchV old y := ⟨_, rfl⟩
              have HSET := Lib.hid (show setIt x2 nn z = setK m kk (patchV (gotK a kk) y) by rw [hx2, hnn, hz, HOLD.out.1]; rfl)
              rw [← hnn, ← hx2] at hit
              rw [← hx2] at hN5
              rw [← hnn]
              have HIT := Lib.hid hit
              have HN5 := Lib.hid hN5
              have HF5 := Lib.hid hF5
              have HD5 := Lib.hid hD5
              obtain ⟨gJ, cJ, pre', post', yI, yK, D0, eJ, hpre, hNy, -, -, -⟩ := hN5.down hit
              have eg : gI = gJ := by
                have := eJ
                simp at this
                exact this.1
              subst eg
              have HROW := Lib.hid hNy.row
              have HPRE := Lib.hid hpre
              have HDC := Lib.hid (show ∀ b, D b → b < wr.heap.size from HDW.out.2)
              have hx7 : BlockIs w7 wr.heap.size 27 #[.int .i64 y.kind, .int .i64 y.int, .string y.text, .slice Ay y.items.length cy, .slice Ky y.keys.length dy] := HX6.out.to (hF5.block wr.heap.size HX6.out.lt (by have := HDW.out.1; omega) (fun e => by have := HDC.out _ e; omega))
              have ho7 : BlockIs w7 w4.heap.size 27 #[.int .i64 old.kind, .int .i64 old.int, .string old.text, .slice Ao old.items.length co, .slice Ko old.keys.length do'] := HO6.out.to (hF5.block w4.heap.size HO6.out.lt (by have := HDW.out.1; have := HWS4.out; omega) (fun e => by have := HDC.out _ e; have := HWS4.out; omega))
              have hbx7 := HI6.out.box.fr hF5 (Nat.le_refl _) (fun b hb => (HI6.out.node.low b hb).1)
              have HIC := Lib.hid (show Calls Tryz.prog 34 #[.agg #[.int .i64 old.kind, .int .i64 old.int, .string old.text, .slice Ao old.items.length co, .slice Ko old.keys.length do'], .agg #[.int .i64 y.kind, .int .i64 y.int, .string y.text, .slice Ay y.items.length cy, .slice Ky y.keys.length dy]] w7 (MPost z w7) from by
                rw [hz]
                exact HIH.out old y HOO.out.1 (List.mem_of_getElem? HE.out.1) HOO.out.2 w7 Ao Ko co do' Ay Ky cy dy (HLO6.out.keep (w' := w7) (fun b o hlt => (bcell hbx7.old b o hlt).trans (bcell HI6.out.box.old b o hlt).symm) hbx7.old.size old) (HLY.out w7 hbx7.old))
              obtain ⟨x0, x1, x2', x3, x4⟩ := five_of hx7
              have xl := hx7.lt
              obtain ⟨p0, p1, p2, p3, p4⟩ := five_of ho7
              have pl := ho7.lt
              clear hit hx2 hnn hN5 hD5 hF5 eJ hpre hNy hx7 ho7 hbx7 hz t0 t1 tl HRM HX6 HO6 HS6
              go_wp2_with fail
              refine HIC.out.mono ?_
              rintro e w6 ⟨zI, zK, rfl, ht, h6⟩
              obtain ⟨⟨ZA, zc, rfl⟩, ZK, zd, rfl⟩ := ht.forms
              have hr6 := HROW.out.below h6 HROW.out.lt
              obtain ⟨⟨i0, i1, i2, i3, i4⟩, j0, j1, j2, j3, j4, jl⟩ := cells_five hr6
              rw [HPRE.out] at i0 i1 i2 i3 i4 j0 j1 j2 j3 j4
              obtain ⟨hN7, hF7⟩ := set_made (W7 := ((((w6.setCell ⟨gI, nn * 5, none⟩ (.int .i64 z.kind)).setCell ⟨gI, nn * 5 + 1, none⟩ (.int .i64 z.int)).setCell ⟨gI, nn * 5 + 2, none⟩ (.string z.text)).setCell ⟨gI, nn * 5 + 3, none⟩ (.slice ZA z.items.length zc)).setCell ⟨gI, nn * 5 + 4, none⟩ (.slice ZK z.keys.length zd)) HN5.out HIT.out h6 ht rfl
              rw [HSET.out] at hN7
              have HI7 := Lib.hid (HI6.out.turned (HF5.out.trans hF7 HD5.out) hN7 HST.out.1 HST.out.2)
              clear hN7 hF7 ht h6 hr6 x0 x1 x2' x3 x4 xl p0 p1 p2 p3 p4 pl
              go_wp2_with fail
              go_roundw
              case rel => exact ⟨j + 1, _, _, _, _, by go_num, by omega, HI7⟩
              case measure => simp [intOf]; omega
            · have HI7 := Lib.hid (show PK w CA CB (InB a b R (j + 1)) m vI vK D wc from ⟨HI6.out.box, HI6.out.node, HI6.out.ob, HI6.out.st.skip HE.out.2.1 HE.out.1 HBQ.out⟩)
              go_wp2_with fail
              go_roundw
              case rel => exact ⟨j + 1, _, _, _, _, by go_num, by omega, HI7⟩
              case measure => simp [intOf]; omega
        · have hjn : ¬ ((j : Int) < n) := by omega
          have HRE := Lib.hid (show m = R by
            have h1 := HI.out.st.2
            rw [List.drop_eq_nil_of_le (by have := HKL.out; have := HN.out.1; omega), patchL] at h1
            exact h1)
          obtain ⟨⟨p0, p1, p2, p3, p4⟩, g0, g1, g2, g3, g4, pl⟩ := cells_five HI.out.node.row
          simp only [List.length_nil, Nat.zero_add] at p0 p1 p2 p3 p4 g0 g1 g2 g3 g4
          obtain ⟨⟨MA, mc, rfl⟩, MK, md, rfl⟩ := HI.out.node.tree.forms
          obtain ⟨z0, z1, z2, z3, z4⟩ := five_of (show BlockIs wr (w.heap.size + 2) 27 #[.int .i64 0, .int .i64 0, .string ⟨#[]⟩, .slice none 0 0, .slice none 0 0] from HI.out.box.br)
          have f0 := HI.out.box.br.frozen 0
          have f1 := HI.out.box.br.frozen 1
          have f2 := HI.out.box.br.frozen 2
          have f3 := HI.out.box.br.frozen 3
          have f4 := HI.out.box.br.frozen 4
          have zl := HI.out.box.br.lt
          go_wp2_with fail
          refine bodyPost_ret (v := .agg #[.int .i64 m.kind, .int .i64 m.int, .string m.text, .slice MA m.items.length mc, .slice MK m.keys.length md]) (by simp [results, Tryz.results34, go_sem, z0, z1, z2, z3, z4]) rfl ?_
          rw [← HRE.out]
          exact HI.out.box.good HI.out.node.tree (by omega) HI.out.node.low
theorem patch_any : ∀ (N : Nat) (b : V), b.nodes ≤ N → ∀ (a : V), a.ok = true → b.ok = true → (1 + a.nodes) * b.nodes ≤ 5000 → ∀ (w : World) (A K : Option Addr) (c d : Nat) (A' K' : Option Addr) (c' d' : Nat), Lies w w.heap.size a A c K d → Lies w w.heap.size b A' c' K' d' →
    Calls Tryz.prog 34 #[.agg #[.int .i64 a.kind, .int .i64 a.int, .string a.text, .slice A a.items.length c, .slice K a.keys.length d], .agg #[.int .i64 b.kind, .int .i64 b.int, .string b.text, .slice A' b.items.length c', .slice K' b.keys.length d']] w (MPost (patchV a b) w)
  | 0, b, hN, _, _, _, _, _, _, _, _, _, _, _, _, _, _, _ => by have := V.nodes_pos b; omega
  | N + 1, b, hN, a, hao, hbo, hn, w, A, K, c, d, A', K', c', d', ha, hb => by
    by_cases h5 : a.kind = 5 ∧ b.kind = 5
    · exact patch_step a b w A K c d A' K' c' d' ha hb hao hbo hn h5.1 h5.2 fun x y hx hy hxy W A K c d A' K' c' d' h1 h2 => patch_any N y (by have := V.nodes_mem hy; have := nodes_items b; omega) x hx (okItems hbo y hy) hxy W A K c d A' K' c' d' h1 h2
    · exact patch_not a b w A K c d A' K' c' d' hb hbo (Nat.le_trans (Nat.le_mul_of_pos_left _ (by omega)) hn) h5
end Go.Proofs.YtebmjefimbcefaaGreatDoor
