/- Whether two leaves are the same, as the program says it. -/
import Derived.Test.YtchadlbhdcpojaaGreatDoorJn
import Derived.Test.YtchadlbhdcpojaaGreatDoorJf
import Derived.Test.YtchadlbhdcpojaaGreatDoorJg
namespace Go.Proofs.YtchadlbhdcpojaaGreatDoor
open Go.RowKit
set_option maxRecDepth 100000 in
set_option maxHeartbeats 1000000 in
theorem equalV_any (x y : V) (w : World) (A K : Option Addr) (c d : Nat) (A' K' : Option Addr) (c' d' : Nat) (h : Lies w w.heap.size x A c K d) (h' : Lies w w.heap.size y A' c' K' d') :
    Calls Tryz.prog 54 #[.agg #[.int .i64 x.kind, .int .i64 x.int, .string x.text, .slice A x.items.length c, .slice K x.keys.length d], .agg #[.int .i64 y.kind, .int .i64 y.int, .string y.text, .slice A' y.items.length c', .slice K' y.keys.length d']] w fun e w' => e = .returned (.bool (eqV x y)) ∧ Below w.heap.size w w' := by
  have HB := Lib.hid (below_al (below_al (Below.refl _ w) (.cells #[.int .i64 x.kind, .int .i64 x.int, .string x.text, .slice A x.items.length c, .slice K x.keys.length d] 27)) (.cells #[.int .i64 y.kind, .int .i64 y.int, .string y.text, .slice A' y.items.length c', .slice K' y.keys.length d'] 27))
  have HC := Lib.hid fun W (hW : Below w.heap.size w W) => compare_any x y W A K c d A' K' c' d' (lies_on h hW) (lies_on h' hW)
  obtain ⟨q, hq⟩ : ∃ q, q = eqV x y := ⟨_, rfl⟩
  rw [← hq]
  have HQ := Lib.hid (show q = (x.valid && y.valid && decide (x.cmp y = 0)) from hq)
  clear h h' hq
  go_enter Tryz.func54, Tryz.ntmps54
  go_wp2_with fail
  refine (HC.out _ HB.out).mono ?_
  intro e w1 hcp
  unfold CmpPost at hcp
  cases hv : (x.valid && y.valid)
  · rw [hv] at hcp HQ
    obtain ⟨rfl, h1⟩ := hcp
    have HA := Lib.hid (show q = false by rw [HQ.out]; rfl)
    have HB1 := Lib.hid (below_on HB.out h1)
    clear hv h1 HQ
    go_wp2_with fail
    go_ret
    exact ⟨by rw [HA.out]; rfl, HB1.out⟩
  · rw [hv] at hcp HQ
    obtain ⟨rfl, h1⟩ := hcp
    have HB1 := Lib.hid (below_on HB.out h1)
    clear hv h1
    by_cases h0 : x.cmp y = 0
    · have HA := Lib.hid (show q = true by rw [HQ.out]; simp [h0])
      have h0b : (x.cmp y == 0) = true := by simp [h0]
      clear h0 HQ
      go_wp2_with fail
      go_ret
      exact ⟨by rw [HA.out]; rfl, HB1.out⟩
    · have HA := Lib.hid (show q = false by rw [HQ.out]; simp [h0])
      have h0b : (x.cmp y == 0) = false := by simp [h0]
      clear h0 HQ
      go_wp2_with fail
      go_ret
      exact ⟨by rw [HA.out]; rfl, HB1.out⟩
/-- Whether two leaves are the same. -/
def sameL (x y : Lf) : Bool := decide (cmpPathP x.1 y.1 = 0) && eqV x.2 y.2
/-- The cells of a leaf's box. -/
theorem six_of {w : World} {g : Nat} {t : TypeId} {x0 x1 x2 x3 x4 x5 : Value} (h : BlockIs w g t #[x0, x1, x2, x3, x4, x5]) : w.cell? ⟨g, 0, none⟩ = some x0 ∧ w.cell? ⟨g, 1, none⟩ = some x1 ∧ w.cell? ⟨g, 2, none⟩ = some x2 ∧ w.cell? ⟨g, 3, none⟩ = some x3 ∧ w.cell? ⟨g, 4, none⟩ = some x4 ∧ w.cell? ⟨g, 5, none⟩ = some x5 := ⟨h.cell 0, h.cell 1, h.cell 2, h.cell 3, h.cell 4, h.cell 5⟩
set_option maxRecDepth 100000 in
set_option maxHeartbeats 1000000 in
theorem sameLeaf_any (x y : Lf) (w : World) (cs ds : List Value) (h : LeafIn (fun b => b < w.heap.size) w x cs) (h' : LeafIn (fun b => b < w.heap.size) w y ds) :
    Calls Tryz.prog 34 #[.agg cs.toArray, .agg ds.toArray] w fun e w' => e = .returned (.bool (sameL x y)) ∧ Below w.heap.size w w' := by
  obtain ⟨Ap, cp, A, c, K, d, rfl, hp, hl⟩ := h
  obtain ⟨Ap', cp', A', c', K', d', rfl, hp', hl'⟩ := h'
  obtain ⟨W1, hW1⟩ : ∃ W1, W1 = (w.alloc (.cells #[.slice Ap x.1.length cp, .int .i64 x.2.kind, .int .i64 x.2.int, .string x.2.text, .slice A x.2.items.length c, .slice K x.2.keys.length d] 47)).alloc (.cells #[.slice Ap' y.1.length cp', .int .i64 y.2.kind, .int .i64 y.2.int, .string y.2.text, .slice A' y.2.items.length c', .slice K' y.2.keys.length d'] 47) := ⟨_, rfl⟩
  have hb1 : Below w.heap.size w W1 := by rw [hW1]; exact below_al (below_al (Below.refl _ w) _) _
  have hx1 : BlockIs W1 w.heap.size 47 #[.slice Ap x.1.length cp, .int .i64 x.2.kind, .int .i64 x.2.int, .string x.2.text, .slice A x.2.items.length c, .slice K x.2.keys.length d] := by rw [hW1]; exact (BlockIs.new w _ _).alloc _
  have hy1 : BlockIs W1 (w.heap.size + 1) 47 #[.slice Ap' y.1.length cp', .int .i64 y.2.kind, .int .i64 y.2.int, .string y.2.text, .slice A' y.2.items.length c', .slice K' y.2.keys.length d'] := by rw [hW1]; exact BlockIs.newAt _ _ _ (by simp)
  have HO := Lib.hid (orderLists_any x.1 y.1 W1 Ap Ap' cp cp' ((hp.lies (fun _ h => h)).on hb1) ((hp'.lies (fun _ h => h)).on hb1))
  have HE := Lib.hid fun W (hW : Below w.heap.size w W) => equalV_any x.2 y.2 W A K c d A' K' c' d' (lies_on (LiesIn.lies (fun _ h => h) x.2 hl) hW) (lies_on (LiesIn.lies (fun _ h => h) y.2 hl') hW)
  have HW := Lib.hid hW1
  have HB := Lib.hid hb1
  have HX := Lib.hid hx1
  have HY := Lib.hid hy1
  obtain ⟨q, hq⟩ : ∃ q, q = cmpPathP x.1 y.1 := ⟨_, rfl⟩
  obtain ⟨b, hb⟩ : ∃ b, b = eqV x.2 y.2 := ⟨_, rfl⟩
  have hs : sameL x y = (decide (q = 0) && b) := by rw [sameL, hq, hb]
  rw [hs]
  rw [← hq] at HO
  rw [← hb] at HE
  clear hp hl hp' hl' hW1 hb1 hx1 hy1 hq hb hs
  obtain ⟨v0, v1, v2, v3, v4, v5⟩ := six_of HX.out
  have vl := HX.out.lt
  obtain ⟨u0, u1, u2, u3, u4, u5⟩ := six_of HY.out
  have ul := HY.out.lt
  go_enter Tryz.func34, Tryz.ntmps34
  go_upto_region 1 with (fail)
  rw [← HW.out]
  by_cases h0 : q = 0
  · have h0b : (q == 0) = true := by simp [h0]
    have HQ := Lib.hid (show decide (q = 0) = true by simp [h0])
    clear h0
    go_wp2_with (refine HO.out.mono ?_; rintro e w1 ⟨rfl, h1⟩; have HB1 := Lib.hid (below_on HB.out h1); have hx1 := HX.out.below h1 HX.out.lt; have hy1 := HY.out.below h1 HY.out.lt; clear v0 v1 v2 v3 v4 v5 vl u0 u1 u2 u3 u4 u5 ul h1; obtain ⟨v0, v1, v2, v3, v4, v5⟩ := six_of hx1; have vl := hx1.lt; obtain ⟨u0, u1, u2, u3, u4, u5⟩ := six_of hy1; have ul := hy1.lt; clear hx1 hy1)
    refine (HE.out _ HB1.out).mono ?_
    rintro e w2 ⟨rfl, h2⟩
    have HB2 := Lib.hid (below_on HB1.out h2)
    clear h2
    go_wp2_with fail
    go_ret
    exact ⟨by rw [HQ.out]; rfl, HB2.out⟩
  · have h0b : (q == 0) = false := by simp [h0]
    have HQ := Lib.hid (show decide (q = 0) = false by simp [h0])
    clear h0
    go_wp2_with (refine HO.out.mono ?_; rintro e w1 ⟨rfl, h1⟩; have HB1 := Lib.hid (below_on HB.out h1); clear h1)
    go_ret
    exact ⟨by rw [HQ.out]; rfl, HB1.out⟩
open Go.RowKit
/-- The old item of a step, null where there is none. -/
def oldS (x : V) (s : Stp) : V := (itemV x s).getD nullV
theorem nullV_ok : nullV.ok = true := by decide
theorem oldS_ok {x : V} {s : Stp} (h : x.ok = true) : (oldS x s).ok = true := by
  unfold oldS
  cases hi : itemV x s with
  | none => exact nullV_ok
  | some y => exact okItems h y (item_mem hi)
theorem kindV_len (x : V) (s : Stp) : (kindV x s).items = x.items := by unfold kindV; split <;> rfl
theorem putV_cons {x z : V} {s : Stp} {r : List Stp} (hok : x.ok = true) (hs : stepB s = true) (h1 : (kindV x s).kind = holderS s) (h2 : ¬ s.1 > x.items.length) :
    putV x (s :: r) z = (newR x s (putV (oldS x s) r z).1, (putV (oldS x s) r z).2) := by
  have hl : ¬ s.1 > (kindV x s).items.length := by rw [kindV_len]; exact h2
  obtain ⟨-, -, h3, -, -⟩ := room_items ((fit_of hok).kindV s) h1 hs hl nullV
  rw [kindV_item (fit_of hok)] at h3
  rw [putV, if_neg (by simpa using h1), if_neg hl, h3, newR_is hok h1 h2]
  rfl
theorem putV_fits {x z : V} {s : Stp} {r : List Stp} (h : (putV x (s :: r) z).2 = 0) : (kindV x s).kind = holderS s ∧ ¬ s.1 > x.items.length := by
  by_cases h1 : (kindV x s).kind = holderS s
  · refine ⟨h1, fun h2 => ?_⟩
    rw [putV, if_neg (by simpa using h1), if_pos (by rw [kindV_len]; exact h2)] at h
    cases h
  · rw [putV, if_pos h1] at h
    cases h
theorem kindS_ok {x : V} {s : Stp} (h : x.ok = true) : (kindV x s).ok = true := by
  unfold kindV
  split
  · rename_i h0
    rw [null_of h h0]
    unfold holderS
    split <;> decide
  · exact h
theorem kindV_nodes (x : V) (s : Stp) : (kindV x s).nodes = x.nodes := by
  obtain ⟨k, i, t, l, ks⟩ := x
  unfold kindV
  split <;> rfl
theorem kindV_idem {m : V} {s : Stp} (h : m.kind = holderS s) : kindV m s = m := by
  unfold kindV
  rw [if_neg]
  rw [h, holderS]
  split <;> decide
theorem newR_kindV {x y : V} {s : Stp} (h1 : (kindV x s).kind = holderS s) : newR (kindV x s) s y = newR x s y := by
  have e := kindV_idem h1
  unfold newR
  rw [e]
theorem okL_take_drop {l : List V} {n : Nat} {y : V} (h : V.okL l = true) (hy : y.ok = true) : V.okL (l.take n ++ y :: l.drop (n + 1)) = true := by
  induction l generalizing n with
  | nil => simp [V.okL, hy]
  | cons c l ih =>
    rw [V.okL, Bool.and_eq_true] at h
    cases n with
    | zero => simp [V.okL, hy, h.2]
    | succ n => simp only [List.take_succ_cons, List.drop_succ_cons, List.cons_append, V.okL, Bool.and_eq_true]; exact ⟨h.1, ih h.2⟩
theorem nodesL_take_drop {l : List V} {n : Nat} {y : V} (hn : n ≤ l.length) : V.nodesL (l.take n ++ y :: l.drop (n + 1)) + (l[n]?.getD nullV).nodes ≤ V.nodesL l + y.nodes + 1 := by
  induction l generalizing n with
  | nil => simp at hn; subst hn; simp [V.nodesL]; decide
  | cons c l ih =>
    cases n with
    | zero => simp [V.nodesL]; omega
    | succ n => simp only [List.take_succ_cons, List.drop_succ_cons, List.cons_append, V.nodesL, List.getElem?_cons_succ]; have := ih (n := n) (by simpa using hn); omega
theorem newR_ok {x y : V} {s : Stp} {n : Nat} (hok : x.ok = true) (hy : y.ok = true) (hs : stepB s = true) (h1 : (kindV x s).kind = holderS s) (h2 : ¬ s.1 > x.items.length) (hn : y.nodes + 1 ≤ (oldS x s).nodes + n) (hn1 : 1 ≤ n) :
    (newR x s y).ok = true ∧ (newR x s y).nodes ≤ x.nodes + n := by
  have hk := kindS_ok (s := s) hok
  have hi : oldS (kindV x s) s = oldS x s := by unfold oldS; rw [kindV_item (fit_of hok)]
  have h2' : ¬ s.1 > (kindV x s).items.length := by rw [kindV_len]; exact h2
  rw [← newR_kindV h1, ← kindV_nodes x s]
  rw [← hi] at hn
  have h3 := kindV_idem h1
  clear hi hok h2
  generalize kindV x s = m at *
  obtain ⟨i, k⟩ := s
  by_cases h0 : i < 0
  · have h5 : m.kind = 5 := by rw [h1, holderS, if_pos h0]
    have hi1 : i = -1 := by
      unfold stepB at hs
      split at hs
      · assumption
      · simp at hs; omega
    subst hi1
    have hkt : textB k.data.toList = true := by simpa [stepB] using hs
    have hob : Ob m := ⟨hk, h5⟩
    have e : newR m (-1, k) y = setK m k y := by
      rw [setK_is hob]; unfold newR; rw [if_pos (by show (-1 : Int) < 0; decide), h3]
    rw [e]
    have ho : oldK m k = oldS m (-1, k) := oldK_is hob hkt
    obtain ⟨a, b⟩ := setK_ob hob hkt hy (by rw [ho]; exact hn) hn1
    exact ⟨a.ok, b⟩
  · have h4 : m.kind = 4 := by rw [h1, holderS, if_neg h0]
    have h5 := (okk hk).2.1 (by omega)
    obtain ⟨hb1, hb2⟩ := bare_ok hk (.inl h4)
    have em : m = .mk 4 0 ⟨#[]⟩ m.items [] := by
      conv => lhs; rw [← mk_eta m]
      rw [h4, hb1, hb2, h5]
    have hok : V.okL m.items = true := by rw [← ok_list, ← em]; exact hk
    have hmn : m.nodes = V.nodesL m.items + 1 := by rw [em]; rfl
    have ho : oldS m (i, k) = (m.items[i.toNat]?).getD nullV := by
      unfold oldS itemV; rw [if_pos (by simp only; omega), if_pos h4]
    unfold newR
    rw [if_neg h0, h3]
    simp only at h2' ⊢
    refine ⟨by rw [ok_list]; exact okL_take_drop hok hy, ?_⟩
    have := nodesL_take_drop (l := m.items) (n := i.toNat) (y := y) (by omega)
    rw [← ho] at this
    rw [hmn]
    simp only [V.nodes]
    omega
theorem putV_ok : ∀ (p : List Stp) (x z : V), x.ok = true → z.ok = true → p.all stepB = true → (putV x p z).2 = 0 → (putV x p z).1.ok = true ∧ (putV x p z).1.nodes ≤ x.nodes + (p.length + z.nodes)
  | [], x, z, _, hz, _, _ => by
    rw [putV]
    exact ⟨hz, by simp only [List.length_nil]; omega⟩
  | s :: r, x, z, hx, hz, hp, h => by
    rw [List.all_cons, Bool.and_eq_true] at hp
    obtain ⟨h1, h2⟩ := putV_fits h
    rw [putV_cons hx hp.1 h1 h2] at h ⊢
    obtain ⟨a, b⟩ := putV_ok r (oldS x s) z (oldS_ok hx) hz hp.2 h
    have := newR_ok (n := r.length + 1 + z.nodes) hx a hp.1 h1 h2 (by omega) (by omega)
    exact ⟨this.1, by rw [List.length_cons]; exact this.2⟩
/-- Leaves laid one after another. -/
def putsV : V → List Lf → V × Int
  | v, [] => (v, 0)
  | v, x :: l => if (putV v x.1 x.2).2 = 0 then putsV (putV v x.1 x.2).1 l else (nullV, 3)
/-- Whether leaves are valid. -/
def formB (l : List Lf) : Bool := l.all fun x => pathB x.1 && x.2.valid
theorem formB_at {l : List Lf} {j : Nat} {x : Lf} (h : formB l = true) (hx : l[j]? = some x) : pathB x.1 = true ∧ x.2.valid = true := by
  have := List.all_eq_true.1 h x (List.mem_of_getElem? hx)
  rwa [Bool.and_eq_true] at this
theorem puts_step {v : V} {l : List Lf} {j : Nat} {x : Lf} (h : formB l = true) (hx : l[j]? = some x) (hv : v.ok = true) (hn : v.nodes ≤ 1 + 66 * j) (hp : (putV v x.1 x.2).2 = 0) :
    (putV v x.1 x.2).1.ok = true ∧ (putV v x.1 x.2).1.nodes ≤ 1 + 66 * (j + 1) := by
  obtain ⟨h1, h2⟩ := formB_at h hx
  unfold pathB at h1
  rw [Bool.and_eq_true, decide_eq_true_eq] at h1
  obtain ⟨a, b, -⟩ := valid_deep h2
  obtain ⟨c, d⟩ := putV_ok x.1 v x.2 hv a h1.2 hp
  exact ⟨c, by omega⟩
/-- Whether lists of leaves are the same. -/
def sameLs : List Lf → List Lf → Bool
  | [], [] => true
  | x :: l, y :: m => sameL x y && sameLs l m
  | [], _ :: _ => false
  | _ :: _, [] => false
/-- What Build answers. -/
def buildOut (l : List Lf) : V × Int :=
  if formB l = true then (if l.length > 60 then (nullV, 3) else if (putsV nullV l).2 = 0 ∧ ((putsV nullV l).1.valid && sameLs (leavesV [] (putsV nullV l).1) l) = true then ((putsV nullV l).1, 0) else (nullV, 3)) else (nullV, 1)
/-- A leaf whose path and value are sound. -/
def OkL (x : Lf) : Prop := x.2.valid = true
theorem sameL_iff {x y : Lf} (hx : OkL x) (hy : OkL y) : sameL x y = true ↔ x = y := by
  obtain ⟨p, a⟩ := x
  obtain ⟨q, b⟩ := y
  have hx' : a.valid = true := hx
  have hy' : b.valid = true := hy
  unfold sameL eqV
  simp only [Bool.and_eq_true, decide_eq_true_eq, cmpPathP_zero, hx', hy', true_and, Prod.mk.injEq, cmp_zero (valid_deep hx').1 (valid_deep hy').1]
theorem sameLs_ne : ∀ {l m : List Lf} {j : Nat} {x y : Lf}, l[j]? = some x → m[j]? = some y → sameL x y = false → sameLs l m = false
  | [], _, _, _, _, h, _, _ => by simp at h
  | x :: l, [], _, _, _, _, _, _ => rfl
  | x :: l, y :: m, 0, _, _, h, h', hs => by
    simp only [List.getElem?_cons_zero, Option.some.injEq] at h h'
    rw [sameLs, h, h', hs]; rfl
  | x :: l, y :: m, j + 1, z, u, h, h', hs => by
    rw [sameLs, sameLs_ne (l := l) (m := m) (j := j) (x := z) (y := u) (by simpa using h) (by simpa using h') hs, Bool.and_false]
theorem sameLs_len : ∀ {l m : List Lf}, sameLs l m = true → l.length = m.length
  | [], [], _ => rfl
  | [], _ :: _, h => by cases h
  | _ :: _, [], h => by cases h
  | x :: l, y :: m, h => by
    rw [sameLs, Bool.and_eq_true] at h
    rw [List.length_cons, List.length_cons, sameLs_len h.2]
theorem sameLs_all : ∀ {l m : List Lf}, l.length = m.length → (∀ (j : Nat) (x y : Lf), l[j]? = some x → m[j]? = some y → sameL x y = true) → sameLs l m = true
  | [], [], _, _ => rfl
  | [], _ :: _, h, _ => by cases h
  | _ :: _, [], h, _ => by cases h
  | x :: l, y :: m, h, hs => by
    rw [sameLs, hs 0 x y rfl rfl, sameLs_all (by simpa using h) fun j a b ha hb => hs (j + 1) a b (by simpa using ha) (by simpa using hb)]
    rfl
open Go.RowKit
theorem nodesL_len : ∀ (l : List V), l.length ≤ V.nodesL l
  | [] => Nat.le_refl _
  | c :: l => by have := nodesL_len l; have := V.nodes_pos c; rw [V.nodesL, List.length_cons]; omega
theorem nodes_items_len (x : V) : x.items.length < x.nodes := by have := nodesL_len x.items; rw [nodes_items]; omega
mutual
theorem leavesV_pre (p : List Stp) : ∀ (q : List Stp) (x : V), leavesV (p ++ q) x = (leavesV q x).map fun l => (p ++ l.1, l.2)
  | q, .mk k i t [] ks => by rw [leavesV, leavesV]; rfl
  | q, .mk k i t (c :: l) ks => by
    rw [leavesV, leavesV, List.map_append, List.append_assoc, leavesV_pre p (q ++ [stepI k ks 0]) c, leavesL_pre p q k ks l 1]
theorem leavesL_pre (p : List Stp) : ∀ (q : List Stp) (k : Int) (ks : List ByteArray) (l : List V) (n : Nat), leavesL (p ++ q) k ks n l = (leavesL q k ks n l).map fun l => (p ++ l.1, l.2)
  | q, k, ks, [], n => by rw [leavesL, leavesL]; rfl
  | q, k, ks, c :: l, n => by
    rw [leavesL, leavesL, List.map_append, List.append_assoc, leavesV_pre p (q ++ [stepI k ks n]) c, leavesL_pre p q k ks l (n + 1)]
end
theorem leavesV_under (s : Stp) (c : V) : leavesV [s] c = (leavesV [] c).map fun a => (s :: a.1, a.2) := leavesV_pre [s] [] c
theorem leavesL_mem {p : List Stp} {k : Int} {ks : List ByteArray} {y : Lf} : ∀ {l : List V} {n : Nat}, y ∈ leavesL p k ks n l → ∃ (j : Nat) (c : V), l[j]? = some c ∧ y ∈ leavesV (p ++ [stepI k ks (n + j)]) c
  | [], n, h => by rw [leavesL] at h; cases h
  | c :: l, n, h => by
    rw [leavesL, List.mem_append] at h
    rcases h with h | h
    · exact ⟨0, c, rfl, h⟩
    · obtain ⟨j, d, h1, h2⟩ := leavesL_mem h
      exact ⟨j + 1, d, by simpa using h1, by rw [show n + (j + 1) = n + 1 + j by omega]; exact h2⟩
/-- What has items is a list or an object. -/
theorem kind_items {x : V} (h : x.ok = true) (hi : x.items ≠ []) : x.kind = 4 ∨ x.kind = 5 := by
  obtain ⟨k, i, t, l, ks⟩ := x
  rw [V.ok, Bool.and_eq_true] at h
  obtain ⟨hs, -⟩ := h
  simp only [V.items] at hi
  have hl : ¬ l.length = 0 := fun e => hi (List.length_eq_zero_iff.1 e)
  show k = 4 ∨ k = 5
  unfold V.sound at hs
  by_cases h4 : k = 4
  · exact .inl h4
  by_cases h5 : k = 5
  · exact .inr h5
  exfalso
  simp only [h4, h5, if_false] at hs
  split at hs
  · simp [hl] at hs
  split at hs
  · simp [hl] at hs
  split at hs
  · simp [hl] at hs
  split at hs
  · simp [hl] at hs
  · cases hs
theorem key_at {x : V} (h : x.ok = true) (h5 : x.kind = 5) {j : Nat} (hj : j < x.items.length) : x.keys[j]? = some (x.keys.getD j ⟨#[]⟩) := by
  have hjk : j < x.keys.length := by rw [(okk h).2.2 h5]; exact hj
  rw [List.getD_eq_getElem?_getD, List.getElem?_eq_getElem hjk]; rfl
theorem item_stepI {x : V} (h : x.ok = true) (hk : x.kind = 4 ∨ x.kind = 5) {j : Nat} {c : V} (hc : x.items[j]? = some c) : itemV x (stepI x.kind x.keys j) = some c := by
  have hj := (List.getElem?_eq_some_iff.1 hc).1
  rcases hk with h4 | h5
  · unfold stepI
    rw [if_neg (by omega)]
    unfold itemV
    rw [if_pos (by simp only; omega), if_pos h4]
    exact hc
  · unfold stepI
    rw [if_pos h5]
    have hka := key_at h h5 hj
    unfold itemV
    rw [if_neg (by simp only; omega), if_pos ((hasK_iff _ _).2 (List.mem_of_getElem? hka))]
    simp only
    rw [posK_at (okk h).1 hka]
    exact hc
theorem stepI_ok {x : V} (h : x.ok = true) (hn : x.nodes ≤ 60) {j : Nat} (hj : j < x.items.length) : stepB (stepI x.kind x.keys j) = true := by
  have hk := kind_items h (fun e => by rw [e] at hj; cases hj)
  have hl : x.items.length < x.nodes := nodes_items_len x
  rcases hk with h4 | h5
  · unfold stepI
    rw [if_neg (by omega)]
    unfold stepB
    rw [if_neg (by simp only; omega)]
    simp only [Bool.and_eq_true, decide_eq_true_eq]
    exact ⟨⟨by omega, by omega⟩, trivial⟩
  · unfold stepI
    rw [if_pos h5]
    unfold stepB
    rw [if_pos rfl]
    obtain ⟨-, -, -, ht, -⟩ := ob_parts ⟨h, h5⟩
    exact List.all_eq_true.1 ht _ (List.mem_of_getElem? (key_at h h5 hj))
theorem depth_mem {y : V} : ∀ {l : List V}, y ∈ l → y.depth ≤ V.depthL l
  | c :: l, h => by
    rw [V.depthL]
    rcases List.mem_cons.1 h with rfl | h
    · omega
    · have := depth_mem h; omega
theorem depth_items (x : V) : x.depth = V.depthL x.items + 1 := by cases x; rfl
/-- What the leaves of a value are. -/
theorem leaves_at : ∀ (N : Nat) (x : V), x.nodes ≤ N → x.ok = true → x.nodes ≤ 60 → leavesV [] x ≠ [] ∧ ∀ y ∈ leavesV [] x, atV x y.1 = some y.2 ∧ y.2.ok = true ∧ y.1.all stepB = true ∧ y.1.length + y.2.depth ≤ x.depth ∧ y.2.nodes ≤ x.nodes
  | 0, x, hN, _, _ => by have := V.nodes_pos x; omega
  | N + 1, x, hN, hok, hn => by
    by_cases h0 : x.items = []
    · rw [leavesV_none h0]
      refine ⟨by simp, fun y hy => ?_⟩
      rw [List.mem_singleton] at hy
      subst hy
      exact ⟨rfl, hok, rfl, by simp, Nat.le_refl _⟩
    · have hk := kind_items hok h0
      have hni := nodes_items x
      have hc : ∀ c ∈ x.items, leavesV [] c ≠ [] ∧ ∀ y ∈ leavesV [] c, atV c y.1 = some y.2 ∧ y.2.ok = true ∧ y.1.all stepB = true ∧ y.1.length + y.2.depth ≤ c.depth ∧ y.2.nodes ≤ c.nodes := fun c hc =>
        leaves_at N c (by have := V.nodes_mem hc; omega) (okItems hok c hc) (by have := V.nodes_mem hc; omega)
      rw [leavesV_items h0]
      refine ⟨?_, fun y hy => ?_⟩
      · obtain ⟨c, l, hl⟩ := List.exists_cons_of_ne_nil h0
        rw [hl, leavesL, List.nil_append, leavesV_under]
        have := (hc c (by rw [hl]; exact .head _)).1
        simp [this]
      · obtain ⟨j, c, hj, hy⟩ := leavesL_mem hy
        rw [List.nil_append, Nat.zero_add, leavesV_under, List.mem_map] at hy
        obtain ⟨a, ha, rfl⟩ := hy
        have hm := List.mem_of_getElem? hj
        obtain ⟨h1, h2, h3, h4, h5⟩ := (hc c hm).2 a ha
        have hd := depth_mem hm
        have hd' := depth_items x
        have hn' := V.nodes_mem hm
        refine ⟨?_, h2, ?_, by simp only [List.length_cons]; omega, by simp only; omega⟩
        · simp only [atV]
          rw [item_stepI hok hk hj]
          exact h1
        · simp only [List.all_cons, Bool.and_eq_true]
          exact ⟨stepI_ok hok hn (List.getElem?_eq_some_iff.1 hj).1, h3⟩
theorem leaves_okL {x : V} (h : x.valid = true) {y : Lf} (hy : y ∈ leavesV [] x) : pathB y.1 = true ∧ y.2.valid = true ∧ atV x y.1 = some y.2 := by
  obtain ⟨h1, h2, h3⟩ := valid_deep h
  obtain ⟨a, b, c, d, e⟩ := (leaves_at x.nodes x (Nat.le_refl _) h1 h2).2 y hy
  have := V.depth_pos y.2
  refine ⟨?_, ?_, a⟩
  · unfold pathB
    rw [Bool.and_eq_true, decide_eq_true_eq]
    exact ⟨by omega, c⟩
  · unfold V.valid V.fits
    simp only [Bool.and_eq_true, decide_eq_true_eq]
    exact ⟨⟨b, by omega⟩, by omega⟩
section
variable {x y z : V} {s : Stp}
end
end Go.Proofs.YtchadlbhdcpojaaGreatDoor
