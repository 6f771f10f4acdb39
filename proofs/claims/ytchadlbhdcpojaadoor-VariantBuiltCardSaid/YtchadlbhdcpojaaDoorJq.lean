/- Whether two leaves are the same, as the program says it. -/
import Derived.Test.YtchadlbhdcpojaaDoorJn
import Derived.Test.YtchadlbhdcpojaaDoorJf
import Derived.Test.YtchadlbhdcpojaaDoorJg
namespace Go.Proofs.YtchadlbhdcpojaaDoor
open Go.RowKit
set_option maxRecDepth 100000 in
set_option maxHeartbeats 1000000 in
theorem equalV_any (x y : V) (w : World) (A K : Option Addr) (c d : Nat) (A' K' : Option Addr) (c' d' : Nat) (h : Lies w w.heap.size x A c K d) (h' : Lies w w.heap.size y A' c' K' d') :
    Calls Tryd.prog 47 #[.agg #[.int .i64 x.kind, .int .i64 x.int, .string x.text, .slice A x.items.length c, .slice K x.keys.length d], .agg #[.int .i64 y.kind, .int .i64 y.int, .string y.text, .slice A' y.items.length c', .slice K' y.keys.length d']] w fun e w' => e = .returned (.bool (eqV x y)) ∧ Below w.heap.size w w' := by
  have HB := Lib.hid (below_al (below_al (Below.refl _ w) (.cells #[.int .i64 x.kind, .int .i64 x.int, .string x.text, .slice A x.items.length c, .slice K x.keys.length d] 25)) (.cells #[.int .i64 y.kind, .int .i64 y.int, .string y.text, .slice A' y.items.length c', .slice K' y.keys.length d'] 25))
  have HC := Lib.hid fun W (hW : Below w.heap.size w W) => compare_any x y W A K c d A' K' c' d' (lies_on h hW) (lies_on h' hW)
  obtain ⟨q, hq⟩ : ∃ q, q = eqV x y := ⟨_, rfl⟩
  rw [← hq]
  have HQ := Lib.hid (show q = (x.valid && y.valid && decide (x.cmp y = 0)) from hq)
  clear h h' hq
  go_enter Tryd.func47, Tryd.ntmps47
  go_wp2_with fail
  refine (HC.out _ HB.out).mono ?_
  intro e w1 hcp
  unfold CmpPost at hcp
  cases hv : (x.valid && y.valid)
  · rw [hv] at hcp HQ
    obtain ⟨rfl, h1⟩ := hcp
    have HA := Lib.hid (show q = false by rw [HQ.out]; rfl)
    have HB1 := Lib.hid (below_on HB.out h1)
    clear hv h1 HQ
    go_wp2_with fail
    go_ret
    exact ⟨by rw [HA.out]; rfl, HB1.out⟩
  · rw [hv] at hcp HQ
    obtain ⟨rfl, h1⟩ := hcp
    have HB1 := Lib.hid (below_on HB.out h1)
    clear hv h1
    by_cases h0 : x.cmp y = 0
    · have HA := Lib.hid (show q = true by rw [HQ.out]; simp [h0])
      have h0b : (x.cmp y == 0) = true := by simp [h0]
      clear h0 HQ
      go_wp2_with fail
      go_ret
      exact ⟨by rw [HA.out]; rfl, HB1.out⟩
    · have HA := Lib.hid (show q = false by rw [HQ.out]; simp [h0])
      have h0b : (x.cmp y == 0) = false := by simp [h0]
      clear h0 HQ
      go_wp2_with fail
      go_ret
      exact ⟨by rw [HA.out]; rfl, HB1.out⟩
/-- Whether two leaves are the same. -/
def sameL (x y : Lf) : Bool := decide (cmpPathP x.1 y.1 = 0) && eqV x.2 y.2
/-- The cells of a leaf's box. -/
theorem six_of {w : World} {g : Nat} {t : TypeId} {x0 x1 x2 x3 x4 x5 : Value} (h : BlockIs w g t #[x0, x1, x2, x3, x4, x5]) : w.cell? ⟨g, 0, none⟩ = some x0 ∧ w.cell? ⟨g, 1, none⟩ = some x1 ∧ w.cell? ⟨g, 2, none⟩ = some x2 ∧ w.cell? ⟨g, 3, none⟩ = some x3 ∧ w.cell? ⟨g, 4, none⟩ = some x4 ∧ w.cell? ⟨g, 5, none⟩ = some x5 := ⟨h.cell 0, h.cell 1, h.cell 2, h.cell 3, h.cell 4, h.cell 5⟩
set_option maxRecDepth 100000 in
set_option maxHeartbeats 1000000 in
theorem sameLeaf_any (x y : Lf) (w : World) (cs ds : List Value) (h : LeafIn (fun b => b < w.heap.size) w x cs) (h' : LeafIn (fun b => b < w.heap.size) w y ds) :
    Calls Tryd.prog 35 #[.agg cs.toArray, .agg ds.toArray] w fun e w' => e = .returned (.bool (sameL x y)) ∧ Below w.heap.size w w' := by
  obtain ⟨Ap, cp, A, c, K, d, rfl, hp, hl⟩ := h
  obtain ⟨Ap', cp', A', c', K', d', rfl, hp', hl'⟩ := h'
  obtain ⟨W1, hW1⟩ : ∃ W1, W1 = (w.alloc (.cells #[.slice Ap x.1.length cp, .int .i64 x.2.kind, .int .i64 x.2.int, .string x.2.text, .slice A x.2.items.length c, .slice K x.2.keys.length d] 39)).alloc (.cells #[.slice Ap' y.1.length cp', .int .i64 y.2.kind, .int .i64 y.2.int, .string y.2.text, .slice A' y.2.items.length c', .slice K' y.2.keys.length d'] 39) := ⟨_, rfl⟩
  have hb1 : Below w.heap.size w W1 := by rw [hW1]; exact below_al (below_al (Below.refl _ w) _) _
  have hx1 : BlockIs W1 w.heap.size 39 #[.slice Ap x.1.length cp, .int .i64 x.2.kind, .int .i64 x.2.int, .string x.2.text, .slice A x.2.items.length c, .slice K x.2.keys.length d] := by rw [hW1]; exact (BlockIs.new w _ _).alloc _
  have hy1 : BlockIs W1 (w.heap.size + 1) 39 #[.slice Ap' y.1.length cp', .int .i64 y.2.kind, .int .i64 y.2.int, .string y.2.text, .slice A' y.2.items.length c', .slice K' y.2.keys.length d'] := by rw [hW1]; exact BlockIs.newAt _ _ _ (by simp)
  have HO := Lib.hid (orderLists_any x.1 y.1 W1 Ap Ap' cp cp' ((hp.lies (fun _ h => h)).on hb1) ((hp'.lies (fun _ h => h)).on hb1))
  have HE := Lib.hid fun W (hW : Below w.heap.size w W) => equalV_any x.2 y.2 W A K c d A' K' c' d' (lies_on (LiesIn.lies (fun _ h => h) x.2 hl) hW) (lies_on (LiesIn.lies (fun _ h => h) y.2 hl') hW)
  have HW := Lib.hid hW1
  have HB := Lib.hid hb1
  have HX := Lib.hid hx1
  have HY := Lib.hid hy1
  obtain ⟨q, hq⟩ : ∃ q, q = cmpPathP x.1 y.1 := ⟨_, rfl⟩
  obtain ⟨b, hb⟩ : ∃ b, b = eqV x.2 y.2 := ⟨_, rfl⟩
  have hs : sameL x y = (decide (q = 0) && b) := by rw [sameL, hq, hb]
  rw [hs]
  rw [← hq] at HO
  rw [← hb] at HE
  clear hp hl hp' hl' hW1 hb1 hx1 hy1 hq hb hs
  obtain ⟨v0, v1, v2, v3, v4, v5⟩ := six_of HX.out
  have vl := HX.out.lt
  obtain ⟨u0, u1, u2, u3, u4, u5⟩ := six_of HY.out
  have ul := HY.out.lt
  go_enter Tryd.func35, Tryd.ntmps35
  go_upto_region 1 with (fail)
  rw [← HW.out]
  by_cases h0 : q = 0
  · have h0b : (q == 0) = true := by simp [h0]
    have HQ := Lib.hid (show decide (q = 0) = true by simp [h0])
    clear h0
    go_wp2_with (refine HO.out.mono ?_; rintro e w1 ⟨rfl, h1⟩; have HB1 := Lib.hid (below_on HB.out h1); have hx1 := HX.out.below h1 HX.out.lt; have hy1 := HY.out.below h1 HY.out.lt; clear v0 v1 v2 v3 v4 v5 vl u0 u1 u2 u3 u4 u5 ul h1; obtain ⟨v0, v1, v2, v3, v4, v5⟩ := six_of hx1; have vl := hx1.lt; obtain ⟨u0, u1, u2, u3, u4, u5⟩ := six_of hy1; have ul := hy1.lt; clear hx1 hy1)
    refine (HE.out _ HB1.out).mono ?_
    rintro e w2 ⟨rfl, h2⟩
    have HB2 := Lib.hid (below_on HB1.out h2)
    clear h2
    go_wp2_with fail
    go_ret
    exact ⟨by rw [HQ.out]; rfl, HB2.out⟩
  · have h0b : (q == 0) = false := by simp [h0]
    have HQ := Lib.hid (show decide (q = 0) = false by simp [h0])
    clear h0
    go_wp2_with (refine HO.out.mono ?_; rintro e w1 ⟨rfl, h1⟩; have HB1 := Lib.hid (below_on HB.out h1); clear h1)
    go_ret
    exact ⟨by rw [HQ.out]; rfl, HB1.out⟩
open Go.RowKit
/-- The old item of a step, null where there is none. -/
def oldS (x : V) (s : Stp) : V := (itemV x s).getD nullV
theorem nullV_ok : nullV.ok = true := by decide
theorem oldS_ok {x : V} {s : Stp} (h : x.ok = true) : (oldS x s).ok = true := by
  unfold oldS
  cases hi : itemV x s with
  | none => exact nullV_ok
  | some y => exact okItems h y (item_mem hi)
theorem kindV_len (x : V) (s : Stp) : (kindV x s).items = x.items := by unfold kindV; split <;> rfl
theorem putV_cons {x z : V} {s : Stp} {r : List Stp} (hok : x.ok = true) (hs : stepB s = true) (h1 : (kindV x s).kind = holderS s) (h2 : ¬ s.1 > x.items.length) :
    putV x (s :: r) z = (newR x s (putV (oldS x s) r z).1, (putV (oldS x s) r z).2) := by
  have hl : ¬ s.1 > (kindV x s).items.length := by rw [kindV_len]; exact h2
  obtain ⟨-, -, h3, -, -⟩ := room_items ((fit_of hok).kindV s) h1 hs hl nullV
  rw [kindV_item (fit_of hok)] at h3
  rw [putV, if_neg (by simpa using h1), if_neg hl, h3, newR_is hok h1 h2]
  rfl
theorem putV_fits {x z : V} {s : Stp} {r : List Stp} (h : (putV x (s :: r) z).2 = 0) : (kindV x s).kind = holderS s ∧ ¬ s.1 > x.items.length := by
  by_cases h1 : (kindV x s).kind = holderS s
  · refine ⟨h1, fun h2 => ?_⟩
    rw [putV, if_neg (by simpa using h1), if_pos (by rw [kindV_len]; exact h2)] at h
    cases h
  · rw [putV, if_pos h1] at h
    cases h
theorem kindS_ok {x : V} {s : Stp} (h : x.ok = true) : (kindV x s).ok = true := by
  unfold kindV
  split
  · rename_i h0
    rw [null_of h h0]
    unfold holderS
    split <;> decide
  · exact h
theorem kindV_nodes (x : V) (s : Stp) : (kindV x s).nodes = x.nodes := by
  obtain ⟨k, i, t, l, ks⟩ := x
  unfold kindV
  split <;> rfl
theorem kindV_idem {m : V} {s : Stp} (h : m.kind = holderS s) : kindV m s = m := by
  unfold kindV
  rw [if_neg]
  rw [h, holderS]
  split <;> decide
theorem newR_kindV {x y : V} {s : Stp} (h1 : (kindV x s).kind = holderS s) : newR (kindV x s) s y = newR x s y := by
  have e := kindV_idem h1
  unfold newR
  rw [e]
theorem okL_take_drop {l : List V} {n : Nat} {y : V} (h : V.okL l = true) (hy : y.ok = true) : V.okL (l.take n ++ y :: l.drop (n + 1)) = true := by
  induction l generalizing n with
  | nil => simp [V.okL, hy]
  | cons c l ih =>
    rw [V.okL, Bool.and_eq_true] at h
    cases n with
    | zero => simp [V.okL, hy, h.2]
    | succ n => simp only [List.take_succ_cons, List.drop_succ_cons, List.cons_append, V.okL, Bool.and_eq_true]; exact ⟨h.1, ih h.2⟩
theorem nodesL_take_drop {l : List V} {n : Nat} {y : V} (hn : n ≤ l.length) : V.nodesL (l.take n ++ y :: l.drop (n + 1)) + (l[n]?.getD nullV).nodes ≤ V.nodesL l + y.nodes + 1 := by
  induction l generalizing n with
  | nil => simp at hn; subst hn; simp [V.nodesL]; decide
  | cons c l ih =>
    cases n with
    | zero => simp [V.nodesL]; omega
    | succ n => simp only [List.take_succ_cons, List.drop_succ_cons, List.cons_append, V.nodesL, List.getElem?_cons_succ]; have := ih (n := n) (by simpa using hn); omega
theorem newR_ok {x y : V} {s : Stp} {n : Nat} (hok : x.ok = true) (hy : y.ok = true) (hs : stepB s = true) (h1 : (kindV x s).kind = holderS s) (h2 : ¬ s.1 > x.items.length) (hn : y.nodes + 1 ≤ (oldS x s).nodes + n) (hn1 : 1 ≤ n) :
    (newR x s y).ok = true ∧ (newR x s y).nodes ≤ x.nodes + n := by
  have hk := kindS_ok (s := s) hok
  have hi : oldS (kindV x s) s = oldS x s := by unfold oldS; rw [kindV_item (fit_of hok)]
  have h2' : ¬ s.1 > (kindV x s).items.length := by rw [kindV_len]; exact h2
  rw [← newR_kindV h1, ← kindV_nodes x s]
  rw [← hi] at hn
  have h3 := kindV_idem h1
  clear hi hok h2
  generalize kindV x s = m at *
  obtain ⟨i, k⟩ := s
  by_cases h0 : i < 0
  · have h5 : m.kind = 5 := by rw [h1, holderS, if_pos h0]
    have hi1 : i = -1 := by
      unfold stepB at hs
      split at hs
      · assumption
      · simp at hs; omega
    subst hi1
    have hkt : textB k.data.toList = true := by simpa [stepB] using hs
    have hob : Ob m := ⟨hk, h5⟩
    have e : newR m (-1, k) y = setK m k y := by
      rw [setK_is hob]; unfold newR; rw [if_pos (by show (-1 : Int) < 0; decide), h3]
    rw [e]
    have ho : oldK m k = oldS m (-1, k) := oldK_is hob hkt
    obtain ⟨a, b⟩ := setK_ob hob hkt hy (by rw [ho]; exact hn) hn1
    exact ⟨a.ok, b⟩
  · have h4 : m.kind = 4 := by rw [h1, holderS, if_neg h0]
    have h5 := (okk hk).2.1 (by omega)
    obtain ⟨hb1, hb2⟩ := bare_ok hk (.inl h4)
    have em : m = .mk 4 0 ⟨#[]⟩ m.items [] := by
      conv => lhs; rw [← mk_eta m]
      rw [h4, hb1, hb2, h5]
    have hok : V.okL m.items = true := by rw [← ok_list, ← em]; exact hk
    have hmn : m.nodes = V.nodesL m.items + 1 := by rw [em]; rfl
    have ho : oldS m (i, k) = (m.items[i.toNat]?).getD nullV := by
      unfold oldS itemV; rw [if_pos (by simp only; omega), if_pos h4]
    unfold newR
    rw [if_neg h0, h3]
    simp only at h2' ⊢
    refine ⟨by rw [ok_list]; exact okL_take_drop hok hy, ?_⟩
    have := nodesL_take_drop (l := m.items) (n := i.toNat) (y := y) (by omega)
    rw [← ho] at this
    rw [hmn]
    simp only [V.nodes]
    omega
theorem putV_ok : ∀ (p : List Stp) (x z : V), x.ok = true → z.ok = true → p.all stepB = true → (putV x p z).2 = 0 → (putV x p z).1.ok = true ∧ (putV x p z).1.nodes ≤ x.nodes + (p.length + z.nodes)
  | [], x, z, _, hz, _, _ => by
    rw [putV]
    exact ⟨hz, by simp only [List.length_nil]; omega⟩
  | s :: r, x, z, hx, hz, hp, h => by
    rw [List.all_cons, Bool.and_eq_true] at hp
    obtain ⟨h1, h2⟩ := putV_fits h
    rw [putV_cons hx hp.1 h1 h2] at h ⊢
    obtain ⟨a, b⟩ := putV_ok r (oldS x s) z (oldS_ok hx) hz hp.2 h
    have := newR_ok (n := r.length + 1 + z.nodes) hx a hp.1 h1 h2 (by omega) (by omega)
    exact ⟨this.1, by rw [List.length_cons]; exact this.2⟩
/-- Leaves laid one after another. -/
def putsV : V → List Lf → V × Int
  | v, [] => (v, 0)
  | v, x :: l => if (putV v x.1 x.2).2 = 0 then putsV (putV v x.1 x.2).1 l else (nullV, 3)
/-- Whether leaves are valid. -/
def formB (l : List Lf) : Bool := l.all fun x => pathB x.1 && x.2.valid
theorem formB_at {l : List Lf} {j : Nat} {x : Lf} (h : formB l = true) (hx : l[j]? = some x) : pathB x.1 = true ∧ x.2.valid = true := by
  have := List.all_eq_true.1 h x (List.mem_of_getElem? hx)
  rwa [Bool.and_eq_true] at this
theorem puts_step {v : V} {l : List Lf} {j : Nat} {x : Lf} (h : formB l = true) (hx : l[j]? = some x) (hv : v.ok = true) (hn : v.nodes ≤ 1 + 66 * j) (hp : (putV v x.1 x.2).2 = 0) :
    (putV v x.1 x.2).1.ok = true ∧ (putV v x.1 x.2).1.nodes ≤ 1 + 66 * (j + 1) := by
  obtain ⟨h1, h2⟩ := formB_at h hx
  unfold pathB at h1
  rw [Bool.and_eq_true, decide_eq_true_eq] at h1
  obtain ⟨a, b, -⟩ := valid_deep h2
  obtain ⟨c, d⟩ := putV_ok x.1 v x.2 hv a h1.2 hp
  exact ⟨c, by omega⟩
/-- Whether lists of leaves are the same. -/
def sameLs : List Lf → List Lf → Bool
  | [], [] => true
  | x :: l, y :: m => sameL x y && sameLs l m
  | [], _ :: _ => false
  | _ :: _, [] => false
/-- What Build answers. -/
def buildOut (l : List Lf) : V × Int :=
  if formB l = true then (if l.length > 60 then (nullV, 3) else if (putsV nullV l).2 = 0 ∧ ((putsV nullV l).1.valid && sameLs (leavesV [] (putsV nullV l).1) l) = true then ((putsV nullV l).1, 0) else (nullV, 3)) else (nullV, 1)
/-- A leaf whose path and value are sound. -/
def OkL (x : Lf) : Prop := x.2.valid = true
theorem sameL_iff {x y : Lf} (hx : OkL x) (hy : OkL y) : sameL x y = true ↔ x = y := by
  obtain ⟨p, a⟩ := x
  obtain ⟨q, b⟩ := y
  have hx' : a.valid = true := hx
  have hy' : b.valid = true := hy
  unfold sameL eqV
  simp only [Bool.and_eq_true, decide_eq_true_eq, cmpPathP_zero, hx', hy', true_and, Prod.mk.injEq, cmp_zero (valid_deep hx').1 (valid_deep hy').1]
theorem sameLs_self : ∀ {l : List Lf}, (∀ x ∈ l, OkL x) → sameLs l l = true
  | [], _ => rfl
  | x :: l, h => by
    rw [sameLs, (sameL_iff (h x (.head _)) (h x (.head _))).2 rfl, sameLs_self fun y hy => h y (.tail _ hy)]
    rfl
/-- How far two lists are the same. -/
theorem sameLs_at : ∀ {l m : List Lf} {j : Nat} {x : Lf}, l[j]? = some x → m[j]? = none → sameLs l m = false
  | [], _, _, _, h, _ => by simp at h
  | x :: l, [], _, _, _, _ => rfl
  | x :: l, y :: m, 0, _, _, h => by simp at h
  | x :: l, y :: m, j + 1, z, h, h' => by
    rw [sameLs, sameLs_at (l := l) (m := m) (j := j) (x := z) (by simpa using h) (by simpa using h'), Bool.and_false]
theorem sameLs_ne : ∀ {l m : List Lf} {j : Nat} {x y : Lf}, l[j]? = some x → m[j]? = some y → sameL x y = false → sameLs l m = false
  | [], _, _, _, _, h, _, _ => by simp at h
  | x :: l, [], _, _, _, _, _, _ => rfl
  | x :: l, y :: m, 0, _, _, h, h', hs => by
    simp only [List.getElem?_cons_zero, Option.some.injEq] at h h'
    rw [sameLs, h, h', hs]; rfl
  | x :: l, y :: m, j + 1, z, u, h, h', hs => by
    rw [sameLs, sameLs_ne (l := l) (m := m) (j := j) (x := z) (y := u) (by simpa using h) (by simpa using h') hs, Bool.and_false]
theorem sameLs_len : ∀ {l m : List Lf}, sameLs l m = true → l.length = m.length
  | [], [], _ => rfl
  | [], _ :: _, h => by cases h
  | _ :: _, [], h => by cases h
  | x :: l, y :: m, h => by
    rw [sameLs, Bool.and_eq_true] at h
    rw [List.length_cons, List.length_cons, sameLs_len h.2]
theorem sameLs_all : ∀ {l m : List Lf}, l.length = m.length → (∀ (j : Nat) (x y : Lf), l[j]? = some x → m[j]? = some y → sameL x y = true) → sameLs l m = true
  | [], [], _, _ => rfl
  | [], _ :: _, h, _ => by cases h
  | _ :: _, [], h, _ => by cases h
  | x :: l, y :: m, h, hs => by
    rw [sameLs, hs 0 x y rfl rfl, sameLs_all (by simpa using h) fun j a b ha hb => hs (j + 1) a b (by simpa using ha) (by simpa using hb)]
    rfl
open Go.RowKit
theorem nodesL_len : ∀ (l : List V), l.length ≤ V.nodesL l
  | [] => Nat.le_refl _
  | c :: l => by have := nodesL_len l; have := V.nodes_pos c; rw [V.nodesL, List.length_cons]; omega
theorem nodes_items_len (x : V) : x.items.length < x.nodes := by have := nodesL_len x.items; rw [nodes_items]; omega
mutual
theorem leavesV_pre (p : List Stp) : ∀ (q : List Stp) (x : V), leavesV (p ++ q) x = (leavesV q x).map fun l => (p ++ l.1, l.2)
  | q, .mk k i t [] ks => by rw [leavesV, leavesV]; rfl
  | q, .mk k i t (c :: l) ks => by
    rw [leavesV, leavesV, List.map_append, List.append_assoc, leavesV_pre p (q ++ [stepI k ks 0]) c, leavesL_pre p q k ks l 1]
theorem leavesL_pre (p : List Stp) : ∀ (q : List Stp) (k : Int) (ks : List ByteArray) (l : List V) (n : Nat), leavesL (p ++ q) k ks n l = (leavesL q k ks n l).map fun l => (p ++ l.1, l.2)
  | q, k, ks, [], n => by rw [leavesL, leavesL]; rfl
  | q, k, ks, c :: l, n => by
    rw [leavesL, leavesL, List.map_append, List.append_assoc, leavesV_pre p (q ++ [stepI k ks n]) c, leavesL_pre p q k ks l (n + 1)]
end
theorem leavesV_under (s : Stp) (c : V) : leavesV [s] c = (leavesV [] c).map fun a => (s :: a.1, a.2) := leavesV_pre [s] [] c
theorem leavesL_mem {p : List Stp} {k : Int} {ks : List ByteArray} {y : Lf} : ∀ {l : List V} {n : Nat}, y ∈ leavesL p k ks n l → ∃ (j : Nat) (c : V), l[j]? = some c ∧ y ∈ leavesV (p ++ [stepI k ks (n + j)]) c
  | [], n, h => by rw [leavesL] at h; cases h
  | c :: l, n, h => by
    rw [leavesL, List.mem_append] at h
    rcases h with h | h
    · exact ⟨0, c, rfl, h⟩
    · obtain ⟨j, d, h1, h2⟩ := leavesL_mem h
      exact ⟨j + 1, d, by simpa using h1, by rw [show n + (j + 1) = n + 1 + j by omega]; exact h2⟩
/-- What has items is a list or an object. -/
theorem kind_items {x : V} (h : x.ok = true) (hi : x.items ≠ []) : x.kind = 4 ∨ x.kind = 5 := by
  obtain ⟨k, i, t, l, ks⟩ := x
  rw [V.ok, Bool.and_eq_true] at h
  obtain ⟨hs, -⟩ := h
  simp only [V.items] at hi
  have hl : ¬ l.length = 0 := fun e => hi (List.length_eq_zero_iff.1 e)
  show k = 4 ∨ k = 5
  unfold V.sound at hs
  by_cases h4 : k = 4
  · exact .inl h4
  by_cases h5 : k = 5
  · exact .inr h5
  exfalso
  simp only [h4, h5, if_false] at hs
  split at hs
  · simp [hl] at hs
  split at hs
  · simp [hl] at hs
  split at hs
  · simp [hl] at hs
  split at hs
  · simp [hl] at hs
  · cases hs
theorem list_form {x : V} (h : x.ok = true) (h4 : x.kind = 4) : x = .mk 4 0 ⟨#[]⟩ x.items [] ∧ V.okL x.items = true ∧ x.keys = [] := by
  have h5 := (okk h).2.1 (by omega)
  obtain ⟨hb1, hb2⟩ := bare_ok h (.inl h4)
  have em : x = .mk 4 0 ⟨#[]⟩ x.items [] := by
    conv => lhs; rw [← mk_eta x]
    rw [h4, hb1, hb2, h5]
  exact ⟨em, by rw [← ok_list, ← em]; exact h, h5⟩
theorem key_at {x : V} (h : x.ok = true) (h5 : x.kind = 5) {j : Nat} (hj : j < x.items.length) : x.keys[j]? = some (x.keys.getD j ⟨#[]⟩) := by
  have hjk : j < x.keys.length := by rw [(okk h).2.2 h5]; exact hj
  rw [List.getD_eq_getElem?_getD, List.getElem?_eq_getElem hjk]; rfl
theorem item_stepI {x : V} (h : x.ok = true) (hk : x.kind = 4 ∨ x.kind = 5) {j : Nat} {c : V} (hc : x.items[j]? = some c) : itemV x (stepI x.kind x.keys j) = some c := by
  have hj := (List.getElem?_eq_some_iff.1 hc).1
  rcases hk with h4 | h5
  · unfold stepI
    rw [if_neg (by omega)]
    unfold itemV
    rw [if_pos (by simp only; omega), if_pos h4]
    exact hc
  · unfold stepI
    rw [if_pos h5]
    have hka := key_at h h5 hj
    unfold itemV
    rw [if_neg (by simp only; omega), if_pos ((hasK_iff _ _).2 (List.mem_of_getElem? hka))]
    simp only
    rw [posK_at (okk h).1 hka]
    exact hc
theorem stepI_ok {x : V} (h : x.ok = true) (hn : x.nodes ≤ 60) {j : Nat} (hj : j < x.items.length) : stepB (stepI x.kind x.keys j) = true := by
  have hk := kind_items h (fun e => by rw [e] at hj; cases hj)
  have hl : x.items.length < x.nodes := nodes_items_len x
  rcases hk with h4 | h5
  · unfold stepI
    rw [if_neg (by omega)]
    unfold stepB
    rw [if_neg (by simp only; omega)]
    simp only [Bool.and_eq_true, decide_eq_true_eq]
    exact ⟨⟨by omega, by omega⟩, trivial⟩
  · unfold stepI
    rw [if_pos h5]
    unfold stepB
    rw [if_pos rfl]
    obtain ⟨-, -, -, ht, -⟩ := ob_parts ⟨h, h5⟩
    exact List.all_eq_true.1 ht _ (List.mem_of_getElem? (key_at h h5 hj))
theorem depth_mem {y : V} : ∀ {l : List V}, y ∈ l → y.depth ≤ V.depthL l
  | c :: l, h => by
    rw [V.depthL]
    rcases List.mem_cons.1 h with rfl | h
    · omega
    · have := depth_mem h; omega
theorem depth_items (x : V) : x.depth = V.depthL x.items + 1 := by cases x; rfl
/-- What the leaves of a value are. -/
theorem leaves_at : ∀ (N : Nat) (x : V), x.nodes ≤ N → x.ok = true → x.nodes ≤ 60 → leavesV [] x ≠ [] ∧ ∀ y ∈ leavesV [] x, atV x y.1 = some y.2 ∧ y.2.ok = true ∧ y.1.all stepB = true ∧ y.1.length + y.2.depth ≤ x.depth ∧ y.2.nodes ≤ x.nodes
  | 0, x, hN, _, _ => by have := V.nodes_pos x; omega
  | N + 1, x, hN, hok, hn => by
    by_cases h0 : x.items = []
    · rw [leavesV_none h0]
      refine ⟨by simp, fun y hy => ?_⟩
      rw [List.mem_singleton] at hy
      subst hy
      exact ⟨rfl, hok, rfl, by simp, Nat.le_refl _⟩
    · have hk := kind_items hok h0
      have hni := nodes_items x
      have hc : ∀ c ∈ x.items, leavesV [] c ≠ [] ∧ ∀ y ∈ leavesV [] c, atV c y.1 = some y.2 ∧ y.2.ok = true ∧ y.1.all stepB = true ∧ y.1.length + y.2.depth ≤ c.depth ∧ y.2.nodes ≤ c.nodes := fun c hc =>
        leaves_at N c (by have := V.nodes_mem hc; omega) (okItems hok c hc) (by have := V.nodes_mem hc; omega)
      rw [leavesV_items h0]
      refine ⟨?_, fun y hy => ?_⟩
      · obtain ⟨c, l, hl⟩ := List.exists_cons_of_ne_nil h0
        rw [hl, leavesL, List.nil_append, leavesV_under]
        have := (hc c (by rw [hl]; exact .head _)).1
        simp [this]
      · obtain ⟨j, c, hj, hy⟩ := leavesL_mem hy
        rw [List.nil_append, Nat.zero_add, leavesV_under, List.mem_map] at hy
        obtain ⟨a, ha, rfl⟩ := hy
        have hm := List.mem_of_getElem? hj
        obtain ⟨h1, h2, h3, h4, h5⟩ := (hc c hm).2 a ha
        have hd := depth_mem hm
        have hd' := depth_items x
        have hn' := V.nodes_mem hm
        refine ⟨?_, h2, ?_, by simp only [List.length_cons]; omega, by simp only; omega⟩
        · simp only [atV]
          rw [item_stepI hok hk hj]
          exact h1
        · simp only [List.all_cons, Bool.and_eq_true]
          exact ⟨stepI_ok hok hn (List.getElem?_eq_some_iff.1 hj).1, h3⟩
theorem leaves_okL {x : V} (h : x.valid = true) {y : Lf} (hy : y ∈ leavesV [] x) : pathB y.1 = true ∧ y.2.valid = true ∧ atV x y.1 = some y.2 := by
  obtain ⟨h1, h2, h3⟩ := valid_deep h
  obtain ⟨a, b, c, d, e⟩ := (leaves_at x.nodes x (Nat.le_refl _) h1 h2).2 y hy
  have := V.depth_pos y.2
  refine ⟨?_, ?_, a⟩
  · unfold pathB
    rw [Bool.and_eq_true, decide_eq_true_eq]
    exact ⟨by omega, c⟩
  · unfold V.valid V.fits
    simp only [Bool.and_eq_true, decide_eq_true_eq]
    exact ⟨⟨b, by omega⟩, by omega⟩
theorem leaves_form {x : V} (h : x.valid = true) : formB (leavesV [] x) = true := by
  unfold formB
  rw [List.all_eq_true]
  intro y hy
  obtain ⟨a, b, -⟩ := leaves_okL h hy
  rw [a, b]; rfl
theorem puts_append : ∀ {l m : List Lf} {v u : V}, putsV v l = (u, 0) → putsV v (l ++ m) = putsV u m
  | [], m, v, u, h => by
    rw [putsV] at h
    cases h
    rfl
  | x :: l, m, v, u, h => by
    rw [putsV] at h
    rw [List.cons_append, putsV]
    split at h
    · rename_i h0
      rw [if_pos h0]
      exact puts_append h
    · cases h
theorem withK_withK {ks : List ByteArray} {l : List V} (hl : ks.length = l.length) (hr : Rising ks) (k : ByteArray) (y z : V) : withK k z false (withK k y false ks l).1 (withK k y false ks l).2 = withK k z false ks l := by
  by_cases hk : k ∈ ks
  · rw [withK_set k y ks l hl hr hk, withK_set k z ks l hl hr hk]
    simp only
    rw [withK_set k z ks (l.set (posK k ks) y) (by simpa using hl) hr hk, List.set_set]
  · have hle := posK_le k ks
    rw [withK_ins k y ks l hl hk, withK_ins k z ks l hl hk]
    have hr' := rising_ins hr hk
    have hat : (ks.take (posK k ks) ++ k :: ks.drop (posK k ks))[posK k ks]? = some k := by
      rw [List.getElem?_append_right (by rw [List.length_take]; omega), List.length_take, show posK k ks - min (posK k ks) ks.length = 0 by omega]; rfl
    have hp := posK_at hr' hat
    unfold insK
    simp only
    rw [withK_set k z _ _ (by simp; omega) hr' (List.mem_of_getElem? hat), hp, List.set_append]
    have e : (l.take (posK k ks)).length = posK k ks := by rw [List.length_take]; omega
    rw [if_neg (by omega), e, Nat.sub_self]
    rfl
section
variable {x y z : V} {s : Stp}
theorem newR_kind : (newR x s y).kind = holderS s := by
  unfold newR holderS
  split <;> rfl
theorem newR_kindS : kindV (newR x s y) s = newR x s y := by
  exact kindV_idem newR_kind
theorem newR_has (hok : x.ok = true) (hs : stepB s = true) (h1 : (kindV x s).kind = holderS s) (h2 : ¬ s.1 > x.items.length) : oldS (newR x s y) s = y := by
  have e : putV x [s] y = (newR x s y, 0) := by rw [putV_cons hok hs h1 h2]; rfl
  have := put_get [s] x y hok (by simp [hs]) (by rw [e])
  rw [e] at this
  simp only [atV] at this
  unfold oldS
  cases hi : itemV (newR x s y) s with
  | none => rw [hi] at this; cases this
  | some u => rw [hi] at this; cases this; rfl
theorem newR_len (h2 : ¬ s.1 > x.items.length) : ¬ s.1 > (newR x s y).items.length := by
  by_cases h0 : s.1 < 0
  · omega
  · unfold newR
    rw [if_neg h0, mkI, kindV_len, List.length_append, List.length_take, List.length_cons]
    omega
theorem newR_newR (hok : x.ok = true) (h1 : (kindV x s).kind = holderS s) (h2 : ¬ s.1 > x.items.length) : newR (newR x s y) s z = newR x s z := by
  have hf := fit_of (kindS_ok (s := s) hok)
  have e : ∀ m : V, kindV m s = m → newR m s z = if s.1 < 0 then .mk 5 0 ⟨#[]⟩ (withK s.2 z false m.keys m.items).2 (withK s.2 z false m.keys m.items).1 else .mk 4 0 ⟨#[]⟩ (m.items.take s.1.toNat ++ z :: m.items.drop (s.1.toNat + 1)) [] := fun m hm => by
    unfold newR
    rw [hm]
  rw [e _ newR_kindS]
  by_cases h0 : s.1 < 0
  · have h5 : (kindV x s).kind = 5 := by rw [h1, holderS, if_pos h0]
    unfold newR
    simp only [if_pos h0, mkY, mkI]
    rw [withK_withK (hf.five h5) hf.rise]
  · unfold newR
    simp only [if_neg h0, mkI]
    have hl := kindV_len x s
    have e : ((kindV x s).items.take s.1.toNat).length = s.1.toNat := by rw [List.length_take, hl]; omega
    rw [List.take_append_of_le_length (by omega), List.take_of_length_le (by omega), List.drop_append, List.drop_eq_nil_of_le (by omega), e, show s.1.toNat + 1 - s.1.toNat = 1 by omega]
    rfl
end
theorem puts_under {s : Stp} (hs : stepB s = true) : ∀ (L : List Lf) (x : V), L ≠ [] → x.ok = true → (kindV x s).kind = holderS s → ¬ s.1 > x.items.length → (∀ a ∈ L, a.1.all stepB = true ∧ a.2.ok = true) → (putsV (oldS x s) L).2 = 0 → putsV x (L.map fun a => (s :: a.1, a.2)) = (newR x s (putsV (oldS x s) L).1, 0)
  | [], _, h, _, _, _, _, _ => absurd rfl h
  | a :: L, x, _, hok, h1, h2, hL, h => by
    have hp : (putV (oldS x s) a.1 a.2).2 = 0 := by
      rw [putsV] at h
      split at h
      · assumption
      · cases h
    obtain ⟨ha1, ha2⟩ := hL a (.head _)
    have hy := (putV_ok a.1 (oldS x s) a.2 (oldS_ok hok) ha2 ha1 hp).1
    have hc := putV_cons (z := a.2) (r := a.1) hok hs h1 h2
    rw [List.map_cons, putsV, if_pos (by rw [hc]; exact hp), hc]
    rw [putsV, if_pos hp] at h ⊢
    generalize (putV (oldS x s) a.1 a.2).1 = y at *
    cases L with
    | nil => rfl
    | cons b L =>
      have hn := newR_ok (n := y.nodes + 1) hok hy hs h1 h2 (by omega) (by omega)
      have ho : oldS (newR x s y) s = y := newR_has hok hs h1 h2
      have := puts_under hs (b :: L) (newR x s y) (by simp) hn.1 (by rw [newR_kindS, newR_kind]) (newR_len h2) (fun c hc => hL c (.tail _ hc)) (by rw [ho]; exact h)
      rw [this, ho, newR_newR hok h1 h2]
/-- What is built of the first items. -/
def headV (x : V) (n : Nat) : V := if n = 0 then nullV else .mk x.kind 0 ⟨#[]⟩ (x.items.take n) (x.keys.take n)
theorem headV_ok {x : V} (h : x.ok = true) (hk : x.kind = 4 ∨ x.kind = 5) (n : Nat) : (headV x n).ok = true := by
  unfold headV
  split
  · exact nullV_ok
  rcases hk with h4 | h5
  · obtain ⟨-, ho, hks⟩ := list_form h h4
    rw [h4, hks, List.take_nil, ok_list]
    exact (okL_sub (List.take_sublist n x.items) ho).1
  · obtain ⟨hr, hl, ho, ht, -⟩ := ob_parts ⟨h, h5⟩
    rw [h5]
    refine (ok_object_iff (hr.sublist (List.take_sublist _ _)) (by rw [List.length_take, List.length_take, hl])).2 ⟨(okL_sub (List.take_sublist n x.items) ho).1, ?_⟩
    rw [List.all_eq_true] at ht ⊢
    exact fun k hk => ht k (List.mem_of_mem_take hk)
theorem stepI_list {k : Int} {ks : List ByteArray} {n : Nat} (h : k = 4) : stepI k ks n = ((n : Int), ⟨#[]⟩) := by unfold stepI; rw [if_neg (by omega)]
theorem stepI_key {k : Int} {ks : List ByteArray} {n : Nat} (h : k = 5) : stepI k ks n = (-1, ks.getD n ⟨#[]⟩) := by unfold stepI; rw [if_pos h]
theorem holder_stepI {x : V} (hk : x.kind = 4 ∨ x.kind = 5) (n : Nat) : holderS (stepI x.kind x.keys n) = x.kind := by
  rcases hk with h | h
  · rw [stepI_list h, h]; unfold holderS; rw [if_neg (by simp only; omega)]
  · rw [stepI_key h, h]; rfl
theorem headV_kind {x : V} (hk : x.kind = 4 ∨ x.kind = 5) (n : Nat) : kindV (headV x n) (stepI x.kind x.keys n) = .mk x.kind 0 ⟨#[]⟩ (x.items.take n) (x.keys.take n) := by
  unfold headV
  split
  · rename_i h0
    rw [h0, List.take_zero, List.take_zero]
    unfold kindV
    rw [if_pos (show nullV.kind = 0 from rfl), holder_stepI hk]
    rfl
  · unfold kindV
    rw [if_neg (by rw [mkK]; omega)]
theorem headV_step {x : V} (h : x.ok = true) (hk : x.kind = 4 ∨ x.kind = 5) {n : Nat} {c : V} (hc : x.items[n]? = some c) :
    (kindV (headV x n) (stepI x.kind x.keys n)).kind = holderS (stepI x.kind x.keys n) ∧ ¬ (stepI x.kind x.keys n).1 > (headV x n).items.length ∧ oldS (headV x n) (stepI x.kind x.keys n) = nullV ∧ newR (headV x n) (stepI x.kind x.keys n) c = headV x (n + 1) := by
  have hn := (List.getElem?_eq_some_iff.1 hc).1
  have hK := headV_kind hk n
  have hlen : (headV x n).items.length = n := by
    rw [← kindV_len (headV x n) (stepI x.kind x.keys n), hK, mkI, List.length_take]; omega
  have hit := kindV_item (fit_of (headV_ok h hk n)) (stepI x.kind x.keys n) (stepI x.kind x.keys n)
  refine ⟨by rw [hK, mkK, holder_stepI hk], ?_, ?_, ?_⟩
  · rw [hlen]
    rcases hk with h4 | h5
    · rw [stepI_list h4]; simp only; omega
    · rw [stepI_key h5]; simp only; omega
  · unfold oldS
    rw [← hit, hK]
    rcases hk with h4 | h5
    · unfold stepI
      rw [if_neg (by omega)]
      unfold itemV
      rw [if_pos (by simp only; omega), mkK, if_pos h4, mkI, List.getElem?_eq_none (by simp only [List.length_take]; omega)]
      rfl
    · have hka := key_at h h5 hn
      unfold stepI
      rw [if_pos h5]
      unfold itemV
      rw [if_neg (by simp only; omega), mkY, if_neg]
      · rfl
      · intro e
        have hm := (hasK_iff _ _).1 e
        obtain ⟨i, hi, he⟩ := List.getElem_of_mem hm
        have hi' : i < n := by rw [List.length_take] at hi; omega
        rw [List.getElem_take] at he
        have hin : x.keys[i]? = some (x.keys.getD n ⟨#[]⟩) := by
          rw [List.getElem?_eq_getElem (by rw [List.length_take] at hi; omega), he]
        have e1 := posK_at (okk h).1 hin
        have e2 := posK_at (okk h).1 hka
        omega
  · unfold newR
    rw [hK]
    simp only [mkI, mkY]
    rcases hk with h4 | h5
    · obtain ⟨-, -, hks⟩ := list_form h h4
      unfold headV
      rw [stepI_list h4, if_neg (by simp only; omega), if_neg (by omega), h4, hks, List.take_nil]
      simp only [Int.toNat_natCast]
      rw [List.take_take, Nat.min_self, List.drop_eq_nil_of_le (by rw [List.length_take]; omega), List.take_add_one, hc]
      rfl
    · have hka := key_at h h5 hn
      obtain ⟨hr, hl, -⟩ := ob_parts ⟨h, h5⟩
      unfold headV
      rw [stepI_key h5, if_pos (by simp only; omega), if_neg (by omega), h5]
      generalize x.keys.getD n ⟨#[]⟩ = k at hka ⊢
      have hlt : ∀ y ∈ x.keys.take n, ltB y k = true := fun y hy => by
        obtain ⟨i, hi, he⟩ := List.getElem_of_mem hy
        rw [List.length_take] at hi
        rw [List.getElem_take] at he
        rw [← he]
        have hg := List.pairwise_iff_getElem.1 hr i n (by omega) (List.getElem?_eq_some_iff.1 hka).1 (by omega)
        rw [(List.getElem?_eq_some_iff.1 hka).2] at hg
        exact hg
      obtain ⟨hi1, hi2⟩ := ins_last (x.keys.take n, x.items.take n) k c hlt (by simp [hl])
      have hnot : ¬ k ∈ x.keys.take n := fun e => by
        have := (hasK_iff k _).2 e
        rw [hi2] at this; cases this
      simp only
      rw [withK_ins k c _ _ (by simp [hl]) hnot, hi1, List.take_add_one, hc, List.take_add_one, hka]
      rfl
theorem puts_leaves : ∀ (N : Nat) (x : V), x.nodes ≤ N → x.ok = true → x.nodes ≤ 60 → putsV nullV (leavesV [] x) = (x, 0)
  | 0, x, hN, _, _ => by have := V.nodes_pos x; omega
  | N + 1, x, hN, hok, hn => by
    by_cases h0 : x.items = []
    · rw [leavesV_none h0]
      simp [putsV, putV]
    · have hk := kind_items hok h0
      have hni := nodes_items x
      rw [leavesV_items h0]
      have key : ∀ (m n : Nat), m + n = x.items.length → putsV (headV x n) (leavesL [] x.kind x.keys n (x.items.drop n)) = (x, 0) := by
        intro m
        induction m with
        | zero =>
          intro n e
          rw [List.drop_eq_nil_of_le (by omega), leavesL, putsV]
          have hne : ¬ n = 0 := fun e' => h0 (List.length_eq_zero_iff.1 (by omega))
          unfold headV
          rw [if_neg hne, List.take_of_length_le (by omega)]
          obtain ⟨hb1, hb2⟩ := bare_ok hok hk
          have hkl : x.keys.take n = x.keys := by
            rw [List.take_of_length_le]
            rcases hk with h4 | h5
            · rw [(list_form hok h4).2.2]; exact Nat.zero_le _
            · rw [(okk hok).2.2 h5]; omega
          rw [hkl, ← hb1, ← hb2, mk_eta]
        | succ m ih =>
          intro n e
          have hlt : n < x.items.length := by omega
          obtain ⟨c, hc⟩ : ∃ c, x.items[n]? = some c := ⟨_, List.getElem?_eq_getElem hlt⟩
          have hcm := List.mem_of_getElem? hc
          have hcn := V.nodes_mem hcm
          rw [drop_at hc, leavesL, List.nil_append, leavesV_under]
          obtain ⟨s1, s2, s3, s4⟩ := headV_step hok hk hc
          have hih := puts_leaves N c (by omega) (okItems hok c hcm) (by omega)
          have hla := leaves_at c.nodes c (Nat.le_refl _) (okItems hok c hcm) (by omega)
          have hu := puts_under (stepI_ok hok hn hlt) (leavesV [] c) (headV x n) hla.1 (headV_ok hok hk n) s1 s2 (fun a ha => ⟨(hla.2 a ha).2.2.1, (hla.2 a ha).2.1⟩) (by rw [s3, hih])
          rw [s3, hih, s4] at hu
          rw [puts_append hu]
          exact ih (n + 1) (by omega)
      have := key x.items.length 0 (by omega)
      simpa [headV] using this
theorem buildOut_leaves {x : V} (h : x.valid = true) : buildOut (leavesV [] x) = (x, 0) := by
  obtain ⟨h1, h2, h3⟩ := valid_deep h
  have hp := puts_leaves x.nodes x (Nat.le_refl _) h1 h2
  have hl := leavesV_length [] x
  unfold buildOut
  rw [if_pos (leaves_form h), if_neg (by omega), if_pos]
  · rw [hp]
  · rw [hp]
    refine ⟨rfl, ?_⟩
    simp only [h, Bool.true_and]
    exact sameLs_self fun y hy => (leaves_okL h hy).2.1
end Go.Proofs.YtchadlbhdcpojaaDoor
