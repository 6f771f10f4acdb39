/- Two values merged, and what makes one of another: plain. -/
import Derived.Test.YtchadlbhdcpojaaDoorTb
import Derived.Test.YtchadlbhdcpojaaDoorTm
import Derived.Test.YtchadlbhdcpojaaDoorJd
import Derived.Test.YtchadlbhdcpojaaDoorUa
import Derived.Test.YtchadlbhdcpojaaDoorTg
import Derived.Test.YtchadlbhdcpojaaDoorVc
namespace Go.Proofs.YtchadlbhdcpojaaDoor
open Go.RowKit
/-- The step to a key. -/
abbrev kst (k : ByteArray) : Stp := (-1, k)
def emptyO : V := .mk 5 0 ⟨#[]⟩ [] []
def baseV (a : V) : V := if a.kind = 5 then a else emptyO
/-- An object with another item at a key; the item there, or null. -/
def setK (m : V) (k : ByteArray) (y : V) : V := setIt (roomV m (kst k)) (whereV m (kst k)) y
def oldK (m : V) (k : ByteArray) : V := (roomV m (kst k)).items.getD (whereV m (kst k)) nullV
mutual
def mergeV (a : V) : V → V
  | .mk k i t l ks => if k = 5 then mergeL (baseV a) ks l else .mk k i t l ks
def mergeL (m : V) : List ByteArray → List V → V
  | [], _ => m
  | _ :: _, [] => m
  | k :: ks, c :: l => mergeL (if c.kind = 0 then (removeV m [kst k]).1 else setK m k (mergeV (oldK m k) c)) ks l
end
/-- An object: sound, with so many nodes. -/
structure Ob (m : V) : Prop where
  ok : m.ok = true
  kind : m.kind = 5
theorem empty_ob : Ob emptyO := ⟨by decide, rfl⟩
theorem base_ob {a : V} (h : a.ok = true) : Ob (baseV a) := by
  unfold baseV
  split
  · exact ⟨h, by assumption⟩
  · exact empty_ob
theorem kind_kst {m : V} (h : m.kind = 5) (k : ByteArray) : kindV m (kst k) = m := by unfold kindV; rw [if_neg (by omega)]
theorem step_kst {k : ByteArray} (h : textB k.data.toList = true) : stepB (kst k) = true := by simp [stepB, h]
theorem not_over (m : V) (k : ByteArray) : ¬ (kst k).1 > (m.items.length : Int) := by show ¬ (-1 : Int) > _; omega
theorem oldK_is {m : V} (h : Ob m) {k : ByteArray} (hk : textB k.data.toList = true) : oldK m k = (itemV m (kst k)).getD nullV := by
  have := (room_items (fit_of h.ok) (s := kst k) (by rw [h.kind]; rfl) (step_kst hk) (not_over m k) nullV).2.2.1
  exact this
theorem setK_is {m : V} (h : Ob m) (k : ByteArray) (y : V) : setK m k y = .mk 5 0 ⟨#[]⟩ (withK k y false m.keys m.items).2 (withK k y false m.keys m.items).1 := by
  have := newR_is (x := m) (y := y) (s := kst k) h.ok (by rw [kind_kst h.kind]; rw [h.kind]; rfl) (not_over m k)
  rw [kind_kst h.kind] at this
  unfold setK
  rw [this]
  unfold newR
  rw [if_pos (show (-1 : Int) < 0 by decide), kind_kst h.kind]
theorem ob_parts {m : V} (h : Ob m) : Rising m.keys ∧ m.keys.length = m.items.length ∧ V.okL m.items = true ∧ m.keys.all (fun k => textB k.data.toList) = true ∧ m = .mk 5 0 ⟨#[]⟩ m.items m.keys := by
  obtain ⟨hr, -, hl⟩ := okk h.ok
  obtain ⟨h1, h2⟩ := bare_ok h.ok (.inr h.kind)
  have e : m = .mk 5 0 ⟨#[]⟩ m.items m.keys := by
    conv => lhs; rw [← mk_eta m]
    rw [h.kind, h1, h2]
  have h3 := (ok_object_iff hr (hl h.kind)).1 (by rw [← e]; exact h.ok)
  exact ⟨hr, hl h.kind, h3.1, h3.2, e⟩
theorem okL_set {l : List V} {n : Nat} {y : V} (h : V.okL l = true) (hy : y.ok = true) : V.okL (l.set n y) = true := by
  induction l generalizing n with
  | nil => simp [V.okL]
  | cons x r ih =>
    rw [V.okL, Bool.and_eq_true] at h
    cases n with
    | zero => simp [List.set_cons_zero, V.okL, hy, h.2]
    | succ n => simp [List.set_cons_succ, V.okL, h.1, ih h.2]
theorem nodesL_set {l : List V} {n : Nat} {x y : V} (h : l[n]? = some x) : V.nodesL (l.set n y) + x.nodes = V.nodesL l + y.nodes := by
  induction l generalizing n with
  | nil => simp at h
  | cons z r ih =>
    cases n with
    | zero => simp at h; subst h; simp only [List.set_cons_zero, V.nodesL]; omega
    | succ n =>
      simp at h
      have := ih h
      simp only [List.set_cons_succ, V.nodesL]; omega
theorem setK_ob {m y : V} {n : Nat} (h : Ob m) {k : ByteArray} (hk : textB k.data.toList = true) (hy : y.ok = true) (hn : y.nodes + 1 ≤ (oldK m k).nodes + n) (_hn1 : 1 ≤ n) : Ob (setK m k y) ∧ (setK m k y).nodes ≤ m.nodes + n := by
  obtain ⟨hr, hl, hok, hks, e⟩ := ob_parts h
  rw [setK_is h]
  have hmn : m.nodes = V.nodesL m.items + 1 := by rw [e]; rfl
  by_cases hh : hasK k m.keys = true
  · have hm := (hasK_iff _ _).1 hh
    have hkk := (posK_here k hr).1 hm
    have hlt : posK k m.keys < m.items.length := by rw [← hl]; exact (List.getElem?_eq_some_iff.1 hkk).1
    have hold : oldK m k = m.items[posK k m.keys] := by
      rw [oldK_is h hk, itemV, if_neg (show ¬ (0 : Int) ≤ -1 by decide), if_pos hh, List.getElem?_eq_getElem hlt]; rfl
    rw [withK_set k y m.keys m.items hl hr hm]
    refine ⟨⟨(ok_object_iff hr (by rw [List.length_set]; exact hl)).2 ⟨okL_set hok hy, hks⟩, rfl⟩, ?_⟩
    have := nodesL_set (y := y) (List.getElem?_eq_getElem hlt)
    rw [hold] at hn
    show V.nodesL (m.items.set (posK k m.keys) y) + 1 ≤ _
    omega
  · have hm : ¬ k ∈ m.keys := fun e => hh ((hasK_iff _ _).2 e)
    have hold : oldK m k = nullV := by
      rw [oldK_is h hk, itemV, if_neg (show ¬ (0 : Int) ≤ -1 by decide), if_neg hh]; rfl
    rw [withK_ins k y m.keys m.items hl hm]
    obtain ⟨c1, c2, c3, -⟩ := ins_counts (m.keys, m.items) k y
    refine ⟨⟨(ok_object_iff (ins_rising (st := (m.keys, m.items)) hr (fun e => hh e) y) (ins_lens (st := (m.keys, m.items)) hl k y)).2 ⟨by rw [c1]; simp [hok, hy], by rw [c2]; simp only []; rw [hks, hk]; rfl⟩, rfl⟩, ?_⟩
    rw [hold] at hn
    have hz : nullV.nodes = 1 := by decide
    show V.nodesL (insK (m.keys, m.items) k y).2 + 1 ≤ _
    rw [c3]
    simp only []
    omega
theorem sublist_cut {α : Type} (l : List α) (n : Nat) : (l.take n ++ l.drop (n + 1)).Sublist l := by
  conv => rhs; rw [← List.take_append_drop n l]
  exact List.Sublist.append (List.Sublist.refl _) (by rw [← List.tail_drop]; exact List.tail_sublist _)
theorem okL_sub {l l' : List V} (h : l'.Sublist l) : V.okL l = true → V.okL l' = true ∧ V.nodesL l' ≤ V.nodesL l := by
  induction h with
  | slnil => simp [V.okL]
  | cons a _ ih =>
    intro h
    rw [V.okL, Bool.and_eq_true] at h
    have := ih h.2
    exact ⟨this.1, by have := this.2; simp only [V.nodesL]; omega⟩
  | cons_cons a _ ih =>
    intro h
    rw [V.okL, Bool.and_eq_true] at h
    have := ih h.2
    exact ⟨by rw [V.okL, h.1, this.1]; rfl, by have := this.2; simp only [V.nodesL]; omega⟩
theorem remK_ob {m : V} (h : Ob m) (k : ByteArray) : Ob (removeV m [kst k]).1 ∧ (removeV m [kst k]).1.nodes ≤ m.nodes := by
  obtain ⟨hr, hl, hok, hks, e⟩ := ob_parts h
  have hmn : m.nodes = V.nodesL m.items + 1 := by rw [e]; rfl
  rw [removeV]
  split
  · rw [if_pos rfl]
    simp only [delV, h.kind, if_true]
    obtain ⟨h1, h2⟩ := bare_ok h.ok (.inr h.kind)
    rw [h1, h2]
    have s1 := sublist_cut m.items (whereV m (kst k))
    have s2 := sublist_cut m.keys (whereV m (kst k))
    have hk2 := okL_sub s1 hok
    refine ⟨⟨(ok_object_iff (List.Pairwise.sublist s2 hr) (by simp only [List.length_append, List.length_take, List.length_drop]; omega)).2 ⟨hk2.1, ?_⟩, rfl⟩, ?_⟩
    · rw [List.all_eq_true] at hks ⊢
      exact fun x hx => hks x (s2.subset hx)
    · show V.nodesL _ + 1 ≤ m.nodes
      have := hk2.2; omega
  · exact ⟨h, Nat.le_refl _⟩
theorem oldK_ok {m : V} (h : Ob m) {k : ByteArray} (hk : textB k.data.toList = true) : (oldK m k).ok = true ∧ (oldK m k).nodes ≤ m.nodes := by
  rw [oldK_is h hk]
  cases hi : itemV m (kst k) with
  | none =>
    have hp := V.nodes_pos m
    have e : nullV.nodes = 1 := by decide
    exact ⟨(by decide : nullV.ok = true), by simp only [Option.getD_none]; omega⟩
  | some y => exact ⟨okItems h.ok y (item_mem hi), by have := V.nodes_mem (item_mem hi); have := nodes_items m; simp only [Option.getD_some]; omega⟩
mutual
theorem mergeV_ok : ∀ (a b : V), a.ok = true → b.ok = true → (mergeV a b).ok = true ∧ (mergeV a b).nodes + 1 ≤ a.nodes + b.nodes
  | a, .mk k i t l ks, ha, hb => by
    rw [mergeV]
    have hap := V.nodes_pos a
    split
    · rename_i h5
      subst h5
      obtain ⟨hr, hl, hok, hks, -⟩ := ob_parts (m := .mk 5 i t l ks) ⟨hb, rfl⟩
      have hbn : (baseV a).nodes ≤ a.nodes := by
        unfold baseV
        split
        · exact Nat.le_refl _
        · have : emptyO.nodes = 1 := by decide
          omega
      obtain ⟨h1, h2⟩ := mergeL_ok l ks (baseV a) (base_ob ha) hok hks
      refine ⟨h1.ok, ?_⟩
      show _ ≤ a.nodes + (V.nodesL l + 1)
      omega
    · exact ⟨hb, by show V.nodesL l + 1 + 1 ≤ a.nodes + (V.nodesL l + 1); omega⟩
theorem mergeL_ok : ∀ (l : List V) (ks : List ByteArray) (m : V), Ob m → V.okL l = true → ks.all (fun k => textB k.data.toList) = true → Ob (mergeL m ks l) ∧ (mergeL m ks l).nodes ≤ m.nodes + V.nodesL l
  | [], [], m, h, _, _ => by rw [mergeL]; exact ⟨h, by omega⟩
  | [], _ :: _, m, h, _, _ => by rw [mergeL]; exact ⟨h, by omega⟩
  | c :: l, [], m, h, _, _ => by rw [mergeL]; exact ⟨h, by omega⟩
  | c :: l, k :: ks, m, h, hl, hks => by
    rw [V.okL, Bool.and_eq_true] at hl
    rw [List.all_cons, Bool.and_eq_true] at hks
    rw [mergeL]
    have hc := V.nodes_pos c
    split
    · obtain ⟨h1, h2⟩ := remK_ob h k
      obtain ⟨h3, h4⟩ := mergeL_ok l ks _ h1 hl.2 hks.2
      exact ⟨h3, by simp only [V.nodesL]; omega⟩
    · obtain ⟨ho, -⟩ := oldK_ok h hks.1
      obtain ⟨h1, h2⟩ := mergeV_ok (oldK m k) c ho hl.1
      obtain ⟨h3, h4⟩ := setK_ob h hks.1 h1 h2 hc
      obtain ⟨h5, h6⟩ := mergeL_ok l ks _ h3 hl.2 hks.2
      exact ⟨h5, by simp only [V.nodesL]; omega⟩
end
open Go.RowKit
/-- What remove leaves, also where there was nothing. -/
def RemQ (q : V × Bool) (N g : Nat) (t : TypeId) (pre post : List Value) (D : Nat → Prop) (W : World) (e : Ending) (W' : World) : Prop :=
  e = .returned (.bool q.2) ∧ Fr W W' g D ∧ (q.2 = true → ∃ vI' vK' D', Node W' N g t pre post q.1 vI' vK' D' ∧ ∀ b, D' b → D b ∨ W.heap.size ≤ b) ∧ (q.2 = false → Below W.heap.size W W')
open Go.RowKit
set_option maxRecDepth 100000 in
theorem stepOf_any (k : ByteArray) (w : World) : Calls Tryd.prog 56 #[.string k] w fun e w' => e = .returned (.agg #[.int .i64 (-1), .string k]) ∧ Below w.heap.size w w' := by
  go_enter Tryd.func56, Tryd.ntmps56
  go_wp2_with fail
  refine bodyPost_ret (v := .agg #[.int .i64 (-1), .string k]) (by simp [results, Tryd.results56, go_sem]) rfl ?_
  exact ⟨rfl, below_al (Below.refl _ w) _⟩
set_option maxRecDepth 100000 in
set_option maxHeartbeats 1000000 in
theorem stepTo_key (x : V) (w : World) (A K : Option Addr) (c d j : Nat) (k : ByteArray) (h : Lies w w.heap.size x A c K d) (h5 : x.kind = 5) (hk : x.keys[j]? = some k) :
    Calls Tryd.prog 42 #[.agg #[.int .i64 x.kind, .int .i64 x.int, .string x.text, .slice A x.items.length c, .slice K x.keys.length d], .int .i64 j] w fun e w' => e = .returned (.agg #[.int .i64 (-1), .string k]) ∧ Below w.heap.size w w' := by
  have hj : j < x.keys.length := (List.getElem?_eq_some_iff.1 hk).1
  have hlen := (lies_keys h).2.1
  have hlen1 := (lies_keys h).1
  unfold maxLen at hlen
  obtain ⟨b, o, rfl, hb, hf⟩ := (lies_keys h).at_ hj
  have hc := (hf j k hk).1
  obtain ⟨W1, hW1⟩ : ∃ W1, W1 = (w.alloc (.cells #[.int .i64 x.kind, .int .i64 x.int, .string x.text, .slice A x.items.length c, .slice (some ⟨b, o, none⟩) x.keys.length d] 25)).alloc (.cells #[.int .i64 0, .string ⟨#[]⟩] 42) := ⟨_, rfl⟩
  have hb1 : Below w.heap.size w W1 := by rw [hW1]; exact below_al (below_al (Below.refl _ w) _) _
  have v0 : W1.cell? ⟨w.heap.size, 0, none⟩ = some (.int .i64 x.kind) := by rw [hW1]; exact ((BlockIs.new w _ _).alloc _).cell 0
  have v4 : W1.cell? ⟨w.heap.size, 4, none⟩ = some (.slice (some ⟨b, o, none⟩) x.keys.length d) := by rw [hW1]; exact ((BlockIs.new w _ _).alloc _).cell 4
  have hs := (BlockIs.newAt (w.alloc (.cells #[.int .i64 x.kind, .int .i64 x.int, .string x.text, .slice A x.items.length c, .slice (some ⟨b, o, none⟩) x.keys.length d] 25)) 42 #[.int .i64 0, .string ⟨#[]⟩] (n := w.heap.size + 1) (by simp))
  rw [← hW1] at hs
  have hc1 : W1.cell? ⟨b, o + j, none⟩ = some (.string k) := (bcell hb1 b (o + j) hb).trans hc
  have hj1 : (0 : Int) ≤ j := by omega
  have hj2 : (j : Int) < x.keys.length := by omega
  have hkb : (x.kind == 5) = true := by simp [h5]
  have HB := Lib.hid hb1
  have HW := Lib.hid hW1
  have HS := Lib.hid hs
  clear hf hc hk h hlen1 hb1 hW1 hs h5 hj
  obtain ⟨s0, s1⟩ : W1.cell? ⟨w.heap.size + 1, 0, none⟩ = some (.int .i64 0) ∧ W1.cell? ⟨w.heap.size + 1, 1, none⟩ = some (.string ⟨#[]⟩) := ⟨HS.out.cell 0, HS.out.cell 1⟩
  have f0 := HS.out.frozen 0
  have f1 := HS.out.frozen 1
  have sl := HS.out.lt
  go_enter Tryd.func42, Tryd.ntmps42
  go_upto_region 1 with (fail)
  rw [← HW.out]
  go_wp2_with fail
  refine (stepOf_any k _).mono ?_
  rintro e w2 ⟨rfl, h2⟩
  have hs2 := HS.out.below h2 HS.out.lt
  have HB2 := Lib.hid (below_on HB.out h2)
  clear h2 v0 v4 hc1 s0 s1 f0 f1 sl
  obtain ⟨s0, s1⟩ : w2.cell? ⟨w.heap.size + 1, 0, none⟩ = some (.int .i64 0) ∧ w2.cell? ⟨w.heap.size + 1, 1, none⟩ = some (.string ⟨#[]⟩) := ⟨hs2.cell 0, hs2.cell 1⟩
  have f0 := hs2.frozen 0
  have f1 := hs2.frozen 1
  have sl := hs2.lt
  clear hs2
  go_wp2_with fail
  refine bodyPost_ret (v := .agg #[.int .i64 (-1), .string k]) (by simp [results, Tryd.results42, go_sem, s0, s1]) rfl ?_
  exact ⟨rfl, (HB2.out.setCell (by simp) _).setCell (by simp) _⟩
/-- What merge and patch leave: what is answered is the call's own. -/
def MPost (q : V) (w : World) (e : Ending) (w' : World) : Prop := ∃ zI zK, e = .returned (.agg #[.int .i64 q.kind, .int .i64 q.int, .string q.text, zI, zK]) ∧ Tree w' w.heap.size q zI zK (Fresh w w') ∧ Below w.heap.size w w'
/-- Their boxes: the two values, what is answered. -/
structure MB (w : World) (ca cb : Array Value) (W : World) : Prop where
  old : Below w.heap.size w W
  ba : BlockIs W w.heap.size 25 ca
  bb : BlockIs W (w.heap.size + 1) 25 cb
  br : BlockIs W (w.heap.size + 2) 25 zeroF
section
variable {w W W' : World} {ca cb : Array Value} {q : V} {zI zK vI vK u0 u1 u2 u3 u4 : Value} {D : Nat → Prop} {N : Nat}
theorem MB.start (w : World) (ca cb : Array Value) : MB w ca cb (((w.alloc (.cells ca 25)).alloc (.cells cb 25)).alloc (.cells zeroF 25)) :=
  ⟨below_al (below_al (below_al (Below.refl _ w) _) _) _, ((BlockIs.new w _ _).alloc _).alloc _, (BlockIs.newAt _ _ _ (by simp)).alloc _, BlockIs.newAt _ _ _ (by simp)⟩
theorem MB.on (h : MB w ca cb W) (hb : Below W.heap.size W W') : MB w ca cb W' := ⟨below_on h.old hb, h.ba.below hb h.ba.lt, h.bb.below hb h.bb.lt, h.br.below hb h.br.lt⟩
theorem MB.lt (h : MB w ca cb W) : w.heap.size + 3 ≤ W.heap.size := by have := h.br.lt; omega
/-- What turns blocks behind the boxes alone leaves them. -/
theorem MB.fr {g : Nat} (h : MB w ca cb W) (hF : Fr W W' g D) (hg : w.heap.size + 3 ≤ g) (hD : ∀ b, D b → w.heap.size + 3 ≤ b) : MB w ca cb W' := by
  have hl := h.lt
  have hk : ∀ b, b < w.heap.size + 3 → W'.heap[b]? = W.heap[b]? := fun b hb => hF.block b (by omega) (by omega) (fun e => by have := hD b e; omega)
  refine ⟨⟨hF.os.trans h.old.os, hF.tape.trans h.old.tape, hF.output.trans h.old.output, by have := h.old.size; have := hF.size; omega, fun b hb => (hk b (by omega)).trans (h.old.block b hb)⟩, h.ba.to (hk _ (by omega)), h.bb.to (hk _ (by omega)), h.br.to (hk _ (by omega))⟩
theorem MB.ends (h : MB w ca cb W) : Below w.heap.size w (put5 W (w.heap.size + 2) 0 u0 u1 u2 u3 u4) :=
  ((((h.old.setCell (by simp) _).setCell (by simp) _).setCell (by simp) _).setCell (by simp) _).setCell (by simp) _
/-- What was made behind the boxes, answered. -/
theorem MB.good (h : MB w ca cb W) (ht : Tree W N q zI zK D) (hN : w.heap.size ≤ N) (hD : ∀ b, D b → w.heap.size + 3 ≤ b ∧ b < W.heap.size) : MPost q w (.returned (.agg #[.int .i64 q.kind, .int .i64 q.int, .string q.text, zI, zK])) (put5 W (w.heap.size + 2) 0 u0 u1 u2 u3 u4) := by
  have hs := put5_size W (w.heap.size + 2) 0 u0 u1 u2 u3 u4
  exact ⟨_, _, rfl, Tree.base hN q (ht.keep q (fun b hb => put5_heap W (w.heap.size + 2) 0 u0 u1 u2 u3 u4 (by have := (hD b hb).1; omega)) (fun b hb => ⟨by have := (hD b hb).1; omega, by rw [hs]; exact (hD b hb).2⟩)), h.ends⟩
/-- The made object stays, aside what turned. -/
theorem Node.stays {g : Nat} {t : TypeId} {pre post : List Value} {x : V} (h : Node W N g t pre post x vI vK D) (hb : Below W.heap.size W W') : Node W' N g t pre post x vI vK D := h.on hb
theorem node_empty (W : World) (N g : Nat) (hN : N ≤ g) (h : BlockIs W g 25 #[.int .i64 5, .int .i64 0, .string ⟨#[]⟩, .slice none 0 0, .slice none 0 0]) : Node W N g 25 [] [] emptyO (.slice none 0 0) (.slice none 0 0) (fun _ => False) :=
  ⟨h, tree_leaf W N 5 0 (by decide) _, fun h => h, fun _ h => h.elim, hN⟩
end
open Go.RowKit
/-- Whether two values are valid and equal. -/
def eqV (x y : V) : Bool := x.valid && y.valid && decide (x.cmp y = 0)
/-- The item at a key, or null; whether there is one. -/
def gotK (a : V) (k : ByteArray) : V := (itemV a (kst k)).getD nullV
def hasI (a : V) (k : ByteArray) : Bool := (findV a (kst k)).2
/-- The keys of one value that another has not, each with null. -/
def patchA (b : V) : List ByteArray → V → V
  | [], p => p
  | k :: ks, p => patchA b ks (if hasI b k = true then p else roomV p (kst k))
mutual
def patchV (a : V) : V → V
  | .mk k i t l ks => if a.kind = 5 ∧ k = 5 then patchL a (patchA (.mk k i t l ks) a.keys emptyO) ks l else .mk k i t l ks
def patchL (a : V) (p : V) : List ByteArray → List V → V
  | [], _ => p
  | _ :: _, [] => p
  | k :: ks, c :: l => patchL a (if (hasI a k && eqV (gotK a k) c) = true then p else setK p k (patchV (gotK a k) c)) ks l
end
theorem patchV_obj {a b : V} (ha : a.kind = 5) (hb : b.kind = 5) : patchV a b = patchL a (patchA b a.keys emptyO) b.keys b.items := by
  obtain ⟨k, i, t, l, ks⟩ := b
  simp only [V.kind] at hb
  rw [patchV, if_pos ⟨ha, hb⟩]; rfl
theorem patchV_not {a b : V} (h : ¬ (a.kind = 5 ∧ b.kind = 5)) : patchV a b = b := by
  obtain ⟨k, i, t, l, ks⟩ := b
  change ¬ (a.kind = 5 ∧ k = 5) at h
  rw [patchV, if_neg h]
theorem room_is {m : V} (h : Ob m) {k : ByteArray} (hk : textB k.data.toList = true) : roomV m (kst k) = setK m k (oldK m k) := by
  have h4 := (room_items (fit_of h.ok) (s := kst k) (by rw [h.kind]; rfl) (step_kst hk) (not_over m k) nullV).2.2.2.1
  unfold setK setIt oldK
  rw [List.getD_eq_getElem?_getD, List.getElem?_eq_getElem h4]
  simp only [Option.getD_some]
  rw [List.set_getElem_self]
  exact (mk_eta _).symm
theorem room_ob {m : V} (h : Ob m) {k : ByteArray} (hk : textB k.data.toList = true) : Ob (roomV m (kst k)) ∧ (roomV m (kst k)).nodes ≤ m.nodes + 1 := by
  rw [room_is h hk]
  exact setK_ob h hk (oldK_ok h hk).1 (Nat.le_refl _) (Nat.le_refl _)
theorem gotK_ok {a : V} (h : a.ok = true) (k : ByteArray) : (gotK a k).ok = true ∧ (gotK a k).nodes ≤ a.nodes := by
  unfold gotK
  cases hi : itemV a (kst k) with
  | none =>
    have hp := V.nodes_pos a
    have e : nullV.nodes = 1 := by decide
    exact ⟨(by decide : nullV.ok = true), by simp only [Option.getD_none]; omega⟩
  | some y => exact ⟨okItems h y (item_mem hi), by have := V.nodes_mem (item_mem hi); have := nodes_items a; simp only [Option.getD_some]; omega⟩
theorem patchA_ob (b : V) : ∀ (ks : List ByteArray) (p : V), Ob p → ks.all (fun k => textB k.data.toList) = true → Ob (patchA b ks p) ∧ (patchA b ks p).nodes ≤ p.nodes + ks.length
  | [], p, h, _ => by rw [patchA]; exact ⟨h, by simp⟩
  | k :: ks, p, h, hk => by
    rw [List.all_cons, Bool.and_eq_true] at hk
    rw [patchA]
    split
    · have := patchA_ob b ks p h hk.2
      exact ⟨this.1, by have := this.2; simp only [List.length_cons]; omega⟩
    · obtain ⟨h1, h2⟩ := room_ob h hk.1
      have := patchA_ob b ks _ h1 hk.2
      exact ⟨this.1, by have := this.2; simp only [List.length_cons]; omega⟩
mutual
theorem patchV_ok : ∀ (a b : V), a.ok = true → b.ok = true → (patchV a b).ok = true ∧ (patchV a b).nodes ≤ (1 + a.nodes) * b.nodes
  | a, .mk k i t l ks, ha, hb => by
    have hap := V.nodes_pos a
    have hbig : V.nodesL l + 1 ≤ (1 + a.nodes) * (V.nodesL l + 1) := Nat.le_mul_of_pos_left _ (by omega)
    rw [patchV]
    split
    · rename_i h
      obtain ⟨h5, rfl⟩ := h
      obtain ⟨-, -, hok, hks, -⟩ := ob_parts (m := .mk 5 i t l ks) ⟨hb, rfl⟩
      obtain ⟨-, hla, -, hka, -⟩ := ob_parts (m := a) ⟨ha, h5⟩
      obtain ⟨h1, h2⟩ := patchA_ob (.mk 5 i t l ks) a.keys emptyO empty_ob hka
      obtain ⟨h3, h4⟩ := patchL_ok a ha l ks _ h1 hok hks
      refine ⟨h3.ok, ?_⟩
      have e : emptyO.nodes = 1 := by decide
      have h6 := length_le_nodesL a.items
      have h7 := nodes_items a
      show _ ≤ (1 + a.nodes) * (V.nodesL l + 1)
      rw [Nat.mul_add]
      omega
    · exact ⟨hb, hbig⟩
theorem patchL_ok (a : V) (ha : a.ok = true) : ∀ (l : List V) (ks : List ByteArray) (p : V), Ob p → V.okL l = true → ks.all (fun k => textB k.data.toList) = true → Ob (patchL a p ks l) ∧ (patchL a p ks l).nodes ≤ p.nodes + (1 + a.nodes) * V.nodesL l
  | [], [], p, h, _, _ => by rw [patchL]; exact ⟨h, by omega⟩
  | [], _ :: _, p, h, _, _ => by rw [patchL]; exact ⟨h, by omega⟩
  | c :: l, [], p, h, _, _ => by rw [patchL]; exact ⟨h, by omega⟩
  | c :: l, k :: ks, p, h, hl, hks => by
    rw [V.okL, Bool.and_eq_true] at hl
    rw [List.all_cons, Bool.and_eq_true] at hks
    have e : (1 + a.nodes) * V.nodesL (c :: l) = (1 + a.nodes) * c.nodes + (1 + a.nodes) * V.nodesL l := by rw [V.nodesL, Nat.mul_add]
    rw [patchL, e]
    split
    · obtain ⟨h1, h2⟩ := patchL_ok a ha l ks p h hl.2 hks.2
      exact ⟨h1, by omega⟩
    · obtain ⟨h1, h2⟩ := gotK_ok ha k
      obtain ⟨h3, h4⟩ := patchV_ok (gotK a k) c h1 hl.1
      obtain ⟨h5, h6⟩ := setK_ob (n := (patchV (gotK a k) c).nodes) h hks.1 h3 (by have := V.nodes_pos (oldK p k); omega) (V.nodes_pos _)
      obtain ⟨h7, h8⟩ := patchL_ok a ha l ks _ h5 hl.2 hks.2
      have h9 : (1 + (gotK a k).nodes) * c.nodes ≤ (1 + a.nodes) * c.nodes := Nat.mul_le_mul_right _ (by omega)
      exact ⟨h7, by omega⟩
end
end Go.Proofs.YtchadlbhdcpojaaDoor
