/- Two values merged, and what makes one of another: plain. -/
import Derived.Test.YtchadlbhdcpojaaGreatDoorTb
import Derived.Test.YtchadlbhdcpojaaGreatDoorTm
import Derived.Test.YtchadlbhdcpojaaGreatDoorJd
import Derived.Test.YtchadlbhdcpojaaGreatDoorUa
import Derived.Test.YtchadlbhdcpojaaGreatDoorTg
import Derived.Test.YtchadlbhdcpojaaGreatDoorVc
namespace Go.Proofs.YtchadlbhdcpojaaGreatDoor
open Go.RowKit
/-- The step to a key. -/
abbrev kst (k : ByteArray) : Stp := (-1, k)
/-- An object with another item at a key; the item there, or null. -/
def setK (m : V) (k : ByteArray) (y : V) : V := setIt (roomV m (kst k)) (whereV m (kst k)) y
def oldK (m : V) (k : ByteArray) : V := (roomV m (kst k)).items.getD (whereV m (kst k)) nullV
/-- An object: sound, with so many nodes. -/
structure Ob (m : V) : Prop where
  ok : m.ok = true
  kind : m.kind = 5
theorem kind_kst {m : V} (h : m.kind = 5) (k : ByteArray) : kindV m (kst k) = m := by unfold kindV; rw [if_neg (by omega)]
theorem step_kst {k : ByteArray} (h : textB k.data.toList = true) : stepB (kst k) = true := by simp [stepB, h]
theorem not_over (m : V) (k : ByteArray) : ¬ (kst k).1 > (m.items.length : Int) := by show ¬ (-1 : Int) > _; omega
theorem oldK_is {m : V} (h : Ob m) {k : ByteArray} (hk : textB k.data.toList = true) : oldK m k = (itemV m (kst k)).getD nullV := by
  have := (room_items (fit_of h.ok) (s := kst k) (by rw [h.kind]; rfl) (step_kst hk) (not_over m k) nullV).2.2.1
  exact this
theorem setK_is {m : V} (h : Ob m) (k : ByteArray) (y : V) : setK m k y = .mk 5 0 ⟨#[]⟩ (withK k y false m.keys m.items).2 (withK k y false m.keys m.items).1 := by
  have := newR_is (x := m) (y := y) (s := kst k) h.ok (by rw [kind_kst h.kind]; rw [h.kind]; rfl) (not_over m k)
  rw [kind_kst h.kind] at this
  unfold setK
  rw [this]
  unfold newR
  rw [if_pos (show (-1 : Int) < 0 by decide), kind_kst h.kind]
theorem ob_parts {m : V} (h : Ob m) : Rising m.keys ∧ m.keys.length = m.items.length ∧ V.okL m.items = true ∧ m.keys.all (fun k => textB k.data.toList) = true ∧ m = .mk 5 0 ⟨#[]⟩ m.items m.keys := by
  obtain ⟨hr, -, hl⟩ := okk h.ok
  obtain ⟨h1, h2⟩ := bare_ok h.ok (.inr h.kind)
  have e : m = .mk 5 0 ⟨#[]⟩ m.items m.keys := by
    conv => lhs; rw [← mk_eta m]
    rw [h.kind, h1, h2]
  have h3 := (ok_object_iff hr (hl h.kind)).1 (by rw [← e]; exact h.ok)
  exact ⟨hr, hl h.kind, h3.1, h3.2, e⟩
theorem okL_set {l : List V} {n : Nat} {y : V} (h : V.okL l = true) (hy : y.ok = true) : V.okL (l.set n y) = true := by
  induction l generalizing n with
  | nil => simp [V.okL]
  | cons x r ih =>
    rw [V.okL, Bool.and_eq_true] at h
    cases n with
    | zero => simp [List.set_cons_zero, V.okL, hy, h.2]
    | succ n => simp [List.set_cons_succ, V.okL, h.1, ih h.2]
theorem nodesL_set {l : List V} {n : Nat} {x y : V} (h : l[n]? = some x) : V.nodesL (l.set n y) + x.nodes = V.nodesL l + y.nodes := by
  induction l generalizing n with
  | nil => simp at h
  | cons z r ih =>
    cases n with
    | zero => simp at h; subst h; simp only [List.set_cons_zero, V.nodesL]; omega
    | succ n =>
      simp at h
      have := ih h
      simp only [List.set_cons_succ, V.nodesL]; omega
theorem setK_ob {m y : V} {n : Nat} (h : Ob m) {k : ByteArray} (hk : textB k.data.toList = true) (hy : y.ok = true) (hn : y.nodes + 1 ≤ (oldK m k).nodes + n) (_hn1 : 1 ≤ n) : Ob (setK m k y) ∧ (setK m k y).nodes ≤ m.nodes + n := by
  obtain ⟨hr, hl, hok, hks, e⟩ := ob_parts h
  rw [setK_is h]
  have hmn : m.nodes = V.nodesL m.items + 1 := by rw [e]; rfl
  by_cases hh : hasK k m.keys = true
  · have hm := (hasK_iff _ _).1 hh
    have hkk := (posK_here k hr).1 hm
    have hlt : posK k m.keys < m.items.length := by rw [← hl]; exact (List.getElem?_eq_some_iff.1 hkk).1
    have hold : oldK m k = m.items[posK k m.keys] := by
      rw [oldK_is h hk, itemV, if_neg (show ¬ (0 : Int) ≤ -1 by decide), if_pos hh, List.getElem?_eq_getElem hlt]; rfl
    rw [withK_set k y m.keys m.items hl hr hm]
    refine ⟨⟨(ok_object_iff hr (by rw [List.length_set]; exact hl)).2 ⟨okL_set hok hy, hks⟩, rfl⟩, ?_⟩
    have := nodesL_set (y := y) (List.getElem?_eq_getElem hlt)
    rw [hold] at hn
    show V.nodesL (m.items.set (posK k m.keys) y) + 1 ≤ _
    omega
  · have hm : ¬ k ∈ m.keys := fun e => hh ((hasK_iff _ _).2 e)
    have hold : oldK m k = nullV := by
      rw [oldK_is h hk, itemV, if_neg (show ¬ (0 : Int) ≤ -1 by decide), if_neg hh]; rfl
    rw [withK_ins k y m.keys m.items hl hm]
    obtain ⟨c1, c2, c3, -⟩ := ins_counts (m.keys, m.items) k y
    refine ⟨⟨(ok_object_iff (ins_rising (st := (m.keys, m.items)) hr (fun e => hh e) y) (ins_lens (st := (m.keys, m.items)) hl k y)).2 ⟨by rw [c1]; simp [hok, hy], by rw [c2]; simp only []; rw [hks, hk]; rfl⟩, rfl⟩, ?_⟩
    rw [hold] at hn
    have hz : nullV.nodes = 1 := by decide
    show V.nodesL (insK (m.keys, m.items) k y).2 + 1 ≤ _
    rw [c3]
    simp only []
    omega
open Go.RowKit
open Go.RowKit
set_option maxRecDepth 100000 in
theorem stepOf_any (k : ByteArray) (w : World) : Calls Tryz.prog 84 #[.string k] w fun e w' => e = .returned (.agg #[.int .i64 (-1), .string k]) ∧ Below w.heap.size w w' := by
  go_enter Tryz.func84, Tryz.ntmps84
  go_wp2_with fail
  refine bodyPost_ret (v := .agg #[.int .i64 (-1), .string k]) (by simp [results, Tryz.results84, go_sem]) rfl ?_
  exact ⟨rfl, below_al (Below.refl _ w) _⟩
set_option maxRecDepth 100000 in
set_option maxHeartbeats 1000000 in
theorem stepTo_key (x : V) (w : World) (A K : Option Addr) (c d j : Nat) (k : ByteArray) (h : Lies w w.heap.size x A c K d) (h5 : x.kind = 5) (hk : x.keys[j]? = some k) :
    Calls Tryz.prog 68 #[.agg #[.int .i64 x.kind, .int .i64 x.int, .string x.text, .slice A x.items.length c, .slice K x.keys.length d], .int .i64 j] w fun e w' => e = .returned (.agg #[.int .i64 (-1), .string k]) ∧ Below w.heap.size w w' := by
  have hj : j < x.keys.length := (List.getElem?_eq_some_iff.1 hk).1
  have hlen := (lies_keys h).2.1
  have hlen1 := (lies_keys h).1
  unfold maxLen at hlen
  obtain ⟨b, o, rfl, hb, hf⟩ := (lies_keys h).at_ hj
  have hc := (hf j k hk).1
  obtain ⟨W1, hW1⟩ : ∃ W1, W1 = (w.alloc (.cells #[.int .i64 x.kind, .int .i64 x.int, .string x.text, .slice A x.items.length c, .slice (some ⟨b, o, none⟩) x.keys.length d] 27)).alloc (.cells #[.int .i64 0, .string ⟨#[]⟩] 34) := ⟨_, rfl⟩
  have hb1 : Below w.heap.size w W1 := by rw [hW1]; exact below_al (below_al (Below.refl _ w) _) _
  have v0 : W1.cell? ⟨w.heap.size, 0, none⟩ = some (.int .i64 x.kind) := by rw [hW1]; exact ((BlockIs.new w _ _).alloc _).cell 0
  have v4 : W1.cell? ⟨w.heap.size, 4, none⟩ = some (.slice (some ⟨b, o, none⟩) x.keys.length d) := by rw [hW1]; exact ((BlockIs.new w _ _).alloc _).cell 4
  have hs := (BlockIs.newAt (w.alloc (.cells #[.int .i64 x.kind, .int .i64 x.int, .string x.text, .slice A x.items.length c, .slice (some ⟨b, o, none⟩) x.keys.length d] 27)) 34 #[.int .i64 0, .string ⟨#[]⟩] (n := w.heap.size + 1) (by simp))
  rw [← hW1] at hs
  have hc1 : W1.cell? ⟨b, o + j, none⟩ = some (.string k) := (bcell hb1 b (o + j) hb).trans hc
  have hj1 : (0 : Int) ≤ j := by omega
  have hj2 : (j : Int) < x.keys.length := by omega
  have hkb : (x.kind == 5) = true := by simp [h5]
  have HB := Lib.hid hb1
  have HW := Lib.hid hW1
  have HS := Lib.hid hs
  clear hf hc hk h hlen1 hb1 hW1 hs h5 hj
  obtain ⟨s0, s1⟩ : W1.cell? ⟨w.heap.size + 1, 0, none⟩ = some (.int .i64 0) ∧ W1.cell? ⟨w.heap.size + 1, 1, none⟩ = some (.string ⟨#[]⟩) := ⟨HS.out.cell 0, HS.out.cell 1⟩
  have f0 := HS.out.frozen 0
  have f1 := HS.out.frozen 1
  have sl := HS.out.lt
  go_enter Tryz.func68, Tryz.ntmps68
  go_upto_region 1 with (fail)
  rw [← HW.out]
  go_wp2_with fail
  refine (stepOf_any k _).mono ?_
  rintro e w2 ⟨rfl, h2⟩
  have hs2 := HS.out.below h2 HS.out.lt
  have HB2 := Lib.hid (below_on HB.out h2)
  clear h2 v0 v4 hc1 s0 s1 f0 f1 sl
  obtain ⟨s0, s1⟩ : w2.cell? ⟨w.heap.size + 1, 0, none⟩ = some (.int .i64 0) ∧ w2.cell? ⟨w.heap.size + 1, 1, none⟩ = some (.string ⟨#[]⟩) := ⟨hs2.cell 0, hs2.cell 1⟩
  have f0 := hs2.frozen 0
  have f1 := hs2.frozen 1
  have sl := hs2.lt
  clear hs2
  go_wp2_with fail
  refine bodyPost_ret (v := .agg #[.int .i64 (-1), .string k]) (by simp [results, Tryz.results68, go_sem, s0, s1]) rfl ?_
  exact ⟨rfl, (HB2.out.setCell (by simp) _).setCell (by simp) _⟩
/-- What merge and patch leave: what is answered is the call's own. -/
def MPost (q : V) (w : World) (e : Ending) (w' : World) : Prop := ∃ zI zK, e = .returned (.agg #[.int .i64 q.kind, .int .i64 q.int, .string q.text, zI, zK]) ∧ Tree w' w.heap.size q zI zK (Fresh w w') ∧ Below w.heap.size w w'
/-- Their boxes: the two values, what is answered. -/
structure MB (w : World) (ca cb : Array Value) (W : World) : Prop where
  old : Below w.heap.size w W
  ba : BlockIs W w.heap.size 27 ca
  bb : BlockIs W (w.heap.size + 1) 27 cb
  br : BlockIs W (w.heap.size + 2) 27 zeroF
section
variable {w W W' : World} {ca cb : Array Value} {q : V} {zI zK vI vK u0 u1 u2 u3 u4 : Value} {D : Nat → Prop} {N : Nat}
theorem MB.start (w : World) (ca cb : Array Value) : MB w ca cb (((w.alloc (.cells ca 27)).alloc (.cells cb 27)).alloc (.cells zeroF 27)) :=
  ⟨below_al (below_al (below_al (Below.refl _ w) _) _) _, ((BlockIs.new w _ _).alloc _).alloc _, (BlockIs.newAt _ _ _ (by simp)).alloc _, BlockIs.newAt _ _ _ (by simp)⟩
theorem MB.on (h : MB w ca cb W) (hb : Below W.heap.size W W') : MB w ca cb W' := ⟨below_on h.old hb, h.ba.below hb h.ba.lt, h.bb.below hb h.bb.lt, h.br.below hb h.br.lt⟩
theorem MB.lt (h : MB w ca cb W) : w.heap.size + 3 ≤ W.heap.size := by have := h.br.lt; omega
/-- What turns blocks behind the boxes alone leaves them. -/
theorem MB.fr {g : Nat} (h : MB w ca cb W) (hF : Fr W W' g D) (hg : w.heap.size + 3 ≤ g) (hD : ∀ b, D b → w.heap.size + 3 ≤ b) : MB w ca cb W' := by
  have hl := h.lt
  have hk : ∀ b, b < w.heap.size + 3 → W'.heap[b]? = W.heap[b]? := fun b hb => hF.block b (by omega) (by omega) (fun e => by have := hD b e; omega)
  refine ⟨⟨hF.os.trans h.old.os, hF.tape.trans h.old.tape, hF.output.trans h.old.output, by have := h.old.size; have := hF.size; omega, fun b hb => (hk b (by omega)).trans (h.old.block b hb)⟩, h.ba.to (hk _ (by omega)), h.bb.to (hk _ (by omega)), h.br.to (hk _ (by omega))⟩
theorem MB.ends (h : MB w ca cb W) : Below w.heap.size w (put5 W (w.heap.size + 2) 0 u0 u1 u2 u3 u4) :=
  ((((h.old.setCell (by simp) _).setCell (by simp) _).setCell (by simp) _).setCell (by simp) _).setCell (by simp) _
/-- What was made behind the boxes, answered. -/
theorem MB.good (h : MB w ca cb W) (ht : Tree W N q zI zK D) (hN : w.heap.size ≤ N) (hD : ∀ b, D b → w.heap.size + 3 ≤ b ∧ b < W.heap.size) : MPost q w (.returned (.agg #[.int .i64 q.kind, .int .i64 q.int, .string q.text, zI, zK])) (put5 W (w.heap.size + 2) 0 u0 u1 u2 u3 u4) := by
  have hs := put5_size W (w.heap.size + 2) 0 u0 u1 u2 u3 u4
  exact ⟨_, _, rfl, Tree.base hN q (ht.keep q (fun b hb => put5_heap W (w.heap.size + 2) 0 u0 u1 u2 u3 u4 (by have := (hD b hb).1; omega)) (fun b hb => ⟨by have := (hD b hb).1; omega, by rw [hs]; exact (hD b hb).2⟩)), h.ends⟩
/-- The made object stays, aside what turned. -/
theorem Node.stays {g : Nat} {t : TypeId} {pre post : List Value} {x : V} (h : Node W N g t pre post x vI vK D) (hb : Below W.heap.size W W') : Node W' N g t pre post x vI vK D := h.on hb
end
open Go.RowKit
/-- Whether two values are valid and equal. -/
def eqV (x y : V) : Bool := x.valid && y.valid && decide (x.cmp y = 0)
end Go.Proofs.YtchadlbhdcpojaaGreatDoor
