/- The leaves of a value: plain, and where a list of leaves lies. -/
import Derived.Test.YtchadlbhdcpojaaGreatDoorTb
import Derived.Test.YtchadlbhdcpojaaGreatDoorZr
import Derived.Test.YtchadlbhdcpojaaGreatDoorJc
import Derived.Test.YtchadlbhdcpojaaGreatDoorJf
import Derived.Test.YtchadlbhdcpojaaGreatDoorJd
import Derived.Test.YtchadlbhdcpojaaGreatDoorJa
import Derived.Deep.AppendLies
import Derived.Deep.RegionHeld3
import Derived.Test.YtchadlbhdcpojaaGreatDoorYe
import Derived.Test.YtchadlbhdcpojaaGreatDoorTg
import Derived.Test.YtchadlbhdcpojaaGreatDoorJb
namespace Go.Proofs.YtchadlbhdcpojaaGreatDoor
open Go.RowKit
/-- A leaf: its path, its value. -/
abbrev Lf := List Stp × V
/-- The step to an item. -/
def stepI (kd : Int) (ks : List ByteArray) (n : Nat) : Stp := if kd = 5 then (-1, ks.getD n ⟨#[]⟩) else (n, ⟨#[]⟩)
mutual
/-- The leaves of a value that is at a path. -/
def leavesV (p : List Stp) : V → List Lf
  | .mk k i t [] ks => [(p, .mk k i t [] ks)]
  | .mk k _ _ (c :: l) ks => leavesV (p ++ [stepI k ks 0]) c ++ leavesL p k ks 1 l
def leavesL (p : List Stp) (k : Int) (ks : List ByteArray) (n : Nat) : List V → List Lf
  | [] => []
  | c :: l => leavesV (p ++ [stepI k ks n]) c ++ leavesL p k ks (n + 1) l
end
theorem leavesV_items {p : List Stp} {x : V} (h : x.items ≠ []) : leavesV p x = leavesL p x.kind x.keys 0 x.items := by
  obtain ⟨k, i, t, l, ks⟩ := x
  cases l with
  | nil => exact absurd rfl h
  | cons c l => rw [leavesV]; show _ = leavesL p k ks 0 (c :: l); rw [leavesL]
theorem leavesV_none {p : List Stp} {x : V} (h : x.items = []) : leavesV p x = [(p, x)] := by
  obtain ⟨k, i, t, l, ks⟩ := x
  simp only [V.items] at h
  subst h
  rw [leavesV]
mutual
theorem leavesV_length : ∀ (p : List Stp) (x : V), (leavesV p x).length ≤ x.nodes
  | p, .mk k i t [] ks => by rw [leavesV]; simp [V.nodes, V.nodesL]
  | p, .mk k i t (c :: l) ks => by
    have h1 := leavesV_length (p ++ [stepI k ks 0]) c
    have h2 := leavesL_length p k ks l 1
    rw [leavesV, List.length_append, V.nodes, V.nodesL]
    omega
theorem leavesL_length : ∀ (p : List Stp) (k : Int) (ks : List ByteArray) (l : List V) (n : Nat), (leavesL p k ks n l).length ≤ V.nodesL l
  | p, k, ks, [], n => by rw [leavesL]; simp
  | p, k, ks, c :: l, n => by
    have h1 := leavesV_length (p ++ [stepI k ks n]) c
    have h2 := leavesL_length p k ks l (n + 1)
    rw [leavesL, List.length_append, V.nodesL]
    omega
end
theorem leavesL_snoc (p : List Stp) (k : Int) (ks : List ByteArray) (c : V) : ∀ (l : List V) (n : Nat), leavesL p k ks n (l ++ [c]) = leavesL p k ks n l ++ leavesV (p ++ [stepI k ks (n + l.length)]) c
  | [], n => by simp [leavesL]
  | y :: l, n => by
    rw [List.cons_append, leavesL, leavesL_snoc p k ks c l (n + 1), leavesL, List.append_assoc, List.length_cons, show n + 1 + l.length = n + (l.length + 1) by omega]
/-- A path whose block is one of P. -/
def PIn (P : Nat → Prop) (w : World) (A : Option Addr) (c : Nat) (p : List Stp) : Prop :=
  p.length ≤ c ∧ c ≤ maxLen ∧ (p = [] ∨ ∃ b o, A = some ⟨b, o, none⟩ ∧ P b ∧ StepsFrom w p b o)
theorem PIn.keep {P P' : Nat → Prop} {w w' : World} (hk : ∀ b o, P b → w'.cell? ⟨b, o, none⟩ = w.cell? ⟨b, o, none⟩) (hP : ∀ b, P b → P' b) {A : Option Addr} {c : Nat} {p : List Stp} (h : PIn P w A c p) : PIn P' w' A c p :=
  ⟨h.1, h.2.1, h.2.2.imp id fun ⟨b, o, e, hb, hf⟩ => ⟨b, o, e, hP b hb, hf.keep fun o => hk b o hb⟩⟩
theorem PIn.lies {P : Nat → Prop} {w : World} {B : Nat} (hP : ∀ b, P b → b < B) {A : Option Addr} {c : Nat} {p : List Stp} (h : PIn P w A c p) : PLies w B A c p :=
  ⟨h.1, h.2.1, h.2.2.imp id fun ⟨b, o, e, hb, hf⟩ => ⟨b, o, e, hP b hb, hf⟩⟩
theorem PIn.of {P : Nat → Prop} {w : World} {B : Nat} (hP : ∀ b, b < B → P b) {A : Option Addr} {c : Nat} {p : List Stp} (h : PLies w B A c p) : PIn P w A c p :=
  ⟨h.1, h.2.1, h.2.2.imp id fun ⟨b, o, e, hb, hf⟩ => ⟨b, o, e, hP b hb, hf⟩⟩
/-- The six cells of a leaf. -/
def LeafIn (P : Nat → Prop) (w : World) (x : Lf) (cs : List Value) : Prop :=
  ∃ Ap cp A c K d, cs = [.slice Ap x.1.length cp, .int .i64 x.2.kind, .int .i64 x.2.int, .string x.2.text, .slice A x.2.items.length c, .slice K x.2.keys.length d] ∧ PIn P w Ap cp x.1 ∧ LiesIn P w x.2 A c K d
def LeafsIn (P : Nat → Prop) (w : World) : List Lf → List (List Value) → Prop
  | [], [] => True
  | x :: r, cs :: t => LeafIn P w x cs ∧ LeafsIn P w r t
  | _, _ => False
section
variable {P P' : Nat → Prop} {w w' : World} {B : Nat}
theorem LeafIn.keep (hk : ∀ b o, P b → w'.cell? ⟨b, o, none⟩ = w.cell? ⟨b, o, none⟩) (hP : ∀ b, P b → P' b) {x : Lf} {cs : List Value} (h : LeafIn P w x cs) : LeafIn P' w' x cs := by
  obtain ⟨Ap, cp, A, c, K, d, e, h1, h2⟩ := h
  exact ⟨Ap, cp, A, c, K, d, e, h1.keep hk hP, LiesIn.keep hk hP _ h2⟩
theorem LeafsIn.keep (hk : ∀ b o, P b → w'.cell? ⟨b, o, none⟩ = w.cell? ⟨b, o, none⟩) (hP : ∀ b, P b → P' b) : ∀ {l : List Lf} {css : List (List Value)}, LeafsIn P w l css → LeafsIn P' w' l css
  | [], [], _ => trivial
  | _ :: _, _ :: _, h => ⟨h.1.keep hk hP, LeafsIn.keep hk hP h.2⟩
  | [], _ :: _, h => h.elim
  | _ :: _, [], h => h.elim
theorem LeafsIn.append {m : List Lf} {dss : List (List Value)} (h' : LeafsIn P w m dss) : ∀ {l : List Lf} {css : List (List Value)}, LeafsIn P w l css → LeafsIn P w (l ++ m) (css ++ dss)
  | [], [], _ => h'
  | _ :: _, _ :: _, h => ⟨h.1, LeafsIn.append h' h.2⟩
  | [], _ :: _, h => h.elim
  | _ :: _, [], h => h.elim
theorem LeafIn.six {x : Lf} {cs : List Value} (h : LeafIn P w x cs) : cs.length = 6 := by
  obtain ⟨_, _, _, _, _, _, rfl, -, -⟩ := h; rfl
theorem LeafsIn.flat : ∀ {l : List Lf} {css : List (List Value)}, LeafsIn P w l css → css.flatten.length = l.length * 6
  | [], [], _ => rfl
  | x :: l, cs :: css, h => by
    rw [List.flatten_cons, List.length_append, h.1.six, LeafsIn.flat h.2, List.length_cons]; omega
  | [], _ :: _, h => h.elim
  | _ :: _, [], h => h.elim
theorem LeafsIn.at_ : ∀ {l : List Lf} {css : List (List Value)}, LeafsIn P w l css → ∀ {k : Nat} {x : Lf}, l[k]? = some x → ∃ cs, LeafIn P w x cs ∧ ∀ (j : Nat) (v : Value), cs[j]? = some v → css.flatten[k * 6 + j]? = some v
  | y :: l, cs :: css, h, 0, x, hx => by
    simp only [List.getElem?_cons_zero, Option.some.injEq] at hx
    subst hx
    refine ⟨cs, h.1, fun j v hv => ?_⟩
    rw [Nat.zero_mul, Nat.zero_add, List.flatten_cons, List.getElem?_append_left (List.getElem?_eq_some_iff.1 hv).1, hv]
  | y :: l, cs :: css, h, k + 1, x, hx => by
    rw [List.getElem?_cons_succ] at hx
    obtain ⟨ds, h1, h2⟩ := LeafsIn.at_ h.2 hx
    refine ⟨ds, h1, fun j v hv => ?_⟩
    rw [List.flatten_cons, List.getElem?_append_right (by rw [h.1.six]; omega), h.1.six, show (k + 1) * 6 + j - 6 = k * 6 + j by omega]
    exact h2 j v hv
  | [], [], _, _, _, hx => by simp at hx
  | [], _ :: _, h, _, _, _ => h.elim
  | _ :: _, [], h, _, _, _ => h.elim
/-- A list of leaves that lies in memory. -/
def LeafRow (P : Nat → Prop) (w : World) (A : Option Addr) (c : Nat) (l : List Lf) : Prop :=
  l.length ≤ c ∧ c ≤ maxLen ∧ ∃ css, LeafsIn P w l css ∧ (l = [] ∨ ∃ b o, A = some ⟨b, o, none⟩ ∧ P b ∧ ∀ (j : Nat) (v : Value), css.flatten[j]? = some v → w.cell? ⟨b, o + j, none⟩ = some v)
theorem LeafRow.keep (hk : ∀ b o, P b → w'.cell? ⟨b, o, none⟩ = w.cell? ⟨b, o, none⟩) (hP : ∀ b, P b → P' b) {A : Option Addr} {c : Nat} {l : List Lf} (h : LeafRow P w A c l) : LeafRow P' w' A c l := by
  obtain ⟨h1, h2, css, h3, h4⟩ := h
  exact ⟨h1, h2, css, h3.keep hk hP, h4.imp id fun ⟨b, o, e, hb, hc⟩ => ⟨b, o, e, hP b hb, fun j v hv => (hk b _ hb).trans (hc j v hv)⟩⟩
/-- The cells of one leaf. -/
theorem LeafRow.at_ {A : Option Addr} {c : Nat} {l : List Lf} (h : LeafRow P w A c l) {k : Nat} {x : Lf} (hx : l[k]? = some x) :
    ∃ b o Ap cp A' c' K' d', A = some ⟨b, o, none⟩ ∧ P b ∧ (w.cell? ⟨b, o + k * 6, none⟩ = some (.slice Ap x.1.length cp) ∧ w.cell? ⟨b, o + k * 6 + 1, none⟩ = some (.int .i64 x.2.kind) ∧ w.cell? ⟨b, o + k * 6 + 2, none⟩ = some (.int .i64 x.2.int) ∧ w.cell? ⟨b, o + k * 6 + 3, none⟩ = some (.string x.2.text) ∧ w.cell? ⟨b, o + k * 6 + 4, none⟩ = some (.slice A' x.2.items.length c') ∧ w.cell? ⟨b, o + k * 6 + 5, none⟩ = some (.slice K' x.2.keys.length d')) ∧ PIn P w Ap cp x.1 ∧ LiesIn P w x.2 A' c' K' d' := by
  obtain ⟨-, -, css, h3, h4⟩ := h
  rcases h4 with rfl | ⟨b, o, rfl, hb, hc⟩
  · simp at hx
  obtain ⟨cs, ⟨Ap, cp, A', c', K', d', rfl, hp, hl⟩, hcs⟩ := h3.at_ hx
  refine ⟨b, o, Ap, cp, A', c', K', d', rfl, hb, ⟨?_, ?_, ?_, ?_, ?_, ?_⟩, hp, hl⟩
  · exact hc _ _ (hcs 0 _ rfl)
  · exact hc _ _ (hcs 1 _ rfl)
  · exact hc _ _ (hcs 2 _ rfl)
  · exact hc _ _ (hcs 3 _ rfl)
  · exact hc _ _ (hcs 4 _ rfl)
  · exact hc _ _ (hcs 5 _ rfl)
end
open Go.RowKit
set_option maxRecDepth 100000 in
set_option maxHeartbeats 1000000 in
theorem refStep_key (x : V) (w : World) (A K : Option Addr) (c d j : Nat) (k : ByteArray) (h : Lies w w.heap.size x A c K d) (h5 : x.kind = 5) (hk : x.keys[j]? = some k) :
    Calls Tryz.prog 41 #[.agg #[.int .i64 x.kind, .int .i64 x.int, .string x.text, .slice A x.items.length c, .slice K x.keys.length d], .int .i64 j] w fun e w' => e = .returned (.agg #[.int .i64 (-1), .string k]) ∧ Below w.heap.size w w' := by
  have hj : j < x.keys.length := (List.getElem?_eq_some_iff.1 hk).1
  have hlen := (lies_keys h).2.1
  have hlen1 := (lies_keys h).1
  unfold maxLen at hlen
  obtain ⟨b, o, rfl, hb, hf⟩ := (lies_keys h).at_ hj
  have hc := (hf j k hk).1
  obtain ⟨W1, hW1⟩ : ∃ W1, W1 = (w.alloc (.cells #[.int .i64 x.kind, .int .i64 x.int, .string x.text, .slice A x.items.length c, .slice (some ⟨b, o, none⟩) x.keys.length d] 27)).alloc (.cells #[.int .i64 0, .string ⟨#[]⟩] 34) := ⟨_, rfl⟩
  have hb1 : Below w.heap.size w W1 := by rw [hW1]; exact below_al (below_al (Below.refl _ w) _) _
  have v0 : W1.cell? ⟨w.heap.size, 0, none⟩ = some (.int .i64 x.kind) := by rw [hW1]; exact ((BlockIs.new w _ _).alloc _).cell 0
  have v4 : W1.cell? ⟨w.heap.size, 4, none⟩ = some (.slice (some ⟨b, o, none⟩) x.keys.length d) := by rw [hW1]; exact ((BlockIs.new w _ _).alloc _).cell 4
  have hs := (BlockIs.newAt (w.alloc (.cells #[.int .i64 x.kind, .int .i64 x.int, .string x.text, .slice A x.items.length c, .slice (some ⟨b, o, none⟩) x.keys.length d] 27)) 34 #[.int .i64 0, .string ⟨#[]⟩] (n := w.heap.size + 1) (by simp))
  rw [← hW1] at hs
  have hc1 : W1.cell? ⟨b, o + j, none⟩ = some (.string k) := (bcell hb1 b (o + j) hb).trans hc
  have hj1 : (0 : Int) ≤ j := by omega
  have hj2 : (j : Int) < x.keys.length := by omega
  have hkb : (x.kind == 5) = true := by simp [h5]
  have HB := Lib.hid hb1
  have HW := Lib.hid hW1
  have HS := Lib.hid hs
  clear hf hc hk h hlen1 hb1 hW1 hs h5 hj
  obtain ⟨s0, s1⟩ : W1.cell? ⟨w.heap.size + 1, 0, none⟩ = some (.int .i64 0) ∧ W1.cell? ⟨w.heap.size + 1, 1, none⟩ = some (.string ⟨#[]⟩) := ⟨HS.out.cell 0, HS.out.cell 1⟩
  have f0 := HS.out.frozen 0
  have f1 := HS.out.frozen 1
  have sl := HS.out.lt
  go_enter Tryz.func41, Tryz.ntmps41
  go_upto_region 1 with (fail)
  rw [← HW.out]
  go_wp2_with fail
  refine bodyPost_ret (v := .agg #[.int .i64 (-1), .string k]) (by simp [results, Tryz.results41, go_sem, s0, s1]) rfl ?_
  exact ⟨rfl, (HB.out.setCell (by simp) _).setCell (by simp) _⟩
open Go.RowKit
/-- The cells of steps. -/
def stepCells : List Stp → List Value
  | [] => []
  | s :: r => .int .i64 s.1 :: .string s.2 :: stepCells r
theorem stepCells_length : ∀ (p : List Stp), (stepCells p).length = p.length * 2
  | [] => rfl
  | s :: r => by rw [stepCells, List.length_cons, List.length_cons, stepCells_length r, List.length_cons]; omega
theorem stepCells_append : ∀ (p q : List Stp), stepCells (p ++ q) = stepCells p ++ stepCells q
  | [], _ => rfl
  | s :: r, q => by rw [List.cons_append, stepCells, stepCells_append r q, stepCells, List.cons_append, List.cons_append]
theorem stepCells_one : ∀ (p : List Stp), ∀ u ∈ stepCells p, u.oneCell' = true
  | [], u, hu => by cases hu
  | s :: r, u, hu => by
    rw [stepCells, List.mem_cons, List.mem_cons] at hu
    rcases hu with rfl | rfl | hu
    · rfl
    · rfl
    · exact stepCells_one r u hu
theorem stepCells_lie {w : World} {b : Nat} : ∀ (p : List Stp) (o : Nat), (∀ s ∈ p, s.2.size ≤ maxLen) → (∀ (j : Nat) (u : Value), (stepCells p)[j]? = some u → w.cell? ⟨b, o + j, none⟩ = some u) → StepsFrom w p b o
  | [], _, _, _ => trivial
  | s :: r, o, hs, h => by
    refine ⟨h 0 _ rfl, h 1 _ rfl, hs s (by simp), stepCells_lie r (o + 2) (fun q hq => hs q (by simp [hq])) fun j u hu => ?_⟩
    have := h (j + 2) u (by rw [stepCells]; exact hu)
    rw [show o + (j + 2) = o + 2 + j by omega] at this
    exact this
theorem stepCells_at {w : World} {b : Nat} : ∀ {p : List Stp} {o : Nat}, StepsFrom w p b o → ∀ (j : Nat) (u : Value), (stepCells p)[j]? = some u → w.cell? ⟨b, o + j, none⟩ = some u
  | [], _, _, j, u, hu => by simp [stepCells] at hu
  | s :: r, o, h, 0, u, hu => by
    simp only [stepCells, List.getElem?_cons_zero, Option.some.injEq] at hu
    subst hu; exact h.1
  | s :: r, o, h, 1, u, hu => by
    simp only [stepCells, List.getElem?_cons_succ, List.getElem?_cons_zero, Option.some.injEq] at hu
    subst hu; exact h.2.1
  | s :: r, o, h, j + 2, u, hu => by
    simp only [stepCells, List.getElem?_cons_succ] at hu
    have := stepCells_at h.2.2.2 j u hu
    rw [show o + (j + 2) = o + 2 + j by omega]
    exact this
theorem steps_size {w : World} {b : Nat} : ∀ {p : List Stp} {o : Nat}, StepsFrom w p b o → ∀ s ∈ p, s.2.size ≤ maxLen
  | [], _, _, s, hs => by cases hs
  | q :: r, o, h, s, hs => by
    rcases List.mem_cons.1 hs with rfl | hs
    · exact h.2.2.1
    · exact steps_size h.2.2.2 s hs
/-- Steps, wherever they lie, appended to an owned row of steps. -/
theorem appendT (ty : TypeId) (W : World) (B : Nat) (v : Value) (k : Nat) (xs : List Value) (hown : W.ownsRow B 34 2 v k xs) (A : Option Addr) (m c : Nat) (news : List Value) (hl : news.length = m * 2) (hA : m = 0 ∨ ∃ a, A = some a ∧ ∀ j u, news[j]? = some u → W.cell? (a.add j) = some u) (h1 : ∀ u ∈ news, u.oneCell' = true) (hk : k + m ≤ 100000) (hB : B ≤ W.heap.size) :
    ∃ v' W', (Builtin.append_ #[36, 36] ty #[v, .slice A m c]).run Tryz.prog W = .ok v' W' ∧ W'.ownsRow B 34 2 v' (k + m) (xs ++ news) ∧ W.grownBy W' v.ownBlock := by
  obtain ⟨i0, hi, hz0, hz1, hz2⟩ := info_parts (P := Tryz.prog) (e := 34) (z := (.agg #[.int .i64 0, .string ⟨#[]⟩])) (size := 2) (bytes := 24) (by kernel_rfl)
  rcases Nat.eq_zero_or_pos m with rfl | hm
  · obtain rfl : news = [] := List.length_eq_zero_iff.1 (by omega)
    obtain ⟨a0, cap, rfl⟩ := own_form hown
    have hcap : k ≤ cap := by
      obtain ⟨_, ⟨he, h0⟩ | ⟨g, cap', cur, he, _, _, h1, _⟩⟩ := hown
      · simp only [Value.slice.injEq] at he; omega
      · simp only [Value.slice.injEq] at he; omega
    have hs : Src Tryz.prog i0.size 36 (.slice A 0 c) 0 [] W := by
      cases A with
      | none => exact Src.ofNil _ Tryz.underlying36 c
      | some a => exact Src.ofSlice W Tryz.underlying36 a 0 c [] (by simp) (fun j u hj => by simp at hj) (fun u hu => by cases hu)
    exact ⟨_, W, run_append_nothing (P := Tryz.prog) W 36 36 ty 34 i0 Tryz.underlying36 hi a0 k cap hcap _ hs, by simpa using hown, ⟨rfl, rfl, rfl, Nat.le_refl _, fun _ _ _ => rfl⟩⟩
  · obtain ⟨a, rfl, hnews⟩ : ∃ a, A = some a ∧ ∀ j u, news[j]? = some u → W.cell? (a.add j) = some u := hA.resolve_left (by omega)
    obtain ⟨v', W', hr, h2, h3, -⟩ := append_where (P := Tryz.prog) W B 36 ty 34 i0 (.agg #[.int .i64 0, .string ⟨#[]⟩]) 2 24 Tryz.underlying36 hi hz0 hz1 hz2 rfl (by omega) v k xs hown a m c news hl hnews h1 (by unfold maxLen; omega) (by omega) hB hm
    exact ⟨v', W', hr, h2, h3⟩
theorem own_none (W : World) (B : Nat) (hB : B ≤ W.heap.size) (e : TypeId) (n : Nat) : (W.alloc (.cells #[] e)).ownsRow B e n (.slice (some ⟨W.heap.size, 0, none⟩) 0 0) 0 [] :=
  ⟨by simp, .inr ⟨W.heap.size, 0, #[], rfl, hB, BlockIs.new W e #[], Nat.le_refl _, by simp [maxLen], by simp, by simp⟩⟩
set_option maxRecDepth 100000 in
set_option maxHeartbeats 1000000 in
/-- A path with a step more: it lies in blocks of its own. -/
theorem longer_any (P : Nat → Prop) (p : List Stp) (i : Int) (k : ByteArray) (w : World) (A : Option Addr) (c : Nat) (hP : ∀ b, P b → b < w.heap.size) (hp : PIn P w A c p) (hn : p.length ≤ 1000) (hk : k.size ≤ maxLen) :
    Calls Tryz.prog 40 #[.slice A p.length c, .agg #[.int .i64 i, .string k]] w fun e w' => ∃ A' c', e = .returned (.slice A' (p.length + 1) c') ∧ PIn (Fresh w w') w' A' c' (p ++ [(i, k)]) ∧ Below w.heap.size w w' := by
  obtain ⟨W1, hW1⟩ : ∃ W1, W1 = (w.alloc (.cells #[.int .i64 i, .string k] 34)).alloc (.cells #[] 34) := ⟨_, rfl⟩
  have hb1 : Below w.heap.size w W1 := by rw [hW1]; exact below_al (below_al (Below.refl _ w) _) _
  have hbs : BlockIs W1 w.heap.size 34 #[.int .i64 i, .string k] := by rw [hW1]; exact (BlockIs.new w _ _).alloc _
  have hown : W1.ownsRow (w.heap.size + 1) 34 2 (.slice (some ⟨w.heap.size + 1, 0, none⟩) 0 0) 0 [] := by
    have := own_none (w.alloc (.cells #[.int .i64 i, .string k] 34)) (w.heap.size + 1) (by simp) 34 2
    rw [hW1]
    simpa using this
  have hsz : w.heap.size + 2 ≤ W1.heap.size := by rw [hW1]; simp
  have hsrc : p.length = 0 ∨ ∃ a, A = some a ∧ ∀ j u, (stepCells p)[j]? = some u → W1.cell? (a.add j) = some u := by
    rcases hp.2.2 with rfl | ⟨b, o, rfl, hb, hf⟩
    · exact .inl rfl
    · refine .inr ⟨_, rfl, fun j u hu => ?_⟩
      rw [Addr.add_lit]
      exact (bcell hb1 b _ (hP b hb)).trans (stepCells_at hf j u hu)
  have hps : ∀ s ∈ p, s.2.size ≤ maxLen := by
    rcases hp.2.2 with rfl | ⟨b, o, rfl, hb, hf⟩
    · intro s hs; cases hs
    · exact steps_size hf
  obtain ⟨v2, W2, hr2, ho2, hg2⟩ := appendT 36 W1 (w.heap.size + 1) _ 0 [] hown A p.length c (stepCells p) (stepCells_length p) hsrc (stepCells_one p) (by omega) (by omega)
  obtain ⟨a2, c2, rfl⟩ := own_form ho2
  have hb2 : Below (w.heap.size + 1) W1 W2 := none_below hg2 (by omega) (fun b hb => (World.ownsRow.lt hown b hb).1)
  have hbs2 : BlockIs W2 w.heap.size 34 #[.int .i64 i, .string k] := hbs.to (hb2.block _ (by omega))
  obtain ⟨W3, hW3⟩ : ∃ W3, W3 = W2.alloc (.cells #[.int .i64 i, .string k] 34) := ⟨_, rfl⟩
  have ho3 : W3.ownsRow (w.heap.size + 1) 34 2 (.slice a2 (0 + p.length) c2) (0 + p.length) ([] ++ stepCells p) := by rw [hW3]; exact World.ownsRow.alloc ho2 _
  have hn3 : BlockIs W3 W2.heap.size 34 #[.int .i64 i, .string k] := by rw [hW3]; exact BlockIs.new W2 _ _
  obtain ⟨v4, W4, hr4, ho4, hg4⟩ := appendT 36 W3 (w.heap.size + 1) _ _ _ ho3 (some ⟨W2.heap.size, 0, none⟩) 1 1 [.int .i64 i, .string k] rfl (.inr ⟨_, rfl, fun j u hu => by
    rw [Addr.add_lit, Nat.zero_add]
    refine (hn3.cell j).trans ?_
    rw [List.getElem?_toArray]; exact hu⟩) (by intro u hu; simp at hu; rcases hu with rfl | rfl <;> rfl) (by omega) (by rw [hW3]; simp; have := hb2.size; omega)
  obtain ⟨a4, c4, rfl⟩ := own_form ho4
  have hs2 := hb2.size
  have hb4 : Below w.heap.size w W4 := by
    have h2 : Below w.heap.size W1 W2 := hb2.mono (by omega)
    have h4 : Below w.heap.size W3 W4 := none_below hg4 (by rw [hW3]; simp; omega) (fun b hb => by have := (World.ownsRow.lt ho3 b hb).1; omega)
    have h3 : Below w.heap.size W2 W3 := by rw [hW3]; exact (Below.refl _ W2).alloc (by omega) _
    exact ((hb1.trans h2).trans h3).trans h4
  simp only [Nat.zero_add, List.nil_append] at hr4 ho4 hr2
  have HANS := Lib.hid (show PIn (Fresh w W4) W4 a4 c4 (p ++ [(i, k)]) from by
    have ho5 := ho4
    obtain ⟨hl, ⟨he, h0⟩ | ⟨g, cap', cur, he, hbg, hg, hnc, hcm, hcs, ht⟩⟩ := ho5
    · omega
    · simp only [Value.slice.injEq] at he
      obtain ⟨rfl, -, rfl⟩ := he
      refine ⟨by rw [List.length_append]; exact hnc, hcm, .inr ⟨g, 0, rfl, ⟨by omega, (World.ownsRow.lt ho4 g rfl).2⟩, stepCells_lie _ 0 (fun s hs => ?_) fun j u hu => ?_⟩⟩
      · rcases List.mem_append.1 hs with hs | hs
        · exact hps s hs
        · rw [List.mem_singleton.1 hs]; exact hk
      · rw [Nat.zero_add]
        rw [stepCells_append] at hu
        have := World.ownsRow.cells ho4 (g := g) rfl j u hu
        rw [Addr.add_lit, Nat.zero_add] at this
        exact this)
  have HR2 := Lib.hid hr2
  have HR4 := Lib.hid hr4
  have HB4 := Lib.hid hb4
  have HW1 := Lib.hid hW1
  have HW3 := Lib.hid hW3
  obtain ⟨s0, s1⟩ : W2.cell? ⟨w.heap.size, 0, none⟩ = some (.int .i64 i) ∧ W2.cell? ⟨w.heap.size, 1, none⟩ = some (.string k) := ⟨hbs2.cell 0, hbs2.cell 1⟩
  have sl := hbs2.lt
  clear hW1 hb1 hbs hown hsz hsrc hps hr2 ho2 hg2 hb2 hbs2 hW3 ho3 hn3 hr4 ho4 hg4 hs2 hb4 hp hP
  go_enter Tryz.func40, Tryz.ntmps40
  go_upto_region 1 with (fail)
  go_wp2_with (first | (rw [← HW1.out]; at_builtin; refine Lib.wpList_append_run _ rfl _ _ _ _ rfl _ _ rfl rfl _ _ HR2.out ?_) | (rw [← HW3.out]; at_builtin; refine Lib.wpList_append_run _ rfl _ _ _ _ rfl _ _ rfl rfl _ _ HR4.out ?_))
  go_ret
  exact ⟨a4, c4, rfl, HANS.out, HB4.out⟩
open Go.RowKit
set_option maxRecDepth 100000 in
set_option maxHeartbeats 1000000 in
theorem refStep_list (x : V) (w : World) (A K : Option Addr) (c d j : Nat) (h5 : ¬ x.kind = 5) :
    Calls Tryz.prog 41 #[.agg #[.int .i64 x.kind, .int .i64 x.int, .string x.text, .slice A x.items.length c, .slice K x.keys.length d], .int .i64 j] w fun e w' => e = .returned (.agg #[.int .i64 j, .string ⟨#[]⟩]) ∧ Below w.heap.size w w' := by
  obtain ⟨W1, hW1⟩ : ∃ W1, W1 = (w.alloc (.cells #[.int .i64 x.kind, .int .i64 x.int, .string x.text, .slice A x.items.length c, .slice K x.keys.length d] 27)).alloc (.cells #[.int .i64 0, .string ⟨#[]⟩] 34) := ⟨_, rfl⟩
  have hb1 : Below w.heap.size w W1 := by rw [hW1]; exact below_al (below_al (Below.refl _ w) _) _
  have v0 : W1.cell? ⟨w.heap.size, 0, none⟩ = some (.int .i64 x.kind) := by rw [hW1]; exact ((BlockIs.new w _ _).alloc _).cell 0
  have hs := (BlockIs.newAt (w.alloc (.cells #[.int .i64 x.kind, .int .i64 x.int, .string x.text, .slice A x.items.length c, .slice K x.keys.length d] 27)) 34 #[.int .i64 0, .string ⟨#[]⟩] (n := w.heap.size + 1) (by simp))
  rw [← hW1] at hs
  have hkb : (x.kind == 5) = false := by simp [h5]
  have HB := Lib.hid hb1
  have HW := Lib.hid hW1
  have HS := Lib.hid hs
  clear hb1 hW1 hs h5
  obtain ⟨s0, s1⟩ : W1.cell? ⟨w.heap.size + 1, 0, none⟩ = some (.int .i64 0) ∧ W1.cell? ⟨w.heap.size + 1, 1, none⟩ = some (.string ⟨#[]⟩) := ⟨HS.out.cell 0, HS.out.cell 1⟩
  have f0 := HS.out.frozen 0
  have f1 := HS.out.frozen 1
  have sl := HS.out.lt
  go_enter Tryz.func41, Tryz.ntmps41
  go_upto_region 1 with (fail)
  rw [← HW.out]
  go_wp2_with fail
  refine bodyPost_ret (v := .agg #[.int .i64 j, .string ⟨#[]⟩]) (by simp [results, Tryz.results41, go_sem, s0, s1]) rfl ?_
  exact ⟨rfl, (HB.out.setCell (by simp) _).setCell (by simp) _⟩
/-- The step to an item, as the definition says it. -/
theorem refStep_any (x : V) (w : World) (A K : Option Addr) (c d j : Nat) (h : Lies w w.heap.size x A c K d) (hok : x.ok = true) (hj : j < x.items.length) :
    Calls Tryz.prog 41 #[.agg #[.int .i64 x.kind, .int .i64 x.int, .string x.text, .slice A x.items.length c, .slice K x.keys.length d], .int .i64 j] w fun e w' => e = .returned (.agg #[.int .i64 (stepI x.kind x.keys j).1, .string (stepI x.kind x.keys j).2]) ∧ Below w.heap.size w w' := by
  by_cases h5 : x.kind = 5
  · obtain ⟨-, -, hl⟩ := okk hok
    have hjk : j < x.keys.length := by rw [hl h5]; exact hj
    have := refStep_key x w A K c d j (x.keys.getD j ⟨#[]⟩) h h5 (by rw [List.getD_eq_getElem?_getD, List.getElem?_eq_getElem hjk]; rfl)
    unfold stepI
    rw [if_pos h5]
    exact this
  · have := refStep_list x w A K c d j h5
    unfold stepI
    rw [if_neg h5]
    exact this
theorem stepI_size {w : World} {B : Nat} {x : V} {A K : Option Addr} {c d j : Nat} (h : Lies w B x A c K d) (hok : x.ok = true) (hj : j < x.items.length) : (stepI x.kind x.keys j).2.size ≤ maxLen := by
  unfold stepI
  by_cases h5 : x.kind = 5
  · rw [if_pos h5]
    obtain ⟨-, -, hl⟩ := okk hok
    have hjk : j < x.keys.length := by rw [hl h5]; exact hj
    obtain ⟨b, o, -, -, hf⟩ := (lies_keys h).at_ hjk
    exact (hf j _ (by rw [List.getD_eq_getElem?_getD, List.getElem?_eq_getElem hjk]; rfl)).2
  · rw [if_neg h5]; exact (by decide : (⟨#[]⟩ : ByteArray).size ≤ maxLen)
/-- What the definition's leaves answer. -/
def LeafQ (P : Nat → Prop) (l : List Lf) (w : World) (e : Ending) (w' : World) : Prop :=
  ∃ A c, e = .returned (.slice A l.length c) ∧ LeafRow (fun b => P b ∨ Fresh w w' b) w' A c l ∧ Below w.heap.size w w'
/-- The blocks that what was collected hangs on. -/
def PL (w : World) (P : Nat → Prop) (rO : Value) (W : World) (b : Nat) : Prop := P b ∨ (w.heap.size + 1 ≤ b ∧ b < W.heap.size ∧ some b ≠ rO.ownBlock)
/-- How far leaves are collected. -/
structure LQ (w : World) (P : Nat → Prop) (vc : Array Value) (acc : List Lf) (rO : Value) (css : List (List Value)) (W : World) : Prop where
  old : Below w.heap.size w W
  bv : BlockIs W w.heap.size 27 vc
  own : W.ownsRow (w.heap.size + 1) 47 6 rO acc.length css.flatten
  rows : LeafsIn (PL w P rO W) W acc css
theorem LeafsIn.one {P : Nat → Prop} {w : World} : ∀ {l : List Lf} {css : List (List Value)}, LeafsIn P w l css → ∀ u ∈ css.flatten, u.oneCell' = true
  | [], [], _, u, hu => by simp at hu
  | [], _ :: _, h, _, _ => h.elim
  | _ :: _, [], h, _, _ => h.elim
  | x :: r, cs :: css, h, u, hu => by
    rw [List.flatten_cons, List.mem_append] at hu
    rcases hu with hu | hu
    · obtain ⟨_, _, _, _, _, _, rfl, -⟩ := h.1
      simp only [List.mem_cons, List.not_mem_nil, or_false] at hu
      rcases hu with rfl | rfl | rfl | rfl | rfl | rfl <;> rfl
    · exact LeafsIn.one h.2 u hu
section
variable {w W W' w1 : World} {P : Nat → Prop} {vc : Array Value} {acc m : List Lf} {rO v' : Value} {css dss : List (List Value)} {A : Option Addr} {c : Nat}
theorem LQ.start (w : World) (P : Nat → Prop) (vc : Array Value) : LQ w P vc [] (.slice none 0 0) [] (w.alloc (.cells vc 27)) :=
  ⟨below_al (Below.refl _ w) _, BlockIs.new w _ _, World.ownsRow_nil _ _ _ _, trivial⟩
theorem LQ.lt (h : LQ w P vc acc rO css W) : w.heap.size + 1 ≤ W.heap.size := by have := h.bv.lt; omega
theorem PL.lt (hP : ∀ b, P b → b < w.heap.size) (h : LQ w P vc acc rO css W) {b : Nat} (hb : PL w P rO W b) : b < W.heap.size := by
  have := h.lt
  rcases hb with hb | hb
  · have := hP b hb; omega
  · exact hb.2.1
theorem LQ.on (hP : ∀ b, P b → b < w.heap.size) (h : LQ w P vc acc rO css W) (hb : Below W.heap.size W W') : LQ w P vc acc rO css W' := by
  refine ⟨below_on h.old hb, h.bv.below hb h.bv.lt, World.ownsRow.kept h.own (grown_none hb) ?_, h.rows.keep (fun b o hx => bcell hb b o (PL.lt hP h hx)) fun b hx => hx.imp id fun hx => ⟨hx.1, by have := hb.size; omega, hx.2.2⟩⟩
  cases rO.ownBlock
  · exact .inl rfl
  · exact .inr (by simp)
/-- What another call has collected, appended. -/
theorem LQ.more (hP : ∀ b, P b → b < w.heap.size) (h : LQ w P vc acc rO css W) (hm : LeafsIn (PL w P rO W) W m dss) (hgrow : W.grownBy w1 rO.ownBlock) (hown : w1.ownsRow (w.heap.size + 1) 47 6 v' (acc ++ m).length (css.flatten ++ dss.flatten)) (hv : v'.ownBlock = rO.ownBlock ∨ v'.ownBlock = some W.heap.size) :
    LQ w P vc (acc ++ m) v' (css ++ dss) w1 := by
  have hlt := h.lt
  have hob : ∀ b, rO.ownBlock = some b → w.heap.size + 1 ≤ b := fun b hb => (World.ownsRow.lt h.own b hb).1
  have hkeep : ∀ b, PL w P rO W b → w1.heap[b]? = W.heap[b]? := fun b hx => by
    have hb := PL.lt hP h hx
    refine hgrow.block b hb fun e => ?_
    rcases hx with hx | hx
    · have := hP b hx
      have := hob b e.symm
      omega
    · exact hx.2.2 e
  have hsz : W.heap.size ≤ w1.heap.size := hgrow.size
  have hpl : ∀ b, PL w P rO W b → PL w P v' w1 b := fun b hx => by
    have hb := PL.lt hP h hx
    refine hx.imp id fun hx => ⟨hx.1, by omega, fun e => ?_⟩
    rcases hv with hv | hv
    · rw [hv] at e; exact hx.2.2 e
    · rw [hv] at e
      have := Option.some.inj e
      omega
  have hbelow : Below w.heap.size w w1 := h.old.trans (below_grow hgrow (by omega) fun b hb => by have := hob b hb; omega)
  refine ⟨hbelow, h.bv.to (hgrow.block _ h.bv.lt fun e => by have := hob _ e.symm; omega), by rw [List.flatten_append]; exact hown, ?_⟩
  refine LeafsIn.append ?_ ?_
  · exact hm.keep (fun b o hx => World.cell?_of_block (hkeep b hx)) hpl
  · exact h.rows.keep (fun b o hx => World.cell?_of_block (hkeep b hx)) hpl
/-- What was collected, answered. -/
theorem LQ.done (h : LQ w P vc acc rO css W) : ∃ A c, rO = .slice A acc.length c ∧ LeafRow (fun b => P b ∨ Fresh w W b) W A c acc := by
  obtain ⟨a, cap, rfl⟩ := own_form h.own
  refine ⟨a, cap, rfl, ?_⟩
  have hrows : LeafsIn (fun b => P b ∨ Fresh w W b) W acc css := h.rows.keep (fun _ _ _ => rfl) fun b hx => hx.imp id fun hx => ⟨by have := hx.1; omega, hx.2.1⟩
  have ho5 := h.own
  obtain ⟨hl, ⟨he, h0⟩ | ⟨g, cap', cur, he, hbg, hg, hnc, hcm, hcs, ht⟩⟩ := ho5
  · simp only [Value.slice.injEq] at he
    have : acc = [] := List.length_eq_zero_iff.1 h0
    subst this
    exact ⟨by simp, by have := he.2.2; omega, css, hrows, .inl rfl⟩
  · simp only [Value.slice.injEq] at he
    obtain ⟨rfl, -, rfl⟩ := he
    refine ⟨hnc, hcm, css, hrows, .inr ⟨g, 0, rfl, .inr ⟨by omega, (World.ownsRow.lt h.own g rfl).2⟩, fun j u hu => ?_⟩⟩
    have := World.ownsRow.cells h.own (g := g) rfl j u hu
    rw [Addr.add_lit] at this
    exact this
/-- The cells that a list of leaves stands in. -/
theorem LeafRow.src {P : Nat → Prop} {W : World} (h : LeafRow P W A c m) (hm : 0 < m.length) : ∃ dss a, A = some a ∧ LeafsIn P W m dss ∧ dss.flatten.length = m.length * 6 ∧ ∀ j u, dss.flatten[j]? = some u → W.cell? (a.add j) = some u := by
  obtain ⟨-, -, dss, h3, h4⟩ := h
  rcases h4 with rfl | ⟨b, o, rfl, hb, hc⟩
  · simp at hm
  · exact ⟨dss, _, rfl, h3, h3.flat, fun j u hu => by rw [Addr.add_lit]; exact hc j u hu⟩
end
mutual
theorem leavesV_pos : ∀ (p : List Stp) (x : V), 0 < (leavesV p x).length
  | p, .mk k i t [] ks => by rw [leavesV]; simp
  | p, .mk k i t (c :: l) ks => by
    have := leavesV_pos (p ++ [stepI k ks 0]) c
    rw [leavesV, List.length_append]; omega
end
theorem leavesL_snocI (p : List Stp) (x : V) {j : Nat} {y : V} (hy : x.items[j]? = some y) : leavesL p x.kind x.keys 0 (x.items.take (j + 1)) = leavesL p x.kind x.keys 0 (x.items.take j) ++ leavesV (p ++ [stepI x.kind x.keys j]) y := by
  have hj := (List.getElem?_eq_some_iff.1 hy).1
  rw [List.take_add_one, hy, Option.toList_some, leavesL_snoc, List.length_take, Nat.min_eq_left (by omega), Nat.zero_add]
open Go.RowKit
theorem two_lt {w wr w2 : World} {P : Nat → Prop} (hP : ∀ b, P b → b < w.heap.size) (h : w.heap.size ≤ wr.heap.size) (h2 : wr.heap.size ≤ w2.heap.size) : ∀ b, (P b ∨ Fresh wr w2 b) → b < w2.heap.size := fun b hb => by
  rcases hb with hb | hb
  · have := hP b hb; omega
  · exact hb.2
theorem fresh_on {wr w1 w2 : World} {P : Nat → Prop} (h : wr.heap.size ≤ w1.heap.size) : ∀ b, Fresh w1 w2 b → P b ∨ Fresh wr w2 b := fun b hb => .inr ⟨by have := hb.1; omega, hb.2⟩
/-- The cells of a box and of an item. -/
theorem box_item {wr W : World} {g b2 q : Nat} {t : TypeId} {x0 x1 x2 x3 x4 y0 y1 y2 y3 y4 : Value} (hg : BlockIs wr g t #[x0, x1, x2, x3, x4]) (hb2 : b2 < wr.heap.size)
    (hy : wr.cell? ⟨b2, q, none⟩ = some y0 ∧ wr.cell? ⟨b2, q + 1, none⟩ = some y1 ∧ wr.cell? ⟨b2, q + 2, none⟩ = some y2 ∧ wr.cell? ⟨b2, q + 3, none⟩ = some y3 ∧ wr.cell? ⟨b2, q + 4, none⟩ = some y4) (hb : Below wr.heap.size wr W) :
    Hid (Below wr.heap.size wr W) ∧ (W.cell? ⟨g, 0, none⟩ = some x0 ∧ W.cell? ⟨g, 1, none⟩ = some x1 ∧ W.cell? ⟨g, 2, none⟩ = some x2 ∧ W.cell? ⟨g, 3, none⟩ = some x3 ∧ W.cell? ⟨g, 4, none⟩ = some x4) ∧ (W.cell? ⟨b2, q, none⟩ = some y0 ∧ W.cell? ⟨b2, q + 1, none⟩ = some y1 ∧ W.cell? ⟨b2, q + 2, none⟩ = some y2 ∧ W.cell? ⟨b2, q + 3, none⟩ = some y3 ∧ W.cell? ⟨b2, q + 4, none⟩ = some y4) := by
  obtain ⟨e0, e1, e2, e3, e4⟩ := hy
  exact ⟨Lib.hid hb, five_of (hg.below hb hg.lt), (bcell hb _ _ hb2).trans e0, (bcell hb _ _ hb2).trans e1, (bcell hb _ _ hb2).trans e2, (bcell hb _ _ hb2).trans e3, (bcell hb _ _ hb2).trans e4⟩
set_option maxRecDepth 100000 in
set_option maxHeartbeats 1000000 in
theorem refLeaves_leaf (P : Nat → Prop) (x : V) (p : List Stp) (w : World) (A K : Option Addr) (c d : Nat) (Ap : Option Addr) (cp : Nat) (hP : ∀ b, P b → b < w.heap.size) (hx : LiesIn P w x A c K d) (hp : PIn P w Ap cp p) (h0 : x.items = []) :
    Calls Tryz.prog 25 #[.agg #[.int .i64 x.kind, .int .i64 x.int, .string x.text, .slice A x.items.length c, .slice K x.keys.length d], .slice Ap p.length cp] w (LeafQ P (leavesV p x) w) := by
  rw [leavesV_none h0]
  obtain ⟨n, hn⟩ : ∃ n, n = x.items.length := ⟨_, rfl⟩
  have hnz : n = 0 := by rw [hn, h0]; rfl
  obtain ⟨m, hm⟩ : ∃ m, m = p.length := ⟨_, rfl⟩
  obtain ⟨W1, hW1⟩ : ∃ W1, W1 = w.alloc (.cells #[.int .i64 x.kind, .int .i64 x.int, .string x.text, .slice A n c, .slice K x.keys.length d] 27) := ⟨_, rfl⟩
  have hb1 : Below w.heap.size w W1 := by rw [hW1]; exact below_al (Below.refl _ w) _
  have hbx : BlockIs W1 w.heap.size 27 #[.int .i64 x.kind, .int .i64 x.int, .string x.text, .slice A n c, .slice K x.keys.length d] := by rw [hW1]; exact BlockIs.new w _ _
  have HX := Lib.hid (show LiesIn P W1 x A c K d from LiesIn.keep (fun b o hb => bcell hb1 b o (hP b hb)) (fun _ h => h) x hx)
  have HPP := Lib.hid (hp.keep (w' := W1) (P' := P) (fun b o hb => bcell hb1 b o (hP b hb)) (fun _ h => h))
  obtain ⟨v0, v1, v2, v3, v4⟩ := five_of hbx
  have vl := hbx.lt
  have HB := Lib.hid hb1
  have HW := Lib.hid hW1
  have HN := Lib.hid (And.intro hn hm)
  have HPB := Lib.hid hP
  rw [← hn, ← hm]
  have hn0 : ((n : Int) == 0) = true := by simp [hnz]
  clear hb1 hbx hW1 hn hm hx hp hnz h0 hP
  go_enter Tryz.func25, Tryz.ntmps25
  go_upto_region 1 with (fail)
  rw [← HW.out]
  go_wp2_with fail
  go_ret
  have hb2 := below_al (Below.refl _ W1) (.cells #[.slice Ap m cp, .int .i64 x.kind, .int .i64 x.int, .string x.text, .slice A n c, .slice K x.keys.length d] 47)
  refine ⟨_, _, rfl, ⟨Nat.le_refl _, by simp [maxLen], [[.slice Ap p.length cp, .int .i64 x.kind, .int .i64 x.int, .string x.text, .slice A x.items.length c, .slice K x.keys.length d]], ⟨⟨Ap, cp, A, c, K, d, rfl, ?_, ?_⟩, trivial⟩, .inr ⟨W1.heap.size, 0, rfl, .inr ⟨HB.out.size, by simp⟩, fun j u hu => ?_⟩⟩, HB.out.trans (hb2.mono HB.out.size)⟩
  · exact HPP.out.keep (fun b o hb => bcell hb2 b o (by have := HPB.out b hb; have := HB.out.size; omega)) (fun _ h => .inl h)
  · exact LiesIn.keep (fun b o hb => bcell hb2 b o (by have := HPB.out b hb; have := HB.out.size; omega)) (fun _ h => .inl h) x HX.out
  · rw [Nat.zero_add]
    refine ((BlockIs.new W1 47 #[.slice Ap m cp, .int .i64 x.kind, .int .i64 x.int, .string x.text, .slice A n c, .slice K x.keys.length d]).cell j).trans ?_
    rw [List.getElem?_toArray, HN.out.1, HN.out.2]
    simpa using hu
set_option maxRecDepth 100000 in
set_option maxHeartbeats 4000000 in
theorem refLeaves_step (P : Nat → Prop) (x : V) (p : List Stp) (w : World) (A K : Option Addr) (c d : Nat) (Ap : Option Addr) (cp : Nat) (hP : ∀ b, P b → b < w.heap.size) (hx : LiesIn P w x A c K d) (hp : PIn P w Ap cp p) (hok : x.ok = true) (hn : x.nodes ≤ 5000) (hd : p.length + x.depth ≤ 7) (h0 : ¬ x.items = [])
    (ih : ∀ y ∈ x.items, ∀ (Q : Nat → Prop) (q : List Stp) (W : World) (A K : Option Addr) (c d : Nat) (Ap : Option Addr) (cp : Nat), (∀ b, Q b → b < W.heap.size) → LiesIn Q W y A c K d → PIn Q W Ap cp q → q.length + y.depth ≤ 7 →
      Calls Tryz.prog 25 #[.agg #[.int .i64 y.kind, .int .i64 y.int, .string y.text, .slice A y.items.length c, .slice K y.keys.length d], .slice Ap q.length cp] W (LeafQ Q (leavesV q y) W)) :
    Calls Tryz.prog 25 #[.agg #[.int .i64 x.kind, .int .i64 x.int, .string x.text, .slice A x.items.length c, .slice K x.keys.length d], .slice Ap p.length cp] w (LeafQ P (leavesV p x) w) := by
  obtain ⟨iv0, hiv, hzv0, hzv1, hzv2⟩ := info_parts (P := Tryz.prog) (e := 47) (z := .agg #[.slice none 0 0, .int .i64 0, .int .i64 0, .string ⟨#[]⟩, .slice none 0 0, .slice none 0 0]) (size := 6) (bytes := 104) (by kernel_rfl)
  obtain ⟨R, hR⟩ : ∃ R, R = leavesV p x := ⟨_, rfl⟩
  have HR := Lib.hid (hR.trans (leavesV_items h0))
  have hlen : 0 < x.items.length := List.length_pos_iff.2 h0
  have HDP := Lib.hid (show ∀ y ∈ x.items, (p.length + 1) + y.depth ≤ 7 from fun y hy => by
    have := V.depth_mem hy
    obtain ⟨k, i, t, l, ks⟩ := x
    simp only [V.items, V.depth] at this hd
    omega)
  have hp5 : p.length ≤ 5 := by
    obtain ⟨y, hy⟩ := List.exists_mem_of_ne_nil _ h0
    have := HDP.out y hy
    have := V.depth_pos y
    omega
  have HLX := Lib.hid fun W (hW : Below w.heap.size w W) => show LiesIn P W x A c K d from LiesIn.keep (fun b o hb => bcell hW b o (hP b hb)) (fun _ h => h) x hx
  have HPP := Lib.hid fun W (hW : Below w.heap.size w W) => show PIn P W Ap cp p from hp.keep (fun b o hb => bcell hW b o (hP b hb)) (fun _ h => h)
  have HIH := Lib.hid ih
  have HOK := Lib.hid (And.intro hok hn)
  have HP := Lib.hid hP
  have HL0 := Lib.hid (LQ.start w P #[.int .i64 x.kind, .int .i64 x.int, .string x.text, .slice A x.items.length c, .slice K x.keys.length d])
  have hxc := (inn_items hx).1
  have hxm := (inn_items hx).2.1
  unfold maxLen at hxm
  obtain ⟨n, hnn⟩ : ∃ n, n = x.items.length := ⟨_, rfl⟩
  obtain ⟨m, hm⟩ : ∃ m, m = p.length := ⟨_, rfl⟩
  have HN := Lib.hid (And.intro hnn hm)
  have hnb : n ≤ 5000 := by have := nodes_items x; have := length_le_nodesL x.items; omega
  rw [← hR, ← hnn, ← hm]
  rw [← hnn] at HL0
  have hn0 : ((n : Int) == 0) = false := by simp; omega
  have hm6 : ((m : Int) == 6) = false := by simp; omega
  have hm5 : m ≤ 5 := by rw [hm]; exact hp5
  clear hx hp hok hn hd h0 ih hP hR hlen hxc hxm hnn hp5 hm
  go_enter Tryz.func25, Tryz.ntmps25
  go_upto_region 1 with (fail)
  obtain ⟨W1, hW1⟩ : ∃ W1, W1 = w.alloc (.cells #[.int .i64 x.kind, .int .i64 x.int, .string x.text, .slice A n c, .slice K x.keys.length d] 27) := ⟨_, rfl⟩
  have HL1 := Lib.hid (show LQ w P #[.int .i64 x.kind, .int .i64 x.int, .string x.text, .slice A n c, .slice K x.keys.length d] [] (.slice none 0 0) [] W1 by rw [hW1]; exact HL0.out)
  rw [← hW1]
  clear HL0 hW1
  obtain ⟨v0, v1, v2, v3, v4⟩ := five_of HL1.out.bv
  have vl := HL1.out.bv.lt
  go_wp2_with fail
  go_loopw [5, 6] (fun ov iv wr => ∃ (j : Nat) (css : List (List Value)), iv = .int .i64 j ∧ j ≤ n ∧ Hid (LQ w P #[.int .i64 x.kind, .int .i64 x.int, .string x.text, .slice A n c, .slice K x.keys.length d] (leavesL p x.kind x.keys 0 (x.items.take j)) ov css wr)) (fun _ iv _ => n - (intOf iv).toNat)
  case atStart => exact ⟨0, [], rfl, Nat.zero_le _, by simpa [leavesL] using HL1⟩
  case round =>
    clear v0 v1 v2 v3 v4 vl HL1
    obtain ⟨j, css, rfl, hj, HI⟩ := hrel
    obtain ⟨RA, rc, hov⟩ := own_form HI.out.own
    subst hov
    have HBX := Lib.hid HI.out.bv
    by_cases hlt : j < n
    · have hjn : (j : Int) < n := by omega
      have hj0 : (0 : Int) ≤ j := by omega
      have hji : j < x.items.length := by have := HN.out.1; omega
      obtain ⟨y, hy⟩ : ∃ y, x.items[j]? = some y := ⟨_, List.getElem?_eq_getElem hji⟩
      have hlx := HLX.out wr HI.out.old
      obtain ⟨b2, o2, rfl, hb2, hfrom⟩ := inn_at hlx hji
      obtain ⟨Ay, cy, Ky, dy, ⟨y0, y1, y2, y3, y4⟩, hly⟩ := hfrom.at_ hy
      have hb2w : b2 < wr.heap.size := by have := HP.out b2 hb2; have := HI.out.old.size; omega
      have HYC := Lib.hid (And.intro y0 (And.intro y1 (And.intro y2 (And.intro y3 y4))))
      obtain ⟨s, hs⟩ : ∃ s, s = stepI x.kind x.keys j := ⟨_, rfl⟩
      have hlies := LiesIn.lies (B := wr.heap.size) (fun b hb => by have := HP.out b hb; have := HI.out.old.size; omega) x hlx
      have hss := stepI_size hlies HOK.out.1 hji
      rw [← hs] at hss
      have HST := Lib.hid (show Calls Tryz.prog 41 #[.agg #[.int .i64 x.kind, .int .i64 x.int, .string x.text, .slice (some ⟨b2, o2, none⟩) n c, .slice K x.keys.length d], .int .i64 j] wr.drew fun e w' => e = .returned (.agg #[.int .i64 s.1, .string s.2]) ∧ Below wr.drew.heap.size wr.drew w' from by
        have := refStep_any x wr.drew (some ⟨b2, o2, none⟩) K c d j (lies_on hlies (Below.refl _ wr).drew) HOK.out.1 hji
        rw [← hs, ← HN.out.1] at this
        exact this)
      have HLG := Lib.hid fun W (hW : Below wr.heap.size wr W) => show Calls Tryz.prog 40 #[.slice Ap m cp, .agg #[.int .i64 s.1, .string s.2]] W fun e w' => ∃ A' c', e = .returned (.slice A' (m + 1) c') ∧ PIn (Fresh W w') w' A' c' (p ++ [s]) ∧ Below W.heap.size W w' from by
        have hw := below_on HI.out.old hW
        have := longer_any P p s.1 s.2 W Ap cp (fun b hb => by have := HP.out b hb; have := hw.size; omega) (HPP.out W hw) (by have := HN.out.2; omega) hss
        rw [← HN.out.2] at this
        exact this
      have HIC := Lib.hid fun (Q : Nat → Prop) W A' c' (hQ : ∀ b, Q b → b < W.heap.size) (hPQ : ∀ b, P b → Q b) (hW : Below wr.heap.size wr W) (hq : PIn Q W A' c' (p ++ [s])) => show Calls Tryz.prog 25 #[.agg #[.int .i64 y.kind, .int .i64 y.int, .string y.text, .slice Ay y.items.length cy, .slice Ky y.keys.length dy], .slice A' (m + 1) c'] W (LeafQ Q (leavesV (p ++ [s]) y) W) from by
        have := HIH.out y (List.mem_of_getElem? hy) Q (p ++ [s]) W Ay Ky cy dy A' c' hQ (LiesIn.keep (fun b o hb => bcell hW b o (by have := HP.out b hb; have := HI.out.old.size; omega)) hPQ y hly) hq (by rw [List.length_append]; exact HDP.out y (List.mem_of_getElem? hy))
        rw [List.length_append, ← HN.out.2] at this
        exact this
      obtain ⟨mm, hmm⟩ : ∃ mm, mm = leavesV (p ++ [s]) y := ⟨_, rfl⟩
      rw [← hmm] at HIC
      have hmp : 0 < mm.length := by rw [hmm]; exact leavesV_pos _ _
      have HSN := Lib.hid (show leavesL p x.kind x.keys 0 (x.items.take (j + 1)) = leavesL p x.kind x.keys 0 (x.items.take j) ++ mm by rw [hmm, hs]; exact leavesL_snocI p x hy)
      have hbound : (leavesL p x.kind x.keys 0 (x.items.take j)).length + mm.length ≤ 5000 := by
        have h1 := leavesL_length p x.kind x.keys (x.items.take (j + 1)) 0
        rw [HSN.out, List.length_append] at h1
        have h2 := V.nodesL_take_le x.items (j + 1)
        have h3 := nodes_items x
        have h4 := HOK.out.2
        omega
      obtain ⟨v0, v1, v2, v3, v4⟩ := five_of HBX.out
      clear hy hji hlx hfrom hly y0 y1 y2 y3 y4 hb2 hs hlies hss hmm
      go_upto_region 7 with (fail)
      clear v0 v1 v2 v3 v4
      go_region_held3 (fun W => Hid (Below wr.heap.size wr W) ∧ (W.cell? ⟨w.heap.size, 0, none⟩ = some (.int .i64 x.kind) ∧ W.cell? ⟨w.heap.size, 1, none⟩ = some (.int .i64 x.int) ∧ W.cell? ⟨w.heap.size, 2, none⟩ = some (.string x.text) ∧ W.cell? ⟨w.heap.size, 3, none⟩ = some (.slice (some ⟨b2, o2, none⟩) n c) ∧ W.cell? ⟨w.heap.size, 4, none⟩ = some (.slice K x.keys.length d)) ∧ (W.cell? ⟨b2, o2 + j * 5, none⟩ = some (.int .i64 y.kind) ∧ W.cell? ⟨b2, o2 + j * 5 + 1, none⟩ = some (.int .i64 y.int) ∧ W.cell? ⟨b2, o2 + j * 5 + 2, none⟩ = some (.string y.text) ∧ W.cell? ⟨b2, o2 + j * 5 + 3, none⟩ = some (.slice Ay y.items.length cy) ∧ W.cell? ⟨b2, o2 + j * 5 + 4, none⟩ = some (.slice Ky y.keys.length dy)))
        (first
          | (with_reducible exact box_item HBX.out hb2w HYC.out (Below.drew (Below.refl _ _)))
          | (with_reducible exact box_item HBX.out hb2w HYC.out hB1)
          | (with_reducible exact box_item HBX.out hb2w HYC.out hB2)
          | (with_reducible exact box_item HBX.out hb2w HYC.out hB3))
        (first
          | (go_at_call 41; refine HST.out.mono ?_; rintro e w1 ⟨rfl, h1⟩; have hB1 : Below wr.heap.size wr w1 := (by go_split_ands; exact below_on (Hid.out (by assumption)) h1))
          | (go_at_call 40; refine (HLG.out _ hB1).mono ?_; rintro e w2 ⟨A2, c2, rfl, hp2, h2⟩; have hB2 : Below wr.heap.size wr w2 := below_on hB1 h2; have HI2 := HIC.out (fun b => P b ∨ Fresh wr w2 b) w2 A2 c2 (two_lt HP.out HI.out.old.size hB2.size) (fun _ h => .inl h) hB2 (hp2.keep (fun _ _ _ => rfl) (fresh_on hB1.size)))
          | (go_at_call 25; refine HI2.mono ?_; rintro e w3 ⟨A3, c3, rfl, hl3, h3⟩; have hB3 : Below wr.heap.size wr w3 := below_on hB2 h3))
      have HI3 := Lib.hid (HI.out.on HP.out hB3)
      obtain ⟨dss, a3, rfl, hrow, hflat, hsrc⟩ := hl3.src hmp
      have HM := Lib.hid (show LeafsIn (PL w P (.slice RA (leavesL p x.kind x.keys 0 (x.items.take j)).length rc) w3) w3 mm dss from hrow.keep (fun _ _ _ => rfl) fun b hb => by
        have hlw := HI.out.lt
        have hs2 := hB2.size
        have hs3 := h3.size
        have hne : wr.heap.size ≤ b → some b ≠ (Value.slice RA (leavesL p x.kind x.keys 0 (x.items.take j)).length rc).ownBlock := fun hle e => by
          have := (World.ownsRow.lt HI.out.own b e.symm).2
          omega
        rcases hb with (hb | hb) | hb
        · exact .inl hb
        · exact .inr ⟨by have := hb.1; omega, by have := hb.2; omega, hne hb.1⟩
        · exact .inr ⟨by have := hb.1; omega, hb.2, hne (by have := hb.1; omega)⟩)
      have hone := LeafsIn.one hrow
      clear hl3 hrow hp2 h1 h2 h3 hB1 hB2 hB3 HI2 HST HLG HIC HYC hb2w
      obtain ⟨ql, hql⟩ : ∃ ql, ql = (leavesL p x.kind x.keys 0 (x.items.take j)).length := ⟨_, rfl⟩
      obtain ⟨mq, hmq⟩ : ∃ mq, mq = mm.length := ⟨_, rfl⟩
      have HQL := Lib.hid (And.intro hql hmq)
      have hlw := HI3.out.lt
      have HOW := Lib.hid (show w3.ownsRow (w.heap.size + 1) 47 6 (.slice RA ql rc) ql css.flatten by rw [hql]; exact HI3.out.own)
      rw [← hql, ← hmq] at hbound
      rw [← hmq] at hmp hflat
      all_goals (try rw [← hql, ← hmq])
      clear hql hmq
      go_wp2_with (at_builtin; refine wpList_append_lies _ rfl _ _ 22 rfl (w.heap.size + 1) 47 iv0 (.agg #[.slice none 0 0, .int .i64 0, .int .i64 0, .string ⟨#[]⟩, .slice none 0 0, .slice none 0 0]) 6 104 Tryz.underlying22 hiv hzv0 hzv1 hzv2 rfl (by decide) (.slice RA ql rc) ql css.flatten rfl HOW.out a3 mq c3 dss.flatten rfl hflat hsrc hone hmp (by unfold maxLen; omega) (by omega) (by omega) _ rfl ?_; intro g' cap w5 hown hgrow hat hlt')
      have HL5 := Lib.hid (show LQ w P #[.int .i64 x.kind, .int .i64 x.int, .string x.text, .slice (some ⟨b2, o2, none⟩) n c, .slice K x.keys.length d] (leavesL p x.kind x.keys 0 (x.items.take (j + 1))) (.slice (some ⟨g', 0, none⟩) (ql + mq) cap) (css ++ dss) w5 from by
        rw [HSN.out]
        exact HI3.out.more HP.out HM.out (by rw [← HQL.out.1]; exact hgrow) (by rw [List.length_append, ← HQL.out.1, ← HQL.out.2]; exact hown) (by
          rcases hat with hat | hat
          · left; rw [← HQL.out.1, hat]; rfl
          · right; rw [← hat]; rfl))
      clear hown hgrow hat hlt'
      go_wp2_with fail
      go_roundw
      case rel => exact ⟨j + 1, _, by go_num, by omega, HL5⟩
      case measure => simp [intOf]; omega
    · have hjn : ¬ ((j : Int) < n) := by omega
      have hall : x.items.take j = x.items := List.take_of_length_le (by have := HN.out.1; omega)
      obtain ⟨A9, c9, he9, hl9⟩ := HI.out.done
      have HE9 := Lib.hid (And.intro he9 hl9)
      rw [hall, ← HR.out] at HE9
      obtain ⟨v0, v1, v2, v3, v4⟩ := five_of HBX.out
      clear he9 hl9
      go_wp2_with fail
      go_ret
      refine ⟨A9, c9, ?_, HE9.out.2, HI.out.old⟩
      show Ending.returned (.slice RA (leavesL p x.kind x.keys 0 x.items).length rc) = _
      rw [← HR.out, ← HE9.out.1]
theorem refLeaves_any : ∀ (N : Nat) (x : V), x.nodes ≤ N → x.ok = true → x.nodes ≤ 5000 → ∀ (P : Nat → Prop) (p : List Stp) (w : World) (A K : Option Addr) (c d : Nat) (Ap : Option Addr) (cp : Nat), (∀ b, P b → b < w.heap.size) → LiesIn P w x A c K d → PIn P w Ap cp p → p.length + x.depth ≤ 7 →
    Calls Tryz.prog 25 #[.agg #[.int .i64 x.kind, .int .i64 x.int, .string x.text, .slice A x.items.length c, .slice K x.keys.length d], .slice Ap p.length cp] w (LeafQ P (leavesV p x) w)
  | 0, x, hN, _, _, _, _, _, _, _, _, _, _, _, _, _, _, _ => by have := V.nodes_pos x; omega
  | N + 1, x, hN, hok, hn, P, p, w, A, K, c, d, Ap, cp, hP, hx, hp, hd => by
    by_cases h0 : x.items = []
    · exact refLeaves_leaf P x p w A K c d Ap cp hP hx hp h0
    · exact refLeaves_step P x p w A K c d Ap cp hP hx hp hok hn hd h0 fun y hy Q q W A K c d Ap cp hQ h1 h2 h3 =>
        refLeaves_any N y (by have := V.nodes_mem hy; have := nodes_items x; omega) (okItems hok y hy) (by have := V.nodes_mem hy; have := nodes_items x; omega) Q q W A K c d Ap cp hQ h1 h2 h3
open Go.RowKit
theorem valid_deep {x : V} (h : x.valid = true) : x.ok = true ∧ x.nodes ≤ 60 ∧ x.depth ≤ 6 := by
  unfold V.valid V.fits at h
  simp only [Bool.and_eq_true, decide_eq_true_eq] at h
  exact ⟨h.1.1, h.1.2, h.2⟩
theorem LeafRow.none (w : World) (P : Nat → Prop) : LeafRow P w none 0 [] := ⟨Nat.le_refl _, Nat.zero_le _, [], trivial, .inl rfl⟩
open Go.RowKit
section
variable {w W : World} {P : Nat → Prop} {vc : Array Value} {acc : List Lf} {rO : Value} {css : List (List Value)} {y : V} {s : Stp} {Ay Ky : Option Addr} {cy dy : Nat}
/-- A leaf of one step, made behind the collected ones. -/
theorem LQ.fresh (hP : ∀ b, P b → b < w.heap.size) (h : LQ w P vc acc rO css W) (hy : LiesIn (PL w P rO W) W y Ay cy Ky dy) (hs : s.2.size ≤ maxLen) {X : World} (hX : X = (W.alloc (.cells #[.int .i64 s.1, .string s.2] 34)).alloc (.cells #[.slice (some ⟨W.heap.size, 0, none⟩) 1 1, .int .i64 y.kind, .int .i64 y.int, .string y.text, .slice Ay y.items.length cy, .slice Ky y.keys.length dy] 47)) :
    LQ w P vc acc rO css X ∧ LeafsIn (PL w P rO X) X [([s], y)] [[.slice (some ⟨W.heap.size, 0, none⟩) 1 1, .int .i64 y.kind, .int .i64 y.int, .string y.text, .slice Ay y.items.length cy, .slice Ky y.keys.length dy]] ∧ BlockIs X (W.heap.size + 1) 47 #[.slice (some ⟨W.heap.size, 0, none⟩) 1 1, .int .i64 y.kind, .int .i64 y.int, .string y.text, .slice Ay y.items.length cy, .slice Ky y.keys.length dy] := by
  have hb : Below W.heap.size W X := by rw [hX]; exact below_al (below_al (Below.refl _ W) _) _
  have hsz : X.heap.size = W.heap.size + 2 := by rw [hX]; simp
  have hps : BlockIs X W.heap.size 34 #[.int .i64 s.1, .string s.2] := by rw [hX]; exact (BlockIs.new W _ _).alloc _
  have hlf : BlockIs X (W.heap.size + 1) 47 #[.slice (some ⟨W.heap.size, 0, none⟩) 1 1, .int .i64 y.kind, .int .i64 y.int, .string y.text, .slice Ay y.items.length cy, .slice Ky y.keys.length dy] := by rw [hX]; exact BlockIs.newAt _ _ _ (by simp)
  have hlt := h.lt
  refine ⟨h.on hP hb, ⟨⟨_, _, Ay, cy, Ky, dy, rfl, ⟨Nat.le_refl _, by simp [maxLen], .inr ⟨W.heap.size, 0, rfl, .inr ⟨by omega, by omega, fun e => ?_⟩, hps.cell 0, hps.cell 1, hs, trivial⟩⟩, ?_⟩, trivial⟩, hlf⟩
  · have := (World.ownsRow.lt h.own _ e.symm).2
    omega
  · exact LiesIn.keep (fun b o hx => bcell hb b o (PL.lt hP h hx)) (fun b hx => hx.imp id fun hx => ⟨hx.1, by omega, hx.2.2⟩) y hy
end
open Go.RowKit
mutual
theorem Tree.inn {P : Nat → Prop} {w : World} {N : Nat} : ∀ (x : V) {vI vK : Value} {D : Nat → Prop}, Tree w N x vI vK D → (∀ b, D b → P b) → ∃ A c K d, vI = .slice A x.items.length c ∧ vK = .slice K x.keys.length d ∧ LiesIn P w x A c K d
  | .mk _ _ _ items keys, vI, vK, D, h, hD => by
    obtain ⟨h1, h2, h3, h4, h5, css, h6, h7⟩ := h
    have hcI := fun g hg => World.ownsRow.cells h6 (g := g) hg
    have hcK := fun g hg => World.ownsRow.cells h3 (g := g) hg
    obtain ⟨K, d, rfl, k1, k2, k3⟩ : ∃ K d, vK = Value.slice K keys.length d ∧ keys.length ≤ d ∧ d ≤ maxLen ∧ (keys = [] ∨ ∃ b o, K = some ⟨b, o, none⟩ ∧ P b ∧ StrsFrom w keys b o) := by
      obtain ⟨hl, ⟨rfl, h0⟩ | ⟨g, cap, cur, rfl, hB, hb, hn, hm, hs, ht⟩⟩ := h3
      · exact ⟨none, 0, (by rw [h0]), by omega, by simp [maxLen], .inl (List.length_eq_zero_iff.1 h0)⟩
      · refine ⟨_, _, rfl, hn, hm, .inr ⟨g, 0, rfl, hD g (h5 g rfl).1, keys_from h2 fun j v hj => ?_⟩⟩
        have := hcK g rfl j v hj
        rw [Addr.add_lit] at this
        exact this
    obtain ⟨A, c, rfl, i1, i2, i3⟩ : ∃ A c, vI = Value.slice A items.length c ∧ items.length ≤ c ∧ c ≤ maxLen ∧ (items = [] ∨ ∃ b o, A = some ⟨b, o, none⟩ ∧ P b ∧ LiesFromIn P w items b o) := by
      obtain ⟨hl, ⟨rfl, h0⟩ | ⟨g, cap, cur, rfl, hB, hb, hn, hm, hs, ht⟩⟩ := h6
      · exact ⟨none, 0, by rw [h0], by omega, by simp [maxLen], .inl (List.length_eq_zero_iff.1 h0)⟩
      · refine ⟨_, _, rfl, hn, hm, .inr ⟨g, 0, rfl, hD g (h4 g rfl), Trees.inn items h7 (fun b hb => hD b hb.1) fun j v hj => ?_⟩⟩
        have := hcI g rfl j v hj
        rw [Addr.add_lit] at this
        exact this
    exact ⟨A, c, K, d, rfl, rfl, h1, i1, i2, ⟨k1, k2, k3⟩, i3⟩
theorem Trees.inn {P : Nat → Prop} {w : World} {N b : Nat} : ∀ (l : List V) {css : List (List Value)} {D : Nat → Prop} {o : Nat}, Trees w N l css D → (∀ b, D b → P b) → (∀ (j : Nat) (v : Value), css.flatten[j]? = some v → w.cell? ⟨b, o + j, none⟩ = some v) → LiesFromIn P w l b o
  | [], [], _, _, _, _, _ => trivial
  | x :: r, cs :: t, _, o, h, hD, hc => by
    obtain ⟨D1, D2, h1, h2, ⟨vI, vK, rfl, hx⟩, hr⟩ := h
    obtain ⟨A, c, K, d, rfl, rfl, hl⟩ := Tree.inn x hx (fun b hb => hD b (h1 b hb))
    refine ⟨⟨A, c, K, d, hc 0 _ rfl, hc 1 _ rfl, hc 2 _ rfl, hc 3 _ rfl, hc 4 _ rfl, hl⟩, Trees.inn r hr (fun b hb => hD b (h2 b hb).1) fun j v hj => ?_⟩
    have := hc (j + 5) v (by rw [List.flatten_cons, List.getElem?_append_right (by simp)]; simpa using hj)
    rw [show o + 5 + j = o + (j + 5) by omega]
    exact this
  | [], _ :: _, _, _, h, _, _ => h.elim
  | _ :: _, [], _, _, h, _, _ => h.elim
end
set_option maxRecDepth 100000 in
set_option maxHeartbeats 1000000 in
theorem stepTo_list (x : V) (w : World) (A K : Option Addr) (c d j : Nat) (h5 : ¬ x.kind = 5) :
    Calls Tryz.prog 68 #[.agg #[.int .i64 x.kind, .int .i64 x.int, .string x.text, .slice A x.items.length c, .slice K x.keys.length d], .int .i64 j] w fun e w' => e = .returned (.agg #[.int .i64 j, .string ⟨#[]⟩]) ∧ Below w.heap.size w w' := by
  obtain ⟨W1, hW1⟩ : ∃ W1, W1 = (w.alloc (.cells #[.int .i64 x.kind, .int .i64 x.int, .string x.text, .slice A x.items.length c, .slice K x.keys.length d] 27)).alloc (.cells #[.int .i64 0, .string ⟨#[]⟩] 34) := ⟨_, rfl⟩
  have hb1 : Below w.heap.size w W1 := by rw [hW1]; exact below_al (below_al (Below.refl _ w) _) _
  have v0 : W1.cell? ⟨w.heap.size, 0, none⟩ = some (.int .i64 x.kind) := by rw [hW1]; exact ((BlockIs.new w _ _).alloc _).cell 0
  have hs := (BlockIs.newAt (w.alloc (.cells #[.int .i64 x.kind, .int .i64 x.int, .string x.text, .slice A x.items.length c, .slice K x.keys.length d] 27)) 34 #[.int .i64 0, .string ⟨#[]⟩] (n := w.heap.size + 1) (by simp))
  rw [← hW1] at hs
  have hkb : (x.kind == 5) = false := by simp [h5]
  have HB := Lib.hid hb1
  have HW := Lib.hid hW1
  have HS := Lib.hid hs
  clear hb1 hW1 hs h5
  obtain ⟨s0, s1⟩ : W1.cell? ⟨w.heap.size + 1, 0, none⟩ = some (.int .i64 0) ∧ W1.cell? ⟨w.heap.size + 1, 1, none⟩ = some (.string ⟨#[]⟩) := ⟨HS.out.cell 0, HS.out.cell 1⟩
  have f0 := HS.out.frozen 0
  have f1 := HS.out.frozen 1
  have sl := HS.out.lt
  go_enter Tryz.func68, Tryz.ntmps68
  go_upto_region 1 with (fail)
  rw [← HW.out]
  go_wp2_with fail
  refine bodyPost_ret (v := .agg #[.int .i64 j, .string ⟨#[]⟩]) (by simp [results, Tryz.results68, go_sem, s0, s1]) rfl ?_
  exact ⟨rfl, (HB.out.setCell (by simp) _).setCell (by simp) _⟩
/-- The step to an item, as the program says it. -/
theorem stepTo_any (x : V) (w : World) (A K : Option Addr) (c d j : Nat) (h : Lies w w.heap.size x A c K d) (hok : x.ok = true) (hj : j < x.items.length) :
    Calls Tryz.prog 68 #[.agg #[.int .i64 x.kind, .int .i64 x.int, .string x.text, .slice A x.items.length c, .slice K x.keys.length d], .int .i64 j] w fun e w' => e = .returned (.agg #[.int .i64 (stepI x.kind x.keys j).1, .string (stepI x.kind x.keys j).2]) ∧ Below w.heap.size w w' := by
  by_cases h5 : x.kind = 5
  · obtain ⟨-, -, hl⟩ := okk hok
    have hjk : j < x.keys.length := by rw [hl h5]; exact hj
    have := stepTo_key x w A K c d j (x.keys.getD j ⟨#[]⟩) h h5 (by rw [List.getD_eq_getElem?_getD, List.getElem?_eq_getElem hjk]; rfl)
    unfold stepI
    rw [if_pos h5]
    exact this
  · have := stepTo_list x w A K c d j h5
    unfold stepI
    rw [if_neg h5]
    exact this
section
variable {w W W' w5 : World} {P : Nat → Prop} {vc : Array Value} {acc : List Lf} {rO : Value} {css : List (List Value)} {y : V} {s : Stp} {Az Kz : Option Addr} {cz dz p g ql : Nat}
theorem PL.on (hP : ∀ b, P b → b < w.heap.size) (h : LQ w P vc acc rO css W) (hb : Below W.heap.size W W') (hl : LiesIn (PL w P rO W) W y Az cz Kz dz) : LiesIn (PL w P rO W') W' y Az cz Kz dz :=
  LiesIn.keep (fun b o hx => bcell hb b o (PL.lt hP h hx)) (fun b hx => hx.imp id fun hx => ⟨hx.1, by have := hb.size; omega, hx.2.2⟩) y hl
/-- What a call made behind the collected row is apart from it. -/
theorem PL.new (h : LQ w P vc acc rO css W) {X : World} (hW : W.heap.size ≤ X.heap.size) : ∀ b, Fresh X W' b → PL w P rO W' b := fun b hb => .inr ⟨by have := h.lt; have := hb.1; omega, hb.2, fun e => by
  have := (World.ownsRow.lt h.own b e.symm).2
  have := hb.1
  omega⟩
theorem LQ.leaf (hP : ∀ b, P b → b < w.heap.size) (h : LQ w P vc acc rO css W) (hps : BlockIs W p 34 #[.int .i64 s.1, .string s.2]) (hp : PL w P rO W p) (hy : LiesIn (PL w P rO W) W y Az cz Kz dz) (hs : s.2.size ≤ maxLen) {X : World} (hX : X = W.alloc (.cells #[.slice (some ⟨p, 0, none⟩) 1 1, .int .i64 y.kind, .int .i64 y.int, .string y.text, .slice Az y.items.length cz, .slice Kz y.keys.length dz] 47)) :
    LQ w P vc acc rO css X ∧ LeafsIn (PL w P rO X) X [([s], y)] [[.slice (some ⟨p, 0, none⟩) 1 1, .int .i64 y.kind, .int .i64 y.int, .string y.text, .slice Az y.items.length cz, .slice Kz y.keys.length dz]] ∧ BlockIs X W.heap.size 47 #[.slice (some ⟨p, 0, none⟩) 1 1, .int .i64 y.kind, .int .i64 y.int, .string y.text, .slice Az y.items.length cz, .slice Kz y.keys.length dz] := by
  have hb : Below W.heap.size W X := by rw [hX]; exact below_al (Below.refl _ W) _
  have hsz : X.heap.size = W.heap.size + 1 := by rw [hX]; simp
  have hps2 := hps.below hb hps.lt
  refine ⟨h.on hP hb, ⟨⟨_, _, Az, cz, Kz, dz, rfl, ⟨Nat.le_refl _, by simp [maxLen], .inr ⟨p, 0, rfl, hp.imp id fun hx => ⟨hx.1, by omega, hx.2.2⟩, hps2.cell 0, hps2.cell 1, hs, trivial⟩⟩, PL.on hP h hb hy⟩, trivial⟩, by rw [hX]; exact BlockIs.new W _ _⟩
end
end Go.Proofs.YtchadlbhdcpojaaGreatDoor
