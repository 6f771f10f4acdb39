/- The leaves of a value: plain, and where a list of leaves lies. -/
import Derived.Test.YtchadlbhdcpojaaDoorTb
import Derived.Test.YtchadlbhdcpojaaDoorZr
import Derived.Test.YtchadlbhdcpojaaDoorJe
import Derived.Test.YtchadlbhdcpojaaDoorJf
import Derived.Test.YtchadlbhdcpojaaDoorJd
import Derived.Test.YtchadlbhdcpojaaDoorJa
import Derived.Test.YtchadlbhdcpojaaDoorJc
import Derived.Deep.AppendLies
import Derived.Deep.RegionHeld3
import Derived.Test.YtchadlbhdcpojaaDoorYe
namespace Go.Proofs.YtchadlbhdcpojaaDoor
open Go.RowKit
/-- A leaf: its path, its value. -/
abbrev Lf := List Stp × V
/-- The step to an item. -/
def stepI (kd : Int) (ks : List ByteArray) (n : Nat) : Stp := if kd = 5 then (-1, ks.getD n ⟨#[]⟩) else (n, ⟨#[]⟩)
mutual
/-- The leaves of a value that is at a path. -/
def leavesV (p : List Stp) : V → List Lf
  | .mk k i t [] ks => [(p, .mk k i t [] ks)]
  | .mk k _ _ (c :: l) ks => leavesV (p ++ [stepI k ks 0]) c ++ leavesL p k ks 1 l
def leavesL (p : List Stp) (k : Int) (ks : List ByteArray) (n : Nat) : List V → List Lf
  | [] => []
  | c :: l => leavesV (p ++ [stepI k ks n]) c ++ leavesL p k ks (n + 1) l
end
theorem leavesV_items {p : List Stp} {x : V} (h : x.items ≠ []) : leavesV p x = leavesL p x.kind x.keys 0 x.items := by
  obtain ⟨k, i, t, l, ks⟩ := x
  cases l with
  | nil => exact absurd rfl h
  | cons c l => rw [leavesV]; show _ = leavesL p k ks 0 (c :: l); rw [leavesL]
theorem leavesV_none {p : List Stp} {x : V} (h : x.items = []) : leavesV p x = [(p, x)] := by
  obtain ⟨k, i, t, l, ks⟩ := x
  simp only [V.items] at h
  subst h
  rw [leavesV]
/-- The items, each at the step to it. -/
def itemsL (k : Int) (ks : List ByteArray) (n : Nat) : List V → List Lf
  | [] => []
  | c :: l => ([stepI k ks n], c) :: itemsL k ks (n + 1) l
theorem itemsL_length (k : Int) (ks : List ByteArray) : ∀ (l : List V) (n : Nat), (itemsL k ks n l).length = l.length
  | [], n => by rw [itemsL]; rfl
  | c :: l, n => by rw [itemsL, List.length_cons, itemsL_length k ks l (n + 1), List.length_cons]
theorem itemsL_snoc (k : Int) (ks : List ByteArray) (c : V) : ∀ (l : List V) (n : Nat), itemsL k ks n (l ++ [c]) = itemsL k ks n l ++ [([stepI k ks (n + l.length)], c)]
  | [], n => by simp [itemsL]
  | y :: l, n => by
    rw [List.cons_append, itemsL, itemsL_snoc k ks c l (n + 1), itemsL, List.cons_append, List.length_cons, show n + 1 + l.length = n + (l.length + 1) by omega]
mutual
theorem leavesV_length : ∀ (p : List Stp) (x : V), (leavesV p x).length ≤ x.nodes
  | p, .mk k i t [] ks => by rw [leavesV]; simp [V.nodes, V.nodesL]
  | p, .mk k i t (c :: l) ks => by
    have h1 := leavesV_length (p ++ [stepI k ks 0]) c
    have h2 := leavesL_length p k ks l 1
    rw [leavesV, List.length_append, V.nodes, V.nodesL]
    omega
theorem leavesL_length : ∀ (p : List Stp) (k : Int) (ks : List ByteArray) (l : List V) (n : Nat), (leavesL p k ks n l).length ≤ V.nodesL l
  | p, k, ks, [], n => by rw [leavesL]; simp
  | p, k, ks, c :: l, n => by
    have h1 := leavesV_length (p ++ [stepI k ks n]) c
    have h2 := leavesL_length p k ks l (n + 1)
    rw [leavesL, List.length_append, V.nodesL]
    omega
end
theorem leavesL_snoc (p : List Stp) (k : Int) (ks : List ByteArray) (c : V) : ∀ (l : List V) (n : Nat), leavesL p k ks n (l ++ [c]) = leavesL p k ks n l ++ leavesV (p ++ [stepI k ks (n + l.length)]) c
  | [], n => by simp [leavesL]
  | y :: l, n => by
    rw [List.cons_append, leavesL, leavesL_snoc p k ks c l (n + 1), leavesL, List.append_assoc, List.length_cons, show n + 1 + l.length = n + (l.length + 1) by omega]
/-- A path whose block is one of P. -/
def PIn (P : Nat → Prop) (w : World) (A : Option Addr) (c : Nat) (p : List Stp) : Prop :=
  p.length ≤ c ∧ c ≤ maxLen ∧ (p = [] ∨ ∃ b o, A = some ⟨b, o, none⟩ ∧ P b ∧ StepsFrom w p b o)
theorem PIn.keep {P P' : Nat → Prop} {w w' : World} (hk : ∀ b o, P b → w'.cell? ⟨b, o, none⟩ = w.cell? ⟨b, o, none⟩) (hP : ∀ b, P b → P' b) {A : Option Addr} {c : Nat} {p : List Stp} (h : PIn P w A c p) : PIn P' w' A c p :=
  ⟨h.1, h.2.1, h.2.2.imp id fun ⟨b, o, e, hb, hf⟩ => ⟨b, o, e, hP b hb, hf.keep fun o => hk b o hb⟩⟩
theorem PIn.lies {P : Nat → Prop} {w : World} {B : Nat} (hP : ∀ b, P b → b < B) {A : Option Addr} {c : Nat} {p : List Stp} (h : PIn P w A c p) : PLies w B A c p :=
  ⟨h.1, h.2.1, h.2.2.imp id fun ⟨b, o, e, hb, hf⟩ => ⟨b, o, e, hP b hb, hf⟩⟩
theorem PIn.of {P : Nat → Prop} {w : World} {B : Nat} (hP : ∀ b, b < B → P b) {A : Option Addr} {c : Nat} {p : List Stp} (h : PLies w B A c p) : PIn P w A c p :=
  ⟨h.1, h.2.1, h.2.2.imp id fun ⟨b, o, e, hb, hf⟩ => ⟨b, o, e, hP b hb, hf⟩⟩
/-- The six cells of a leaf. -/
def LeafIn (P : Nat → Prop) (w : World) (x : Lf) (cs : List Value) : Prop :=
  ∃ Ap cp A c K d, cs = [.slice Ap x.1.length cp, .int .i64 x.2.kind, .int .i64 x.2.int, .string x.2.text, .slice A x.2.items.length c, .slice K x.2.keys.length d] ∧ PIn P w Ap cp x.1 ∧ LiesIn P w x.2 A c K d
def LeafsIn (P : Nat → Prop) (w : World) : List Lf → List (List Value) → Prop
  | [], [] => True
  | x :: r, cs :: t => LeafIn P w x cs ∧ LeafsIn P w r t
  | _, _ => False
section
variable {P P' : Nat → Prop} {w w' : World} {B : Nat}
theorem LeafIn.keep (hk : ∀ b o, P b → w'.cell? ⟨b, o, none⟩ = w.cell? ⟨b, o, none⟩) (hP : ∀ b, P b → P' b) {x : Lf} {cs : List Value} (h : LeafIn P w x cs) : LeafIn P' w' x cs := by
  obtain ⟨Ap, cp, A, c, K, d, e, h1, h2⟩ := h
  exact ⟨Ap, cp, A, c, K, d, e, h1.keep hk hP, LiesIn.keep hk hP _ h2⟩
theorem LeafsIn.keep (hk : ∀ b o, P b → w'.cell? ⟨b, o, none⟩ = w.cell? ⟨b, o, none⟩) (hP : ∀ b, P b → P' b) : ∀ {l : List Lf} {css : List (List Value)}, LeafsIn P w l css → LeafsIn P' w' l css
  | [], [], _ => trivial
  | _ :: _, _ :: _, h => ⟨h.1.keep hk hP, LeafsIn.keep hk hP h.2⟩
  | [], _ :: _, h => h.elim
  | _ :: _, [], h => h.elim
theorem LeafsIn.append {m : List Lf} {dss : List (List Value)} (h' : LeafsIn P w m dss) : ∀ {l : List Lf} {css : List (List Value)}, LeafsIn P w l css → LeafsIn P w (l ++ m) (css ++ dss)
  | [], [], _ => h'
  | _ :: _, _ :: _, h => ⟨h.1, LeafsIn.append h' h.2⟩
  | [], _ :: _, h => h.elim
  | _ :: _, [], h => h.elim
theorem LeafIn.six {x : Lf} {cs : List Value} (h : LeafIn P w x cs) : cs.length = 6 := by
  obtain ⟨_, _, _, _, _, _, rfl, -, -⟩ := h; rfl
theorem LeafsIn.flat : ∀ {l : List Lf} {css : List (List Value)}, LeafsIn P w l css → css.flatten.length = l.length * 6
  | [], [], _ => rfl
  | x :: l, cs :: css, h => by
    rw [List.flatten_cons, List.length_append, h.1.six, LeafsIn.flat h.2, List.length_cons]; omega
  | [], _ :: _, h => h.elim
  | _ :: _, [], h => h.elim
theorem LeafsIn.at_ : ∀ {l : List Lf} {css : List (List Value)}, LeafsIn P w l css → ∀ {k : Nat} {x : Lf}, l[k]? = some x → ∃ cs, LeafIn P w x cs ∧ ∀ (j : Nat) (v : Value), cs[j]? = some v → css.flatten[k * 6 + j]? = some v
  | y :: l, cs :: css, h, 0, x, hx => by
    simp only [List.getElem?_cons_zero, Option.some.injEq] at hx
    subst hx
    refine ⟨cs, h.1, fun j v hv => ?_⟩
    rw [Nat.zero_mul, Nat.zero_add, List.flatten_cons, List.getElem?_append_left (List.getElem?_eq_some_iff.1 hv).1, hv]
  | y :: l, cs :: css, h, k + 1, x, hx => by
    rw [List.getElem?_cons_succ] at hx
    obtain ⟨ds, h1, h2⟩ := LeafsIn.at_ h.2 hx
    refine ⟨ds, h1, fun j v hv => ?_⟩
    rw [List.flatten_cons, List.getElem?_append_right (by rw [h.1.six]; omega), h.1.six, show (k + 1) * 6 + j - 6 = k * 6 + j by omega]
    exact h2 j v hv
  | [], [], _, _, _, hx => by simp at hx
  | [], _ :: _, h, _, _, _ => h.elim
  | _ :: _, [], h, _, _, _ => h.elim
/-- A list of leaves that lies in memory. -/
def LeafRow (P : Nat → Prop) (w : World) (A : Option Addr) (c : Nat) (l : List Lf) : Prop :=
  l.length ≤ c ∧ c ≤ maxLen ∧ ∃ css, LeafsIn P w l css ∧ (l = [] ∨ ∃ b o, A = some ⟨b, o, none⟩ ∧ P b ∧ ∀ (j : Nat) (v : Value), css.flatten[j]? = some v → w.cell? ⟨b, o + j, none⟩ = some v)
theorem LeafRow.keep (hk : ∀ b o, P b → w'.cell? ⟨b, o, none⟩ = w.cell? ⟨b, o, none⟩) (hP : ∀ b, P b → P' b) {A : Option Addr} {c : Nat} {l : List Lf} (h : LeafRow P w A c l) : LeafRow P' w' A c l := by
  obtain ⟨h1, h2, css, h3, h4⟩ := h
  exact ⟨h1, h2, css, h3.keep hk hP, h4.imp id fun ⟨b, o, e, hb, hc⟩ => ⟨b, o, e, hP b hb, fun j v hv => (hk b _ hb).trans (hc j v hv)⟩⟩
/-- The cells of one leaf. -/
theorem LeafRow.at_ {A : Option Addr} {c : Nat} {l : List Lf} (h : LeafRow P w A c l) {k : Nat} {x : Lf} (hx : l[k]? = some x) :
    ∃ b o Ap cp A' c' K' d', A = some ⟨b, o, none⟩ ∧ P b ∧ (w.cell? ⟨b, o + k * 6, none⟩ = some (.slice Ap x.1.length cp) ∧ w.cell? ⟨b, o + k * 6 + 1, none⟩ = some (.int .i64 x.2.kind) ∧ w.cell? ⟨b, o + k * 6 + 2, none⟩ = some (.int .i64 x.2.int) ∧ w.cell? ⟨b, o + k * 6 + 3, none⟩ = some (.string x.2.text) ∧ w.cell? ⟨b, o + k * 6 + 4, none⟩ = some (.slice A' x.2.items.length c') ∧ w.cell? ⟨b, o + k * 6 + 5, none⟩ = some (.slice K' x.2.keys.length d')) ∧ PIn P w Ap cp x.1 ∧ LiesIn P w x.2 A' c' K' d' := by
  obtain ⟨-, -, css, h3, h4⟩ := h
  rcases h4 with rfl | ⟨b, o, rfl, hb, hc⟩
  · simp at hx
  obtain ⟨cs, ⟨Ap, cp, A', c', K', d', rfl, hp, hl⟩, hcs⟩ := h3.at_ hx
  refine ⟨b, o, Ap, cp, A', c', K', d', rfl, hb, ⟨?_, ?_, ?_, ?_, ?_, ?_⟩, hp, hl⟩
  · exact hc _ _ (hcs 0 _ rfl)
  · exact hc _ _ (hcs 1 _ rfl)
  · exact hc _ _ (hcs 2 _ rfl)
  · exact hc _ _ (hcs 3 _ rfl)
  · exact hc _ _ (hcs 4 _ rfl)
  · exact hc _ _ (hcs 5 _ rfl)
end
open Go.RowKit
theorem here_where {x y : V} {s : Stp} (hok : x.ok = true) (h : itemV x s = some y) : (findV x s).2 = true ∧ x.items[whereV x s]? = some y ∧ x.kind = holderS s ∧ (x.kind = 5 → x.keys[whereV x s]? = some s.2) := by
  obtain ⟨h1, h2⟩ := item_find h
  refine ⟨h1, h2, find_kind (fit_of hok) h1, fun h5 => ?_⟩
  have hk := find_kind (fit_of hok) h1
  obtain ⟨i, k⟩ := s
  have h0 : ¬ 0 ≤ i := fun e => by rw [h5, holderS, if_neg (by simp only; omega)] at hk; omega
  simp [findV, h0] at h1
  rw [show whereV x (i, k) = posK k x.keys by simp [whereV, findV, h0]]
  exact (posK_here k (okk hok).1).1 ((hasK_iff _ _).1 h1)
theorem cons_rem {x y : V} {s : Stp} {r : List Stp} (hok : x.ok = true) (h : itemV x s = some y) (hd : atV y r ≠ none) :
    (removeV x (s :: r)).1 = .mk x.kind 0 ⟨#[]⟩ (cutL (decide (r = [])) (whereV x s) (removeV y r).1 x.items) (keyCut x.kind (decide (r = [])) (whereV x s) s.2 x.keys) := by
  obtain ⟨h1, h2, h3, h4⟩ := here_where hok h
  have h45 : x.kind = 4 ∨ x.kind = 5 := by rw [h3, holderS]; split; exact .inr rfl; exact .inl rfl
  cases r with
  | nil => exact rem_is_last hok h1 h45 _ _
  | cons s' r' => exact rem_is_on hok h1 h45 h2 h4
open Go.RowKit
/-- The cells of steps. -/
def stepCells : List Stp → List Value
  | [] => []
  | s :: r => .int .i64 s.1 :: .string s.2 :: stepCells r
theorem stepCells_length : ∀ (p : List Stp), (stepCells p).length = p.length * 2
  | [] => rfl
  | s :: r => by rw [stepCells, List.length_cons, List.length_cons, stepCells_length r, List.length_cons]; omega
theorem stepCells_append : ∀ (p q : List Stp), stepCells (p ++ q) = stepCells p ++ stepCells q
  | [], _ => rfl
  | s :: r, q => by rw [List.cons_append, stepCells, stepCells_append r q, stepCells, List.cons_append, List.cons_append]
theorem stepCells_one : ∀ (p : List Stp), ∀ u ∈ stepCells p, u.oneCell' = true
  | [], u, hu => by cases hu
  | s :: r, u, hu => by
    rw [stepCells, List.mem_cons, List.mem_cons] at hu
    rcases hu with rfl | rfl | hu
    · rfl
    · rfl
    · exact stepCells_one r u hu
theorem stepCells_lie {w : World} {b : Nat} : ∀ (p : List Stp) (o : Nat), (∀ s ∈ p, s.2.size ≤ maxLen) → (∀ (j : Nat) (u : Value), (stepCells p)[j]? = some u → w.cell? ⟨b, o + j, none⟩ = some u) → StepsFrom w p b o
  | [], _, _, _ => trivial
  | s :: r, o, hs, h => by
    refine ⟨h 0 _ rfl, h 1 _ rfl, hs s (by simp), stepCells_lie r (o + 2) (fun q hq => hs q (by simp [hq])) fun j u hu => ?_⟩
    have := h (j + 2) u (by rw [stepCells]; exact hu)
    rw [show o + (j + 2) = o + 2 + j by omega] at this
    exact this
theorem stepCells_at {w : World} {b : Nat} : ∀ {p : List Stp} {o : Nat}, StepsFrom w p b o → ∀ (j : Nat) (u : Value), (stepCells p)[j]? = some u → w.cell? ⟨b, o + j, none⟩ = some u
  | [], _, _, j, u, hu => by simp [stepCells] at hu
  | s :: r, o, h, 0, u, hu => by
    simp only [stepCells, List.getElem?_cons_zero, Option.some.injEq] at hu
    subst hu; exact h.1
  | s :: r, o, h, 1, u, hu => by
    simp only [stepCells, List.getElem?_cons_succ, List.getElem?_cons_zero, Option.some.injEq] at hu
    subst hu; exact h.2.1
  | s :: r, o, h, j + 2, u, hu => by
    simp only [stepCells, List.getElem?_cons_succ] at hu
    have := stepCells_at h.2.2.2 j u hu
    rw [show o + (j + 2) = o + 2 + j by omega]
    exact this
theorem steps_size {w : World} {b : Nat} : ∀ {p : List Stp} {o : Nat}, StepsFrom w p b o → ∀ s ∈ p, s.2.size ≤ maxLen
  | [], _, _, s, hs => by cases hs
  | q :: r, o, h, s, hs => by
    rcases List.mem_cons.1 hs with rfl | hs
    · exact h.2.2.1
    · exact steps_size h.2.2.2 s hs
/-- Steps, wherever they lie, appended to an owned row of steps. -/
theorem appendT (ty : TypeId) (W : World) (B : Nat) (v : Value) (k : Nat) (xs : List Value) (hown : W.ownsRow B 42 2 v k xs) (A : Option Addr) (m c : Nat) (news : List Value) (hl : news.length = m * 2) (hA : m = 0 ∨ ∃ a, A = some a ∧ ∀ j u, news[j]? = some u → W.cell? (a.add j) = some u) (h1 : ∀ u ∈ news, u.oneCell' = true) (hk : k + m ≤ 100000) (hB : B ≤ W.heap.size) :
    ∃ v' W', (Builtin.append_ #[37, 37] ty #[v, .slice A m c]).run Tryd.prog W = .ok v' W' ∧ W'.ownsRow B 42 2 v' (k + m) (xs ++ news) ∧ W.grownBy W' v.ownBlock := by
  obtain ⟨i0, hi, hz0, hz1, hz2⟩ := info_parts (P := Tryd.prog) (e := 42) (z := (.agg #[.int .i64 0, .string ⟨#[]⟩])) (size := 2) (bytes := 24) (by kernel_rfl)
  rcases Nat.eq_zero_or_pos m with rfl | hm
  · obtain rfl : news = [] := List.length_eq_zero_iff.1 (by omega)
    obtain ⟨a0, cap, rfl⟩ := own_form hown
    have hcap : k ≤ cap := by
      obtain ⟨_, ⟨he, h0⟩ | ⟨g, cap', cur, he, _, _, h1, _⟩⟩ := hown
      · simp only [Value.slice.injEq] at he; omega
      · simp only [Value.slice.injEq] at he; omega
    have hs : Src Tryd.prog i0.size 37 (.slice A 0 c) 0 [] W := by
      cases A with
      | none => exact Src.ofNil _ Tryd.underlying37 c
      | some a => exact Src.ofSlice W Tryd.underlying37 a 0 c [] (by simp) (fun j u hj => by simp at hj) (fun u hu => by cases hu)
    exact ⟨_, W, run_append_nothing (P := Tryd.prog) W 37 37 ty 42 i0 Tryd.underlying37 hi a0 k cap hcap _ hs, by simpa using hown, ⟨rfl, rfl, rfl, Nat.le_refl _, fun _ _ _ => rfl⟩⟩
  · obtain ⟨a, rfl, hnews⟩ : ∃ a, A = some a ∧ ∀ j u, news[j]? = some u → W.cell? (a.add j) = some u := hA.resolve_left (by omega)
    obtain ⟨v', W', hr, h2, h3, -⟩ := append_where (P := Tryd.prog) W B 37 ty 42 i0 (.agg #[.int .i64 0, .string ⟨#[]⟩]) 2 24 Tryd.underlying37 hi hz0 hz1 hz2 rfl (by omega) v k xs hown a m c news hl hnews h1 (by unfold maxLen; omega) (by omega) hB hm
    exact ⟨v', W', hr, h2, h3⟩
theorem own_none (W : World) (B : Nat) (hB : B ≤ W.heap.size) (e : TypeId) (n : Nat) : (W.alloc (.cells #[] e)).ownsRow B e n (.slice (some ⟨W.heap.size, 0, none⟩) 0 0) 0 [] :=
  ⟨by simp, .inr ⟨W.heap.size, 0, #[], rfl, hB, BlockIs.new W e #[], Nat.le_refl _, by simp [maxLen], by simp, by simp⟩⟩
open Go.RowKit
theorem stepI_size {w : World} {B : Nat} {x : V} {A K : Option Addr} {c d j : Nat} (h : Lies w B x A c K d) (hok : x.ok = true) (hj : j < x.items.length) : (stepI x.kind x.keys j).2.size ≤ maxLen := by
  unfold stepI
  by_cases h5 : x.kind = 5
  · rw [if_pos h5]
    obtain ⟨-, -, hl⟩ := okk hok
    have hjk : j < x.keys.length := by rw [hl h5]; exact hj
    obtain ⟨b, o, -, -, hf⟩ := (lies_keys h).at_ hjk
    exact (hf j _ (by rw [List.getD_eq_getElem?_getD, List.getElem?_eq_getElem hjk]; rfl)).2
  · rw [if_neg h5]; exact (by decide : (⟨#[]⟩ : ByteArray).size ≤ maxLen)
/-- What the definition's leaves answer. -/
def LeafQ (P : Nat → Prop) (l : List Lf) (w : World) (e : Ending) (w' : World) : Prop :=
  ∃ A c, e = .returned (.slice A l.length c) ∧ LeafRow (fun b => P b ∨ Fresh w w' b) w' A c l ∧ Below w.heap.size w w'
/-- The blocks that what was collected hangs on. -/
def PL (w : World) (P : Nat → Prop) (rO : Value) (W : World) (b : Nat) : Prop := P b ∨ (w.heap.size + 1 ≤ b ∧ b < W.heap.size ∧ some b ≠ rO.ownBlock)
/-- How far leaves are collected. -/
structure LQ (w : World) (P : Nat → Prop) (vc : Array Value) (acc : List Lf) (rO : Value) (css : List (List Value)) (W : World) : Prop where
  old : Below w.heap.size w W
  bv : BlockIs W w.heap.size 25 vc
  own : W.ownsRow (w.heap.size + 1) 39 6 rO acc.length css.flatten
  rows : LeafsIn (PL w P rO W) W acc css
theorem LeafsIn.one {P : Nat → Prop} {w : World} : ∀ {l : List Lf} {css : List (List Value)}, LeafsIn P w l css → ∀ u ∈ css.flatten, u.oneCell' = true
  | [], [], _, u, hu => by simp at hu
  | [], _ :: _, h, _, _ => h.elim
  | _ :: _, [], h, _, _ => h.elim
  | x :: r, cs :: css, h, u, hu => by
    rw [List.flatten_cons, List.mem_append] at hu
    rcases hu with hu | hu
    · obtain ⟨_, _, _, _, _, _, rfl, -⟩ := h.1
      simp only [List.mem_cons, List.not_mem_nil, or_false] at hu
      rcases hu with rfl | rfl | rfl | rfl | rfl | rfl <;> rfl
    · exact LeafsIn.one h.2 u hu
section
variable {w W W' w1 : World} {P : Nat → Prop} {vc : Array Value} {acc m : List Lf} {rO v' : Value} {css dss : List (List Value)} {A : Option Addr} {c : Nat}
theorem LQ.start (w : World) (P : Nat → Prop) (vc : Array Value) : LQ w P vc [] (.slice none 0 0) [] (w.alloc (.cells vc 25)) :=
  ⟨below_al (Below.refl _ w) _, BlockIs.new w _ _, World.ownsRow_nil _ _ _ _, trivial⟩
theorem LQ.lt (h : LQ w P vc acc rO css W) : w.heap.size + 1 ≤ W.heap.size := by have := h.bv.lt; omega
theorem PL.lt (hP : ∀ b, P b → b < w.heap.size) (h : LQ w P vc acc rO css W) {b : Nat} (hb : PL w P rO W b) : b < W.heap.size := by
  have := h.lt
  rcases hb with hb | hb
  · have := hP b hb; omega
  · exact hb.2.1
theorem LQ.on (hP : ∀ b, P b → b < w.heap.size) (h : LQ w P vc acc rO css W) (hb : Below W.heap.size W W') : LQ w P vc acc rO css W' := by
  refine ⟨below_on h.old hb, h.bv.below hb h.bv.lt, World.ownsRow.kept h.own (grown_none hb) ?_, h.rows.keep (fun b o hx => bcell hb b o (PL.lt hP h hx)) fun b hx => hx.imp id fun hx => ⟨hx.1, by have := hb.size; omega, hx.2.2⟩⟩
  cases rO.ownBlock
  · exact .inl rfl
  · exact .inr (by simp)
/-- What another call has collected, appended. -/
theorem LQ.more (hP : ∀ b, P b → b < w.heap.size) (h : LQ w P vc acc rO css W) (hm : LeafsIn (PL w P rO W) W m dss) (hgrow : W.grownBy w1 rO.ownBlock) (hown : w1.ownsRow (w.heap.size + 1) 39 6 v' (acc ++ m).length (css.flatten ++ dss.flatten)) (hv : v'.ownBlock = rO.ownBlock ∨ v'.ownBlock = some W.heap.size) :
    LQ w P vc (acc ++ m) v' (css ++ dss) w1 := by
  have hlt := h.lt
  have hob : ∀ b, rO.ownBlock = some b → w.heap.size + 1 ≤ b := fun b hb => (World.ownsRow.lt h.own b hb).1
  have hkeep : ∀ b, PL w P rO W b → w1.heap[b]? = W.heap[b]? := fun b hx => by
    have hb := PL.lt hP h hx
    refine hgrow.block b hb fun e => ?_
    rcases hx with hx | hx
    · have := hP b hx
      have := hob b e.symm
      omega
    · exact hx.2.2 e
  have hsz : W.heap.size ≤ w1.heap.size := hgrow.size
  have hpl : ∀ b, PL w P rO W b → PL w P v' w1 b := fun b hx => by
    have hb := PL.lt hP h hx
    refine hx.imp id fun hx => ⟨hx.1, by omega, fun e => ?_⟩
    rcases hv with hv | hv
    · rw [hv] at e; exact hx.2.2 e
    · rw [hv] at e
      have := Option.some.inj e
      omega
  have hbelow : Below w.heap.size w w1 := h.old.trans (below_grow hgrow (by omega) fun b hb => by have := hob b hb; omega)
  refine ⟨hbelow, h.bv.to (hgrow.block _ h.bv.lt fun e => by have := hob _ e.symm; omega), by rw [List.flatten_append]; exact hown, ?_⟩
  refine LeafsIn.append ?_ ?_
  · exact hm.keep (fun b o hx => World.cell?_of_block (hkeep b hx)) hpl
  · exact h.rows.keep (fun b o hx => World.cell?_of_block (hkeep b hx)) hpl
/-- What was collected, answered. -/
theorem LQ.done (h : LQ w P vc acc rO css W) : ∃ A c, rO = .slice A acc.length c ∧ LeafRow (fun b => P b ∨ Fresh w W b) W A c acc := by
  obtain ⟨a, cap, rfl⟩ := own_form h.own
  refine ⟨a, cap, rfl, ?_⟩
  have hrows : LeafsIn (fun b => P b ∨ Fresh w W b) W acc css := h.rows.keep (fun _ _ _ => rfl) fun b hx => hx.imp id fun hx => ⟨by have := hx.1; omega, hx.2.1⟩
  have ho5 := h.own
  obtain ⟨hl, ⟨he, h0⟩ | ⟨g, cap', cur, he, hbg, hg, hnc, hcm, hcs, ht⟩⟩ := ho5
  · simp only [Value.slice.injEq] at he
    have : acc = [] := List.length_eq_zero_iff.1 h0
    subst this
    exact ⟨by simp, by have := he.2.2; omega, css, hrows, .inl rfl⟩
  · simp only [Value.slice.injEq] at he
    obtain ⟨rfl, -, rfl⟩ := he
    refine ⟨hnc, hcm, css, hrows, .inr ⟨g, 0, rfl, .inr ⟨by omega, (World.ownsRow.lt h.own g rfl).2⟩, fun j u hu => ?_⟩⟩
    have := World.ownsRow.cells h.own (g := g) rfl j u hu
    rw [Addr.add_lit] at this
    exact this
/-- The cells that a list of leaves stands in. -/
theorem LeafRow.src {P : Nat → Prop} {W : World} (h : LeafRow P W A c m) (hm : 0 < m.length) : ∃ dss a, A = some a ∧ LeafsIn P W m dss ∧ dss.flatten.length = m.length * 6 ∧ ∀ j u, dss.flatten[j]? = some u → W.cell? (a.add j) = some u := by
  obtain ⟨-, -, dss, h3, h4⟩ := h
  rcases h4 with rfl | ⟨b, o, rfl, hb, hc⟩
  · simp at hm
  · exact ⟨dss, _, rfl, h3, h3.flat, fun j u hu => by rw [Addr.add_lit]; exact hc j u hu⟩
end
mutual
theorem leavesV_pos : ∀ (p : List Stp) (x : V), 0 < (leavesV p x).length
  | p, .mk k i t [] ks => by rw [leavesV]; simp
  | p, .mk k i t (c :: l) ks => by
    have := leavesV_pos (p ++ [stepI k ks 0]) c
    rw [leavesV, List.length_append]; omega
end
theorem leavesL_snocI (p : List Stp) (x : V) {j : Nat} {y : V} (hy : x.items[j]? = some y) : leavesL p x.kind x.keys 0 (x.items.take (j + 1)) = leavesL p x.kind x.keys 0 (x.items.take j) ++ leavesV (p ++ [stepI x.kind x.keys j]) y := by
  have hj := (List.getElem?_eq_some_iff.1 hy).1
  rw [List.take_add_one, hy, Option.toList_some, leavesL_snoc, List.length_take, Nat.min_eq_left (by omega), Nat.zero_add]
open Go.RowKit
theorem two_lt {w wr w2 : World} {P : Nat → Prop} (hP : ∀ b, P b → b < w.heap.size) (h : w.heap.size ≤ wr.heap.size) (h2 : wr.heap.size ≤ w2.heap.size) : ∀ b, (P b ∨ Fresh wr w2 b) → b < w2.heap.size := fun b hb => by
  rcases hb with hb | hb
  · have := hP b hb; omega
  · exact hb.2
theorem fresh_on {wr w1 w2 : World} {P : Nat → Prop} (h : wr.heap.size ≤ w1.heap.size) : ∀ b, Fresh w1 w2 b → P b ∨ Fresh wr w2 b := fun b hb => .inr ⟨by have := hb.1; omega, hb.2⟩
/-- The cells of a box and of an item. -/
theorem box_item {wr W : World} {g b2 q : Nat} {t : TypeId} {x0 x1 x2 x3 x4 y0 y1 y2 y3 y4 : Value} (hg : BlockIs wr g t #[x0, x1, x2, x3, x4]) (hb2 : b2 < wr.heap.size)
    (hy : wr.cell? ⟨b2, q, none⟩ = some y0 ∧ wr.cell? ⟨b2, q + 1, none⟩ = some y1 ∧ wr.cell? ⟨b2, q + 2, none⟩ = some y2 ∧ wr.cell? ⟨b2, q + 3, none⟩ = some y3 ∧ wr.cell? ⟨b2, q + 4, none⟩ = some y4) (hb : Below wr.heap.size wr W) :
    Hid (Below wr.heap.size wr W) ∧ (W.cell? ⟨g, 0, none⟩ = some x0 ∧ W.cell? ⟨g, 1, none⟩ = some x1 ∧ W.cell? ⟨g, 2, none⟩ = some x2 ∧ W.cell? ⟨g, 3, none⟩ = some x3 ∧ W.cell? ⟨g, 4, none⟩ = some x4) ∧ (W.cell? ⟨b2, q, none⟩ = some y0 ∧ W.cell? ⟨b2, q + 1, none⟩ = some y1 ∧ W.cell? ⟨b2, q + 2, none⟩ = some y2 ∧ W.cell? ⟨b2, q + 3, none⟩ = some y3 ∧ W.cell? ⟨b2, q + 4, none⟩ = some y4) := by
  obtain ⟨e0, e1, e2, e3, e4⟩ := hy
  exact ⟨Lib.hid hb, five_of (hg.below hb hg.lt), (bcell hb _ _ hb2).trans e0, (bcell hb _ _ hb2).trans e1, (bcell hb _ _ hb2).trans e2, (bcell hb _ _ hb2).trans e3, (bcell hb _ _ hb2).trans e4⟩
open Go.RowKit
/-- Leaves and an error, answered. -/
def LAns (q : List Lf × Int) (w : World) (e : Ending) (w' : World) : Prop := ∃ A c, e = .returned (.tuple #[.slice A q.1.length c, .int .i64 q.2]) ∧ LeafRow (fun b => b < w'.heap.size) w' A c q.1 ∧ Below w.heap.size w w'
/-- What Leaves, Flatten answer. -/
def leavesOut (x : V) : List Lf × Int := if x.valid = true then (leavesV [] x, 0) else ([], 1)
def flatOut (x : V) : List Lf × Int := if x.valid = true then (itemsL x.kind x.keys 0 x.items, 0) else ([], 1)
theorem valid_deep {x : V} (h : x.valid = true) : x.ok = true ∧ x.nodes ≤ 60 ∧ x.depth ≤ 6 := by
  unfold V.valid V.fits at h
  simp only [Bool.and_eq_true, decide_eq_true_eq] at h
  exact ⟨h.1.1, h.1.2, h.2⟩
theorem LeafRow.none (w : World) (P : Nat → Prop) : LeafRow P w none 0 [] := ⟨Nat.le_refl _, Nat.zero_le _, [], trivial, .inl rfl⟩
theorem LeafQ.ans {l : List Lf} {w w1 w' : World} {e : Ending} (hb : Below w.heap.size w w1) (h : LeafQ (fun b => b < w1.heap.size) l w1 e w') : ∃ A c, e = .returned (.slice A l.length c) ∧ LeafRow (fun b => b < w'.heap.size) w' A c l ∧ Below w.heap.size w w' := by
  obtain ⟨A, c, he, hl, h2⟩ := h
  refine ⟨A, c, he, hl.keep (fun _ _ _ => rfl) (fun b hx => ?_), below_on hb h2⟩
  have := h2.size
  rcases hx with hx | hx
  · omega
  · exact hx.2
end Go.Proofs.YtchadlbhdcpojaaDoor
