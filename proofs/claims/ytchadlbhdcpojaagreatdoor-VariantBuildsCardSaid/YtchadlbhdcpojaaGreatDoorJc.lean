/- A value laid at a path, as the specification says it: what lies where. -/
import Derived.Test.YtchadlbhdcpojaaGreatDoorUa
import Derived.Test.YtchadlbhdcpojaaGreatDoorJa
import Derived.Test.YtchadlbhdcpojaaGreatDoorJb
import Derived.Test.YtchadlbhdcpojaaGreatDoorJd
import Derived.Deep.CutRange
import Derived.Test.YtchadlbhdcpojaaGreatDoorVc
import Derived.Test.YtchadlbhdcpojaaGreatDoorRy
namespace Go.Proofs.YtchadlbhdcpojaaGreatDoor
open Go.RowKit
mutual
theorem lies_inn {w : World} {B : Nat} {P : Nat → Prop} (hP : ∀ b, b < B → P b) : ∀ (x : V) {A c K d}, Lies w B x A c K d → LiesIn P w x A c K d
  | .mk _ _ _ items _, _, _, _, _, h => by
    obtain ⟨h1, h2, h3, h4, h5⟩ := h
    refine ⟨h1, h2, h3, ⟨h4.1, h4.2.1, h4.2.2.imp id fun ⟨b, o, hA, hb, hf⟩ => ⟨b, o, hA, hP b hb, hf⟩⟩, h5.imp id ?_⟩
    rintro ⟨b, o, hA, hb, hf⟩
    exact ⟨b, o, hA, hP b hb, liesFrom_inn hP items hf⟩
theorem liesFrom_inn {w : World} {B : Nat} {P : Nat → Prop} (hP : ∀ b, b < B → P b) : ∀ (l : List V) {b o}, LiesFrom w B l b o → LiesFromIn P w l b o
  | [], _, _, _ => trivial
  | x :: r, b, o, h => by
    obtain ⟨⟨A, c, K, d, e0, e1, e2, e3, e4, hx⟩, hr⟩ := h
    exact ⟨⟨A, c, K, d, e0, e1, e2, e3, e4, lies_inn hP x hx⟩, liesFrom_inn hP r hr⟩
end
/-- The rows of items that lie one behind another. -/
theorem from_rows {P : Nat → Prop} {w : World} : ∀ {l : List V} {b o : Nat}, LiesFromIn P w l b o → ∃ css, RowsIn P w l css ∧ ∀ j u, css.flatten[j]? = some u → w.cell? ⟨b, o + j, none⟩ = some u
  | [], b, o, _ => ⟨[], trivial, fun j u h => by simp at h⟩
  | x :: r, b, o, h => by
    obtain ⟨⟨A, c, K, d, e0, e1, e2, e3, e4, hx⟩, hr⟩ := h
    obtain ⟨css, h1, h2⟩ := from_rows hr
    refine ⟨fieldsL x A c K d :: css, ⟨⟨A, c, K, d, rfl, hx⟩, h1⟩, fun j u hj => ?_⟩
    rw [List.flatten_cons] at hj
    match j, hj with
    | 0, hj => simp [fieldsL] at hj; subst hj; exact e0
    | 1, hj => simp [fieldsL] at hj; subst hj; exact e1
    | 2, hj => simp [fieldsL] at hj; subst hj; exact e2
    | 3, hj => simp [fieldsL] at hj; subst hj; exact e3
    | 4, hj => simp [fieldsL] at hj; subst hj; exact e4
    | j + 5, hj =>
      rw [List.getElem?_append_right (by simp [fieldsL])] at hj
      have := h2 j u (by simpa [fieldsL] using hj)
      rw [show o + (j + 5) = o + 5 + j by omega]; exact this
theorem one_cell {P : Nat → Prop} {w : World} : ∀ {l : List V} {css : List (List Value)}, RowsIn P w l css → ∀ u ∈ css.flatten, u.oneCell' = true
  | [], [], _, u, hu => by simp at hu
  | [], _ :: _, h, _, _ => h.elim
  | _ :: _, [], h, _, _ => h.elim
  | x :: r, cs :: css, h, u, hu => by
    rw [List.flatten_cons, List.mem_append] at hu
    rcases hu with hu | hu
    · obtain ⟨A, c, K, d, rfl, -⟩ := h.1
      simp only [fieldsL, List.mem_cons, List.not_mem_nil, or_false] at hu
      rcases hu with rfl | rfl | rfl | rfl | rfl <;> rfl
    · exact one_cell h.2 u hu
/-- A part of a row, wherever it lies, appended to an owned row. -/
theorem appendR (ty : TypeId) (W : World) (B : Nat) (v : Value) (k : Nat) (xs : List Value) (hown : W.ownsRow B 27 5 v k xs) (A : Option Addr) (m c : Nat) (news : List Value) (hl : news.length = m * 5) (hA : m = 0 ∨ ∃ a, A = some a ∧ ∀ j u, news[j]? = some u → W.cell? (a.add j) = some u) (h1 : ∀ u ∈ news, u.oneCell' = true) (hk : k + m ≤ 100000) (hB : B ≤ W.heap.size) :
    ∃ v' W', (Builtin.append_ #[24, 24] ty #[v, .slice A m c]).run Tryz.prog W = .ok v' W' ∧ W'.ownsRow B 27 5 v' (k + m) (xs ++ news) ∧ W.grownBy W' v.ownBlock := by
  obtain ⟨i0, hi, hz0, hz1, hz2⟩ := info_parts (P := Tryz.prog) (e := 27) (z := (.agg zeroF)) (size := 5) (bytes := 80) (by kernel_rfl)
  rcases Nat.eq_zero_or_pos m with rfl | hm
  · obtain rfl : news = [] := List.length_eq_zero_iff.1 (by omega)
    obtain ⟨a0, cap, rfl⟩ := own_form hown
    have hcap : k ≤ cap := by
      obtain ⟨_, ⟨he, h0⟩ | ⟨g, cap', cur, he, _, _, h1, _⟩⟩ := hown
      · simp only [Value.slice.injEq] at he; omega
      · simp only [Value.slice.injEq] at he; omega
    have hs : Src Tryz.prog i0.size 24 (.slice A 0 c) 0 [] W := by
      cases A with
      | none => exact Src.ofNil _ Tryz.underlying24 c
      | some a => exact Src.ofSlice W Tryz.underlying24 a 0 c [] (by simp) (fun j u hj => by simp at hj) (fun u hu => by cases hu)
    exact ⟨_, W, run_append_nothing (P := Tryz.prog) W 24 24 ty 27 i0 Tryz.underlying24 hi a0 k cap hcap _ hs, by simpa using hown, ⟨rfl, rfl, rfl, Nat.le_refl _, fun _ _ _ => rfl⟩⟩
  · obtain ⟨a, rfl, hnews⟩ : ∃ a, A = some a ∧ ∀ j u, news[j]? = some u → W.cell? (a.add j) = some u := hA.resolve_left (by omega)
    obtain ⟨v', W', hr, h2, h3, -⟩ := append_where (P := Tryz.prog) W B 24 ty 27 i0 (.agg zeroF) 5 80 Tryz.underlying24 hi hz0 hz1 hz2 rfl (by omega) v k xs hown a m c news hl hnews h1 (by unfold maxLen; omega) (by omega) hB hm
    exact ⟨v', W', hr, h2, h3⟩
theorem own_empty (W : World) (B : Nat) (hB : B ≤ W.heap.size) (e : TypeId) : (W.alloc (.cells #[] e)).ownsRow B e 5 (.slice (some ⟨W.heap.size, 0, none⟩) 0 0) 0 [] :=
  ⟨rfl, .inr ⟨W.heap.size, 0, #[], rfl, hB, BlockIs.new W e #[], Nat.le_refl _, by simp [maxLen], rfl, rfl⟩⟩
/-- A list that was made behind a world. -/
def Made (P : Nat → Prop) (W W' : World) (v : Value) (l : List V) : Prop :=
  ∃ A c, v = .slice A l.length c ∧ l.length ≤ c ∧ c ≤ maxLen ∧ (l = [] ∨ ∃ b o, A = some ⟨b, o, none⟩ ∧ (P b ∨ Fresh W W' b) ∧ LiesFromIn (fun b => P b ∨ Fresh W W' b) W' l b o)
theorem Made.of {P : Nat → Prop} {W W' : World} {v : Value} {l : List V} {css : List (List Value)} (ho : W'.ownsRow W.heap.size 27 5 v l.length css.flatten) (hr : RowsIn P W' l css) : Made P W W' v l := by
  obtain ⟨A, c, rfl, h1, h2, h3⟩ := rows_lie (P := fun b => P b ∨ Fresh W W' b) (RowsIn.keep (fun _ _ _ => rfl) (fun b hb => .inl hb) hr) ho (fun b hb => .inr (World.ownsRow.lt ho b hb))
  exact ⟨A, c, rfl, h1, h2, h3⟩
theorem Made.lies {P : Nat → Prop} {W W' : World} {v : Value} {l : List V} (h : Made P W W' v l) : ∃ A c, v = .slice A l.length c ∧ LiesIn (fun b => P b ∨ Fresh W W' b) W' (.mk 4 0 ⟨#[]⟩ l []) A c none 0 := by
  obtain ⟨A, c, rfl, h1, h2, h3⟩ := h
  exact ⟨A, c, rfl, by decide, h1, h2, ⟨Nat.le_refl _, by simp [maxLen], .inl rfl⟩, h3⟩
theorem none_below {W W' : World} {v : Value} (h : W.grownBy W' v.ownBlock) {B : Nat} (hB : B ≤ W.heap.size) (hv : ∀ b, v.ownBlock = some b → B ≤ b) : Below B W W' := below_grow h hB hv
/-- What the specification's put leaves: what is answered hangs on what was there and on what is new. -/
def RefP (B : Nat) (q : V × Int) (w : World) (e : Ending) (w' : World) : Prop :=
  ∃ A c K d, e = .returned (.tuple #[aggOf q.1 A c K d, .int .i64 q.2]) ∧ LiesIn (fun b => b < B ∨ Fresh w w' b) w' q.1 A c K d ∧ Below w.heap.size w w'
/-- Its boxes: the value, what is laid, what is answered, the step. -/
structure QB (w : World) (vc xc : Array Value) (i : Int) (k : ByteArray) (W : World) : Prop where
  old : Below w.heap.size w W
  bv : BlockIs W w.heap.size 27 vc
  bx : BlockIs W (w.heap.size + 1) 27 xc
  br : BlockIs W (w.heap.size + 2) 27 zeroF
  bs : BlockIs W (w.heap.size + 3) 34 #[.int .i64 i, .string k]
section
variable {w W W' : World} {vc xc : Array Value} {i : Int} {k : ByteArray} {B : Nat} {a b c d e u0 u1 u2 u3 u4 : Value} {y : V} {A K : Option Addr} {m q : Nat}
theorem QB.start (w : World) (vc xc : Array Value) (i : Int) (k : ByteArray) : QB w vc xc i k ((((w.alloc (.cells vc 27)).alloc (.cells xc 27)).alloc (.cells zeroF 27)).alloc (.cells #[.int .i64 i, .string k] 34)) :=
  ⟨below_al (below_al (below_al (below_al (Below.refl _ w) _) _) _) _, (((BlockIs.new w _ _).alloc _).alloc _).alloc _, ((BlockIs.newAt _ _ _ (by simp)).alloc _).alloc _, (BlockIs.newAt _ _ _ (by simp)).alloc _, BlockIs.newAt _ _ _ (by simp)⟩
theorem QB.on (h : QB w vc xc i k W) (hb : Below W.heap.size W W') : QB w vc xc i k W' := ⟨below_on h.old hb, h.bv.below hb h.bv.lt, h.bx.below hb h.bx.lt, h.br.below hb h.br.lt, h.bs.below hb h.bs.lt⟩
theorem QB.setv (h : QB w #[a, b, c, d, e] xc i k W) : QB w #[u0, u1, u2, u3, u4] xc i k (put5 W w.heap.size 0 u0 u1 u2 u3 u4) := by
  have hh := fun g (hg : g ≠ w.heap.size) => put5_heap W w.heap.size 0 u0 u1 u2 u3 u4 hg
  refine ⟨((((h.old.setCell (by simp) _).setCell (by simp) _).setCell (by simp) _).setCell (by simp) _).setCell (by simp) _, ?_, h.bx.to (hh _ (by omega)), h.br.to (hh _ (by omega)), h.bs.to (hh _ (by omega))⟩
  have := ((((h.bv.set_ 0 u0).set_ 1 u1).set_ 2 u2).set_ 3 u3).set_ 4 u4
  simpa [put5] using this
theorem QB.ends (h : QB w vc xc i k W) : Below w.heap.size w (put5 W (w.heap.size + 2) 0 u0 u1 u2 u3 u4) :=
  ((((h.old.setCell (by simp) _).setCell (by simp) _).setCell (by simp) _).setCell (by simp) _).setCell (by simp) _
theorem QB.size (h : QB w vc xc i k W) : w.heap.size + 4 ≤ W.heap.size := by have := h.bs.lt; omega
theorem QB.bad (h : QB w vc xc i k W) (r : Int) : RefP B (nullV, r) w (.returned (.tuple #[aggOf (leaf 0 0 ⟨#[]⟩) none 0 none 0, .int .i64 r])) (put5 W (w.heap.size + 2) 0 u0 u1 u2 u3 u4) :=
  ⟨none, 0, none, 0, rfl, lies_leaf _ _ 0 0 _ (by decide), h.ends⟩
/-- What was made behind the boxes, answered. -/
theorem QB.good (h : QB w vc xc i k W) (hB : B ≤ w.heap.size) (hl : LiesIn (fun b => b < B ∨ (w.heap.size + 4 ≤ b ∧ b < W.heap.size)) W y A m K q) : RefP B (y, 0) w (.returned (.tuple #[aggOf y A m K q, .int .i64 0])) (put5 W (w.heap.size + 2) 0 u0 u1 u2 u3 u4) := by
  have hs := put5_size W (w.heap.size + 2) 0 u0 u1 u2 u3 u4
  refine ⟨A, m, K, q, rfl, LiesIn.keep (fun b o hb => World.cell?_of_block (put5_heap W (w.heap.size + 2) 0 u0 u1 u2 u3 u4 ?_)) (fun b hb => hb.imp id fun hb => ⟨by omega, by rw [hs]; exact hb.2⟩) _ hl, h.ends⟩
  rcases (show b < B ∨ _ from hb) with hb | hb
  · show b ≠ w.heap.size + 2; omega
  · have := hb.1; show b ≠ w.heap.size + 2; omega
end
/-- Where it stands behind the inner put. -/
structure QC (B : Nat) (w : World) (vc xc : Array Value) (i : Int) (k : ByteArray) (g : Nat) (y : V) (A : Option Addr) (c : Nat) (K : Option Addr) (d : Nat) (y0 : V) (A4 : Option Addr) (c4 : Nat) (K4 : Option Addr) (d4 : Nat) (W : World) : Prop where
  qb : QB w vc xc i k W
  box : BlockIs W g 27 #[.int .i64 y.kind, .int .i64 y.int, .string y.text, .slice A y.items.length c, .slice K y.keys.length d]
  ly : LiesIn (fun b => b < B ∨ (w.heap.size + 4 ≤ b ∧ b < W.heap.size)) W y A c K d
  l0 : Lies W B y0 A4 c4 K4 d4
section
variable {B i' : Nat} {w w6 W5 : World} {vc xc : Array Value} {i : Int} {k : ByteArray} {y y0 : V} {A K A4 K4 : Option Addr} {c d c4 d4 : Nat}
theorem QC.after (h5 : QB w vc xc i k W5) (hB : B ≤ w.heap.size) (h0 : Lies W5 B y0 A4 c4 K4 d4) (h : LiesIn (fun b => b < B ∨ Fresh W5.drew w6 b) w6 y A c K d ∧ Below W5.drew.heap.size W5.drew w6) :
    QC B w vc xc i k w6.heap.size y A c K d y0 A4 c4 K4 d4 (w6.alloc (.cells #[.int .i64 y.kind, .int .i64 y.int, .string y.text, .slice A y.items.length c, .slice K y.keys.length d] 27)) := by
  obtain ⟨hl, h6⟩ := h
  have hb : Below W5.heap.size W5 w6 := ⟨h6.os, h6.tape, h6.output, h6.size, h6.block⟩
  have hs := h5.size
  have h6s := hb.size
  refine ⟨(h5.on hb).on (below_al (Below.refl _ w6) _), BlockIs.new w6 _ _, LiesIn.keep (fun b o hlt => World.cell?_alloc_lt _ _ _ ?_) (fun b hb => hb.imp id fun hb => ⟨?_, ?_⟩) _ hl, h0.keep (fun b o hlt => bcell (below_al hb _) b o (by omega)) (Nat.le_refl _) y0⟩
  · show b < w6.heap.size
    rcases (show b < B ∨ Fresh W5.drew w6 b from hlt) with h | h
    · omega
    · exact h.2
  · have := hb.1; have e : W5.drew.heap.size = W5.heap.size := rfl; omega
  · have := hb.2; simp; omega
theorem QC.ahead (h5 : QB w vc xc i k W5) (hB : B ≤ w.heap.size) (h0 : Lies W5 B y0 A4 c4 K4 d4) (h : LiesIn (fun b => b < B ∨ Fresh (W5.drew.alloc (.cells zeroF 27)) w6 b) w6 y A c K d ∧ Below (W5.drew.alloc (.cells zeroF 27)).heap.size (W5.drew.alloc (.cells zeroF 27)) w6) :
    QC B w vc xc i k W5.heap.size y A c K d y0 A4 c4 K4 d4 (put5 w6 W5.heap.size 0 (.int .i64 y.kind) (.int .i64 y.int) (.string y.text) (.slice A y.items.length c) (.slice K y.keys.length d)) := by
  obtain ⟨hl, h6⟩ := h
  have hb1 : Below W5.heap.size W5 (W5.drew.alloc (.cells zeroF 27)) := below_al (Below.refl _ W5).drew _
  have hz1 : (W5.drew.alloc (.cells zeroF 27)).heap.size = W5.heap.size + 1 := by simp
  have hb : Below W5.heap.size W5 w6 := hb1.trans (h6.mono (by omega))
  have hs := h5.size
  have h6s := h6.size
  have hbox : BlockIs w6 W5.heap.size 27 zeroF := (show BlockIs (W5.drew.alloc (.cells zeroF 27)) W5.heap.size 27 zeroF from BlockIs.new W5.drew _ _).below h6 (by omega)
  have hp : Below W5.heap.size W5 (put5 w6 W5.heap.size 0 (.int .i64 y.kind) (.int .i64 y.int) (.string y.text) (.slice A y.items.length c) (.slice K y.keys.length d)) := below_put5 hb (Nat.le_refl _) _ _ _ _ _
  refine ⟨h5.on hp, ?_, LiesIn.keep (fun b o hlt => World.cell?_of_block (put5_heap _ _ _ _ _ _ _ _ ?_)) (fun b hb => hb.imp id fun hb => ⟨?_, ?_⟩) _ hl, h0.keep (fun b o hlt => bcell hp b o (by omega)) (Nat.le_refl _) y0⟩
  · have := ((((hbox.set_ 0 (.int .i64 y.kind)).set_ 1 (.int .i64 y.int)).set_ 2 (.string y.text)).set_ 3 (.slice A y.items.length c)).set_ 4 (.slice K y.keys.length d)
    simpa [put5, zeroF] using this
  · show b ≠ W5.heap.size
    rcases (show b < B ∨ Fresh _ w6 b from hlt) with h | h
    · omega
    · have := h.1; omega
  · have := hb.1; omega
  · rw [put5_size]; exact hb.2
end
/-- Another error from within. -/
theorem QC.bad {B g : Nat} {w W : World} {vc xc : Array Value} {i : Int} {k : ByteArray} {y y0 : V} {A K A4 K4 : Option Addr} {c d c4 d4 : Nat} {u0 u1 u2 u3 u4 : Value} (h : QC B w vc xc i k g y A c K d y0 A4 c4 K4 d4 W) (r : Int) :
    RefP B (nullV, r) w (.returned (.tuple #[aggOf (leaf 0 0 ⟨#[]⟩) none 0 none 0, .int .i64 r])) (put5 W (w.heap.size + 2) 0 u0 u1 u2 u3 u4) := h.qb.bad r
theorem RefP.end_ {B : Nat} {z : V} {w w' : World} {A K : Option Addr} {c d : Nat} (h : Lies w B z A c K d) (hB : B ≤ w.heap.size) (hb : Below w.heap.size w w') : RefP B (z, 0) w (.returned (.tuple #[aggOf z A c K d, .int .i64 0])) w' :=
  ⟨A, c, K, d, rfl, lies_inn (fun b hb => .inl hb) z (Lies.keep (fun b o hlt => bcell hb b o (by omega)) (Nat.le_refl _) z h), hb⟩
theorem kindV_ok {x : V} (h : x.ok = true) (s : Stp) (_hs : (kindV x s).kind = holderS s) : (kindV x s).ok = true := by
  unfold kindV
  split
  · rename_i h0
    rw [null_of h h0]
    unfold holderS
    split
    · exact (by decide : (V.mk 5 0 ⟨#[]⟩ [] []).ok = true)
    · exact (by decide : (V.mk 4 0 ⟨#[]⟩ [] []).ok = true)
  · exact h
theorem kindV_null {x : V} (h : x.ok = true) (h0 : x.kind = 0) (s : Stp) : kindV x s = leaf (holderS s) 0 ⟨#[]⟩ := by
  unfold kindV
  rw [if_pos h0, null_of h h0]
  rfl
open Go.RowKit
/-- A part of a row appended to an owned row, and where the new row lies. -/
theorem appendW (ty : TypeId) (W : World) (B : Nat) (v : Value) (k : Nat) (xs : List Value) (hown : W.ownsRow B 27 5 v k xs) (a : Addr) (m c : Nat) (news : List Value) (hl : news.length = m * 5) (hA : ∀ j u, news[j]? = some u → W.cell? (a.add j) = some u) (h1 : ∀ u ∈ news, u.oneCell' = true) (hk : k + m ≤ 100000) (hB : B ≤ W.heap.size) (hm : 0 < m) :
    ∃ v' W', (Builtin.append_ #[24, 24] ty #[v, .slice (some a) m c]).run Tryz.prog W = .ok v' W' ∧ W'.ownsRow B 27 5 v' (k + m) (xs ++ news) ∧ W.grownBy W' v.ownBlock ∧ (v'.ownBlock = v.ownBlock ∨ ∃ n c, v' = .slice (some ⟨W.heap.size, 0, none⟩) n c) := by
  obtain ⟨i0, hi, hz0, hz1, hz2⟩ := info_parts (P := Tryz.prog) (e := 27) (z := (.agg zeroF)) (size := 5) (bytes := 80) (by kernel_rfl)
  exact append_where (P := Tryz.prog) W B 24 ty 27 i0 (.agg zeroF) 5 80 Tryz.underlying24 hi hz0 hz1 hz2 rfl (by omega) v k xs hown a m c news hl hA h1 (by unfold maxLen; omega) (by omega) hB hm
theorem appendKW (ty : TypeId) (W : World) (B : Nat) (v : Value) (k : Nat) (xs : List Value) (hown : W.ownsRow B 9 1 v k xs) (a : Addr) (m c : Nat) (news : List Value) (hl : news.length = m * 1) (hA : ∀ j u, news[j]? = some u → W.cell? (a.add j) = some u) (h1 : ∀ u ∈ news, u.oneCell' = true) (hk : k + m ≤ 100000) (hB : B ≤ W.heap.size) (hm : 0 < m) :
    ∃ v' W', (Builtin.append_ #[25, 25] ty #[v, .slice (some a) m c]).run Tryz.prog W = .ok v' W' ∧ W'.ownsRow B 9 1 v' (k + m) (xs ++ news) ∧ W.grownBy W' v.ownBlock ∧ (v'.ownBlock = v.ownBlock ∨ ∃ n c, v' = .slice (some ⟨W.heap.size, 0, none⟩) n c) := by
  obtain ⟨i0, hi, hz0, hz1, hz2⟩ := info_parts (P := Tryz.prog) (e := 9) (z := (.string ⟨#[]⟩)) (size := 1) (bytes := 16) (by kernel_rfl)
  exact append_where (P := Tryz.prog) W B 25 ty 9 i0 (.string ⟨#[]⟩) 1 16 Tryz.underlying25 hi hz0 hz1 hz2 rfl (by omega) v k xs hown a m c news hl hA h1 (by unfold maxLen; omega) (by omega) hB hm
/-- The blocks that what was collected hangs on: elder ones, and the call's own, but the rows'. -/
def PO (w : World) (B : Nat) (rI rK : Value) (W : World) (b : Nat) : Prop := b < B ∨ (w.heap.size + 3 ≤ b ∧ b < W.heap.size ∧ some b ≠ rI.ownBlock ∧ some b ≠ rK.ownBlock)
/-- How far a value is copied. -/
structure WO (w : World) (B : Nat) (vc : Array Value) (kd : Int) (accI : List V) (accK : List ByteArray) (rI rK : Value) (css : List (List Value)) (W : World) : Prop where
  old : Below w.heap.size w W
  bv : BlockIs W w.heap.size 27 vc
  br : BlockIs W (w.heap.size + 1) 27 zeroF
  bo : BlockIs W (w.heap.size + 2) 27 #[.int .i64 kd, .int .i64 0, .string ⟨#[]⟩, rI, rK]
  items : W.ownsRow (w.heap.size + 3) 27 5 rI accI.length css.flatten
  keys : W.ownsRow (w.heap.size + 3) 9 1 rK accK.length (accK.map Value.string)
  rows : RowsIn (PO w B rI rK W) W accI css
  sizes : ∀ k ∈ accK, k.size ≤ maxLen
section
variable {w W W' w1 : World} {B : Nat} {vc : Array Value} {kd : Int} {accI : List V} {accK : List ByteArray} {rI rK v' : Value} {css : List (List Value)} {y : V} {A K : Option Addr} {c d : Nat} {u0 u1 u2 u3 u4 : Value}
theorem WO.start (w : World) (B : Nat) (vc : Array Value) (kd : Int) : WO w B vc kd [] [] (.slice none 0 0) (.slice none 0 0) [] (((w.alloc (.cells vc 27)).alloc (.cells zeroF 27)).alloc (.cells #[.int .i64 kd, .int .i64 0, .string ⟨#[]⟩, .slice none 0 0, .slice none 0 0] 27)) :=
  ⟨below_al (below_al (below_al (Below.refl _ w) _) _) _, ((BlockIs.new w _ _).alloc _).alloc _, (BlockIs.newAt _ _ _ (by simp)).alloc _, BlockIs.newAt _ _ _ (by simp), World.ownsRow_nil _ _ _ _, World.ownsRow_nil _ _ _ _, trivial, by simp⟩
theorem WO.lt (h : WO w B vc kd accI accK rI rK css W) : w.heap.size + 3 ≤ W.heap.size := by have := h.bo.lt; omega
theorem PO.lt (h : WO w B vc kd accI accK rI rK css W) (hB : B ≤ w.heap.size) {b : Nat} (hb : PO w B rI rK W b) : b < W.heap.size := by
  have := h.lt
  rcases hb with h | h
  · omega
  · exact h.2.1
theorem WO.below (h : WO w B vc kd accI accK rI rK css W) (hB : B ≤ w.heap.size) (hb : Below W.heap.size W W') : WO w B vc kd accI accK rI rK css W' := by
  have hs := hb.size
  have hk : ∀ v : Value, v.ownBlock = none ∨ v.ownBlock ≠ (none : Option Nat) := fun v => by cases v.ownBlock <;> simp
  refine ⟨below_on h.old hb, h.bv.below hb h.bv.lt, h.br.below hb h.br.lt, h.bo.below hb h.bo.lt, h.items.kept (grown_none hb) (hk _), h.keys.kept (grown_none hb) (hk _), h.rows.keep (fun b o hx => bcell hb b o (PO.lt h hB hx)) (fun b hx => hx.imp id fun hx => ⟨hx.1, by omega, hx.2.2⟩), h.sizes⟩
/-- An item more. -/
theorem WO.item (h : WO w B vc kd accI accK rI rK css W) (hB : B ≤ w.heap.size) (hy : LiesIn (PO w B rI rK W) W y A c K d) (hlen : accI.length ≤ 10000) :
    ∃ v' W1, (Builtin.append_ #[24, 24] 24 #[rI, .slice (some ⟨W.heap.size, 0, none⟩) 1 1]).run Tryz.prog (W.alloc (.cells #[.int .i64 y.kind, .int .i64 y.int, .string y.text, .slice A y.items.length c, .slice K y.keys.length d] 27)) = .ok v' W1 ∧
      (∃ A c, v' = .slice A (accI.length + 1) c) ∧ (∀ o, W1.cell? ⟨w.heap.size + 2, o, none⟩ = W.cell? ⟨w.heap.size + 2, o, none⟩) ∧ W1.frozen? ⟨w.heap.size + 2, 3, none⟩ = false ∧ w.heap.size + 2 < W1.heap.size ∧ WO w B vc kd (accI ++ [y]) accK v' rK (css ++ [fieldsL y A c K d]) (W1.setCell ⟨w.heap.size + 2, 3, none⟩ v') := by
  have hlt := h.lt
  have hb1a := below_al (Below.refl _ W) (.cells #[.int .i64 y.kind, .int .i64 y.int, .string y.text, .slice A y.items.length c, .slice K y.keys.length d] 27)
  have ha := h.below hB hb1a
  have hnew := BlockIs.new W 27 #[.int .i64 y.kind, .int .i64 y.int, .string y.text, .slice A y.items.length c, .slice K y.keys.length d]
  have hz : (W.alloc (.cells #[.int .i64 y.kind, .int .i64 y.int, .string y.text, .slice A y.items.length c, .slice K y.keys.length d] 27)).heap.size = W.heap.size + 1 := by simp
  obtain ⟨v', W1, hr, ho, hg, hw⟩ := appendW 24 _ (w.heap.size + 3) rI accI.length _ ha.items ⟨W.heap.size, 0, none⟩ 1 1 (fieldsL y A c K d) rfl (fun j u hj => by
    rw [Addr.add_lit, Nat.zero_add, hnew.cell j, ← hj]
    simp [fieldsL]) (fun u hu => by simp only [fieldsL, List.mem_cons, List.not_mem_nil, or_false] at hu; rcases hu with rfl | rfl | rfl | rfl | rfl <;> rfl) (by omega) (by omega) (by omega)
  have hge : ∀ g, g < w.heap.size + 3 → some g ≠ rI.ownBlock := fun g hg => own_ge ha.items hg
  have hs1 := hg.size
  have hB1 : Below w.heap.size w W1 := ha.old.trans (below_grow hg ha.old.size (fun r e => by have := (World.ownsRow.lt ha.items r e).1; omega))
  have hB2 : Below w.heap.size w (W1.setCell ⟨w.heap.size + 2, 3, none⟩ v') := hB1.setCell (by simp) _
  have hapart : v'.ownBlock = none ∨ v'.ownBlock ≠ rK.ownBlock := two_apart ho (ha.keys.kept hg (two_apart ha.keys ha.items (by decide))) (by decide)
  have hold : ∀ b, b < W.heap.size → b ≠ w.heap.size + 2 → some b ≠ rI.ownBlock → (W1.setCell ⟨w.heap.size + 2, 3, none⟩ v').heap[b]? = W.heap[b]? := fun b h1 h2 h3 => by
    rw [Below.heap_setCell _ _ _ _ h2, hg.block b (by omega) h3, Below.heap_alloc _ _ _ h1]
  have hP : ∀ b, PO w B rI rK W b → PO w B v' rK (W1.setCell ⟨w.heap.size + 2, 3, none⟩ v') b := fun b hb => hb.imp id fun hb => ⟨hb.1, by simp; have := hb.2.1; omega, row_where hw hb.2.2.1 (by have := hb.2.1; omega), hb.2.2.2⟩
  have hcell : ∀ b o, PO w B rI rK W b → (W1.setCell ⟨w.heap.size + 2, 3, none⟩ v').cell? ⟨b, o, none⟩ = W.cell? ⟨b, o, none⟩ := fun b o hb => World.cell?_of_block (by
    rcases hb with hb | hb
    · exact hold b (by omega) (by omega) (hge b (by omega))
    · exact hold b hb.2.1 (by have := hb.1; omega) hb.2.2.1)
  refine ⟨v', W1, hr, own_form ho, fun o => ?_, ?_, by omega, hB2, (ha.bv.grown hg (hge _ (by omega))).far (by simp) _, (ha.br.grown hg (hge _ (by omega))).far (by simp) _, ?_, ?_, ?_, ?_, h.sizes⟩
  · exact World.cell?_of_block (show W1.heap[w.heap.size + 2]? = W.heap[w.heap.size + 2]? by rw [hg.block _ (by omega) (hge _ (by omega)), Below.heap_alloc _ _ _ (by omega)])
  · exact (ha.bo.grown hg (hge _ (by omega))).frozen 3
  · have := (ha.bo.grown hg (hge _ (by omega))).set_ 3 v'
    simpa using this
  · have := own_set_far ho ⟨w.heap.size + 2, 3, none⟩ v' (own_ge ho (by simp))
    simpa [List.flatten_append] using this
  · exact own_set_far (ha.keys.kept hg (two_apart ha.keys ha.items (by decide))) _ _ (own_ge ha.keys (by simp))
  · exact RowsIn.append (ys := [y]) (dss := [fieldsL y A c K d]) ⟨⟨A, c, K, d, rfl, LiesIn.keep hcell hP y hy⟩, trivial⟩ (h.rows.keep hcell hP)
/-- A key more. -/
theorem WO.key (h : WO w B vc kd accI accK rI rK css W) (hB : B ≤ w.heap.size) {k : ByteArray} (hks : k.size ≤ maxLen) (hlen : accK.length ≤ 10000) :
    ∃ v' W1, (Builtin.append_ #[25, 25] 25 #[rK, .slice (some ⟨W.heap.size, 0, none⟩) 1 1]).run Tryz.prog (W.alloc (.cells #[.string k] 9)) = .ok v' W1 ∧
      (∃ A c, v' = .slice A (accK.length + 1) c) ∧ W1.frozen? ⟨w.heap.size + 2, 4, none⟩ = false ∧ w.heap.size + 2 < W1.heap.size ∧ (∀ o, W1.cell? ⟨w.heap.size + 2, o, none⟩ = W.cell? ⟨w.heap.size + 2, o, none⟩) ∧ WO w B vc kd accI (accK ++ [k]) rI v' css (W1.setCell ⟨w.heap.size + 2, 4, none⟩ v') := by
  have hlt := h.lt
  have hb1a := below_al (Below.refl _ W) (.cells #[.string k] 9)
  have ha := h.below hB hb1a
  have hnew := BlockIs.new W 9 #[.string k]
  have hz : (W.alloc (.cells #[.string k] 9)).heap.size = W.heap.size + 1 := by simp
  obtain ⟨v', W1, hr, ho, hg, hw⟩ := appendKW 25 _ (w.heap.size + 3) rK accK.length _ ha.keys ⟨W.heap.size, 0, none⟩ 1 1 [.string k] rfl (fun j u hj => by
    rw [Addr.add_lit, Nat.zero_add, hnew.cell j, ← hj]
    simp) (fun u hu => by simp only [List.mem_cons, List.not_mem_nil, or_false] at hu; rw [hu]; rfl) (by omega) (by omega) (by omega)
  have hge : ∀ g, g < w.heap.size + 3 → some g ≠ rK.ownBlock := fun g hg => own_ge ha.keys hg
  have hs1 := hg.size
  have hB1 : Below w.heap.size w W1 := ha.old.trans (below_grow hg ha.old.size (fun r e => by have := (World.ownsRow.lt ha.keys r e).1; omega))
  have hB2 : Below w.heap.size w (W1.setCell ⟨w.heap.size + 2, 4, none⟩ v') := hB1.setCell (by simp) _
  have hold : ∀ b, b < W.heap.size → b ≠ w.heap.size + 2 → some b ≠ rK.ownBlock → (W1.setCell ⟨w.heap.size + 2, 4, none⟩ v').heap[b]? = W.heap[b]? := fun b h1 h2 h3 => by
    rw [Below.heap_setCell _ _ _ _ h2, hg.block b (by omega) h3, Below.heap_alloc _ _ _ h1]
  have hP : ∀ b, PO w B rI rK W b → PO w B rI v' (W1.setCell ⟨w.heap.size + 2, 4, none⟩ v') b := fun b hb => hb.imp id fun hb => ⟨hb.1, by simp; have := hb.2.1; omega, hb.2.2.1, row_where hw hb.2.2.2 (by have := hb.2.1; omega)⟩
  have hcell : ∀ b o, PO w B rI rK W b → (W1.setCell ⟨w.heap.size + 2, 4, none⟩ v').cell? ⟨b, o, none⟩ = W.cell? ⟨b, o, none⟩ := fun b o hb => World.cell?_of_block (by
    rcases hb with hb | hb
    · exact hold b (by omega) (by omega) (hge b (by omega))
    · exact hold b hb.2.1 (by have := hb.1; omega) hb.2.2.2)
  refine ⟨v', W1, hr, own_form ho, (ha.bo.grown hg (hge _ (by omega))).frozen 4, by omega, fun o => ?_, hB2, (ha.bv.grown hg (hge _ (by omega))).far (by simp) _, (ha.br.grown hg (hge _ (by omega))).far (by simp) _, ?_, ?_, ?_, h.rows.keep hcell hP, ?_⟩
  · exact World.cell?_of_block (show W1.heap[w.heap.size + 2]? = W.heap[w.heap.size + 2]? by rw [hg.block _ (by omega) (hge _ (by omega)), Below.heap_alloc _ _ _ (by omega)])
  · have := (ha.bo.grown hg (hge _ (by omega))).set_ 4 v'
    simpa using this
  · exact own_set_far (ha.items.kept hg (two_apart ha.items ha.keys (by decide))) _ _ (own_ge ha.items (by simp))
  · have := own_set_far ho ⟨w.heap.size + 2, 4, none⟩ v' (own_ge ho (by simp))
    simpa using this
  · intro q hq
    rcases List.mem_append.1 hq with hq | hq
    · exact h.sizes q hq
    · rw [List.mem_singleton.1 hq]; exact hks
/-- What was collected, answered. -/
theorem WO.done (h : WO w B vc kd accI accK rI rK css W) (hB : B ≤ w.heap.size) :
    ∃ A c K d, rI = .slice A accI.length c ∧ rK = .slice K accK.length d ∧ LiesIn (fun b => b < B ∨ Fresh w (put5 W (w.heap.size + 1) 0 u0 u1 u2 u3 u4) b) (put5 W (w.heap.size + 1) 0 u0 u1 u2 u3 u4) (.mk kd 0 ⟨#[]⟩ accI accK) A c K d ∧ Below w.heap.size w (put5 W (w.heap.size + 1) 0 u0 u1 u2 u3 u4) := by
  have hlt := h.lt
  have hr : RowsIn (fun b => b < B ∨ (w.heap.size + 3 ≤ b ∧ b < W.heap.size)) W accI css := h.rows.keep (fun _ _ _ => rfl) (fun b hb => hb.imp id fun hb => ⟨hb.1, hb.2.1⟩)
  obtain ⟨A, c, rfl, hc1, hc2, hA⟩ := rows_lie hr h.items (fun b hb => .inr (World.ownsRow.lt h.items b hb))
  have hcK := fun g hg => World.ownsRow.cells h.keys (g := g) hg
  have h8 := h.keys
  obtain ⟨K, q, rfl, hq1, hq2, hK⟩ : ∃ K q, rK = .slice K accK.length q ∧ accK.length ≤ q ∧ q ≤ maxLen ∧ (accK = [] ∨ ∃ b, K = some ⟨b, 0, none⟩ ∧ (w.heap.size + 3 ≤ b ∧ b < W.heap.size) ∧ StrsFrom W accK b 0) := by
    have hlt := fun b hb => World.ownsRow.lt h8 b hb
    obtain ⟨hl, ⟨rfl, h0⟩ | ⟨g', cap, cur, rfl, hB, hb, hn, hm, hs, ht⟩⟩ := h8
    · exact ⟨none, 0, by rw [h0], by omega, by simp [maxLen], .inl (List.length_eq_zero_iff.1 h0)⟩
    · refine ⟨_, _, rfl, hn, hm, .inr ⟨g', rfl, hlt g' rfl, keys_from h.sizes fun j v hj => ?_⟩⟩
      have := hcK g' rfl j v hj
      rw [Addr.add_lit] at this
      exact this
  have hL : LiesIn (fun b => b < B ∨ (w.heap.size + 3 ≤ b ∧ b < W.heap.size)) W (V.mk kd 0 ⟨#[]⟩ accI accK) A c K q := by
    rw [LiesIn]
    exact ⟨by decide, hc1, hc2, ⟨hq1, hq2, hK.imp id fun ⟨b, hKe, hb, hfr⟩ => ⟨b, 0, hKe, .inr hb, hfr⟩⟩, hA⟩
  have hs := put5_size W (w.heap.size + 1) 0 u0 u1 u2 u3 u4
  refine ⟨A, c, K, q, rfl, rfl, LiesIn.keep (fun b o hb => World.cell?_of_block (put5_heap W (w.heap.size + 1) 0 u0 u1 u2 u3 u4 ?_)) (fun b hb => hb.imp id fun hb => ⟨by omega, by rw [hs]; exact hb.2⟩) _ hL, ((((h.old.setCell (by simp) _).setCell (by simp) _).setCell (by simp) _).setCell (by simp) _).setCell (by simp) _⟩
  show b ≠ w.heap.size + 1
  rcases (show b < B ∨ (w.heap.size + 3 ≤ b ∧ b < W.heap.size) from hb) with hb | hb
  · omega
  · have := hb.1; omega
/-- Behind the inner call: its answer laid in the item's box. -/
theorem WO.inner {wr wc w6 : World} {a0 a1 a2 a3 a4 : Value} (h : WO w B vc kd accI accK rI rK css wr) (hB : B ≤ w.heap.size) (hb : Below wr.heap.size wr wc) (hbox : BlockIs wc wr.heap.size 27 #[a0, a1, a2, a3, a4]) (h6 : Below wc.drew.heap.size wc.drew w6) (hl : LiesIn (fun b => b < B ∨ Fresh wc.drew w6 b) w6 y A c K d) :
    WO w B vc kd accI accK rI rK css (put5 w6 wr.heap.size 0 (.int .i64 y.kind) (.int .i64 y.int) (.string y.text) (.slice A y.items.length c) (.slice K y.keys.length d)) ∧ BlockIs (put5 w6 wr.heap.size 0 (.int .i64 y.kind) (.int .i64 y.int) (.string y.text) (.slice A y.items.length c) (.slice K y.keys.length d)) wr.heap.size 27 #[.int .i64 y.kind, .int .i64 y.int, .string y.text, .slice A y.items.length c, .slice K y.keys.length d] ∧
      LiesIn (PO w B rI rK (put5 w6 wr.heap.size 0 (.int .i64 y.kind) (.int .i64 y.int) (.string y.text) (.slice A y.items.length c) (.slice K y.keys.length d))) (put5 w6 wr.heap.size 0 (.int .i64 y.kind) (.int .i64 y.int) (.string y.text) (.slice A y.items.length c) (.slice K y.keys.length d)) y A c K d := by
  have hlt := h.lt
  have hg := hbox.lt
  have hc6 : Below wc.heap.size wc w6 := ⟨h6.os, h6.tape, h6.output, h6.size, h6.block⟩
  have hb6 : Below wr.heap.size wr w6 := hb.trans (hc6.mono hb.size)
  have hp := below_put5 (g := wr.heap.size) hb6 (Nat.le_refl _) (.int .i64 y.kind) (.int .i64 y.int) (.string y.text) (.slice A y.items.length c) (.slice K y.keys.length d)
  have hs := put5_size w6 wr.heap.size 0 (.int .i64 y.kind) (.int .i64 y.int) (.string y.text) (.slice A y.items.length c) (.slice K y.keys.length d)
  have hf : ∀ b, Fresh wc.drew w6 b → wc.heap.size ≤ b ∧ b < w6.heap.size := fun b hb => hb
  refine ⟨h.below hB hp, ?_, LiesIn.keep (fun b o hb => World.cell?_of_block (put5_heap _ _ _ _ _ _ _ _ ?_)) (fun b hb => hb.imp id fun hb => ⟨by have := (hf b hb).1; omega, by rw [hs]; exact hb.2, fun e => ?_, fun e => ?_⟩) _ hl⟩
  · have := (((((hbox.below hc6 hg).set_ 0 (.int .i64 y.kind)).set_ 1 (.int .i64 y.int)).set_ 2 (.string y.text)).set_ 3 (.slice A y.items.length c)).set_ 4 (.slice K y.keys.length d)
    simpa [put5] using this
  · show b ≠ wr.heap.size
    rcases (show b < B ∨ Fresh wc.drew w6 b from hb) with h | h
    · omega
    · have := (hf b h).1; omega
  · have := (World.ownsRow.lt h.items b e.symm).2; have := (hf b hb).1; omega
  · have := (World.ownsRow.lt h.keys b e.symm).2; have := (hf b hb).1; omega
/-- An elder value hangs on elder blocks. -/
theorem WO.elder (h : WO w B vc kd accI accK rI rK css W) (hl : Lies w B y A c K d) (hB : B ≤ w.heap.size) : LiesIn (PO w B rI rK W) W y A c K d :=
  lies_inn (fun b hb => .inl hb) y (hl.keep (fun b o hlt => bcell h.old b o (by omega)) (Nat.le_refl _) y)
end
open Go.RowKit
/-- The keys that stay. -/
def keyCut (kd : Int) (b : Bool) (n : Nat) (k : ByteArray) (l : List ByteArray) : List ByteArray := if kd = 5 then cutL b n k l else []
theorem WO.skip {w W : World} {B : Nat} {vc : Array Value} {kd : Int} {l : List V} {ks : List ByteArray} {r : List Stp} {n0 j : Nat} {yo y : V} {k : ByteArray} {rI rK : Value} {css : List (List Value)}
    (h : WO w B vc kd (cutL (decide (r = [])) n0 yo (l.take j)) (keyCut kd (decide (r = [])) n0 k (ks.take j)) rI rK css W) (hr : r = []) (hj : j = n0) (hy : l[j]? = some y) (hk : kd = 5 → ks[j]? = some k) :
    WO w B vc kd (cutL (decide (r = [])) n0 yo (l.take (j + 1))) (keyCut kd (decide (r = [])) n0 k (ks.take (j + 1))) rI rK css W := by
  subst hr hj
  have e1 : cutL (decide (([] : List Stp) = [])) j yo (l.take (j + 1)) = cutL (decide (([] : List Stp) = [])) j yo (l.take j) := cutL_skip hy
  have e2 : keyCut kd (decide (([] : List Stp) = [])) j k (ks.take (j + 1)) = keyCut kd (decide (([] : List Stp) = [])) j k (ks.take j) := by
    unfold keyCut
    by_cases h5 : kd = 5
    · rw [if_pos h5, if_pos h5]; exact cutL_skip (hk h5)
    · rw [if_neg h5, if_neg h5]
  rw [e1, e2]
  exact h
open Go.RowKit
theorem inn_items {P : Nat → Prop} {w : World} : ∀ {x : V} {A c K d}, LiesIn P w x A c K d → x.items.length ≤ c ∧ c ≤ maxLen ∧ (x.items = [] ∨ ∃ b o, A = some ⟨b, o, none⟩ ∧ P b ∧ LiesFromIn P w x.items b o)
  | .mk _ _ _ _ _, _, _, _, _, h => by rw [LiesIn] at h; exact ⟨h.2.1, h.2.2.1, h.2.2.2.2⟩
theorem inn_keys {P : Nat → Prop} {w : World} : ∀ {x : V} {A c K d}, LiesIn P w x A c K d → x.keys.length ≤ d ∧ d ≤ maxLen ∧ (x.keys = [] ∨ ∃ b o, K = some ⟨b, o, none⟩ ∧ P b ∧ StrsFrom w x.keys b o)
  | .mk _ _ _ _ _, _, _, _, _, h => by rw [LiesIn] at h; exact h.2.2.2.1
/-- What the look answers. -/
def InPost (P : Nat → Prop) (r : Option V) (w : World) (e : Ending) (w' : World) : Prop :=
  Below w.heap.size w w' ∧ match r with
    | none => e = .returned (.tuple #[aggOf (leaf 0 0 ⟨#[]⟩) none 0 none 0, .bool false])
    | some y => ∃ A c K d, e = .returned (.tuple #[aggOf y A c K d, .bool true]) ∧ LiesIn P w' y A c K d
/-- The three boxes of that look. -/
structure JBox (w : World) (P : Nat → Prop) (x : V) (A : Option Addr) (c : Nat) (K : Option Addr) (d : Nat) (i : Int) (t : ByteArray) (W : World) : Prop where
  old : Below w.heap.size w W
  bx : BlockIs W w.heap.size 27 #[.int .i64 x.kind, .int .i64 x.int, .string x.text, .slice A x.items.length c, .slice K x.keys.length d]
  bs : BlockIs W (w.heap.size + 1) 34 #[.int .i64 i, .string t]
  br : BlockIs W (w.heap.size + 2) 27 zeroF
  lies : LiesIn P W x A c K d
theorem JBox.start (w : World) (P : Nat → Prop) (hB : ∀ b, P b → b < w.heap.size) (x : V) (A : Option Addr) (c : Nat) (K : Option Addr) (d : Nat) (i : Int) (t : ByteArray) (h : LiesIn P w x A c K d) :
    JBox w P x A c K d i t (((w.alloc (.cells #[.int .i64 x.kind, .int .i64 x.int, .string x.text, .slice A x.items.length c, .slice K x.keys.length d] 27)).alloc (.cells #[.int .i64 i, .string t] 34)).alloc (.cells zeroF 27)) := by
  have hb : Below w.heap.size w (((w.alloc (.cells #[.int .i64 x.kind, .int .i64 x.int, .string x.text, .slice A x.items.length c, .slice K x.keys.length d] 27)).alloc (.cells #[.int .i64 i, .string t] 34)).alloc (.cells zeroF 27)) := below_al (below_al (below_al (Below.refl _ w) _) _) _
  exact ⟨hb, ((BlockIs.new w _ _).alloc _).alloc _, (BlockIs.newAt _ _ _ (by simp)).alloc _, BlockIs.newAt _ _ _ (by simp), LiesIn.keep (fun b o hb' => bcell hb b o (hB b hb')) (fun _ h => h) _ h⟩
theorem JBox.drewN {w W : World} {P : Nat → Prop} {x : V} {A K : Option Addr} {c d : Nat} {i : Int} {t : ByteArray} (h : JBox w P x A c K d i t W) (q : Nat) : JBox w P x A c K d i t (W.drewN q) :=
  ⟨below_drewN h.old q, h.bx, h.bs, h.br, LiesIn.keep (w := W) (w' := W.drewN q) (fun _ _ _ => rfl) (fun _ h => h) _ h.lies⟩
theorem JBox.put5 {w W : World} {P : Nat → Prop} {x : V} {A K : Option Addr} {c d : Nat} {i : Int} {t : ByteArray} (h : JBox w P x A c K d i t W) {u0 u1 u2 u3 u4 : Value} : Below w.heap.size w (Go.Proofs.YtchadlbhdcpojaaGreatDoor.put5 W (w.heap.size + 2) 0 u0 u1 u2 u3 u4) :=
  ((((h.old.setCell (by simp) _).setCell (by simp) _).setCell (by simp) _).setCell (by simp) _).setCell (by simp) _
theorem JBox.item {w W : World} {P : Nat → Prop} {x y : V} {A K Ay Ky : Option Addr} {c d cy dy : Nat} {i : Int} {t : ByteArray} (_h : JBox w P x A c K d i t W) {u0 u1 u2 u3 u4 : Value} (hB : ∀ b, P b → b < w.heap.size) (hy : LiesIn P W y Ay cy Ky dy) :
    LiesIn P (Go.Proofs.YtchadlbhdcpojaaGreatDoor.put5 W (w.heap.size + 2) 0 u0 u1 u2 u3 u4) y Ay cy Ky dy := by
  exact LiesIn.keep (fun b o hb => World.cell?_of_block (put5_heap W (w.heap.size + 2) 0 u0 u1 u2 u3 u4 (show b ≠ w.heap.size + 2 by have := hB b hb; omega))) (fun _ h => h) _ hy
set_option maxRecDepth 100000 in
set_option maxHeartbeats 8000000 in
theorem item_in (P : Nat → Prop) (x : V) (s : Stp) (w : World) (A K : Option Addr) (c d : Nat) (hBw : ∀ b, P b → b < w.heap.size) (h : LiesIn P w x A c K d) (hok : x.ok = true) :
    Calls Tryz.prog 37 #[aggOf x A c K d, stepV s] w (InPost P (itemV x s) w) := by
  obtain ⟨i, t⟩ := s
  unfold stepV aggOf
  simp only
  obtain ⟨hr, hk1, hk2⟩ := okk hok
  have hlen : x.items.length ≤ maxLen := by have := (inn_items h).1; have := (inn_items h).2.1; omega
  have hklen : x.keys.length ≤ maxLen := by have := (inn_keys h).1; have := (inn_keys h).2.1; omega
  unfold maxLen at hlen hklen
  obtain ⟨R, hR⟩ : ∃ R, R = itemV x (i, t) := ⟨_, rfl⟩
  rw [← hR]
  have HR := Lib.hid hR
  obtain ⟨W, hW⟩ : ∃ W, W = ((w.alloc (.cells #[.int .i64 x.kind, .int .i64 x.int, .string x.text, .slice A x.items.length c, .slice K x.keys.length d] 27)).alloc (.cells #[.int .i64 i, .string t] 34)).alloc (.cells #[.int .i64 0, .int .i64 0, .string ⟨#[]⟩, .slice none 0 0, .slice none 0 0] 27) := ⟨_, rfl⟩
  have hB : JBox w P x A c K d i t W := by rw [hW]; exact JBox.start w P hBw x A c K d i t h
  have HB := Lib.hid hB
  have HW := Lib.hid hW
  have HRK := Lib.hid hr
  have HK2 := Lib.hid hk2
  have HK1 := Lib.hid hk1
  clear hB hW h hok hr hk1 hk2 hR
  obtain ⟨z0, z1, z2, z3, z4⟩ := five_of (show BlockIs W (w.heap.size + 1 + 1) 27 #[.int .i64 0, .int .i64 0, .string ⟨#[]⟩, .slice none 0 0, .slice none 0 0] from HB.out.br)
  obtain ⟨b0, b1, b2, b3, b4⟩ := five_of (show BlockIs W w.heap.size 27 #[.int .i64 x.kind, .int .i64 x.int, .string x.text, .slice A x.items.length c, .slice K x.keys.length d] from HB.out.bx)
  obtain ⟨s0, s1⟩ : (W).cell? ⟨w.heap.size + 1, 0, none⟩ = Option.some (.int .i64 i) ∧ (W).cell? ⟨w.heap.size + 1, 1, none⟩ = Option.some (.string t) := ⟨HB.out.bs.cell 0, HB.out.bs.cell 1⟩
  have x0 : (W).frozen? ⟨w.heap.size + 1 + 1, 0, none⟩ = false := HB.out.br.frozen 0
  have x1 : (W).frozen? ⟨w.heap.size + 1 + 1, 1, none⟩ = false := HB.out.br.frozen 1
  have x2 : (W).frozen? ⟨w.heap.size + 1 + 1, 2, none⟩ = false := HB.out.br.frozen 2
  have x3 : (W).frozen? ⟨w.heap.size + 1 + 1, 3, none⟩ = false := HB.out.br.frozen 3
  have x4 : (W).frozen? ⟨w.heap.size + 1 + 1, 4, none⟩ = false := HB.out.br.frozen 4
  have zl : w.heap.size + 1 + 1 < (W).heap.size := HB.out.br.lt
  by_cases h0 : 0 ≤ i
  · by_cases h4 : x.kind = 4
    · have hd : (x.kind == 4) = true := by simp [h4]
      have H4 := Lib.hid h4
      clear h4
      obtain ⟨k, rfl⟩ : ∃ k : Nat, i = k := ⟨i.toNat, by omega⟩
      by_cases hl : (x.items.length : Int) ≤ k
      · have HN := Lib.hid (show R = none by rw [HR.out]; simp [itemV, H4.out, List.getElem?_eq_none (show x.items.length ≤ k by omega)])
        go_enter Tryz.func37, Tryz.ntmps37
        go_upto_region 1 with (fail)
        rw [← HW.out]
        go_wp2_with fail
        refine bodyPost_ret (v := .tuple #[aggOf (leaf 0 0 ⟨#[]⟩) none 0 none 0, .bool false]) (by simp [results, Tryz.results37, go_sem, aggOf, leaf, V.kind, V.int, V.text, V.items, V.keys, z0, z1, z2, z3, z4]) rfl ?_
        rw [HN.out]
        exact ⟨HB.out.put5, rfl⟩
      · obtain ⟨y, hy1, hy2⟩ := step_list (t := t) h0 H4.out hl
        have HY := Lib.hid (show R = Option.some y by rw [HR.out]; exact hy1)
        rcases (inn_items HB.out.lies).2.2 with hn | ⟨b, o, rfl, hbB, hf⟩
        · rw [hn] at hl; simp at hl
        · obtain ⟨Ay, cy, Ky, dy, ⟨e0, e1, e2, e3, e4⟩, hly⟩ := hf.at_ (show x.items[k]? = Option.some y from hy2)
          have HLY := Lib.hid hly
          clear hy1 hy2 hf hly
          go_enter Tryz.func37, Tryz.ntmps37
          go_upto_region 1 with (fail)
          rw [← HW.out]
          go_wp2_with fail
          refine bodyPost_ret (v := .tuple #[aggOf y Ay cy Ky dy, .bool true]) (by simp [results, Tryz.results37, go_sem, aggOf, z0, z1, z2, z3, z4]) rfl ?_
          rw [HY.out]
          exact ⟨HB.out.put5, _, _, _, _, rfl, HB.out.item hBw HLY.out⟩
    · have hd : (x.kind == 4) = false := by simp [h4]
      have HN := Lib.hid (show R = none by rw [HR.out]; simp [itemV, h0, h4])
      go_enter Tryz.func37, Tryz.ntmps37
      go_upto_region 1 with (fail)
      rw [← HW.out]
      go_wp2_with fail
      refine bodyPost_ret (v := .tuple #[aggOf (leaf 0 0 ⟨#[]⟩) none 0 none 0, .bool false]) (by simp [results, Tryz.results37, go_sem, aggOf, leaf, V.kind, V.int, V.text, V.items, V.keys, z0, z1, z2, z3, z4]) rfl ?_
      rw [HN.out]
      exact ⟨HB.out.put5, rfl⟩
  · by_cases h5 : x.kind = 5
    · have hd : (x.kind == 5) = true := by simp [h5]
      have H0 := Lib.hid h0
      have HL5 := Lib.hid (HK2.out h5)
      clear h5
      obtain ⟨n, hn⟩ : ∃ n, n = x.keys.length := ⟨_, rfl⟩
      have HNN := Lib.hid hn
      rw [← hn] at b4 hklen
      clear hn
      go_enter Tryz.func37, Tryz.ntmps37
      go_upto_region 1 with (fail)
      rw [← HW.out]
      go_wp2_with fail
      go_loopw [6] (fun iv wr => ∃ j : Nat, iv = .int .i64 j ∧ j ≤ n ∧ Hid (JBox w P x A c K d i t wr ∧ ∀ t', t' < j → x.keys[t']? ≠ Option.some t)) (fun iv _ => n - (intOf iv).toNat)
      case atStart => exact ⟨0, rfl, Nat.zero_le _, Lib.hid ⟨HB.out, fun t' h => absurd h (Nat.not_lt_zero t')⟩⟩
      case round =>
        obtain ⟨j, rfl, hj, hI⟩ := hrel
        have HBI := Lib.hid hI.out.1
        have HNO := Lib.hid hI.out.2
        clear hI z0 z1 z2 z3 z4 b0 b1 b2 b3 b4 s0 s1 x0 x1 x2 x3 x4 zl
        obtain ⟨z0, z1, z2, z3, z4⟩ := five_of (show BlockIs wr (w.heap.size + 1 + 1) 27 #[.int .i64 0, .int .i64 0, .string ⟨#[]⟩, .slice none 0 0, .slice none 0 0] from HBI.out.br)
        obtain ⟨b0, b1, b2, b3, b4⟩ := five_of (show BlockIs wr w.heap.size 27 #[.int .i64 x.kind, .int .i64 x.int, .string x.text, .slice A x.items.length c, .slice K x.keys.length d] from HBI.out.bx)
        obtain ⟨s0, s1⟩ : (wr).cell? ⟨w.heap.size + 1, 0, none⟩ = Option.some (.int .i64 i) ∧ (wr).cell? ⟨w.heap.size + 1, 1, none⟩ = Option.some (.string t) := ⟨HBI.out.bs.cell 0, HBI.out.bs.cell 1⟩
        have x0 : (wr).frozen? ⟨w.heap.size + 1 + 1, 0, none⟩ = false := HBI.out.br.frozen 0
        have x1 : (wr).frozen? ⟨w.heap.size + 1 + 1, 1, none⟩ = false := HBI.out.br.frozen 1
        have x2 : (wr).frozen? ⟨w.heap.size + 1 + 1, 2, none⟩ = false := HBI.out.br.frozen 2
        have x3 : (wr).frozen? ⟨w.heap.size + 1 + 1, 3, none⟩ = false := HBI.out.br.frozen 3
        have x4 : (wr).frozen? ⟨w.heap.size + 1 + 1, 4, none⟩ = false := HBI.out.br.frozen 4
        have zl : w.heap.size + 1 + 1 < (wr).heap.size := HBI.out.br.lt
        rw [← HNN.out] at b4
        by_cases hlt : j < n
        · have hj2 : j < x.keys.length := by rw [← HNN.out]; exact hlt
          obtain ⟨kk, hkk⟩ : ∃ kk, x.keys[j]? = Option.some kk := ⟨_, List.getElem?_eq_getElem hj2⟩
          rcases (inn_keys HBI.out.lies).2.2 with hn | ⟨b, o, rfl, hbB, hf⟩
          · rw [hn] at hj2; simp at hj2
          · have hv := (hf.at_ hkk).1
            have HC := Lib.hid hkk
            clear hf hkk hj2
            cases hkeq : (kk.toList == t.toList)
            · have HKQ := Lib.hid (neT hkeq)
              go_wp2_with fail
              go_quiet (fail)
              go_wp2_with fail
              go_roundw
              case rel =>
                refine ⟨j + 1, by go_num, by omega, Lib.hid ⟨HBI.out.drewN _, fun t' ht => ?_⟩⟩
                by_cases e : t' = j
                · rw [e, HC.out]; exact fun e => HKQ.out (Option.some.inj e)
                · exact HNO.out t' (by omega)
              case measure => simp [intOf]; omega
            · have hkt := eqT hkeq
              obtain ⟨y, hy1, hy2⟩ := step_key (show ¬ 0 ≤ i by have := H0.out; omega) HRK.out HL5.out (show x.keys[j]? = Option.some t by rw [HC.out, hkt])
              have HY := Lib.hid (show R = Option.some y by rw [HR.out]; exact hy1)
              clear hkt
              rcases (inn_items HBI.out.lies).2.2 with hn | ⟨b', o', rfl, hbB', hf⟩
              · rw [hn] at hy2; simp at hy2
              · obtain ⟨Ay, cy, Ky, dy, ⟨e0, e1, e2, e3, e4⟩, hly⟩ := hf.at_ hy2
                have HLY := Lib.hid hly
                have hjl : j < x.items.length := (List.getElem?_eq_some_iff.1 hy2).1
                clear hy1 hy2 hf hly
                go_wp2_with fail
                go_quiet (fail)
                have HQ := Lib.hid (HBI.out.drewN nq)
                have HLY := Lib.hid (show LiesIn P (wr.drewN nq) y Ay cy Ky dy from LiesIn.keep (w := wr) (w' := wr.drewN nq) (fun _ _ _ => rfl) (fun _ h => h) _ HLY.out)
                go_wp2_with fail
                refine bodyPost_ret (v := .tuple #[aggOf y Ay cy Ky dy, .bool true]) (by simp [results, Tryz.results37, go_sem, aggOf, z0, z1, z2, z3, z4]) rfl ?_
                rw [HY.out]
                exact ⟨HQ.out.put5, _, _, _, _, rfl, HQ.out.item hBw HLY.out⟩
        · have HN := Lib.hid (show R = none by
            rw [HR.out]
            exact step_nokey (show ¬ 0 ≤ i by have := H0.out; omega) (fun t' ht => HNO.out t' (by have := HNN.out; omega)))
          go_wp2_with fail
          refine bodyPost_ret (v := .tuple #[aggOf (leaf 0 0 ⟨#[]⟩) none 0 none 0, .bool false]) (by simp [results, Tryz.results37, go_sem, aggOf, leaf, V.kind, V.int, V.text, V.items, V.keys, z0, z1, z2, z3, z4]) rfl ?_
          rw [HN.out]
          exact ⟨HBI.out.put5, rfl⟩
    · have hd : (x.kind == 5) = false := by simp [h5]
      have HN := Lib.hid (show R = none by
        rw [HR.out]
        have := HK1.out h5
        unfold itemV
        rw [if_neg h0, this]
        rfl)
      go_enter Tryz.func37, Tryz.ntmps37
      go_upto_region 1 with (fail)
      rw [← HW.out]
      go_wp2_with fail
      refine bodyPost_ret (v := .tuple #[aggOf (leaf 0 0 ⟨#[]⟩) none 0 none 0, .bool false]) (by simp [results, Tryz.results37, go_sem, aggOf, leaf, V.kind, V.int, V.text, V.items, V.keys, z0, z1, z2, z3, z4]) rfl ?_
      rw [HN.out]
      exact ⟨HB.out.put5, rfl⟩
open Go.RowKit
/-- The blocks that what was collected hangs on: elder ones, and the call's own, but the rows'. -/
def PQ (w : World) (P : Nat → Prop) (rI rK : Value) (W : World) (b : Nat) : Prop := P b ∨ (w.heap.size + 3 ≤ b ∧ b < W.heap.size ∧ some b ≠ rI.ownBlock ∧ some b ≠ rK.ownBlock)
/-- How far a value is copied. -/
structure WQ (w : World) (P : Nat → Prop) (vc : Array Value) (kd : Int) (accI : List V) (accK : List ByteArray) (rI rK : Value) (css : List (List Value)) (W : World) : Prop where
  old : Below w.heap.size w W
  bv : BlockIs W w.heap.size 27 vc
  br : BlockIs W (w.heap.size + 1) 27 zeroF
  bo : BlockIs W (w.heap.size + 2) 27 #[.int .i64 kd, .int .i64 0, .string ⟨#[]⟩, rI, rK]
  items : W.ownsRow (w.heap.size + 3) 27 5 rI accI.length css.flatten
  keys : W.ownsRow (w.heap.size + 3) 9 1 rK accK.length (accK.map Value.string)
  rows : RowsIn (PQ w P rI rK W) W accI css
  sizes : ∀ k ∈ accK, k.size ≤ maxLen
section
variable {w W W' w1 : World} {P : Nat → Prop} {vc : Array Value} {kd : Int} {accI : List V} {accK : List ByteArray} {rI rK v' : Value} {css : List (List Value)} {y : V} {A K : Option Addr} {c d : Nat} {u0 u1 u2 u3 u4 : Value}
theorem WQ.start (w : World) (P : Nat → Prop) (vc : Array Value) (kd : Int) : WQ w P vc kd [] [] (.slice none 0 0) (.slice none 0 0) [] (((w.alloc (.cells vc 27)).alloc (.cells zeroF 27)).alloc (.cells #[.int .i64 kd, .int .i64 0, .string ⟨#[]⟩, .slice none 0 0, .slice none 0 0] 27)) :=
  ⟨below_al (below_al (below_al (Below.refl _ w) _) _) _, ((BlockIs.new w _ _).alloc _).alloc _, (BlockIs.newAt _ _ _ (by simp)).alloc _, BlockIs.newAt _ _ _ (by simp), World.ownsRow_nil _ _ _ _, World.ownsRow_nil _ _ _ _, trivial, by simp⟩
theorem WQ.lt (h : WQ w P vc kd accI accK rI rK css W) : w.heap.size + 3 ≤ W.heap.size := by have := h.bo.lt; omega
theorem PQ.lt (h : WQ w P vc kd accI accK rI rK css W) (hB : ∀ b, P b → b < w.heap.size) {b : Nat} (hb : PQ w P rI rK W b) : b < W.heap.size := by
  have := h.lt
  rcases hb with h | h
  · have := hB b h; omega
  · exact h.2.1
theorem WQ.below (h : WQ w P vc kd accI accK rI rK css W) (hB : ∀ b, P b → b < w.heap.size) (hb : Below W.heap.size W W') : WQ w P vc kd accI accK rI rK css W' := by
  have hs := hb.size
  have hk : ∀ v : Value, v.ownBlock = none ∨ v.ownBlock ≠ (none : Option Nat) := fun v => by cases v.ownBlock <;> simp
  refine ⟨below_on h.old hb, h.bv.below hb h.bv.lt, h.br.below hb h.br.lt, h.bo.below hb h.bo.lt, h.items.kept (grown_none hb) (hk _), h.keys.kept (grown_none hb) (hk _), h.rows.keep (fun b o hx => bcell hb b o (PQ.lt h hB hx)) (fun b hx => hx.imp id fun hx => ⟨hx.1, by omega, hx.2.2⟩), h.sizes⟩
/-- An item more. -/
theorem WQ.item (h : WQ w P vc kd accI accK rI rK css W) (hB : ∀ b, P b → b < w.heap.size) (hy : LiesIn (PQ w P rI rK W) W y A c K d) (hlen : accI.length ≤ 10000) :
    ∃ v' W1, (Builtin.append_ #[24, 24] 24 #[rI, .slice (some ⟨W.heap.size, 0, none⟩) 1 1]).run Tryz.prog (W.alloc (.cells #[.int .i64 y.kind, .int .i64 y.int, .string y.text, .slice A y.items.length c, .slice K y.keys.length d] 27)) = .ok v' W1 ∧
      (∃ A c, v' = .slice A (accI.length + 1) c) ∧ (∀ o, W1.cell? ⟨w.heap.size + 2, o, none⟩ = W.cell? ⟨w.heap.size + 2, o, none⟩) ∧ W1.frozen? ⟨w.heap.size + 2, 3, none⟩ = false ∧ w.heap.size + 2 < W1.heap.size ∧ WQ w P vc kd (accI ++ [y]) accK v' rK (css ++ [fieldsL y A c K d]) (W1.setCell ⟨w.heap.size + 2, 3, none⟩ v') := by
  have hlt := h.lt
  have hb1a := below_al (Below.refl _ W) (.cells #[.int .i64 y.kind, .int .i64 y.int, .string y.text, .slice A y.items.length c, .slice K y.keys.length d] 27)
  have ha := h.below hB hb1a
  have hnew := BlockIs.new W 27 #[.int .i64 y.kind, .int .i64 y.int, .string y.text, .slice A y.items.length c, .slice K y.keys.length d]
  have hz : (W.alloc (.cells #[.int .i64 y.kind, .int .i64 y.int, .string y.text, .slice A y.items.length c, .slice K y.keys.length d] 27)).heap.size = W.heap.size + 1 := by simp
  obtain ⟨v', W1, hr, ho, hg, hw⟩ := appendW 24 _ (w.heap.size + 3) rI accI.length _ ha.items ⟨W.heap.size, 0, none⟩ 1 1 (fieldsL y A c K d) rfl (fun j u hj => by
    rw [Addr.add_lit, Nat.zero_add, hnew.cell j, ← hj]
    simp [fieldsL]) (fun u hu => by simp only [fieldsL, List.mem_cons, List.not_mem_nil, or_false] at hu; rcases hu with rfl | rfl | rfl | rfl | rfl <;> rfl) (by omega) (by omega) (by omega)
  have hge : ∀ g, g < w.heap.size + 3 → some g ≠ rI.ownBlock := fun g hg => own_ge ha.items hg
  have hs1 := hg.size
  have hB1 : Below w.heap.size w W1 := ha.old.trans (below_grow hg ha.old.size (fun r e => by have := (World.ownsRow.lt ha.items r e).1; omega))
  have hB2 : Below w.heap.size w (W1.setCell ⟨w.heap.size + 2, 3, none⟩ v') := hB1.setCell (by simp) _
  have hapart : v'.ownBlock = none ∨ v'.ownBlock ≠ rK.ownBlock := two_apart ho (ha.keys.kept hg (two_apart ha.keys ha.items (by decide))) (by decide)
  have hold : ∀ b, b < W.heap.size → b ≠ w.heap.size + 2 → some b ≠ rI.ownBlock → (W1.setCell ⟨w.heap.size + 2, 3, none⟩ v').heap[b]? = W.heap[b]? := fun b h1 h2 h3 => by
    rw [Below.heap_setCell _ _ _ _ h2, hg.block b (by omega) h3, Below.heap_alloc _ _ _ h1]
  have hP : ∀ b, PQ w P rI rK W b → PQ w P v' rK (W1.setCell ⟨w.heap.size + 2, 3, none⟩ v') b := fun b hb => hb.imp id fun hb => ⟨hb.1, by simp; have := hb.2.1; omega, row_where hw hb.2.2.1 (by have := hb.2.1; omega), hb.2.2.2⟩
  have hcell : ∀ b o, PQ w P rI rK W b → (W1.setCell ⟨w.heap.size + 2, 3, none⟩ v').cell? ⟨b, o, none⟩ = W.cell? ⟨b, o, none⟩ := fun b o hb => World.cell?_of_block (by
    rcases hb with hb | hb
    · have := hB b hb
      exact hold b (by omega) (by omega) (hge b (by omega))
    · exact hold b hb.2.1 (by have := hb.1; omega) hb.2.2.1)
  refine ⟨v', W1, hr, own_form ho, fun o => ?_, ?_, by omega, hB2, (ha.bv.grown hg (hge _ (by omega))).far (by simp) _, (ha.br.grown hg (hge _ (by omega))).far (by simp) _, ?_, ?_, ?_, ?_, h.sizes⟩
  · exact World.cell?_of_block (show W1.heap[w.heap.size + 2]? = W.heap[w.heap.size + 2]? by rw [hg.block _ (by omega) (hge _ (by omega)), Below.heap_alloc _ _ _ (by omega)])
  · exact (ha.bo.grown hg (hge _ (by omega))).frozen 3
  · have := (ha.bo.grown hg (hge _ (by omega))).set_ 3 v'
    simpa using this
  · have := own_set_far ho ⟨w.heap.size + 2, 3, none⟩ v' (own_ge ho (by simp))
    simpa [List.flatten_append] using this
  · exact own_set_far (ha.keys.kept hg (two_apart ha.keys ha.items (by decide))) _ _ (own_ge ha.keys (by simp))
  · exact RowsIn.append (ys := [y]) (dss := [fieldsL y A c K d]) ⟨⟨A, c, K, d, rfl, LiesIn.keep hcell hP y hy⟩, trivial⟩ (h.rows.keep hcell hP)
/-- A key more. -/
theorem WQ.key (h : WQ w P vc kd accI accK rI rK css W) (hB : ∀ b, P b → b < w.heap.size) {k : ByteArray} (hks : k.size ≤ maxLen) (hlen : accK.length ≤ 10000) :
    ∃ v' W1, (Builtin.append_ #[25, 25] 25 #[rK, .slice (some ⟨W.heap.size, 0, none⟩) 1 1]).run Tryz.prog (W.alloc (.cells #[.string k] 9)) = .ok v' W1 ∧
      (∃ A c, v' = .slice A (accK.length + 1) c) ∧ W1.frozen? ⟨w.heap.size + 2, 4, none⟩ = false ∧ w.heap.size + 2 < W1.heap.size ∧ (∀ o, W1.cell? ⟨w.heap.size + 2, o, none⟩ = W.cell? ⟨w.heap.size + 2, o, none⟩) ∧ WQ w P vc kd accI (accK ++ [k]) rI v' css (W1.setCell ⟨w.heap.size + 2, 4, none⟩ v') := by
  have hlt := h.lt
  have hb1a := below_al (Below.refl _ W) (.cells #[.string k] 9)
  have ha := h.below hB hb1a
  have hnew := BlockIs.new W 9 #[.string k]
  have hz : (W.alloc (.cells #[.string k] 9)).heap.size = W.heap.size + 1 := by simp
  obtain ⟨v', W1, hr, ho, hg, hw⟩ := appendKW 25 _ (w.heap.size + 3) rK accK.length _ ha.keys ⟨W.heap.size, 0, none⟩ 1 1 [.string k] rfl (fun j u hj => by
    rw [Addr.add_lit, Nat.zero_add, hnew.cell j, ← hj]
    simp) (fun u hu => by simp only [List.mem_cons, List.not_mem_nil, or_false] at hu; rw [hu]; rfl) (by omega) (by omega) (by omega)
  have hge : ∀ g, g < w.heap.size + 3 → some g ≠ rK.ownBlock := fun g hg => own_ge ha.keys hg
  have hs1 := hg.size
  have hB1 : Below w.heap.size w W1 := ha.old.trans (below_grow hg ha.old.size (fun r e => by have := (World.ownsRow.lt ha.keys r e).1; omega))
  have hB2 : Below w.heap.size w (W1.setCell ⟨w.heap.size + 2, 4, none⟩ v') := hB1.setCell (by simp) _
  have hold : ∀ b, b < W.heap.size → b ≠ w.heap.size + 2 → some b ≠ rK.ownBlock → (W1.setCell ⟨w.heap.size + 2, 4, none⟩ v').heap[b]? = W.heap[b]? := fun b h1 h2 h3 => by
    rw [Below.heap_setCell _ _ _ _ h2, hg.block b (by omega) h3, Below.heap_alloc _ _ _ h1]
  have hP : ∀ b, PQ w P rI rK W b → PQ w P rI v' (W1.setCell ⟨w.heap.size + 2, 4, none⟩ v') b := fun b hb => hb.imp id fun hb => ⟨hb.1, by simp; have := hb.2.1; omega, hb.2.2.1, row_where hw hb.2.2.2 (by have := hb.2.1; omega)⟩
  have hcell : ∀ b o, PQ w P rI rK W b → (W1.setCell ⟨w.heap.size + 2, 4, none⟩ v').cell? ⟨b, o, none⟩ = W.cell? ⟨b, o, none⟩ := fun b o hb => World.cell?_of_block (by
    rcases hb with hb | hb
    · have := hB b hb
      exact hold b (by omega) (by omega) (hge b (by omega))
    · exact hold b hb.2.1 (by have := hb.1; omega) hb.2.2.2)
  refine ⟨v', W1, hr, own_form ho, (ha.bo.grown hg (hge _ (by omega))).frozen 4, by omega, fun o => ?_, hB2, (ha.bv.grown hg (hge _ (by omega))).far (by simp) _, (ha.br.grown hg (hge _ (by omega))).far (by simp) _, ?_, ?_, ?_, h.rows.keep hcell hP, ?_⟩
  · exact World.cell?_of_block (show W1.heap[w.heap.size + 2]? = W.heap[w.heap.size + 2]? by rw [hg.block _ (by omega) (hge _ (by omega)), Below.heap_alloc _ _ _ (by omega)])
  · have := (ha.bo.grown hg (hge _ (by omega))).set_ 4 v'
    simpa using this
  · exact own_set_far (ha.items.kept hg (two_apart ha.items ha.keys (by decide))) _ _ (own_ge ha.items (by simp))
  · have := own_set_far ho ⟨w.heap.size + 2, 4, none⟩ v' (own_ge ho (by simp))
    simpa using this
  · intro q hq
    rcases List.mem_append.1 hq with hq | hq
    · exact h.sizes q hq
    · rw [List.mem_singleton.1 hq]; exact hks
/-- What was collected, answered. -/
theorem WQ.done (h : WQ w P vc kd accI accK rI rK css W) (hB : ∀ b, P b → b < w.heap.size) :
    ∃ A c K d, rI = .slice A accI.length c ∧ rK = .slice K accK.length d ∧ LiesIn (fun b => P b ∨ Fresh w (put5 W (w.heap.size + 1) 0 u0 u1 u2 u3 u4) b) (put5 W (w.heap.size + 1) 0 u0 u1 u2 u3 u4) (.mk kd 0 ⟨#[]⟩ accI accK) A c K d ∧ Below w.heap.size w (put5 W (w.heap.size + 1) 0 u0 u1 u2 u3 u4) := by
  have hlt := h.lt
  have hr : RowsIn (fun b => P b ∨ (w.heap.size + 3 ≤ b ∧ b < W.heap.size)) W accI css := h.rows.keep (fun _ _ _ => rfl) (fun b hb => hb.imp id fun hb => ⟨hb.1, hb.2.1⟩)
  obtain ⟨A, c, rfl, hc1, hc2, hA⟩ := rows_lie hr h.items (fun b hb => .inr (World.ownsRow.lt h.items b hb))
  have hcK := fun g hg => World.ownsRow.cells h.keys (g := g) hg
  have h8 := h.keys
  obtain ⟨K, q, rfl, hq1, hq2, hK⟩ : ∃ K q, rK = .slice K accK.length q ∧ accK.length ≤ q ∧ q ≤ maxLen ∧ (accK = [] ∨ ∃ b, K = some ⟨b, 0, none⟩ ∧ (w.heap.size + 3 ≤ b ∧ b < W.heap.size) ∧ StrsFrom W accK b 0) := by
    have hlt := fun b hb => World.ownsRow.lt h8 b hb
    obtain ⟨hl, ⟨rfl, h0⟩ | ⟨g', cap, cur, rfl, hB, hb, hn, hm, hs, ht⟩⟩ := h8
    · exact ⟨none, 0, by rw [h0], by omega, by simp [maxLen], .inl (List.length_eq_zero_iff.1 h0)⟩
    · refine ⟨_, _, rfl, hn, hm, .inr ⟨g', rfl, hlt g' rfl, keys_from h.sizes fun j v hj => ?_⟩⟩
      have := hcK g' rfl j v hj
      rw [Addr.add_lit] at this
      exact this
  have hL : LiesIn (fun b => P b ∨ (w.heap.size + 3 ≤ b ∧ b < W.heap.size)) W (V.mk kd 0 ⟨#[]⟩ accI accK) A c K q := by
    rw [LiesIn]
    exact ⟨by decide, hc1, hc2, ⟨hq1, hq2, hK.imp id fun ⟨b, hKe, hb, hfr⟩ => ⟨b, 0, hKe, .inr hb, hfr⟩⟩, hA⟩
  have hs := put5_size W (w.heap.size + 1) 0 u0 u1 u2 u3 u4
  refine ⟨A, c, K, q, rfl, rfl, LiesIn.keep (fun b o hb => World.cell?_of_block (put5_heap W (w.heap.size + 1) 0 u0 u1 u2 u3 u4 ?_)) (fun b hb => hb.imp id fun hb => ⟨by have := hb.1; omega, by rw [hs]; exact hb.2⟩) _ hL, ((((h.old.setCell (by simp) _).setCell (by simp) _).setCell (by simp) _).setCell (by simp) _).setCell (by simp) _⟩
  show b ≠ w.heap.size + 1
  rcases (show P b ∨ (w.heap.size + 3 ≤ b ∧ b < W.heap.size) from hb) with hb | hb
  · have := hB b hb; omega
  · have := hb.1; omega
end
theorem inn_at {P : Nat → Prop} {w : World} {x : V} {A K : Option Addr} {c d j : Nat} (h : LiesIn P w x A c K d) (hj : j < x.items.length) : ∃ b o, A = some ⟨b, o, none⟩ ∧ P b ∧ LiesFromIn P w x.items b o :=
  (inn_items h).2.2.resolve_left fun e => by rw [e] at hj; simp at hj
open Go.RowKit
theorem WQ.skip {w W : World} {P : Nat → Prop} {vc : Array Value} {kd : Int} {l : List V} {ks : List ByteArray} {r : List Stp} {n0 j : Nat} {yo y : V} {k : ByteArray} {rI rK : Value} {css : List (List Value)}
    (h : WQ w P vc kd (cutL (decide (r = [])) n0 yo (l.take j)) (keyCut kd (decide (r = [])) n0 k (ks.take j)) rI rK css W) (hr : r = []) (hj : j = n0) (hy : l[j]? = some y) (hk : kd = 5 → ks[j]? = some k) :
    WQ w P vc kd (cutL (decide (r = [])) n0 yo (l.take (j + 1))) (keyCut kd (decide (r = [])) n0 k (ks.take (j + 1))) rI rK css W := by
  subst hr hj
  have e1 : cutL (decide (([] : List Stp) = [])) j yo (l.take (j + 1)) = cutL (decide (([] : List Stp) = [])) j yo (l.take j) := cutL_skip hy
  have e2 : keyCut kd (decide (([] : List Stp) = [])) j k (ks.take (j + 1)) = keyCut kd (decide (([] : List Stp) = [])) j k (ks.take j) := by
    unfold keyCut
    by_cases h5 : kd = 5
    · rw [if_pos h5, if_pos h5]; exact cutL_skip (hk h5)
    · rw [if_neg h5, if_neg h5]
  rw [e1, e2]
  exact h
end Go.Proofs.YtchadlbhdcpojaaGreatDoor
